/- Contracts: whether two lists of attributes are the same: the program's call and the document's. -/
import Derived.Test.YtcnecokamckfaaaGreatDoorAc
import Derived.Test.YtcnecokamckfaaaGreatDoorShelf3
namespace Go.Proofs.YtcnecokamckfaaaGreatDoor
open Go Go.RowKit Go.Lib

def sameA (xs ys : List At) : Bool := decide (xs = ys)
theorem allEq_same (xs ys : List At) : Lib.allEq aEq xs ys = sameA xs ys := by
  unfold sameA
  by_cases hl : xs.length = ys.length
  · by_cases h : xs = ys
    · subst h
      rw [decide_eq_true rfl]
      exact Lib.allEq_all aEq xs xs rfl (fun j _ => aEq_iff.2 rfl)
    · rw [decide_eq_false h]
      obtain ⟨j, hj, hne⟩ : ∃ j, j < xs.length ∧ xs[j]! ≠ ys[j]! := by
        refine Classical.byContradiction fun hc => h ?_
        refine List.ext_getElem hl fun i h1 h2 => ?_
        rw [← getElem!_pos xs i h1, ← getElem!_pos ys i h2]
        exact Classical.byContradiction fun hn => hc ⟨i, h1, hn⟩
      exact Lib.allEq_elem aEq xs ys j hj (by omega) (by rw [Bool.eq_false_iff]; exact fun h2 => hne (aEq_iff.1 h2))
  · rw [Lib.allEq_len aEq xs ys hl, decide_eq_false (fun h => hl (by rw [h]))]
theorem sameA_len {xs ys : List At} (h : xs.length ≠ ys.length) : sameA xs ys = false := decide_eq_false fun e => h (by rw [e])
theorem sameA_nil {xs ys : List At} (h : xs.length = 0) (h2 : ys.length = 0) : sameA xs ys = true := by
  obtain rfl := List.length_eq_zero_iff.1 h
  obtain rfl := List.length_eq_zero_iff.1 h2
  rfl

set_option maxRecDepth 100000 in
set_option maxHeartbeats 1600000 in
theorem r3SameAttrs_any (B B2 : Nat) (ao : Option Addr) (n cap : Nat) (xs : List At) (ao2 : Option Addr) (n2 cap2 : Nat) (ys : List At) (w : World) (h1 : Av w B (.slice ao n cap) xs) (h2 : Av w B2 (.slice ao2 n2 cap2) ys) :
    Calls Tryz.prog 76 #[.slice ao n cap, .slice ao2 n2 cap2] w fun e w' => e = .returned (.bool (sameA xs ys)) ∧ Below w.heap.size w w' := by
  obtain ⟨hn, hn63⟩ := h1.num
  obtain ⟨hm, hm63⟩ := h2.num
  by_cases hnm : n = n2
  · subst hnm
    have H1 := Lib.hid h1; have H2 := Lib.hid h2; have HN := Lib.hid hn; have HM := Lib.hid hm
    have hne : ∀ (x y : At) (w : World), Sem.run Tryz.prog (binOp .neq 58 (.agg #[.string x.name, .int .i64 x.k, .int .i64 x.n, .string x.s]) (.agg #[.string y.name, .int .i64 y.k, .int .i64 y.n, .string y.s])) w = .ok (.bool (!aEq x y)) w := aNe.1
    have hgd : ∀ (op : BinOp) (a b : Operand) (x y : At) (w : World), Sem.run Tryz.prog (eqGuard op 58 a b (.agg #[.string x.name, .int .i64 x.k, .int .i64 x.n, .string x.s]) (.agg #[.string y.name, .int .i64 y.k, .int .i64 y.n, .string y.s])) w = .ok () w := aNe.2
    have HNE := Lib.hid hne; have HGD := Lib.hid hgd
    clear h1 h2 hn hm hne hgd
    go_enter Tryz.func76, Tryz.ntmps76
    go_wp2_with fail
    go_loopw [5] (fun i wr => ∃ k : Nat, k ≤ n ∧ i = .int .i64 k ∧ Hid (∀ j, j < k → xs[j]! = ys[j]!) ∧ Below w.heap.size w wr ∧ Hid (∀ b o, wr.cell? ⟨b, o, none⟩ = w.cell? ⟨b, o, none⟩)) (fun i _ => n - (intOf i).toNat)
    case atStart => exact ⟨0, Nat.zero_le _, rfl, fun j hj => absurd hj (Nat.not_lt_zero _), Below.refl _ _, fun _ _ => rfl⟩
    case round =>
      obtain ⟨k, hk, rfl, HK, hb, HC⟩ := hrel
      have HB := Lib.hid hb; clear hb
      by_cases hlt : k < n
      · obtain ⟨b, o, rfl, _, _, hnc, hcap, hc⟩ := H1.out.at (by omega)
        obtain ⟨b2, o2, rfl, _, _, hnc2, hcap2, hc2⟩ := H2.out.at (by omega)
        have hkz : (0 : Int) ≤ (k : Int) := by omega
        obtain ⟨x, hx⟩ : ∃ x, x = xs[k]! := ⟨_, rfl⟩
        obtain ⟨y, hy⟩ : ∃ y, y = ys[k]! := ⟨_, rfl⟩
        obtain ⟨a0, a1, a2, a3⟩ := four_cells (w := wr) (b := b) (a := o + k * 4) (x := x) (fun i u hu => (HC.out _ _).trans (hc k (by have := HN.out; omega) i u (by rw [← hx]; exact hu)))
        obtain ⟨d0, d1, d2, d3⟩ := four_cells (w := wr) (b := b2) (a := o2 + k * 4) (x := y) (fun i u hu => (HC.out _ _).trans (hc2 k (by have := HM.out; omega) i u (by rw [← hy]; exact hu)))
        have e1 := HNE.out x y; have e2 := fun op a b => HGD.out op a b x y
        have HX := Lib.hid hx; have HY := Lib.hid hy
        clear hc hc2 hx hy
        cases hq : aEq x y with
        | true =>
          have hxy : x = y := aEq_iff.1 hq
          have HXY := Lib.hid hxy
          clear hxy
          rw [hq] at e1
          clear hq
          go_wp2_with fail
          try go_quiet (fail)
          go_wp2
          go_roundw
          case rel => exact ⟨k + 1, by omega, by go_num, (fun j hj => (Nat.lt_succ_iff_lt_or_eq.1 hj).elim (fun h => HK.out j h) (fun h => by rw [h, ← HX.out, ← HY.out]; exact HXY.out)), (by first | exact Below.drewN' HB.out _ | exact HB.out), (fun b o => HC.out b o)⟩
          case measure => simp [intOf]; omega
        | false =>
          have HS : Hid (sameA xs ys = false) := decide_eq_false fun e => by
            rw [HX.out, HY.out, e, aEq_iff.2 rfl] at hq; cases hq
          rw [hq] at e1
          clear hq
          go_wp2_with fail
          try go_quiet (fail)
          go_wp2
          go_ret
          exact ⟨by rw [HS.out]; rfl, by first | exact Below.drewN' HB.out _ | exact HB.out⟩
      · have HS : Hid (sameA xs ys = true) := decide_eq_true (List.ext_getElem (by have := HN.out; have := HM.out; omega) fun i h1 h2 => by
          rw [← getElem!_pos xs i h1, ← getElem!_pos ys i h2]; exact HK.out i (by have := HN.out; omega))
        go_wp2
        go_ret
        exact ⟨by rw [HS.out]; rfl, HB.out⟩
  · rw [sameA_len (by omega)]
    have hb : ((n : Int) == (n2 : Int)) = false := by simp; omega
    clear h1 h2 hn hm hnm
    go_enter Tryz.func76, Tryz.ntmps76
    go_wp2
    go_ret
    exact ⟨rfl, Below.refl _ _⟩
end Go.Proofs.YtcnecokamckfaaaGreatDoor
