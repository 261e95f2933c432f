/- Whether two rows of conditions are the same, as the document tells it: rows of any length. -/
import Derived.Test.YtghmaphpmnjiiaaEq7
import Derived.Test.YtghmaphpmnjiiaaEa7
import Derived.Deep.RegionHeld3
namespace Go.Proofs.Ytghmaphpmnjiiaa
open Go Go.RowKit Go.Lib

theorem and_no8 {a b : Prop} [Decidable a] [Decidable b] (h : ¬ (a ∧ b)) : (decide a && decide b) = false := by
  by_cases ha : a <;> by_cases hb : b <;> simp_all
theorem and_yes8 {a b : Prop} [Decidable a] [Decidable b] (h : a ∧ b) : (decide a && decide b) = true := by simp [h.1, h.2]
theorem drewN_add8 (w : World) (q n : Nat) : (w.drewN q).drewN n = w.drewN (q + n) := by
  unfold World.drewN; simp [Nat.add_assoc]
set_option maxRecDepth 100000 in
set_option maxHeartbeats 2000000 in
theorem r7SameConds_any (a b : List Cnd) (va vb : Value) (G : Nat → Prop) (w : World) (ha : CdV w G va a) (hb : CdV w G vb b) (hn : a.length ≤ 140737488355328) :
    Calls Try.prog 56 #[va, vb] w fun e w' => e = .returned (.bool (decide (a = b))) ∧ ∃ q, w' = w.drewN q := by
  obtain ⟨aa, ca, rfl, h1⟩ := ha
  obtain ⟨ab, cb, rfl, h2⟩ := hb
  by_cases hl : a.length = b.length
  · have H1 := Lib.hid h1; have H2 := Lib.hid h2; have HN := Lib.hid hn; have HL := Lib.hid hl
    have hne : ∀ (x y : Cnd) (w : World), Sem.run Try.prog (binOp .neq 56 (.agg #[.string x.left.var, .string x.left.attr, .int .i64 x.left.vk, .int .i64 x.left.vn, .string x.left.vs, .int .i64 x.rel, .string x.right.var, .string x.right.attr, .int .i64 x.right.vk, .int .i64 x.right.vn, .string x.right.vs]) (.agg #[.string y.left.var, .string y.left.attr, .int .i64 y.left.vk, .int .i64 y.left.vn, .string y.left.vs, .int .i64 y.rel, .string y.right.var, .string y.right.attr, .int .i64 y.right.vk, .int .i64 y.right.vn, .string y.right.vs])) w = .ok (.bool (!cEq x y)) w := cNe.1
    have hgd : ∀ (op : BinOp) (o1 o2 : Operand) (x y : Cnd) (w : World), Sem.run Try.prog (eqGuard op 56 o1 o2 (.agg #[.string x.left.var, .string x.left.attr, .int .i64 x.left.vk, .int .i64 x.left.vn, .string x.left.vs, .int .i64 x.rel, .string x.right.var, .string x.right.attr, .int .i64 x.right.vk, .int .i64 x.right.vn, .string x.right.vs]) (.agg #[.string y.left.var, .string y.left.attr, .int .i64 y.left.vk, .int .i64 y.left.vn, .string y.left.vs, .int .i64 y.rel, .string y.right.var, .string y.right.attr, .int .i64 y.right.vk, .int .i64 y.right.vn, .string y.right.vs])) w = .ok () w := cNe.2
    have HNE := Lib.hid hne; have HGD := Lib.hid hgd
    rw [← hl]
    clear h1 h2 hn hl hne hgd
    go_enter Try.func56, Try.ntmps56
    go_wp2_with fail
    go_loopw [5] (fun iv wr => ∃ k : Nat, k ≤ a.length ∧ iv = .int .i64 k ∧ Hid (∀ j (h : j < a.length) (h2 : j < b.length), j < k → a[j] = b[j]) ∧ Hid (∃ q, wr = w.drewN q)) (fun iv _ => a.length - (intOf iv).toNat)
    case atStart => exact ⟨0, Nat.zero_le _, rfl, fun j _ _ hj => absurd hj (Nat.not_lt_zero _), Lib.hid ⟨0, rfl⟩⟩
    case round =>
      obtain ⟨k, hk, rfl, HK, HQ⟩ := hrel
      by_cases hlt : k < a.length
      · have hlt2 : k < b.length := by have := HL.out; omega
        obtain ⟨b1, o1, rfl, _, hc1⟩ := H1.out (fun h => by rw [h] at hlt; exact absurd hlt (Nat.not_lt_zero _))
        obtain ⟨b2, o2, rfl, _, hc2⟩ := H2.out (fun h => by rw [h] at hlt2; exact absurd hlt2 (Nat.not_lt_zero _))
        obtain ⟨x0, x1, x2, x3, x4, x5, x6, x7, x8, x9, x10⟩ := hc1.cells hlt
        obtain ⟨y0, y1, y2, y3, y4, y5, y6, y7, y8, y9, y10⟩ := hc2.cells hlt2
        have HA := Lib.hid (show ∀ (c1 c2 : Cnd), c1 = a[k] → c2 = b[k] → (c1 = c2 → ∀ j (h : j < a.length) (h2 : j < b.length), j < k + 1 → a[j] = b[j]) ∧ (c1 ≠ c2 → a ≠ b) from by
          rintro c1 c2 rfl rfl
          refine ⟨fun e j h h2 hj => ?_, fun hne e => ?_⟩
          · rcases Nat.lt_succ_iff_lt_or_eq.1 hj with hj | rfl
            · exact HK.out j h h2 hj
            · exact e
          · subst e; exact hne rfl)
        obtain ⟨c1, hc1e⟩ : ∃ c1, c1 = a[k] := ⟨_, rfl⟩
        obtain ⟨c2, hc2e⟩ : ∃ c2, c2 = b[k] := ⟨_, rfl⟩
        rw [← hc1e] at x0 x1 x2 x3 x4 x5 x6 x7 x8 x9 x10
        rw [← hc2e] at y0 y1 y2 y3 y4 y5 y6 y7 y8 y9 y10
        have HAA := Lib.hid (HA.out c1 c2 hc1e hc2e)
        have e1 := HNE.out c1 c2; have e2 := fun op p q => HGD.out op p q c1 c2
        have hkz : (0 : Int) ≤ (k : Int) := by omega
        have hlti : (k : Int) < (a.length : Int) := by omega
        have hls := wr7 hlt (by have := HN.out; omega)
        obtain ⟨q, rfl⟩ := HQ.out
        have HLT := Lib.hid hlt
        clear HA hc1e hc2e hc1 hc2 hlt2 hk hlt H1 H2 HQ
        have x0 : (w.drewN q).cell? _ = _ := x0; have x1 : (w.drewN q).cell? _ = _ := x1; have x2 : (w.drewN q).cell? _ = _ := x2; have x3 : (w.drewN q).cell? _ = _ := x3; have x4 : (w.drewN q).cell? _ = _ := x4; have x5 : (w.drewN q).cell? _ = _ := x5; have x6 : (w.drewN q).cell? _ = _ := x6; have x7 : (w.drewN q).cell? _ = _ := x7; have x8 : (w.drewN q).cell? _ = _ := x8; have x9 : (w.drewN q).cell? _ = _ := x9; have x10 : (w.drewN q).cell? _ = _ := x10
        have y0 : (w.drewN q).cell? _ = _ := y0; have y1 : (w.drewN q).cell? _ = _ := y1; have y2 : (w.drewN q).cell? _ = _ := y2; have y3 : (w.drewN q).cell? _ = _ := y3; have y4 : (w.drewN q).cell? _ = _ := y4; have y5 : (w.drewN q).cell? _ = _ := y5; have y6 : (w.drewN q).cell? _ = _ := y6; have y7 : (w.drewN q).cell? _ = _ := y7; have y8 : (w.drewN q).cell? _ = _ := y8; have y9 : (w.drewN q).cell? _ = _ := y9; have y10 : (w.drewN q).cell? _ = _ := y10
        have HDR := Lib.hid (fun n : Nat => (⟨q + n, drewN_add8 w q n⟩ : ∃ m, (w.drewN q).drewN n = w.drewN m))
        generalize hW : w.drewN q = W at *
        cases hq : cEq c1 c2 with
        | true =>
          have HE := Lib.hid (HAA.out.1 (cEq_iff.1 hq))
          rw [hq] at e1
          clear hq HAA hW
          go_wp2_with fail
          try go_quiet (fail)
          go_wp2
          go_roundw
          all_goals first
            | exact ⟨k + 1, HLT.out, by go_num, HE, Lib.hid (HDR.out _)⟩
            | exact ⟨k + 1, HLT.out, by go_num, HE, Lib.hid (HDR.out 0)⟩
            | exact meas7 HLT.out
            | (rw [hls]; exact meas7 HLT.out)
        | false =>
          have HE := Lib.hid (HAA.out.2 (fun h => by rw [cEq_iff.2 h] at hq; cases hq))
          rw [hq] at e1
          clear hq HAA hW
          go_wp2_with fail
          try go_quiet (fail)
          go_wp2
          go_ret
          exact ⟨show Ending.returned (Value.bool false) = _ from by rw [decide_eq_false HE.out], by first | exact HDR.out _ | exact HDR.out 0⟩
      · have HE := Lib.hid (show a = b from List.ext_getElem HL.out (fun j h h2 => HK.out j h h2 (by omega)))
        obtain rfl : k = a.length := by omega
        have hnl : ¬ ((a.length : Int) < (a.length : Int)) := by omega
        clear hlt hk
        go_wp2
        go_ret
        exact ⟨show Ending.returned (Value.bool true) = _ from by rw [decide_eq_true HE.out], HQ.out⟩
  · rw [decide_eq_false (fun h => hl (by rw [h]))]
    have h3 : ¬ (a.length : Int) = (b.length : Int) := by omega
    have h4 : ((a.length : Int) == (b.length : Int)) = false := beq_eq_false_iff_ne.2 h3
    clear h1 h2 hl
    go_enter Try.func56, Try.ntmps56
    go_wp2
    go_ret
    exact ⟨rfl, 0, rfl⟩
end Go.Proofs.Ytghmaphpmnjiiaa
