/- Contracts: which operands and conditions may be: the program's calls. -/
import Derived.Test.YtnfjodkpapmfkaaSs7
import Derived.Test.YtnfjodkpapmfkaaVn
import Derived.BigQuiet
import Derived.Deep.QuietTactic
namespace Go.Proofs.Ytnfjodkpapmfkaa
open Go Go.RowKit

theorem ne_em1 {s : ByteArray} (h : s ≠ em) : s.toList ≠ [] := fun hh => h (by apply ByteArray.ext; rw [Lib.toList_data] at hh; simpa [em] using hh)
theorem ne_em2 {s : ByteArray} (h : s ≠ em) : (s.toList == []) = false := by simpa using ne_em1 h
theorem ne_em3 {s : ByteArray} (h : s ≠ em) : s.toList.isEmpty = false := by simpa using ne_em1 h
theorem below_dn7 {B : Nat} {a w : World} (h : Below B a w) (n : Nat) : Below B a (w.drewN n) := ⟨h.os, h.tape, h.output, h.size, h.block⟩

theorem below_next {B : Nat} {a b c : World} (h : Below B a b) (hB : B ≤ a.heap.size) (k : Below b.heap.size b c) : Below B a c := h.trans (k.mono (Nat.le_trans hB h.size))

theorem cConst_any (v a : ByteArray) (k n : Int) (s : ByteArray) (w : World) : Calls Try.prog 125 #[.agg #[.string v, .string a, .int .i64 k, .int .i64 n, .string s]] w fun e w' => e = .returned (.bool (decide (a = em))) ∧ Below w.heap.size w w' := by
  by_cases h : a = em
  · subst h
    unfold em
    go_enter Try.func125, Try.ntmps125
    go_wp2
    go_ret
    exact ⟨by simp, (Below.refl _ _).alloc (Nat.le_refl _) _⟩
  · have h1 := ne_em2 h; have h2 := ne_em3 h
    rw [decide_eq_false h]
    go_enter Try.func125, Try.ntmps125
    go_wp2
    go_ret
    exact ⟨rfl, (Below.refl _ _).alloc (Nat.le_refl _) _⟩

theorem cell_of_five {w : World} {q : Nat} {c0 c1 c2 c3 c4 : Value} {t : Nat} (h : w.heap[q]? = some (.cells #[c0, c1, c2, c3, c4] t (0, 0))) :
    w.cell? ⟨q, 0, none⟩ = some c0 ∧ w.cell? ⟨q, 1, none⟩ = some c1 ∧ w.cell? ⟨q, 2, none⟩ = some c2 ∧ w.cell? ⟨q, 3, none⟩ = some c3 ∧ w.cell? ⟨q, 4, none⟩ = some c4 := by
  simp [World.cell?, h]
def wdO (o : Opd) : Prop := o.var.size ≤ maxLen ∧ o.attr.size ≤ maxLen ∧ o.vs.size ≤ maxLen
def wdC (c : Cnd) : Prop := wdO c.left ∧ wdO c.right
theorem vEq_zero (k n : Int) (s : ByteArray) : vEq k n s 0 0 ⟨#[]⟩ = (decide (k = 0) && decide (n = 0) && decide (s = em)) := by
  cases h : vEq k n s 0 0 ⟨#[]⟩ with
  | true => obtain ⟨rfl, rfl, rfl⟩ := vEq_iff.1 h; rfl
  | false =>
    cases h2 : (decide (k = 0) && decide (n = 0) && decide (s = em)) with
    | false => rfl
    | true =>
      simp only [Bool.and_eq_true, decide_eq_true_eq] at h2
      obtain ⟨⟨rfl, rfl⟩, rfl⟩ := h2
      exact absurd (vEq_iff.2 ⟨rfl, rfl, rfl⟩) (by rw [show em = (⟨#[]⟩ : ByteArray) from rfl] at *; rw [h]; simp)

set_option maxRecDepth 100000 in
set_option maxHeartbeats 2000000 in
theorem cSide_any (v a : ByteArray) (k n : Int) (s : ByteArray) (G : Nat → Prop) (ao : Option Addr) (cap : Nat) (l : List Nm) (w : World) (hwd : wdO ⟨v, a, k, n, s⟩) (hG : ∀ b, G b → b < w.heap.size) (hl : l.length ≤ 9223372036854775807) (hv : SsV w G (.slice ao l.length cap) l) :
    Calls Try.prog 124 #[.agg #[.string v, .string a, .int .i64 k, .int .i64 n, .string s], .slice ao l.length cap] w fun e w' => e = .returned (.bool (okO ⟨v, a, k, n, s⟩ l)) ∧ Below w.heap.size w w' := by
  obtain ⟨W, hW⟩ : ∃ W, W = w.alloc (.cells #[.string v, .string a, .int .i64 k, .int .i64 n, .string s] 35) := ⟨_, rfl⟩
  have hq := heap_alloc_new w (.cells #[.string v, .string a, .int .i64 k, .int .i64 n, .string s] 35)
  have hb0 : Below w.heap.size w W := by rw [hW]; exact (Below.refl _ _).alloc (Nat.le_refl _) _
  rw [← hW] at hq
  obtain ⟨P, hP⟩ : ∃ P, P = w.heap.size := ⟨_, rfl⟩
  rw [← hP] at hq hb0 ⊢
  have C0 := fun u : World => cConst_any v a k n s u
  have HQ := Lib.hid hq; have HB := Lib.hid hb0; have HPW := Lib.hid (Nat.le_of_eq hP)
  obtain ⟨_, h2, h3⟩ := hwd
  simp only at h2 h3
  have CV := fun u : World => vCheck_any k n s u h3
  have CN := fun u : World => vName_any a u h2
  have CC := fun (u : World) (hu : Below P w u) => ContainsStr_any u G ao cap l v (hv.keep (fun b hb => hu.block b (by rw [hP]; exact hG b hb))) hl
  have HCV := Lib.hid CV; have HCN := Lib.hid CN; have HCC := Lib.hid CC
  have HW := Lib.hid hW; have HP := Lib.hid hP
  clear hq hb0 h2 h3 hl hv hG CV CN CC hW hP
  unfold okO
  simp only
  by_cases ha : a = em
  · subst ha
    simp only [decide_true] at C0
    simp only [if_true]
    by_cases hve : v = em
    · subst hve
      simp only [decide_true, Bool.true_and]
      have HC0 := Lib.hid C0; clear C0
      cases hck : ckB k n (nb s) with
      | true =>
        have e1 : ckI k n s.data.toList = 0 := ckI_ok hck
        simp only [e1] at HCV
        unfold em at *
        go_enter Try.func124, Try.ntmps124
        go_wp2_with fail
        rw [← HW.out, ← HP.out]
        obtain ⟨c0, c1, c2, c3, c4⟩ := cell_of_five HQ.out
        go_wp2_with (go_at_call 125; (with_reducible refine (HC0.out _).mono ?_); rintro e u ⟨rfl, hb⟩; have HQ1 := Lib.hid ((hb.block P (Array.getElem?_eq_some_iff.1 HQ.out).1).trans HQ.out); have HB1 := Lib.hid (below_next HB.out HPW.out hb); clear hb c0 c1 c2 c3 c4; obtain ⟨c0, c1, c2, c3, c4⟩ := cell_of_five HQ1.out)
        go_wp2_with (go_at_call 141; (with_reducible refine (HCV.out _).mono ?_); rintro e u2 ⟨rfl, hb⟩; have HB2 := Lib.hid (below_next HB1.out HPW.out hb); clear hb)
        go_ret
        exact ⟨rfl, HB2.out⟩
      | false =>
        have e1 : ckI k n s.data.toList = 30 := ckI_no hck
        simp only [e1] at HCV
        unfold em at *
        go_enter Try.func124, Try.ntmps124
        go_wp2_with fail
        rw [← HW.out, ← HP.out]
        obtain ⟨c0, c1, c2, c3, c4⟩ := cell_of_five HQ.out
        go_wp2_with (go_at_call 125; (with_reducible refine (HC0.out _).mono ?_); rintro e u ⟨rfl, hb⟩; have HQ1 := Lib.hid ((hb.block P (Array.getElem?_eq_some_iff.1 HQ.out).1).trans HQ.out); have HB1 := Lib.hid (below_next HB.out HPW.out hb); clear hb c0 c1 c2 c3 c4; obtain ⟨c0, c1, c2, c3, c4⟩ := cell_of_five HQ1.out)
        go_wp2_with (go_at_call 141; (with_reducible refine (HCV.out _).mono ?_); rintro e u2 ⟨rfl, hb⟩; have HB2 := Lib.hid (below_next HB1.out HPW.out hb); clear hb)
        go_ret
        exact ⟨rfl, HB2.out⟩
    · have n1 := ne_em2 hve; have n2 := ne_em3 hve
      rw [decide_eq_false hve]
      simp only [Bool.false_and]
      have HC0 := Lib.hid C0; clear C0 HCV
      unfold em at *
      go_enter Try.func124, Try.ntmps124
      go_wp2_with fail
      rw [← HW.out, ← HP.out]
      obtain ⟨c0, c1, c2, c3, c4⟩ := cell_of_five HQ.out
      go_wp2_with (go_at_call 125; (with_reducible refine (HC0.out _).mono ?_); rintro e u ⟨rfl, hb⟩; have HQ1 := Lib.hid ((hb.block P (Array.getElem?_eq_some_iff.1 HQ.out).1).trans HQ.out); have HB1 := Lib.hid (below_next HB.out HPW.out hb); clear hb c0 c1 c2 c3 c4; obtain ⟨c0, c1, c2, c3, c4⟩ := cell_of_five HQ1.out)
      go_wp2
      go_ret
      exact ⟨rfl, HB1.out⟩
  · simp only [decide_eq_false ha] at C0
    rw [if_neg ha]
    have n1 := ne_em2 ha; have n2 := ne_em3 ha
    have HC0 := Lib.hid C0; clear C0
    have hne := fun w => vNe_run k n s 0 0 ⟨#[]⟩ w
    have hgd := fun (op : BinOp) (x y : Operand) (w : World) => vGuard op x y k n s 0 0 ⟨#[]⟩ w
    rw [vEq_zero] at hne
    cases hz : (decide (k = 0) && decide (n = 0) && decide (s = em)) with
    | false =>
      simp only [hz, Bool.not_false] at hne
      simp only [Bool.false_and]
      go_enter Try.func124, Try.ntmps124
      go_wp2_with fail
      rw [← HW.out, ← HP.out]
      obtain ⟨c0, c1, c2, c3, c4⟩ := cell_of_five HQ.out
      go_wp2_with (go_at_call 125; (with_reducible refine (HC0.out _).mono ?_); rintro e u ⟨rfl, hb⟩; have HQ1 := Lib.hid ((hb.block P (Array.getElem?_eq_some_iff.1 HQ.out).1).trans HQ.out); have HB1 := Lib.hid (below_next HB.out HPW.out hb); clear hb c0 c1 c2 c3 c4; obtain ⟨c0, c1, c2, c3, c4⟩ := cell_of_five HQ1.out)
      go_wp2
      go_ret
      exact ⟨rfl, HB1.out⟩
    | true =>
      simp only [hz, Bool.not_true] at hne
      simp only [Bool.true_and]
      cases hnm : nameB (nb a) with
      | false =>
        have e1 : nameB a.data.toList = false := hnm
        simp only [e1] at HCN
        simp only [Bool.false_and]
        go_enter Try.func124, Try.ntmps124
        go_wp2_with fail
        rw [← HW.out, ← HP.out]
        obtain ⟨c0, c1, c2, c3, c4⟩ := cell_of_five HQ.out
        go_wp2_with (go_at_call 125; (with_reducible refine (HC0.out _).mono ?_); rintro e u ⟨rfl, hb⟩; have HQ1 := Lib.hid ((hb.block P (Array.getElem?_eq_some_iff.1 HQ.out).1).trans HQ.out); have HB1 := Lib.hid (below_next HB.out HPW.out hb); clear hb c0 c1 c2 c3 c4; obtain ⟨c0, c1, c2, c3, c4⟩ := cell_of_five HQ1.out)
        go_wp2_with (go_at_call 72; (with_reducible refine (HCN.out _).mono ?_); rintro e u2 ⟨rfl, rfl⟩)
        go_ret
        exact ⟨rfl, HB1.out⟩
      | true =>
        have e1 : nameB a.data.toList = true := hnm
        simp only [e1] at HCN
        simp only [Bool.true_and]
        cases l with
        | nil =>
          simp only [List.length_nil, if_true]
          by_cases hve : v = em
          · subst hve
            unfold em at *
            go_enter Try.func124, Try.ntmps124
            go_wp2_with fail
            rw [← HW.out, ← HP.out]
            obtain ⟨c0, c1, c2, c3, c4⟩ := cell_of_five HQ.out
            go_wp2_with (go_at_call 125; (with_reducible refine (HC0.out _).mono ?_); rintro e u ⟨rfl, hb⟩; have HQ1 := Lib.hid ((hb.block P (Array.getElem?_eq_some_iff.1 HQ.out).1).trans HQ.out); have HB1 := Lib.hid (below_next HB.out HPW.out hb); clear hb c0 c1 c2 c3 c4; obtain ⟨c0, c1, c2, c3, c4⟩ := cell_of_five HQ1.out)
            go_wp2_with (go_at_call 72; (with_reducible refine (HCN.out _).mono ?_); rintro e u2 ⟨rfl, rfl⟩)
            go_ret
            exact ⟨rfl, HB1.out⟩
          · have m1 := ne_em2 hve; have m2 := ne_em3 hve
            rw [decide_eq_false hve]
            go_enter Try.func124, Try.ntmps124
            go_wp2_with fail
            rw [← HW.out, ← HP.out]
            obtain ⟨c0, c1, c2, c3, c4⟩ := cell_of_five HQ.out
            go_wp2_with (go_at_call 125; (with_reducible refine (HC0.out _).mono ?_); rintro e u ⟨rfl, hb⟩; have HQ1 := Lib.hid ((hb.block P (Array.getElem?_eq_some_iff.1 HQ.out).1).trans HQ.out); have HB1 := Lib.hid (below_next HB.out HPW.out hb); clear hb c0 c1 c2 c3 c4; obtain ⟨c0, c1, c2, c3, c4⟩ := cell_of_five HQ1.out)
            go_wp2_with (go_at_call 72; (with_reducible refine (HCN.out _).mono ?_); rintro e u2 ⟨rfl, rfl⟩)
            go_ret
            exact ⟨rfl, HB1.out⟩
        | cons y r =>
          rw [if_neg (List.cons_ne_nil y r)]
          have hpos : 0 < (y :: r).length := by simp
          generalize (y :: r) = l at hpos HCC ⊢
          have l1 : ((l.length : Int) == 0) = false := beq_eq_false_iff_ne.2 (by omega)
          have l2 : ¬ ((l.length : Int) = 0) := by omega
          have l3 : decide (l.length = 0) = false := decide_eq_false (by omega)
          go_enter Try.func124, Try.ntmps124
          go_wp2_with fail
          rw [← HW.out, ← HP.out]
          obtain ⟨c0, c1, c2, c3, c4⟩ := cell_of_five HQ.out
          go_wp2_with (go_at_call 125; (with_reducible refine (HC0.out _).mono ?_); rintro e u ⟨rfl, hb⟩; have HQ1 := Lib.hid ((hb.block P (Array.getElem?_eq_some_iff.1 HQ.out).1).trans HQ.out); have HB1 := Lib.hid (below_next HB.out HPW.out hb); clear hb c0 c1 c2 c3 c4; obtain ⟨c0, c1, c2, c3, c4⟩ := cell_of_five HQ1.out)
          go_wp2_with (first
            | (go_at_call 72; (with_reducible refine (HCN.out _).mono ?_); rintro e u2 ⟨rfl, rfl⟩)
            | (go_at_call 47; (with_reducible refine (HCC.out _ HB1.out).mono ?_); rintro e u3 ⟨rfl, rfl⟩))
          go_ret
          exact ⟨rfl, HB1.out⟩
theorem cell_of_eleven {w : World} {q : Nat} {c0 c1 c2 c3 c4 c5 c6 c7 c8 c9 c10 : Value} {t : Nat} (h : w.heap[q]? = some (.cells #[c0, c1, c2, c3, c4, c5, c6, c7, c8, c9, c10] t (0, 0))) :
    w.cell? ⟨q, 0, none⟩ = some c0 ∧ w.cell? ⟨q, 1, none⟩ = some c1 ∧ w.cell? ⟨q, 2, none⟩ = some c2 ∧ w.cell? ⟨q, 3, none⟩ = some c3 ∧ w.cell? ⟨q, 4, none⟩ = some c4 ∧ w.cell? ⟨q, 5, none⟩ = some c5 ∧ w.cell? ⟨q, 6, none⟩ = some c6 ∧ w.cell? ⟨q, 7, none⟩ = some c7 ∧ w.cell? ⟨q, 8, none⟩ = some c8 ∧ w.cell? ⟨q, 9, none⟩ = some c9 ∧ w.cell? ⟨q, 10, none⟩ = some c10 := by
  simp [World.cell?, h]
set_option maxRecDepth 100000 in
set_option maxHeartbeats 2000000 in
theorem cCond_any (c : Cnd) (G : Nat → Prop) (ao : Option Addr) (cap : Nat) (l : List Nm) (w : World) (hwd : wdC c) (hG : ∀ b, G b → b < w.heap.size) (hl : l.length ≤ 9223372036854775807) (hv : SsV w G (.slice ao l.length cap) l) :
    Calls Try.prog 109 #[cdV c, .slice ao l.length cap] w fun e w' => e = .returned (.int .i64 (condE c l)) ∧ Below w.heap.size w w' := by
  obtain ⟨⟨lv, la, lk, ln, ls⟩, rel, ⟨rv, ra, rk, rn, rs⟩⟩ := c
  obtain ⟨W, hW⟩ : ∃ W, W = w.alloc (.cells #[.string lv, .string la, .int .i64 lk, .int .i64 ln, .string ls, .int .i64 rel, .string rv, .string ra, .int .i64 rk, .int .i64 rn, .string rs] 37) := ⟨_, rfl⟩
  have hq := heap_alloc_new w (.cells #[.string lv, .string la, .int .i64 lk, .int .i64 ln, .string ls, .int .i64 rel, .string rv, .string ra, .int .i64 rk, .int .i64 rn, .string rs] 37)
  have hb0 : Below w.heap.size w W := by rw [hW]; exact (Below.refl _ _).alloc (Nat.le_refl _) _
  rw [← hW] at hq
  obtain ⟨P, hP⟩ : ∃ P, P = w.heap.size := ⟨_, rfl⟩
  have hk : ∀ u : World, Below P w u → SsV u G (.slice ao l.length cap) l ∧ ∀ b, G b → b < u.heap.size := fun u hu =>
    ⟨hv.keep (fun b hb => hu.block b (by rw [hP]; exact hG b hb)), fun b hb => Nat.lt_of_lt_of_le (hG b hb) hu.size⟩
  rw [← hP] at hq hb0 ⊢
  have CL := fun (u : World) (hu : Below P w u) => cSide_any lv la lk ln ls G ao cap l u hwd.1 (hk u hu).2 hl (hk u hu).1
  have CR := fun (u : World) (hu : Below P w u) => cSide_any rv ra rk rn rs G ao cap l u hwd.2 (hk u hu).2 hl (hk u hu).1
  have CA := fun u : World => cConst_any lv la lk ln ls u
  have CB := fun u : World => cConst_any rv ra rk rn rs u
  have HQ := Lib.hid hq; have HB := Lib.hid hb0; have HPW := Lib.hid (Nat.le_of_eq hP); have HW := Lib.hid hW; have HP := Lib.hid hP
  clear hq hb0 hwd hl hv hG hk hW hP
  unfold condE okC cdV
  simp only
  by_cases h1 : 1 ≤ rel
  · have r1 : ¬ rel < 1 := by omega
    have r1' : decide (rel < 1) = false := decide_eq_false r1
    by_cases h2 : rel ≤ 6
    · have r2 : ¬ 6 < rel := by omega
      have r2' : decide (6 < rel) = false := decide_eq_false r2
      rw [decide_eq_true h1, decide_eq_true h2]
      simp only [Bool.true_and]
      cases hL : okO ⟨lv, la, lk, ln, ls⟩ l with
      | false =>
        simp only [hL] at CL
        simp only [Bool.false_and, Bool.false_eq_true, if_false]
        have HCL := Lib.hid CL; clear CL CR CA CB
        go_enter Try.func109, Try.ntmps109
        go_wp2_with fail
        rw [← HW.out, ← HP.out]
        obtain ⟨c0, c1, c2, c3, c4, c5, c6, c7, c8, c9, c10⟩ := cell_of_eleven HQ.out
        go_wp2_with (go_at_call 124; (with_reducible refine (HCL.out _ HB.out).mono ?_); rintro e u1 ⟨rfl, hb⟩; have HQ1 := Lib.hid ((hb.block P (Array.getElem?_eq_some_iff.1 HQ.out).1).trans HQ.out); have HB1 := Lib.hid (below_next HB.out HPW.out hb); clear hb c0 c1 c2 c3 c4 c5 c6 c7 c8 c9 c10; obtain ⟨c0, c1, c2, c3, c4, c5, c6, c7, c8, c9, c10⟩ := cell_of_eleven HQ1.out)
        go_wp2
        go_ret
        exact ⟨rfl, HB1.out⟩
      | true =>
        simp only [hL] at CL
        simp only [Bool.true_and]
        have HCL := Lib.hid CL; clear CL
        cases hR : okO ⟨rv, ra, rk, rn, rs⟩ l with
        | false =>
          simp only [hR] at CR
          simp only [Bool.false_and, Bool.false_eq_true, if_false]
          have HCR := Lib.hid CR; clear CR CA CB
          go_enter Try.func109, Try.ntmps109
          go_wp2_with fail
          rw [← HW.out, ← HP.out]
          obtain ⟨c0, c1, c2, c3, c4, c5, c6, c7, c8, c9, c10⟩ := cell_of_eleven HQ.out
          go_wp2_with (go_at_call 124; (with_reducible refine (HCL.out _ HB.out).mono ?_); rintro e u1 ⟨rfl, hb⟩; have HQ1 := Lib.hid ((hb.block P (Array.getElem?_eq_some_iff.1 HQ.out).1).trans HQ.out); have HB1 := Lib.hid (below_next HB.out HPW.out hb); clear hb c0 c1 c2 c3 c4 c5 c6 c7 c8 c9 c10; obtain ⟨c0, c1, c2, c3, c4, c5, c6, c7, c8, c9, c10⟩ := cell_of_eleven HQ1.out)
          go_wp2_with (go_at_call 124; (with_reducible refine (HCR.out _ HB1.out).mono ?_); rintro e u2 ⟨rfl, hb⟩; have HQ2 := Lib.hid ((hb.block P (Array.getElem?_eq_some_iff.1 HQ1.out).1).trans HQ1.out); have HB2 := Lib.hid (below_next HB1.out HPW.out hb); clear hb c0 c1 c2 c3 c4 c5 c6 c7 c8 c9 c10; obtain ⟨c0, c1, c2, c3, c4, c5, c6, c7, c8, c9, c10⟩ := cell_of_eleven HQ2.out)
          go_wp2
          go_ret
          exact ⟨rfl, HB2.out⟩
        | true =>
          simp only [hR] at CR
          simp only [Bool.true_and]
          have HCR := Lib.hid CR; clear CR
          by_cases ha : la = em
          · simp only [decide_eq_true ha] at CA ⊢
            have HCA := Lib.hid CA; clear CA ha
            by_cases hb : ra = em
            · simp only [decide_eq_true hb] at CB ⊢
              have HCB := Lib.hid CB; clear CB hb
              simp only [Bool.true_and, Bool.not_true, Bool.false_eq_true, if_false]
              go_enter Try.func109, Try.ntmps109
              go_wp2_with fail
              rw [← HW.out, ← HP.out]
              obtain ⟨c0, c1, c2, c3, c4, c5, c6, c7, c8, c9, c10⟩ := cell_of_eleven HQ.out
              go_wp2_with (go_at_call 124; (with_reducible refine (HCL.out _ HB.out).mono ?_); rintro e u1 ⟨rfl, hb⟩; have HQ1 := Lib.hid ((hb.block P (Array.getElem?_eq_some_iff.1 HQ.out).1).trans HQ.out); have HB1 := Lib.hid (below_next HB.out HPW.out hb); clear hb c0 c1 c2 c3 c4 c5 c6 c7 c8 c9 c10; obtain ⟨c0, c1, c2, c3, c4, c5, c6, c7, c8, c9, c10⟩ := cell_of_eleven HQ1.out)
              go_wp2_with (go_at_call 124; (with_reducible refine (HCR.out _ HB1.out).mono ?_); rintro e u2 ⟨rfl, hb⟩; have HQ2 := Lib.hid ((hb.block P (Array.getElem?_eq_some_iff.1 HQ1.out).1).trans HQ1.out); have HB2 := Lib.hid (below_next HB1.out HPW.out hb); clear hb c0 c1 c2 c3 c4 c5 c6 c7 c8 c9 c10; obtain ⟨c0, c1, c2, c3, c4, c5, c6, c7, c8, c9, c10⟩ := cell_of_eleven HQ2.out)
              go_wp2_with (go_at_call 125; (with_reducible refine (HCA.out _).mono ?_); rintro e u3 ⟨rfl, hb⟩; have HQ3 := Lib.hid ((hb.block P (Array.getElem?_eq_some_iff.1 HQ2.out).1).trans HQ2.out); have HB3 := Lib.hid (below_next HB2.out HPW.out hb); clear hb c0 c1 c2 c3 c4 c5 c6 c7 c8 c9 c10; obtain ⟨c0, c1, c2, c3, c4, c5, c6, c7, c8, c9, c10⟩ := cell_of_eleven HQ3.out)
              go_wp2_with (go_at_call 125; (with_reducible refine (HCB.out _).mono ?_); rintro e u4 ⟨rfl, hb⟩; have HQ4 := Lib.hid ((hb.block P (Array.getElem?_eq_some_iff.1 HQ3.out).1).trans HQ3.out); have HB4 := Lib.hid (below_next HB3.out HPW.out hb); clear hb c0 c1 c2 c3 c4 c5 c6 c7 c8 c9 c10; obtain ⟨c0, c1, c2, c3, c4, c5, c6, c7, c8, c9, c10⟩ := cell_of_eleven HQ4.out)
              go_wp2
              go_ret
              exact ⟨rfl, HB4.out⟩
            · simp only [decide_eq_false hb] at CB ⊢
              have HCB := Lib.hid CB; clear CB hb
              simp only [Bool.and_false, Bool.not_false, if_true]
              go_enter Try.func109, Try.ntmps109
              go_wp2_with fail
              rw [← HW.out, ← HP.out]
              obtain ⟨c0, c1, c2, c3, c4, c5, c6, c7, c8, c9, c10⟩ := cell_of_eleven HQ.out
              go_wp2_with (go_at_call 124; (with_reducible refine (HCL.out _ HB.out).mono ?_); rintro e u1 ⟨rfl, hb⟩; have HQ1 := Lib.hid ((hb.block P (Array.getElem?_eq_some_iff.1 HQ.out).1).trans HQ.out); have HB1 := Lib.hid (below_next HB.out HPW.out hb); clear hb c0 c1 c2 c3 c4 c5 c6 c7 c8 c9 c10; obtain ⟨c0, c1, c2, c3, c4, c5, c6, c7, c8, c9, c10⟩ := cell_of_eleven HQ1.out)
              go_wp2_with (go_at_call 124; (with_reducible refine (HCR.out _ HB1.out).mono ?_); rintro e u2 ⟨rfl, hb⟩; have HQ2 := Lib.hid ((hb.block P (Array.getElem?_eq_some_iff.1 HQ1.out).1).trans HQ1.out); have HB2 := Lib.hid (below_next HB1.out HPW.out hb); clear hb c0 c1 c2 c3 c4 c5 c6 c7 c8 c9 c10; obtain ⟨c0, c1, c2, c3, c4, c5, c6, c7, c8, c9, c10⟩ := cell_of_eleven HQ2.out)
              go_wp2_with (go_at_call 125; (with_reducible refine (HCA.out _).mono ?_); rintro e u3 ⟨rfl, hb⟩; have HQ3 := Lib.hid ((hb.block P (Array.getElem?_eq_some_iff.1 HQ2.out).1).trans HQ2.out); have HB3 := Lib.hid (below_next HB2.out HPW.out hb); clear hb c0 c1 c2 c3 c4 c5 c6 c7 c8 c9 c10; obtain ⟨c0, c1, c2, c3, c4, c5, c6, c7, c8, c9, c10⟩ := cell_of_eleven HQ3.out)
              go_wp2_with (go_at_call 125; (with_reducible refine (HCB.out _).mono ?_); rintro e u4 ⟨rfl, hb⟩; have HQ4 := Lib.hid ((hb.block P (Array.getElem?_eq_some_iff.1 HQ3.out).1).trans HQ3.out); have HB4 := Lib.hid (below_next HB3.out HPW.out hb); clear hb c0 c1 c2 c3 c4 c5 c6 c7 c8 c9 c10; obtain ⟨c0, c1, c2, c3, c4, c5, c6, c7, c8, c9, c10⟩ := cell_of_eleven HQ4.out)
              go_wp2
              go_ret
              exact ⟨rfl, HB4.out⟩
          · simp only [decide_eq_false ha] at CA ⊢
            have HCA := Lib.hid CA; clear CA CB ha
            simp only [Bool.false_and, Bool.not_false, if_true]
            go_enter Try.func109, Try.ntmps109
            go_wp2_with fail
            rw [← HW.out, ← HP.out]
            obtain ⟨c0, c1, c2, c3, c4, c5, c6, c7, c8, c9, c10⟩ := cell_of_eleven HQ.out
            go_wp2_with (go_at_call 124; (with_reducible refine (HCL.out _ HB.out).mono ?_); rintro e u1 ⟨rfl, hb⟩; have HQ1 := Lib.hid ((hb.block P (Array.getElem?_eq_some_iff.1 HQ.out).1).trans HQ.out); have HB1 := Lib.hid (below_next HB.out HPW.out hb); clear hb c0 c1 c2 c3 c4 c5 c6 c7 c8 c9 c10; obtain ⟨c0, c1, c2, c3, c4, c5, c6, c7, c8, c9, c10⟩ := cell_of_eleven HQ1.out)
            go_wp2_with (go_at_call 124; (with_reducible refine (HCR.out _ HB1.out).mono ?_); rintro e u2 ⟨rfl, hb⟩; have HQ2 := Lib.hid ((hb.block P (Array.getElem?_eq_some_iff.1 HQ1.out).1).trans HQ1.out); have HB2 := Lib.hid (below_next HB1.out HPW.out hb); clear hb c0 c1 c2 c3 c4 c5 c6 c7 c8 c9 c10; obtain ⟨c0, c1, c2, c3, c4, c5, c6, c7, c8, c9, c10⟩ := cell_of_eleven HQ2.out)
            go_wp2_with (go_at_call 125; (with_reducible refine (HCA.out _).mono ?_); rintro e u3 ⟨rfl, hb⟩; have HQ3 := Lib.hid ((hb.block P (Array.getElem?_eq_some_iff.1 HQ2.out).1).trans HQ2.out); have HB3 := Lib.hid (below_next HB2.out HPW.out hb); clear hb c0 c1 c2 c3 c4 c5 c6 c7 c8 c9 c10; obtain ⟨c0, c1, c2, c3, c4, c5, c6, c7, c8, c9, c10⟩ := cell_of_eleven HQ3.out)
            go_wp2
            go_ret
            exact ⟨rfl, HB3.out⟩
    · have r2 : 6 < rel := by omega
      have r2' : decide (6 < rel) = true := decide_eq_true r2
      rw [decide_eq_false h2]
      simp only [Bool.and_false, Bool.false_and, Bool.false_eq_true, if_false]
      clear CL CR CA CB
      go_enter Try.func109, Try.ntmps109
      go_wp2_with fail
      rw [← HW.out, ← HP.out]
      obtain ⟨c0, c1, c2, c3, c4, c5, c6, c7, c8, c9, c10⟩ := cell_of_eleven HQ.out
      go_wp2
      go_ret
      exact ⟨rfl, HB.out⟩
  · have r1 : rel < 1 := by omega
    have r1' : decide (rel < 1) = true := decide_eq_true r1
    rw [decide_eq_false h1]
    simp only [Bool.false_and, Bool.false_eq_true, if_false]
    clear CL CR CA CB
    go_enter Try.func109, Try.ntmps109
    go_wp2_with fail
    rw [← HW.out, ← HP.out]
    obtain ⟨c0, c1, c2, c3, c4, c5, c6, c7, c8, c9, c10⟩ := cell_of_eleven HQ.out
    go_wp2
    go_ret
    exact ⟨rfl, HB.out⟩
end Go.Proofs.Ytnfjodkpapmfkaa
