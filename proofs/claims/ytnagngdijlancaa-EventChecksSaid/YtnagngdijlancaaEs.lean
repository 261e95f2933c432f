/- Events: Same, Compare, Clone: the program's and the document's. -/
import Derived.Test.YtnagngdijlancaaEv
import Derived.Laws.AppendOwnNone
namespace Go.Proofs.Ytnagngdijlancaa
open Go Go.RowKit

set_option maxRecDepth 100000 in
set_option maxHeartbeats 1600000 in
theorem eSame_any (a b : Ev) (B B2 : Nat) (ao : Option Addr) (n cap : Nat) (ao2 : Option Addr) (n2 cap2 : Nat) (w : World) (h1 : Av w B (.slice ao n cap) a.ats) (h2 : Av w B2 (.slice ao2 n2 cap2) b.ats) (hB : B ≤ w.heap.size) (hB2 : B2 ≤ w.heap.size) :
    Calls Try.prog 14 #[evV a (.slice ao n cap), evV b (.slice ao2 n2 cap2)] w fun e w' => e = .returned (.bool (sameE a b)) ∧ Below w.heap.size w w' := by
  obtain ⟨s, q, t, ty, ats⟩ := a
  obtain ⟨s', q', t', ty', ats'⟩ := b
  simp only at h1 h2
  unfold evV
  simp only
  have HB0 : Hid (Below w.heap.size w ((w.alloc (.cells #[.int .i64 s, .int .i64 q, .int .i64 t, .string ty, .slice ao n cap] 26)).alloc (.cells #[.int .i64 s', .int .i64 q', .int .i64 t', .string ty', .slice ao2 n2 cap2] 26))) := ((Below.refl _ _).alloc (Nat.le_refl _) _).alloc (by simp) _
  have CA := vSameAttrs_any B B2 ao n cap ats ao2 n2 cap2 ats' _ (h1.below HB0.out hB) (h2.below HB0.out hB2)
  have HCA := Lib.hid CA
  clear CA h1 h2 hB hB2
  have e1 := idEq_run s q s' q'
  have g1 := fun op x y => idGuard op x y s q s' q'
  cases b1 : (decide (s = s') && decide (q = q')) with
  | false =>
    rw [b1] at e1
    rw [show sameE _ _ = false by simp only [sameE, b1, Bool.false_and]]
    clear b1
    go_enter Try.func14, Try.ntmps14
    go_wp2
    go_ret
    exact ⟨rfl, HB0.out⟩
  | true =>
    rw [b1] at e1
    rcases Decidable.em (t = t') with ht | ht
    case inr =>
      have et : (t == t') = false := by simp [ht]
      rw [show sameE _ _ = false by simp [sameE, ht]]
      clear b1
      go_enter Try.func14, Try.ntmps14
      go_wp2
      go_ret
      exact ⟨rfl, HB0.out⟩
    subst ht
    cases b3 : (ty.toList == ty'.toList) with
    | false =>
      rw [show sameE _ _ = false by simp only [sameE, b3, Bool.and_false, Bool.false_and]]
      clear b1
      go_enter Try.func14, Try.ntmps14
      go_wp2
      go_ret
      exact ⟨rfl, HB0.out⟩
    | true =>
      rw [show sameE _ _ = sameA ats ats' by simp only [sameE, b1, b3, decide_true, Bool.true_and]]
      clear b1
      go_enter Try.func14, Try.ntmps14
      go_wp2_with (go_at_call 64; (with_reducible refine (HCA.out).mono ?_); rintro e w1 ⟨rfl, hb⟩; have HB1 := Lib.hid hb; clear hb)
      go_ret
      exact ⟨rfl, HB0.out.trans (HB1.out.mono HB0.out.size)⟩

set_option maxRecDepth 100000 in
set_option maxHeartbeats 1600000 in
theorem r4Same_any (a b : Ev) (B B2 : Nat) (ao : Option Addr) (n cap : Nat) (ao2 : Option Addr) (n2 cap2 : Nat) (w : World) (h1 : Av w B (.slice ao n cap) a.ats) (h2 : Av w B2 (.slice ao2 n2 cap2) b.ats) (hB : B ≤ w.heap.size) (hB2 : B2 ≤ w.heap.size) :
    Calls Try.prog 15 #[evV a (.slice ao n cap), evV b (.slice ao2 n2 cap2)] w fun e w' => e = .returned (.bool (sameE a b)) ∧ Below w.heap.size w w' := by
  obtain ⟨s, q, t, ty, ats⟩ := a
  obtain ⟨s', q', t', ty', ats'⟩ := b
  simp only at h1 h2
  unfold evV
  simp only
  have HB0 : Hid (Below w.heap.size w ((w.alloc (.cells #[.int .i64 s, .int .i64 q, .int .i64 t, .string ty, .slice ao n cap] 26)).alloc (.cells #[.int .i64 s', .int .i64 q', .int .i64 t', .string ty', .slice ao2 n2 cap2] 26))) := ((Below.refl _ _).alloc (Nat.le_refl _) _).alloc (by simp) _
  have CA := r3SameAttrs_any B B2 ao n cap ats ao2 n2 cap2 ats' _ (h1.below HB0.out hB) (h2.below HB0.out hB2)
  have HCA := Lib.hid CA
  clear CA h1 h2 hB hB2
  have e1 := idEq_run s q s' q'
  have g1 := fun op x y => idGuard op x y s q s' q'
  cases b1 : (decide (s = s') && decide (q = q')) with
  | false =>
    rw [b1] at e1
    rw [show sameE _ _ = false by simp only [sameE, b1, Bool.false_and]]
    clear b1
    go_enter Try.func15, Try.ntmps15
    go_wp2
    go_ret
    exact ⟨rfl, HB0.out⟩
  | true =>
    rw [b1] at e1
    rcases Decidable.em (t = t') with ht | ht
    case inr =>
      have et : (t == t') = false := by simp [ht]
      rw [show sameE _ _ = false by simp [sameE, ht]]
      clear b1
      go_enter Try.func15, Try.ntmps15
      go_wp2
      go_ret
      exact ⟨rfl, HB0.out⟩
    subst ht
    cases b3 : (ty.toList == ty'.toList) with
    | false =>
      rw [show sameE _ _ = false by simp only [sameE, b3, Bool.and_false, Bool.false_and]]
      clear b1
      go_enter Try.func15, Try.ntmps15
      go_wp2
      go_ret
      exact ⟨rfl, HB0.out⟩
    | true =>
      rw [show sameE _ _ = sameA ats ats' by simp only [sameE, b1, b3, decide_true, Bool.true_and]]
      clear b1
      go_enter Try.func15, Try.ntmps15
      go_wp2_with (go_at_call 65; (with_reducible refine (HCA.out).mono ?_); rintro e w1 ⟨rfl, hb⟩; have HB1 := Lib.hid hb; clear hb)
      go_ret
      exact ⟨rfl, HB0.out.trans (HB1.out.mono HB0.out.size)⟩

/-- How the names of two events stand. -/
def cmpID (s q s' q' : Int) : Int := if cmpI s s' = 0 then cmpI q q' else cmpI s s'
theorem isNaNInt_any (n : Int) (w : World) : Calls Try.prog 100 #[.int .i64 n] w fun e w' => e = .returned (.bool false) ∧ w = w' := by
  go_enter Try.func100, Try.ntmps100
  go_wp2
  go_ret
  exact ⟨by simp, rfl⟩
theorem cmpInt_any (a b : Int) (w : World) : Calls Try.prog 67 #[.int .i64 a, .int .i64 b] w fun e w' => e = .returned (.int .i64 (cmpI a b)) ∧ w = w' := by
  rcases Int.lt_trichotomy a b with h | h | h
  · rw [cmpI_lt h]
    go_enter Try.func67, Try.ntmps67
    go_wp2_with (go_at_call 100; refine (isNaNInt_any _ _).mono ?_; rintro e w' ⟨rfl, rfl⟩)
    go_ret
    exact ⟨rfl, rfl⟩
  · subst h
    rw [cmpI_eq]
    go_enter Try.func67, Try.ntmps67
    go_wp2_with (go_at_call 100; refine (isNaNInt_any _ _).mono ?_; rintro e w' ⟨rfl, rfl⟩)
    go_ret
    exact ⟨rfl, rfl⟩
  · rw [cmpI_gt h]
    have h' : ¬ a < b := by omega
    go_enter Try.func67, Try.ntmps67
    go_wp2_with (go_at_call 100; refine (isNaNInt_any _ _).mono ?_; rintro e w' ⟨rfl, rfl⟩)
    go_ret
    exact ⟨rfl, rfl⟩
def orI (a b : Int) : Int := if a = 0 then b else a
set_option maxRecDepth 100000 in
theorem cmpOr_any (a b : Int) (g : Nat) (w : World) (h0 : w.cell? ⟨g, 0, none⟩ = some (.int .i64 a)) (h1 : w.cell? ⟨g, 1, none⟩ = some (.int .i64 b)) :
    Calls Try.prog 66 #[.slice (some ⟨g, 0, none⟩) 2 2] w fun e w' => e = .returned (.int .i64 (orI a b)) ∧ w = w' := by
  by_cases ha : a = 0
  · subst ha
    rw [show orI 0 b = b from if_pos rfl]
    by_cases hb : b = 0
    · subst hb
      go_enter Try.func66, Try.ntmps66
      go_wp2_with fail
      refine wp_loop_rounds 3 ?_
      rw [rounds_succ]
      go_wp2_with fail
      rw [rounds_succ]
      go_wp2_with fail
      rw [rounds_succ]
      go_wp2
      go_ret
      exact ⟨rfl, rfl⟩
    · have hb1 : (b == 0) = false := by simp [hb]
      have hb2 : (b != 0) = true := by simp [hb]
      go_enter Try.func66, Try.ntmps66
      go_wp2_with fail
      refine wp_loop_rounds 2 ?_
      rw [rounds_succ]
      go_wp2_with fail
      rw [rounds_succ]
      go_wp2
      go_ret
      exact ⟨rfl, rfl⟩
  · rw [show orI a b = a from if_neg ha]
    have hb1 : (a == 0) = false := by simp [ha]
    have hb2 : (a != 0) = true := by simp [ha]
    go_enter Try.func66, Try.ntmps66
    go_wp2_with fail
    refine wp_loop_rounds 1 ?_
    rw [rounds_succ]
    go_wp2
    go_ret
    exact ⟨rfl, rfl⟩
end Go.Proofs.Ytnagngdijlancaa
