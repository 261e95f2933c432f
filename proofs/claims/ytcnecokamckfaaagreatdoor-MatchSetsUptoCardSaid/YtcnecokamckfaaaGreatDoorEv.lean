/- Events: which may be, which are the same, how names stand: the program's calls and the document's. -/
import Derived.Laws.AppendOwnNone
import Derived.Test.YtcnecokamckfaaaGreatDoorAs
import Derived.Test.YtcnecokamckfaaaGreatDoorAcr
import Derived.Deep.RegionHeld3
namespace Go.Proofs.YtcnecokamckfaaaGreatDoor
open Go Go.RowKit

/-- An event: its source, number, time, type, attributes. -/
structure Ev where
  src : Int
  seq : Int
  time : Int
  ty : ByteArray
  ats : List At
  deriving DecidableEq, Inhabited
/-- An event as a value, its attributes a slice v. -/
def evV (e : Ev) (v : Value) : Value := .agg #[.int .i64 e.src, .int .i64 e.seq, .int .i64 e.time, .string e.ty, v]
def evSrcB (n : Int) : Bool := decide (0 ≤ n) && decide (n < 16)
def evTmB (n : Int) : Bool := decide (0 ≤ n) && decide (n ≤ 1099511627776)
def evB (e : Ev) : Bool := evSrcB e.src && evTmB e.seq && evTmB e.time && nameB e.ty.data.toList
/-- What is wrong with an event. -/
def ckE (e : Ev) : Int := if evB e then ckAll e.ats else 40
theorem ckE_no {e : Ev} (h : evB e = false) : ckE e = 40 := by unfold ckE; rw [h]; rfl
theorem ckE_ok {e : Ev} (h : evB e = true) : ckE e = ckAll e.ats := by unfold ckE; rw [h]; rfl

theorem eIsSource_any (n : Int) (w : World) : Calls Tryz.prog 93 #[.int .i64 n] w fun e w' => e = .returned (.bool (evSrcB n)) ∧ w = w' := by
  by_cases h0 : 0 ≤ n
  · by_cases h1 : n < 16
    · rw [show evSrcB n = true by simp [evSrcB, h0, h1]]
      go_enter Tryz.func93, Tryz.ntmps93
      go_wp2
      go_ret
      exact ⟨rfl, rfl⟩
    · rw [show evSrcB n = false by simp [evSrcB, h1]]
      go_enter Tryz.func93, Tryz.ntmps93
      go_wp2
      go_ret
      exact ⟨rfl, rfl⟩
  · rw [show evSrcB n = false by simp [evSrcB, h0]]
    go_enter Tryz.func93, Tryz.ntmps93
    go_wp2
    go_ret
    exact ⟨rfl, rfl⟩
theorem eIsCount_any (n : Int) (w : World) : Calls Tryz.prog 94 #[.int .i64 n] w fun e w' => e = .returned (.bool (evTmB n)) ∧ w = w' := by
  by_cases h0 : 0 ≤ n
  · by_cases h1 : n ≤ 1099511627776
    · rw [show evTmB n = true by simp [evTmB, h0, h1]]
      go_enter Tryz.func94, Tryz.ntmps94
      go_wp2
      go_ret
      exact ⟨rfl, rfl⟩
    · rw [show evTmB n = false by simp [evTmB, h1]]
      go_enter Tryz.func94, Tryz.ntmps94
      go_wp2
      go_ret
      exact ⟨rfl, rfl⟩
  · rw [show evTmB n = false by simp [evTmB, h0]]
    go_enter Tryz.func94, Tryz.ntmps94
    go_wp2
    go_ret
    exact ⟨rfl, rfl⟩
theorem r4time_any (n : Int) (w : World) : Calls Tryz.prog 97 #[.int .i64 n] w fun e w' => e = .returned (.bool (evTmB n)) ∧ w = w' := by
  by_cases h0 : 0 ≤ n
  · by_cases h1 : n ≤ 1099511627776
    · rw [show evTmB n = true by simp [evTmB, h0, h1]]
      go_enter Tryz.func97, Tryz.ntmps97
      go_wp2
      go_ret
      exact ⟨rfl, rfl⟩
    · rw [show evTmB n = false by simp [evTmB, h1]]
      go_enter Tryz.func97, Tryz.ntmps97
      go_wp2
      go_ret
      exact ⟨rfl, rfl⟩
  · rw [show evTmB n = false by simp [evTmB, h0]]
    go_enter Tryz.func97, Tryz.ntmps97
    go_wp2
    go_ret
    exact ⟨rfl, rfl⟩

set_option maxRecDepth 100000 in
set_option maxHeartbeats 1600000 in
theorem eCheck_any (ev : Ev) (B : Nat) (ao : Option Addr) (n cap : Nat) (w : World) (h : Av w B (.slice ao n cap) ev.ats) (hB : B ≤ w.heap.size) (hty : ev.ty.size ≤ maxLen) :
    Calls Tryz.prog 66 #[evV ev (.slice ao n cap)] w fun e w' => e = .returned (.int .i64 (ckE ev)) ∧ Below w.heap.size w w' := by
  obtain ⟨s, q, t, ty, ats⟩ := ev
  simp only at h hty
  unfold evV
  simp only
  have CN := fun w => vName_any ty w hty
  have HB0 : Hid (Below w.heap.size w (w.alloc (.cells #[.int .i64 s, .int .i64 q, .int .i64 t, .string ty, .slice ao n cap] 52))) := (Below.refl _ _).alloc (Nat.le_refl _) _
  have CA := vCheckAttrs_any B ao n cap ats _ (h.below HB0.out hB) (Nat.le_trans hB HB0.out.size)
  have HCA := Lib.hid CA
  clear CA h hB hty
  cases b1 : evSrcB s with
  | false =>
    rw [ckE_no (by simp [evB, b1])]
    have HCN := Lib.hid CN
    clear CN
    go_enter Tryz.func66, Tryz.ntmps66
    go_wp2_with (go_at_call 93; refine (eIsSource_any _ _).mono ?_; rintro e w' ⟨rfl, rfl⟩)
    go_ret
    exact ⟨rfl, HB0.out⟩
  | true =>
    cases b2 : evTmB q with
    | false =>
      rw [ckE_no (by simp [evB, b1, b2])]
      have HCN := Lib.hid CN
      clear CN
      go_enter Tryz.func66, Tryz.ntmps66
      go_wp2_with (first | (go_at_call 93; refine (eIsSource_any _ _).mono ?_; rintro e w' ⟨rfl, rfl⟩) | (go_at_call 94; refine (eIsCount_any _ _).mono ?_; rintro e w' ⟨rfl, rfl⟩))
      go_ret
      exact ⟨rfl, HB0.out⟩
    | true =>
      cases b3 : evTmB t with
      | false =>
        rw [ckE_no (by simp [evB, b1, b2, b3])]
        have HCN := Lib.hid CN
        clear CN
        go_enter Tryz.func66, Tryz.ntmps66
        go_wp2_with (first | (go_at_call 93; refine (eIsSource_any _ _).mono ?_; rintro e w' ⟨rfl, rfl⟩) | (go_at_call 94; refine (eIsCount_any _ _).mono ?_; rintro e w' ⟨rfl, rfl⟩))
        go_ret
        exact ⟨rfl, HB0.out⟩
      | true =>
        cases b4 : nameB ty.data.toList with
        | false =>
          rw [ckE_no (by simp [evB, b1, b2, b3, b4])]
          rw [b4] at CN
          have HCN := Lib.hid CN
          clear CN b4
          go_enter Tryz.func66, Tryz.ntmps66
          go_wp2_with (first | (go_at_call 93; refine (eIsSource_any _ _).mono ?_; rintro e w' ⟨rfl, rfl⟩) | (go_at_call 94; refine (eIsCount_any _ _).mono ?_; rintro e w' ⟨rfl, rfl⟩) | (go_at_call 90; (with_reducible refine (HCN.out _).mono ?_); rintro e w' ⟨rfl, rfl⟩))
          go_ret
          exact ⟨rfl, HB0.out⟩
        | true =>
          rw [ckE_ok (by simp [evB, b1, b2, b3, b4])]
          rw [b4] at CN
          have HCN := Lib.hid CN
          clear CN b4
          go_enter Tryz.func66, Tryz.ntmps66
          go_wp2_with (first | (go_at_call 93; refine (eIsSource_any _ _).mono ?_; rintro e w' ⟨rfl, rfl⟩) | (go_at_call 94; refine (eIsCount_any _ _).mono ?_; rintro e w' ⟨rfl, rfl⟩) | (go_at_call 90; (with_reducible refine (HCN.out _).mono ?_); rintro e w' ⟨rfl, rfl⟩) | (go_at_call 95; (with_reducible refine (HCA.out).mono ?_); rintro e w1 ⟨rfl, hb⟩; have HB1 := Lib.hid hb; clear hb))
          go_ret
          exact ⟨rfl, HB0.out.trans (HB1.out.mono HB0.out.size)⟩

set_option maxRecDepth 100000 in
set_option maxHeartbeats 1600000 in
theorem r4Check_any (ev : Ev) (B : Nat) (ao : Option Addr) (n cap : Nat) (w : World) (h : Av w B (.slice ao n cap) ev.ats) (hB : B ≤ w.heap.size) (hty : ev.ty.size ≤ maxLen) :
    Calls Tryz.prog 68 #[evV ev (.slice ao n cap)] w fun e w' => e = .returned (.int .i64 (ckE ev)) ∧ Below w.heap.size w w' := by
  obtain ⟨s, q, t, ty, ats⟩ := ev
  simp only at h hty
  unfold evV
  simp only
  have CN := fun w => r3Name_any ty w hty
  have HB0 : Hid (Below w.heap.size w (w.alloc (.cells #[.int .i64 s, .int .i64 q, .int .i64 t, .string ty, .slice ao n cap] 52))) := (Below.refl _ _).alloc (Nat.le_refl _) _
  have CA := r3CheckAttrs_any B ao n cap ats _ (h.below HB0.out hB) (Nat.le_trans hB HB0.out.size)
  have HCA := Lib.hid CA
  clear CA h hB hty
  by_cases b0 : 0 ≤ s
  case neg =>
    rw [ckE_no (by simp [evB, evSrcB, b0])]
    have HCN := Lib.hid CN
    clear CN
    go_enter Tryz.func68, Tryz.ntmps68
    go_wp2
    go_ret
    exact ⟨rfl, HB0.out⟩
  by_cases b1 : s < 16
  case neg =>
    rw [ckE_no (by simp [evB, evSrcB, b1])]
    have HCN := Lib.hid CN
    clear CN
    go_enter Tryz.func68, Tryz.ntmps68
    go_wp2
    go_ret
    exact ⟨rfl, HB0.out⟩
  have b01 : evSrcB s = true := by simp [evSrcB, b0, b1]
  cases b2 : evTmB q with
  | false =>
    rw [ckE_no (by simp [evB, b2])]
    have HCN := Lib.hid CN
    clear CN
    go_enter Tryz.func68, Tryz.ntmps68
    go_wp2_with (go_at_call 97; refine (r4time_any _ _).mono ?_; rintro e w' ⟨rfl, rfl⟩)
    go_ret
    exact ⟨rfl, HB0.out⟩
  | true =>
    cases b3 : evTmB t with
    | false =>
      rw [ckE_no (by simp [evB, b3])]
      have HCN := Lib.hid CN
      clear CN
      go_enter Tryz.func68, Tryz.ntmps68
      go_wp2_with (go_at_call 97; refine (r4time_any _ _).mono ?_; rintro e w' ⟨rfl, rfl⟩)
      go_ret
      exact ⟨rfl, HB0.out⟩
    | true =>
      cases b4 : nameB ty.data.toList with
      | false =>
        rw [ckE_no (by simp [evB, b4])]
        rw [b4] at CN
        have HCN := Lib.hid CN
        clear CN b4
        go_enter Tryz.func68, Tryz.ntmps68
        go_wp2_with (first | (go_at_call 97; refine (r4time_any _ _).mono ?_; rintro e w' ⟨rfl, rfl⟩) | (go_at_call 67; (with_reducible refine (HCN.out _).mono ?_); rintro e w' ⟨rfl, rfl⟩))
        go_ret
        exact ⟨rfl, HB0.out⟩
      | true =>
        rw [ckE_ok (by simp [evB, b01, b2, b3, b4])]
        rw [b4] at CN
        have HCN := Lib.hid CN
        clear CN b4
        go_enter Tryz.func68, Tryz.ntmps68
        go_wp2_with (first | (go_at_call 97; refine (r4time_any _ _).mono ?_; rintro e w' ⟨rfl, rfl⟩) | (go_at_call 67; (with_reducible refine (HCN.out _).mono ?_); rintro e w' ⟨rfl, rfl⟩) | (go_at_call 98; (with_reducible refine (HCA.out).mono ?_); rintro e w1 ⟨rfl, hb⟩; have HB1 := Lib.hid hb; clear hb))
        go_ret
        exact ⟨rfl, HB0.out.trans (HB1.out.mono HB0.out.size)⟩

/-- Whether two events are the same. -/
def sameE (a b : Ev) : Bool := decide (a.src = b.src) && decide (a.seq = b.seq) && decide (a.time = b.time) && (a.ty.toList == b.ty.toList) && sameA a.ats b.ats
theorem sameE_iff {a b : Ev} : sameE a b = true ↔ a = b := by
  obtain ⟨s, q, t, ty, ats⟩ := a
  obtain ⟨s', q', t', ty', ats'⟩ := b
  simp only [sameE, sameA, Bool.and_eq_true, decide_eq_true_eq, beq_iff_eq, Ev.mk.injEq]
  exact ⟨fun ⟨⟨⟨⟨a, b⟩, c⟩, d⟩, e⟩ => ⟨a, b, c, ba_ext2 d, e⟩, fun ⟨a, b, c, d, e⟩ => ⟨⟨⟨⟨a, b⟩, c⟩, by rw [d]⟩, e⟩⟩
theorem sameE_refl (a : Ev) : sameE a a = true := sameE_iff.2 rfl

theorem idEq_run (s1 q1 s2 q2 : Int) (w : World) :
    (binOp .eql 49 (.agg #[.int .i64 s1, .int .i64 q1]) (.agg #[.int .i64 s2, .int .i64 q2])).run Tryz.prog w = .ok (.bool (decide (s1 = s2) && decide (q1 = q2))) w := by
  have a2 := Tryz.isAgg2; have z2 := Tryz.sizeOf2; have u2 := Tryz.underlying2
  have a3 := Tryz.isAgg3; have z3 := Tryz.sizeOf3; have u3 := Tryz.underlying3
  have hS : Tryz.prog.underlying 49 = some (.struct (Tryz.prog.fieldsOf 49)) := by kernel_rfl
  have hp : Tryz.prog.stoodInHeld 49 = false := by kernel_rfl
  rw [run_eql_struct, show (10000 : Nat) = 9999 + 1 from rfl, run_equalIn_agg w 9999 49 _ _ hS hp]
  simp only [Program.fieldsOf, Tryz.underlying49]
  go_simp
  by_cases h1 : s1 = s2 <;> by_cases h2 : q1 = q2 <;> simp [h1, h2]
theorem idGuard (op : BinOp) (x y : Operand) (s1 q1 s2 q2 : Int) (w : World) :
    (eqGuard op 49 x y (.agg #[.int .i64 s1, .int .i64 q1]) (.agg #[.int .i64 s2, .int .i64 q2])).run Tryz.prog w = .ok () w := run_eqGuard_agg w op _ x y _ _ (by kernel_rfl)
end Go.Proofs.YtcnecokamckfaaaGreatDoor
namespace Go.Proofs.YtcnecokamckfaaaGreatDoor
open Go Go.RowKit

set_option maxRecDepth 100000 in
set_option maxHeartbeats 1600000 in
theorem r4Same_any (a b : Ev) (B B2 : Nat) (ao : Option Addr) (n cap : Nat) (ao2 : Option Addr) (n2 cap2 : Nat) (w : World) (h1 : Av w B (.slice ao n cap) a.ats) (h2 : Av w B2 (.slice ao2 n2 cap2) b.ats) (hB : B ≤ w.heap.size) (hB2 : B2 ≤ w.heap.size) :
    Calls Tryz.prog 49 #[evV a (.slice ao n cap), evV b (.slice ao2 n2 cap2)] w fun e w' => e = .returned (.bool (sameE a b)) ∧ Below w.heap.size w w' := by
  obtain ⟨s, q, t, ty, ats⟩ := a
  obtain ⟨s', q', t', ty', ats'⟩ := b
  simp only at h1 h2
  unfold evV
  simp only
  have HB0 : Hid (Below w.heap.size w ((w.alloc (.cells #[.int .i64 s, .int .i64 q, .int .i64 t, .string ty, .slice ao n cap] 52)).alloc (.cells #[.int .i64 s', .int .i64 q', .int .i64 t', .string ty', .slice ao2 n2 cap2] 52))) := ((Below.refl _ _).alloc (Nat.le_refl _) _).alloc (by simp) _
  have CA := r3SameAttrs_any B B2 ao n cap ats ao2 n2 cap2 ats' _ (h1.below HB0.out hB) (h2.below HB0.out hB2)
  have HCA := Lib.hid CA
  clear CA h1 h2 hB hB2
  have e1 := idEq_run s q s' q'
  have g1 := fun op x y => idGuard op x y s q s' q'
  cases b1 : (decide (s = s') && decide (q = q')) with
  | false =>
    rw [b1] at e1
    rw [show sameE _ _ = false by simp only [sameE, b1, Bool.false_and]]
    clear b1
    go_enter Tryz.func49, Tryz.ntmps49
    go_wp2
    go_ret
    exact ⟨rfl, HB0.out⟩
  | true =>
    rw [b1] at e1
    rcases Decidable.em (t = t') with ht | ht
    case inr =>
      have et : (t == t') = false := by simp [ht]
      rw [show sameE _ _ = false by simp [sameE, ht]]
      clear b1
      go_enter Tryz.func49, Tryz.ntmps49
      go_wp2
      go_ret
      exact ⟨rfl, HB0.out⟩
    subst ht
    cases b3 : (ty.toList == ty'.toList) with
    | false =>
      rw [show sameE _ _ = false by simp only [sameE, b3, Bool.and_false, Bool.false_and]]
      clear b1
      go_enter Tryz.func49, Tryz.ntmps49
      go_wp2
      go_ret
      exact ⟨rfl, HB0.out⟩
    | true =>
      rw [show sameE _ _ = sameA ats ats' by simp only [sameE, b1, b3, decide_true, Bool.true_and]]
      clear b1
      go_enter Tryz.func49, Tryz.ntmps49
      go_wp2_with (go_at_call 76; (with_reducible refine (HCA.out).mono ?_); rintro e w1 ⟨rfl, hb⟩; have HB1 := Lib.hid hb; clear hb)
      go_ret
      exact ⟨rfl, HB0.out.trans (HB1.out.mono HB0.out.size)⟩

/-- How the names of two events stand. -/
def cmpID (s q s' q' : Int) : Int := if cmpI s s' = 0 then cmpI q q' else cmpI s s'
theorem isNaNInt_any (n : Int) (w : World) : Calls Tryz.prog 133 #[.int .i64 n] w fun e w' => e = .returned (.bool false) ∧ w = w' := by
  go_enter Tryz.func133, Tryz.ntmps133
  go_wp2
  go_ret
  exact ⟨by simp, rfl⟩
theorem cmpInt_any (a b : Int) (w : World) : Calls Tryz.prog 99 #[.int .i64 a, .int .i64 b] w fun e w' => e = .returned (.int .i64 (cmpI a b)) ∧ w = w' := by
  rcases Int.lt_trichotomy a b with h | h | h
  · rw [cmpI_lt h]
    go_enter Tryz.func99, Tryz.ntmps99
    go_wp2_with (go_at_call 133; refine (isNaNInt_any _ _).mono ?_; rintro e w' ⟨rfl, rfl⟩)
    go_ret
    exact ⟨rfl, rfl⟩
  · subst h
    rw [cmpI_eq]
    go_enter Tryz.func99, Tryz.ntmps99
    go_wp2_with (go_at_call 133; refine (isNaNInt_any _ _).mono ?_; rintro e w' ⟨rfl, rfl⟩)
    go_ret
    exact ⟨rfl, rfl⟩
  · rw [cmpI_gt h]
    have h' : ¬ a < b := by omega
    go_enter Tryz.func99, Tryz.ntmps99
    go_wp2_with (go_at_call 133; refine (isNaNInt_any _ _).mono ?_; rintro e w' ⟨rfl, rfl⟩)
    go_ret
    exact ⟨rfl, rfl⟩
def orI (a b : Int) : Int := if a = 0 then b else a
set_option maxRecDepth 100000 in
theorem cmpOr_any (a b : Int) (g : Nat) (w : World) (h0 : w.cell? ⟨g, 0, none⟩ = some (.int .i64 a)) (h1 : w.cell? ⟨g, 1, none⟩ = some (.int .i64 b)) :
    Calls Tryz.prog 69 #[.slice (some ⟨g, 0, none⟩) 2 2] w fun e w' => e = .returned (.int .i64 (orI a b)) ∧ w = w' := by
  by_cases ha : a = 0
  · subst ha
    rw [show orI 0 b = b from if_pos rfl]
    by_cases hb : b = 0
    · subst hb
      go_enter Tryz.func69, Tryz.ntmps69
      go_wp2_with fail
      refine wp_loop_rounds 3 ?_
      rw [rounds_succ]
      go_wp2_with fail
      rw [rounds_succ]
      go_wp2_with fail
      rw [rounds_succ]
      go_wp2
      go_ret
      exact ⟨rfl, rfl⟩
    · have hb1 : (b == 0) = false := by simp [hb]
      have hb2 : (b != 0) = true := by simp [hb]
      go_enter Tryz.func69, Tryz.ntmps69
      go_wp2_with fail
      refine wp_loop_rounds 2 ?_
      rw [rounds_succ]
      go_wp2_with fail
      rw [rounds_succ]
      go_wp2
      go_ret
      exact ⟨rfl, rfl⟩
  · rw [show orI a b = a from if_neg ha]
    have hb1 : (a == 0) = false := by simp [ha]
    have hb2 : (a != 0) = true := by simp [ha]
    go_enter Tryz.func69, Tryz.ntmps69
    go_wp2_with fail
    refine wp_loop_rounds 1 ?_
    rw [rounds_succ]
    go_wp2
    go_ret
    exact ⟨rfl, rfl⟩
end Go.Proofs.YtcnecokamckfaaaGreatDoor
