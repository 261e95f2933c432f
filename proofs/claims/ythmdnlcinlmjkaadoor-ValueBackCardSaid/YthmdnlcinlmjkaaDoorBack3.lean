/- The walk of ValueBack. -/
import Derived.Test.YthmdnlcinlmjkaaDoorPa
namespace Go.Proofs.YthmdnlcinlmjkaaDoor
open Go Go.RowKit

/-- How things stand: the value's box lies at P, the errors are there, below P nothing has turned. -/
structure Bk (w0 : World) (P : Nat) (k n : Int) (s : ByteArray) (w : World) : Prop where
  below : Below P w0 w
  lt : P < w.heap.size
  box : w.heap[P]? = some (.cells #[.int .i64 k, .int .i64 n, .string s] 23 (0, 0))
  err : ErrV w
theorem Bk.call {w0 : World} {P : Nat} {k n : Int} {s : ByteArray} {w w' : World} (h : Bk w0 P k n s w) (hb : Below w.heap.size w w') : Bk w0 P k n s w' :=
  ⟨h.below.trans (hb.mono (Nat.le_of_lt h.lt)), Nat.lt_of_lt_of_le h.lt hb.size, (hb.block P h.lt).trans h.box, h.err.keep hb⟩
theorem Bk.alloc {w0 : World} {P : Nat} {k n : Int} {s : ByteArray} {w : World} (h : Bk w0 P k n s w) (o : Obj) : Bk w0 P k n s (w.alloc o) :=
  h.call ((Below.refl _ _).alloc (Nat.le_refl _) _)
theorem Bk.drew {w0 : World} {P : Nat} {k n : Int} {s : ByteArray} {w : World} (h : Bk w0 P k n s w) : Bk w0 P k n s w.drew :=
  h.call (Below.refl _ _).drew

theorem dec_len : ∀ (k u : Nat), u < 10 ^ (k + 1) → (Lib.decDigits u).length ≤ k + 1
  | 0, u, h => by rw [Lib.decDigits, dif_pos (by simpa using h)]; simp
  | k + 1, u, h => by
    rw [Lib.decDigits]
    by_cases h1 : u < 10
    · rw [dif_pos h1]; simp
    · rw [dif_neg h1, List.length_append]
      have := dec_len k (u / 10) (by rw [Nat.pow_succ] at h; omega)
      simp only [List.length_cons, List.length_nil]; omega
theorem text_len {k n : Int} {t : List UInt8} (hck : ckB k n t = true) (hi : inI n) : (textL k n t).length ≤ 300 := by
  obtain ⟨a, b⟩ := hi
  rcases ck_ways hck with ⟨rfl, _⟩ | ⟨rfl, rfl, h⟩
  · simp only [textL, if_true, Lib.itoa]
    split
    · have := dec_len 19 n.natAbs (by omega)
      simp only [List.length_cons]; omega
    · have := dec_len 19 n.toNat (by omega)
      omega
  · have := quoL_len t
    show (quoL t).length ≤ 300
    omega
theorem ck_size {k n : Int} {t : ByteArray} (hck : ckB k n t.data.toList = true) : t.size ≤ maxLen := by
  rcases ck_ways hck with ⟨_, h⟩ | ⟨_, _, h⟩
  · rw [Lib.size_eq, h]; exact Nat.zero_le _
  · rw [Lib.size_eq]; unfold maxLen; omega

theorem vTextTo (k n : Int) (t s : ByteArray) (hck : ckB k n t.data.toList = true) (hi : inI n) (he : s.data.toList = textL k n t.data.toList) (w : World) (hE : ErrV w) :
    Calls Tryd.prog 8 #[.agg #[.int .i64 k, .int .i64 n, .string t]] w fun e w' => e = .returned (.string s) ∧ Below w.heap.size w w' := by
  have h2 := vTextC_any k n t hck hi w hE
  rw [show (⟨(textL k n t.data.toList).toArray⟩ : ByteArray) = s from ba_ext2 (by rw [Lib.toList_data, Lib.toList_data]; exact he.symm)] at h2
  exact h2
theorem vCheckOk (k n : Int) (t : ByteArray) (hck : ckB k n t.data.toList = true) (w : World) :
    Calls Tryd.prog 11 #[.agg #[.int .i64 k, .int .i64 n, .string t]] w fun e w' => e = .returned (.int .i64 0) ∧ Below w.heap.size w w' := by
  have h2 := vCheck_any k n t w (ck_size hck)
  rw [ckI_ok hck] at h2
  exact h2
theorem vParseTo (k n : Int) (t s : ByteArray) (hck : ckB k n t.data.toList = true) (hi : inI n) (he : s.data.toList = textL k n t.data.toList) (w : World) (hE : ErrV w) :
    Calls Tryd.prog 5 #[.string s] w fun e w' => e = .returned (.tuple #[.agg #[.int .i64 k, .int .i64 n, .string t], .bool true]) ∧ Below w.heap.size w w' :=
  (vParse_any s (by rw [Lib.size_eq, he]; have := text_len hck hi; omega) w hE).mono (fun e w' ⟨⟨k2, n2, t2, ok2, h1, _, _, ha⟩, hb⟩ => by
    obtain ⟨rfl, rfl, h3, rfl⟩ := ha k n t.data.toList hck hi he
    have h4 : t2 = t := ba_ext2 (by rw [Lib.toList_data, Lib.toList_data]; exact h3)
    rw [h4] at h1
    exact ⟨h1, hb⟩)
theorem bk_start (k n : Int) (s1 : ByteArray) (w : World) (hE : ErrV w) : Bk w w.heap.size k n s1 (w.alloc (.cells #[.int .i64 k, .int .i64 n, .string s1] 23)) :=
  ⟨(Below.refl _ _).alloc (Nat.le_refl _) _, by simp, heap_alloc_new _ _, hE.keep ((Below.refl _ _).alloc (Nat.le_refl _) _)⟩

set_option maxHeartbeats 1000000 in
set_option maxRecDepth 100000 in
theorem back_no (k n : Int) (s1 : ByteArray) (s : ByteArray) (hs1 : s1.size ≤ maxLen) (hmax : s.size ≤ 140737488355328) (hck : ckB k n s1.data.toList = false) (w : World) (hE : ErrV w) :
    Calls Tryd.prog 4 #[.agg #[.int .i64 k, .int .i64 n, .string s1], .string s] w fun e w' => e = .returned (.bool true) ∧ Below w.heap.size w w' := by
  have hC1 := fun w => r3Check_any k n s1 w hs1
  rw [ckI_no hck] at hC1
  have B0 := Lib.hid (bk_start k n s1 w hE)
  have HC1 := Lib.hid hC1; have HM := Lib.hid hmax
  clear hE hs1 hck hC1 hmax
  have hse : (s.toList == s.toList) = true := by simp
  go_enter Tryd.func4, Tryd.ntmps4
  go_wp2_with (first
      | (go_at_call 10; refine (HC1.out _).mono ?_; rintro e w1 ⟨rfl, hb⟩; have B1 := Lib.hid (B0.out.call hb); clear hb)
      | (go_at_call 5; refine (vParse_any s HM.out _ B1.out.err).mono ?_; rintro e w2 ⟨⟨k2, n2, t2, ok2, rfl, hi2, ha2, _⟩, hb⟩; have B2 := Lib.hid (B1.out.call hb); have HI2 := Lib.hid hi2; have HA2 := Lib.hid ha2; clear hb hi2 ha2; cases ok2)
      | (go_at_call 8; refine (vTextTo k2 n2 t2 s (HA2.out (by trivial)).1 HI2.out (HA2.out (by trivial)).2 _ (B2.out.alloc _).err).mono ?_; rintro e w3 ⟨rfl, hb⟩; have hw := (hb.block w2.heap.size (by simp)).trans (heap_alloc_new _ _); obtain ⟨u0, u1, u2⟩ := cell_of_three hw; have B3 := Lib.hid ((B2.out.alloc _).call hb); clear hb hw)
      | (go_at_call 11; refine (vCheckOk k2 n2 t2 (HA2.out (by trivial)).1 _).mono ?_; rintro e w4 ⟨rfl, hb⟩; have B4 := Lib.hid (B3.out.call hb); clear hb)
      | (go_at_call 7; refine (live_any _).mono ?_; rintro e w5 ⟨rfl, hb⟩; have B5 := Lib.hid (B4.out.call hb); clear hb)
      | (go_at_call 7; refine (live_any _).mono ?_; rintro e w5 ⟨rfl, hb⟩; have B5 := Lib.hid ((B2.out.alloc _).call hb); clear hb))
  all_goals go_ret
  all_goals exact ⟨rfl, B5.out.below⟩

set_option maxHeartbeats 1000000 in
set_option maxRecDepth 100000 in
theorem back_ok (k n : Int) (s1 : ByteArray) (s : ByteArray) (hn : inI n) (hmax : s.size ≤ 140737488355328) (hck : ckB k n s1.data.toList = true) (w : World) (hE : ErrV w) :
    Calls Tryd.prog 4 #[.agg #[.int .i64 k, .int .i64 n, .string s1], .string s] w fun e w' => e = .returned (.bool true) ∧ Below w.heap.size w w' := by
  have hC1 := fun w => r3Check_any k n s1 w (ck_size hck)
  rw [ckI_ok hck] at hC1
  have B0 := Lib.hid (bk_start k n s1 w hE)
  have HC1 := Lib.hid hC1; have HM := Lib.hid hmax
  obtain ⟨T, hT⟩ : ∃ T : ByteArray, T = ⟨(textL k n s1.data.toList).toArray⟩ := ⟨_, rfl⟩
  have hTl : T.data.toList = textL k n s1.data.toList := by rw [hT]
  have HX1 := Lib.hid (fun w hE => vTextTo k n s1 T hck hn hTl w hE)
  have HP1 := Lib.hid (fun w hE => vParseTo k n s1 T hck hn hTl w hE)
  have hne : ∀ w : World, (binOp .neq 23 (.agg #[.int .i64 k, .int .i64 n, .string s1]) (.agg #[.int .i64 k, .int .i64 n, .string s1])).run Tryd.prog w = .ok (.bool false) w := fun w => by rw [vNe_run, vEq_iff.2 ⟨rfl, rfl, rfl⟩]; rfl
  have hgd := fun (op : BinOp) (x y : Operand) (w : World) => vGuard op x y k n s1 k n s1 w
  have HNE := Lib.hid hne; have HGD := Lib.hid hgd
  clear hE hck hC1 hmax hT hTl hn hne hgd
  have hse : (s.toList == s.toList) = true := by simp
  go_enter Tryd.func4, Tryd.ntmps4
  go_wp2_with (first
      | (go_at_call 10; refine (HC1.out _).mono ?_; rintro e w1 ⟨rfl, hb⟩; have B1 := Lib.hid (B0.out.call hb); obtain ⟨v0, v1, v2⟩ := cell_of_three B1.out.box; clear hb)
      | (go_at_call 8; refine (HX1.out _ B1.out.err).mono ?_; rintro e w6 ⟨rfl, hb⟩; have B6 := Lib.hid (B1.out.call hb); clear hb v0 v1 v2))
  refine (HP1.out _ B6.out.err).mono ?_
  rintro e w7 ⟨rfl, hb⟩
  have B7 := Lib.hid (B6.out.call hb)
  clear hb
  simp only []
  rename ∀ (a : Act) (w : World), Code.wp _ _ _ a w → _ => hk
  have HK := Lib.hid hk
  clear hk
  go_wp2_with fail
  refine HK.out _ _ ?_
  have B8 := Lib.hid (B7.out.alloc (.cells #[.int .i64 k, .int .i64 n, .string s1] 23))
  have hw : (w7.alloc (.cells #[.int .i64 k, .int .i64 n, .string s1] 23)).heap[w7.heap.size]? = some (.cells #[.int .i64 k, .int .i64 n, .string s1] 23 (0, 0)) := heap_alloc_new _ _
  have hv := B8.out.box
  have hs8 : w7.heap.size < (w7.alloc (.cells #[.int .i64 k, .int .i64 n, .string s1] 23)).heap.size := by simp
  generalize w7.alloc (.cells #[.int .i64 k, .int .i64 n, .string s1] 23) = W8 at hw hv hs8 B8 ⊢
  obtain ⟨v0, v1, v2⟩ := cell_of_three hv
  obtain ⟨u0, u1, u2⟩ := cell_of_three hw
  clear hw hv
  have hne := HNE.out; have hgd := HGD.out
  go_wp2_with fail
  clear hne hgd v0 v1 v2 u0 u1 u2
  go_wp2_with (first
      | (go_at_call 5; refine (vParse_any s HM.out _ B8.out.err).mono ?_; rintro e w2 ⟨⟨k2, n2, t2, ok2, rfl, hi2, ha2, _⟩, hb⟩; have B2 := Lib.hid (B8.out.call hb); have HI2 := Lib.hid hi2; have HA2 := Lib.hid ha2; clear hb hi2 ha2; cases ok2)
      | (go_at_call 8; refine (vTextTo k2 n2 t2 s (HA2.out (by trivial)).1 HI2.out (HA2.out (by trivial)).2 _ (B2.out.alloc _).err).mono ?_; rintro e w3 ⟨rfl, hb⟩; have hw := (hb.block w2.heap.size (by simp)).trans (heap_alloc_new _ _); obtain ⟨u0, u1, u2⟩ := cell_of_three hw; have B3 := Lib.hid ((B2.out.alloc _).call hb); clear hb hw)
      | (go_at_call 11; refine (vCheckOk k2 n2 t2 (HA2.out (by trivial)).1 _).mono ?_; rintro e w4 ⟨rfl, hb⟩; have B4 := Lib.hid (B3.out.call hb); clear hb)
      | (go_at_call 7; refine (live_any _).mono ?_; rintro e w5 ⟨rfl, hb⟩; have B5 := Lib.hid (B4.out.call hb); clear hb)
      | (go_at_call 7; refine (live_any _).mono ?_; rintro e w5 ⟨rfl, hb⟩; have B5 := Lib.hid ((B2.out.alloc _).call hb); clear hb))
  all_goals go_ret
  all_goals exact ⟨rfl, B5.out.below⟩
theorem back_walk (k n : Int) (s1 : ByteArray) (s : ByteArray) (hn : inI n) (hs1 : s1.size ≤ maxLen) (hmax : s.size ≤ 140737488355328) (w : World) (hE : ErrV w) :
    Calls Tryd.prog 4 #[.agg #[.int .i64 k, .int .i64 n, .string s1], .string s] w fun e w' => e = .returned (.bool true) ∧ Below w.heap.size w w' := by
  cases hck : ckB k n s1.data.toList with
  | false => exact back_no k n s1 s hs1 hmax hck w hE
  | true => exact back_ok k n s1 s hn hmax hck w hE
end Go.Proofs.YthmdnlcinlmjkaaDoor
