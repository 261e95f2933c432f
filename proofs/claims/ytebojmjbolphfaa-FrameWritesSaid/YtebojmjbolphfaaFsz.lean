/- Contract: Size of the program: how many bytes Encode gives. -/
import Derived.Test.YtebojmjbolphfaaFen2
import Derived.Deep.QuietTactic
import Derived.BigQuiet
namespace Go.Proofs.Ytebojmjbolphfaa
open Go Go.RowKit Crc

theorem formN_length_data (F T S A : Nat) (x : List Nat) : (formN F T 1 S A x).length = (13 + 2 * ahd A + 2 * ahd S + 2 * ahd x.length + 8 * x.length + 7) / 8 + 4 := by
  unfold formN headN formBits
  rw [if_pos rfl, sealed_length, packed_length, dataBits_length]
theorem formN_length_ack (F T S A : Nat) (x : List Nat) : (formN F T 2 S A x).length = (11 + 2 * ahd A + 7) / 8 + 4 := by
  unfold formN headN formBits
  rw [if_neg (by decide), sealed_length, packed_length, headBits_length]
theorem Size_quiet (u : Nat) (hu : u < 2 ^ 64) (w : World) : Calls Try.prog 35 #[.int .u64 (u : Int)] w fun e w' => e = .returned (.int .i64 (2 * (ahd u : Int) + 1)) ∧ w' = w :=
  (Size_any u hu w).mono fun _ _ ⟨h, k⟩ => ⟨h, k.symm⟩
theorem below_drewN {B : Nat} {a w : World} (h : Below B a w) (n : Nat) : Below B a (w.drewN n) := ⟨h.os, h.tape, h.output, h.size, h.block⟩
theorem ret_i64 {a b : Int} (h : a = b) : Ending.returned (.int .i64 a) = .returned (.int .i64 b) := by rw [h]

set_option maxRecDepth 100000 in
set_option maxHeartbeats 1600000 in
theorem fSize_no (f t k s a : Int) (ao : Option Addr) (n cap : Nat) (w : World) (hn : n ≤ 140737488355328) (hc : ckB f t k s a n = false) :
    Calls Try.prog 19 #[.agg #[.int .i64 f, .int .i64 t, .int .i64 k, .int .i64 s, .int .i64 a, .slice ao n cap]] w
      fun e w' => e = .returned (.int .i64 0) ∧ Below w.heap.size w w' := by
  have C := fCheck_any f t k s a ao n cap (w.alloc (.cells #[.int .i64 f, .int .i64 t, .int .i64 k, .int .i64 s, .int .i64 a, .slice ao n cap] 24)) hn
  rw [ckErr_no hc] at C
  have HB := hide ((Below.refl w.heap.size w).alloc (Nat.le_refl _) (.cells #[.int .i64 f, .int .i64 t, .int .i64 k, .int .i64 s, .int .i64 a, .slice ao n cap] 24))
  clear hc hn
  go_enter Try.func19, Try.ntmps19
  go_wp2_with fail
  refine C.mono ?_
  clear C
  rintro e w1 ⟨rfl, hb⟩
  have HB1 := hide (HB.out.trans (hb.mono (by simp))); clear hb
  go_wp2
  go_ret
  exact ⟨rfl, HB1.out⟩

set_option maxRecDepth 100000 in
set_option maxHeartbeats 1600000 in
theorem fSize_ack (F T S A : Nat) (ao : Option Addr) (n cap : Nat) (x : List Nat) (w : World) (hc : ckB F T 2 S A n = true) (hA : A ≤ 1099511627776) (hn : n ≤ 16384) :
    Calls Try.prog 19 #[.agg #[.int .i64 (F : Int), .int .i64 (T : Int), .int .i64 2, .int .i64 (S : Int), .int .i64 (A : Int), .slice ao n cap]] w
      fun e w' => e = .returned (.int .i64 (((formN F T 2 S A x).length : Nat) : Int)) ∧ Below w.heap.size w w' := by
  obtain ⟨W, hW⟩ : ∃ W, W = w.alloc (.cells #[.int .i64 (F : Int), .int .i64 (T : Int), .int .i64 2, .int .i64 (S : Int), .int .i64 (A : Int), .slice ao n cap] 24) := ⟨_, rfl⟩
  have C := fCheck_any F T 2 S A ao n cap W (by omega)
  rw [ckErr_ok hc] at C
  have HB0 := hide (by rw [hW]; exact (Below.refl _ w).alloc (Nat.le_refl _) _ : Below w.heap.size w W)
  have HP0 := hide (by rw [hW]; exact heap_alloc_new w _ : W.heap[w.heap.size]? = some (.cells #[.int .i64 (F : Int), .int .i64 (T : Int), .int .i64 2, .int .i64 (S : Int), .int .i64 (A : Int), .slice ao n cap] 24 (0, 0)))
  have HszW := hide (by rw [hW]; simp : w.heap.size < W.heap.size)
  have HW := hide hW
  have HL := hide (formN_length_ack F T S A x)
  have CA := Size_any A (by omega)
  have hah := ahd_small A hA
  obtain ⟨aA, haA⟩ : ∃ aA, aA = ahd A := ⟨_, rfl⟩
  rw [← haA] at hah CA HL
  clear hc hn hW haA
  go_enter Try.func19, Try.ntmps19
  go_wp2_with fail
  rw [← HW.out]
  refine C.mono ?_
  clear C
  rintro e w1 ⟨rfl, b1⟩
  obtain ⟨c0, c1, c2, c3, c4, c5⟩ := cell_of_six ((b1.block w.heap.size HszW.out).trans HP0.out)
  have HB1 := hide (HB0.out.trans (b1.mono (Nat.le_of_lt HszW.out)))
  clear b1
  go_wp2_with fail
  refine (CA _).mono ?_
  clear CA
  rintro e w' ⟨rfl, rfl⟩
  go_wp2
  go_ret
  exact ⟨ret_i64 (by rw [HL.out]; omega), HB1.out⟩

set_option maxRecDepth 100000 in
set_option maxHeartbeats 1600000 in
theorem fSize_data (F T S A : Nat) (ao : Option Addr) (n cap : Nat) (x : List Nat) (w : World) (hc : ckB F T 1 S A n = true) (hS : S ≤ 1099511627776) (hA : A ≤ 1099511627776) (hn : n ≤ 16384) (hx : n = x.length) :
    Calls Try.prog 19 #[.agg #[.int .i64 (F : Int), .int .i64 (T : Int), .int .i64 1, .int .i64 (S : Int), .int .i64 (A : Int), .slice ao n cap]] w
      fun e w' => e = .returned (.int .i64 (((formN F T 1 S A x).length : Nat) : Int)) ∧ Below w.heap.size w w' := by
  obtain ⟨W, hW⟩ : ∃ W, W = w.alloc (.cells #[.int .i64 (F : Int), .int .i64 (T : Int), .int .i64 1, .int .i64 (S : Int), .int .i64 (A : Int), .slice ao n cap] 24) := ⟨_, rfl⟩
  have C := fCheck_any F T 1 S A ao n cap W (by omega)
  rw [ckErr_ok hc] at C
  have HB0 := hide (by rw [hW]; exact (Below.refl _ w).alloc (Nat.le_refl _) _ : Below w.heap.size w W)
  have HP0 := hide (by rw [hW]; exact heap_alloc_new w _ : W.heap[w.heap.size]? = some (.cells #[.int .i64 (F : Int), .int .i64 (T : Int), .int .i64 1, .int .i64 (S : Int), .int .i64 (A : Int), .slice ao n cap] 24 (0, 0)))
  have HszW := hide (by rw [hW]; simp : w.heap.size < W.heap.size)
  have HW := hide hW
  have hl := formN_length_data F T S A x
  rw [← hx] at hl
  have CA := Size_any A (by omega)
  have CS := Size_quiet S (by omega)
  have CN := Size_quiet n (by omega)
  have hah := ahd_small A hA
  have hsh := ahd_small S hS
  have hnh := ahd_body n hn
  obtain ⟨aA, haA⟩ : ∃ aA, aA = ahd A := ⟨_, rfl⟩
  obtain ⟨aS, haS⟩ : ∃ aS, aS = ahd S := ⟨_, rfl⟩
  obtain ⟨aN, haN⟩ : ∃ aN, aN = ahd n := ⟨_, rfl⟩
  rw [← haA] at hah CA; rw [← haS] at hsh CS; rw [← haN] at hnh CN
  rw [← haA, ← haS, ← haN] at hl
  have HL := hide hl
  have e1 : IntKind.u64.wrap (S : Int) = S := by rw [IntKind.wrap_u64]; omega
  have e2 : IntKind.u64.wrap (n : Int) = n := by rw [IntKind.wrap_u64]; omega
  have e3 : IntKind.i64.wrap (2 * (aS : Int) + 1 + (2 * (aN : Int) + 1)) = 2 * (aS : Int) + 1 + (2 * (aN : Int) + 1) := IntWalk.i64_in _ (by omega)
  have e4 : IntKind.i64.wrap (8 * (n : Int)) = 8 * (n : Int) := IntWalk.i64_in _ (by omega)
  have e5 : IntKind.i64.wrap (2 * (aS : Int) + 1 + (2 * (aN : Int) + 1) + 8 * (n : Int)) = 2 * (aS : Int) + 1 + (2 * (aN : Int) + 1) + 8 * (n : Int) := IntWalk.i64_in _ (by omega)
  have e6 : IntKind.i64.wrap (10 + (2 * (aA : Int) + 1) + (2 * (aS : Int) + 1 + (2 * (aN : Int) + 1) + 8 * (n : Int))) = 10 + (2 * (aA : Int) + 1) + (2 * (aS : Int) + 1 + (2 * (aN : Int) + 1) + 8 * (n : Int)) := IntWalk.i64_in _ (by omega)
  have E1 := hide e1; have E2 := hide e2; have E3 := hide e3; have E4 := hide e4; have E5 := hide e5; have E6 := hide e6
  clear hc hx hl hW haA haS haN e1 e2 e3 e4 e5 e6
  go_enter Try.func19, Try.ntmps19
  go_wp2_with fail
  rw [← HW.out]
  refine C.mono ?_
  clear C
  rintro e w1 ⟨rfl, b1⟩
  obtain ⟨c0, c1, c2, c3, c4, c5⟩ := cell_of_six ((b1.block w.heap.size HszW.out).trans HP0.out)
  have HB1 := hide (HB0.out.trans (b1.mono (Nat.le_of_lt HszW.out)))
  clear b1
  go_wp2_with fail
  refine (CA _).mono ?_
  clear CA
  rintro e w' ⟨rfl, rfl⟩
  go_wp2_with fail
  have e1 := E1.out; have e2 := E2.out; have e3 := E3.out; have e4 := E4.out; have e5 := E5.out; have e6 := E6.out
  go_quiet ((go_at_call 35; first | exact Calls.quiet_of_same (CS _) | exact Calls.quiet_of_same (CN _)))
  clear e1 e2 e3 e4 e5 e6
  go_wp2
  go_ret
  exact ⟨ret_i64 (by rw [HL.out]; omega), below_drewN HB1.out _⟩

theorem fSize_any (f t k s a : Int) (ao : Option Addr) (n cap B : Nat) (x : List Nat) (w : World) (hx : Bv w B (.slice ao n cap) x) :
    Calls Try.prog 19 #[.agg #[.int .i64 f, .int .i64 t, .int .i64 k, .int .i64 s, .int .i64 a, .slice ao n cap]] w
      fun e w' => e = .returned (.int .i64 (((encN f t k s a x).length : Nat) : Int)) ∧ Below w.heap.size w w' := by
  have hn := hx.bytesIn.1
  cases hc : ckB f t k s a n with
  | false =>
    rw [encN_no (by rw [← hn]; exact hc)]
    exact fSize_no f t k s a ao n cap w (by have := hx.len; omega) hc
  | true =>
    obtain ⟨F, T, K, S, A, rfl, rfl, rfl, rfl, rfl, hF, hT, _, hK, hS, hA, hn2, _⟩ := ck_nat hc
    rw [encN_ok (by rw [← hn]; exact hc)]
    rcases hK with rfl | rfl
    · exact fSize_data F T S A ao n cap x w hc hS hA hn2 hn
    · exact fSize_ack F T S A ao n cap x w hc hA hn2
end Go.Proofs.Ytebojmjbolphfaa
