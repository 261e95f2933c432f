/- The walk of ValueHolds. -/
import Derived.Test.YtjllcbgokoacaaaDoorVx
namespace Go.Proofs.YtjllcbgokoacaaaDoor
open Go Go.RowKit

set_option maxRecDepth 100000 in
set_option maxHeartbeats 3200000 in
theorem holds_walk (rel k1 n1 : Int) (s1 : ByteArray) (k2 n2 : Int) (s2 : ByteArray) (w : World) :
    Calls Tryd.prog 4 #[.int .i64 rel, .agg #[.int .i64 k1, .int .i64 n1, .string s1], .agg #[.int .i64 k2, .int .i64 n2, .string s2]] w fun e w' => e = .returned (.bool true) ∧ Below w.heap.size w w' := by
  obtain ⟨P, hP⟩ : ∃ P, P = w.heap.size := ⟨_, rfl⟩
  obtain ⟨W, hW⟩ : ∃ W, W = (w.alloc (.cells #[.int .i64 k1, .int .i64 n1, .string s1] 23)).alloc (.cells #[.int .i64 k2, .int .i64 n2, .string s2] 23) := ⟨_, rfl⟩
  have HB : Hid (Vx w P [vcs k1 n1 s1, vcs k2 n2 s2] W) := by
    rw [hW, hP]; exact ((Vx.start w).box (by simp) _).box (by simp) _
  have HW := Lib.hid hW; have HP := Lib.hid hP
  obtain ⟨c0, c1, c2⟩ := HB.out.c0
  obtain ⟨d0, d1, d2⟩ := HB.out.c1
  have C1 := fun w => vCompare_any k1 n1 s1 k2 n2 s2 w
  have C2 := fun w => r3Compare_any k1 n1 s1 k2 n2 s2 w
  unfold cmpT at C1 C2
  have C3 := fun w => vHolds_any rel k1 n1 s1 k2 n2 s2 w
  have C4 := fun w => r3Holds_any rel k1 n1 s1 k2 n2 s2 w
  have C5 := fun w => vSwap_any rel w
  have C6 := fun w => r3Swap_any rel w
  have C7 := fun w => vNot_any rel w
  have C8 := fun w => r3Not_any rel w
  generalize holdsB rel k1 n1 s1.data.toList k2 n2 s2.data.toList = bh at C3 C4
  generalize swapI rel = r1 at C5 C6
  generalize notI rel = r2 at C7 C8
  generalize cmpV k1 n1 s1.data.toList k2 n2 s2.data.toList = c at C1 C2
  generalize cmpB k1 k2 = cb at C1 C2
  have HC1 := Lib.hid C1; have HC2 := Lib.hid C2; have HC3 := Lib.hid C3; have HC4 := Lib.hid C4; have HC5 := Lib.hid C5; have HC6 := Lib.hid C6; have HC7 := Lib.hid C7; have HC8 := Lib.hid C8
  rw [← hP]
  clear hP hW C1 C2 C3 C4 C5 C6 C7 C8
  go_enter Tryd.func4, Tryd.ntmps4
  go_wp2_with fail
  rw [← HW.out, ← HP.out]
  go_wp2_with (go_at_call 21; (with_reducible refine (HC1.out _).mono ?_); rintro e w1 ⟨rfl, hb⟩; have HB := Lib.hid (HB.out.call hb); clear hb c0 c1 c2 d0 d1 d2; obtain ⟨c0, c1, c2⟩ := HB.out.c0; obtain ⟨d0, d1, d2⟩ := HB.out.c1)
  go_wp2_with (go_at_call 22; (with_reducible refine (HC2.out _).mono ?_); rintro e w2 ⟨rfl, hb⟩; have HB := Lib.hid (HB.out.call hb); clear hb c0 c1 c2 d0 d1 d2; obtain ⟨c0, c1, c2⟩ := HB.out.c0; obtain ⟨d0, d1, d2⟩ := HB.out.c1)
  have b1 : (c == c) = true := by simp
  have b2 : (cb == cb) = true := by simp
  have b3 : (bh == bh) = true := by simp
  have b4 : (r1 == r1) = true := by simp
  have b5 : (r2 == r2) = true := by simp
  go_region_held3 (fun w' => w'.cell? ⟨P, 0, none⟩ = some (.int .i64 k1) ∧ w'.cell? ⟨P, 1, none⟩ = some (.int .i64 n1) ∧ w'.cell? ⟨P, 2, none⟩ = some (.string s1) ∧ w'.cell? ⟨P + 1, 0, none⟩ = some (.int .i64 k2) ∧ w'.cell? ⟨P + 1, 1, none⟩ = some (.int .i64 n2) ∧ w'.cell? ⟨P + 1, 2, none⟩ = some (.string s2)) (first | exact ⟨c0, c1, c2, d0, d1, d2⟩ | go_keep)
    (first
      | (go_at_call 13; (with_reducible refine (live_any _).mono ?_); rintro e w3 ⟨rfl, hb⟩; have HB := Lib.hid (HB.out.drew.call hb); clear hb c0 c1 c2 d0 d1 d2; obtain ⟨c0, c1, c2⟩ := HB.out.c0; obtain ⟨d0, d1, d2⟩ := HB.out.c1)
      | (go_at_call 23; (with_reducible refine (HC3.out _).mono ?_); rintro e w4 ⟨rfl, hb⟩; have HB := Lib.hid (HB.out.call hb); clear hb c0 c1 c2 d0 d1 d2; obtain ⟨c0, c1, c2⟩ := HB.out.c0; obtain ⟨d0, d1, d2⟩ := HB.out.c1)
      | (go_at_call 24; (with_reducible refine (HC4.out _).mono ?_); rintro e w5 ⟨rfl, hb⟩; have HB := Lib.hid (HB.out.call hb); clear hb c0 c1 c2 d0 d1 d2; obtain ⟨c0, c1, c2⟩ := HB.out.c0; obtain ⟨d0, d1, d2⟩ := HB.out.c1)
      | (go_at_call 25; (with_reducible refine (HC5.out _).mono ?_); rintro e w6 ⟨rfl, rfl⟩)
      | (go_at_call 26; (with_reducible refine (HC6.out _).mono ?_); rintro e w6 ⟨rfl, rfl⟩)
      | (go_at_call 27; (with_reducible refine (HC7.out _).mono ?_); rintro e w6 ⟨rfl, rfl⟩)
      | (go_at_call 28; (with_reducible refine (HC8.out _).mono ?_); rintro e w6 ⟨rfl, rfl⟩))
  all_goals go_wp2
  all_goals go_ret
  all_goals exact ⟨rfl, HB.out.below⟩
end Go.Proofs.YtjllcbgokoacaaaDoor
