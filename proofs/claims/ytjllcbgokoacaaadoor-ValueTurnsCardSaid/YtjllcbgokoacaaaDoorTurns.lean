/- The walk of ValueTurns. -/
import Derived.Test.YtjllcbgokoacaaaDoorVx
namespace Go.Proofs.YtjllcbgokoacaaaDoor
open Go Go.RowKit

set_option maxRecDepth 100000 in
set_option maxHeartbeats 3200000 in
theorem turns_walk (rel k1 n1 : Int) (s1 : ByteArray) (k2 n2 : Int) (s2 : ByteArray) (w : World) :
    Calls Tryd.prog 9 #[.int .i64 rel, .agg #[.int .i64 k1, .int .i64 n1, .string s1], .agg #[.int .i64 k2, .int .i64 n2, .string s2]] w fun e w' => e = .returned (.bool true) ∧ Below w.heap.size w w' := by
  obtain ⟨P, hP⟩ : ∃ P, P = w.heap.size := ⟨_, rfl⟩
  obtain ⟨W, hW⟩ : ∃ W, W = (w.alloc (.cells #[.int .i64 k1, .int .i64 n1, .string s1] 23)).alloc (.cells #[.int .i64 k2, .int .i64 n2, .string s2] 23) := ⟨_, rfl⟩
  have HB : Hid (Vx w P [vcs k1 n1 s1, vcs k2 n2 s2] W) := by
    rw [hW, hP]; exact ((Vx.start w).box (by simp) _).box (by simp) _
  have HW := Lib.hid hW; have HP := Lib.hid hP
  obtain ⟨c0, c1, c2⟩ := HB.out.c0
  obtain ⟨d0, d1, d2⟩ := HB.out.c1
  have C1 := fun w => vCompare_any k1 n1 s1 k2 n2 s2 w
  unfold cmpT at C1
  have C2 := fun w => vHolds_any rel k1 n1 s1 k2 n2 s2 w
  have C3 := fun w => vHolds_any (swapI rel) k2 n2 s2 k1 n1 s1 w
  have C4 := fun w => vHolds_any (notI rel) k1 n1 s1 k2 n2 s2 w
  have S1 := fun w => vSwap_any rel w
  have S2 := fun w => vSwap_any (swapI rel) w
  have S3 := fun w => vSwap_any (swapI (swapI rel)) w
  have S4 := fun w => vSwap_any (swapI (swapI (swapI rel))) w
  have N1 := fun w => vNot_any rel w
  simp only [holdsB_swap] at C3
  simp only [← swap_four] at S4
  have hnot : 1 ≤ rel → rel ≤ 6 → cmpB k1 k2 = true → holdsB (notI rel) k1 n1 s1.data.toList k2 n2 s2.data.toList = !holdsB rel k1 n1 s1.data.toList k2 n2 s2.data.toList := fun a b c => holdsB_not _ _ _ _ _ _ _ a b c
  generalize swapI (swapI (swapI rel)) = r3 at S3 S4
  generalize swapI (swapI rel) = r2 at S2 S3 S4
  generalize swapI rel = r1 at C3 S1 S2
  generalize holdsB rel k1 n1 s1.data.toList k2 n2 s2.data.toList = bh at C2 C3 hnot
  generalize holdsB (notI rel) k1 n1 s1.data.toList k2 n2 s2.data.toList = hn at C4 hnot
  generalize notI rel = r4 at C4 N1
  generalize cmpV k1 n1 s1.data.toList k2 n2 s2.data.toList = c at C1
  generalize cmpB k1 k2 = cb at C1 hnot
  have HC1 := Lib.hid C1; have HC2 := Lib.hid C2; have HC3 := Lib.hid C3; have HC4 := Lib.hid C4; have HS1 := Lib.hid S1; have HS2 := Lib.hid S2; have HS3 := Lib.hid S3; have HS4 := Lib.hid S4; have HN1 := Lib.hid N1; have HNOT := Lib.hid hnot
  rw [← hP]
  clear hP hW C1 C2 C3 C4 S1 S2 S3 S4 N1 hnot
  go_enter Tryd.func9, Tryd.ntmps9
  go_wp2_with fail
  rw [← HW.out, ← HP.out]
  go_wp2_with (go_at_call 21; (with_reducible refine (HC1.out _).mono ?_); rintro e w1 ⟨rfl, hb⟩; have HB := Lib.hid (HB.out.call hb); clear hb c0 c1 c2 d0 d1 d2; obtain ⟨c0, c1, c2⟩ := HB.out.c0; obtain ⟨d0, d1, d2⟩ := HB.out.c1)
  go_wp2_with (go_at_call 23; (with_reducible refine (HC2.out _).mono ?_); rintro e w2 ⟨rfl, hb⟩; have HB := Lib.hid (HB.out.call hb); clear hb c0 c1 c2 d0 d1 d2; obtain ⟨c0, c1, c2⟩ := HB.out.c0; obtain ⟨d0, d1, d2⟩ := HB.out.c1)
  have bne : (bh == bh) = true := by simp
  have bre : (r2 == r2) = true := by simp
  go_region_held3 (fun w' => w'.cell? ⟨P, 0, none⟩ = some (.int .i64 k1) ∧ w'.cell? ⟨P, 1, none⟩ = some (.int .i64 n1) ∧ w'.cell? ⟨P, 2, none⟩ = some (.string s1) ∧ w'.cell? ⟨P + 1, 0, none⟩ = some (.int .i64 k2) ∧ w'.cell? ⟨P + 1, 1, none⟩ = some (.int .i64 n2) ∧ w'.cell? ⟨P + 1, 2, none⟩ = some (.string s2)) (first | exact ⟨c0, c1, c2, d0, d1, d2⟩ | go_keep) (first
      | (go_at_call 13; (with_reducible refine (live_any _).mono ?_); rintro e w3 ⟨rfl, hb⟩; have HB := Lib.hid (HB.out.drew.call hb); clear hb c0 c1 c2 d0 d1 d2; obtain ⟨c0, c1, c2⟩ := HB.out.c0; obtain ⟨d0, d1, d2⟩ := HB.out.c1)
      | (go_at_call 23; (with_reducible refine (HC3.out _).mono ?_); rintro e w4 ⟨rfl, hb⟩; have HB := Lib.hid (HB.out.call hb); clear hb c0 c1 c2 d0 d1 d2; obtain ⟨c0, c1, c2⟩ := HB.out.c0; obtain ⟨d0, d1, d2⟩ := HB.out.c1)
      | (go_at_call 25; (with_reducible refine (HS1.out _).mono ?_); rintro e w5 ⟨rfl, rfl⟩)
      | (go_at_call 25; (with_reducible refine (HS2.out _).mono ?_); rintro e w5 ⟨rfl, rfl⟩)
      | (go_at_call 25; (with_reducible refine (HS3.out _).mono ?_); rintro e w5 ⟨rfl, rfl⟩)
      | (go_at_call 25; (with_reducible refine (HS4.out _).mono ?_); rintro e w5 ⟨rfl, rfl⟩))
  all_goals go_wp2_with fail
  cases cb with
  | false =>
    go_quiet (fail)
    go_wp2
    go_ret
    refine ⟨rfl, ?_⟩
    have := HB.out.below
    exact ⟨this.os, this.tape, this.output, this.size, this.block⟩
  | true =>
    by_cases h1 : rel < 1
    · go_quiet (fail)
      go_wp2
      go_ret
      refine ⟨rfl, ?_⟩
      have := HB.out.below
      exact ⟨this.os, this.tape, this.output, this.size, this.block⟩
    · by_cases h6 : 6 < rel
      · go_quiet (fail)
        go_wp2
        go_ret
        refine ⟨rfl, ?_⟩
        have := HB.out.below
        exact ⟨this.os, this.tape, this.output, this.size, this.block⟩
      · have hn2 := HNOT.out (by omega) (by omega) rfl
        subst hn2
        have bnn : ((!bh) == (!bh)) = true := by simp
        go_region_held3 (fun w' => w'.cell? ⟨P, 0, none⟩ = some (.int .i64 k1) ∧ w'.cell? ⟨P, 1, none⟩ = some (.int .i64 n1) ∧ w'.cell? ⟨P, 2, none⟩ = some (.string s1) ∧ w'.cell? ⟨P + 1, 0, none⟩ = some (.int .i64 k2) ∧ w'.cell? ⟨P + 1, 1, none⟩ = some (.int .i64 n2) ∧ w'.cell? ⟨P + 1, 2, none⟩ = some (.string s2)) (first | exact ⟨c0, c1, c2, d0, d1, d2⟩ | go_keep)
          (first
            | (go_at_call 27; (with_reducible refine (HN1.out _).mono ?_); rintro e w5 ⟨rfl, rfl⟩)
            | (go_at_call 23; (with_reducible refine (HC4.out _).mono ?_); rintro e w6 ⟨rfl, hb⟩; have HB := Lib.hid (HB.out.drew.call hb); clear hb c0 c1 c2 d0 d1 d2; obtain ⟨c0, c1, c2⟩ := HB.out.c0; obtain ⟨d0, d1, d2⟩ := HB.out.c1))
        all_goals go_wp2
        all_goals go_ret
        all_goals exact ⟨rfl, HB.out.below⟩
end Go.Proofs.YtjllcbgokoacaaaDoor
