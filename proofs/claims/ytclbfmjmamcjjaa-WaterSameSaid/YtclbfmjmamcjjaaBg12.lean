/- Contract: begun answers true. The walk of WaterLets. -/
import Derived.Test.YtclbfmjmamcjjaaWc
import Derived.Test.YtclbfmjmamcjjaaAr12
namespace Go.Proofs.Ytclbfmjmamcjjaa
open Go Go.RowKit

theorem Below.drewN' {B : Nat} {a w : World} (h : Below B a w) (n : Nat) : Below B a (w.drewN n) := ⟨h.os, h.tape, h.output, h.size, h.block⟩
theorem bA0 : mkErr [0, 0] 0 9 = 0 := by decide +kernel
theorem bA1 : mkL [0, 0] 0 9 = [9, 0] := by decide +kernel
theorem bA2 : decide (minI [0, 0] < minI [9, 0]) = false := by decide +kernel
theorem bB0 : mkErr [9, 0] 1 4 = 0 := by decide +kernel
theorem bB1 : mkL [9, 0] 1 4 = [9, 4] := by decide +kernel
theorem bB2 : decide (minI [9, 0] < minI [9, 4]) = true := by decide +kernel
theorem bC0 : minI [9, 4] = 4 := by decide +kernel
theorem bC1 : horI 4 3 = 1 := by decide +kernel
theorem bD0 : decide (3 < atI [9, 4] 1) = true := by decide +kernel
theorem bD1 : decide (4 < atI [9, 4] 1) = false := by decide +kernel
set_option maxRecDepth 100000 in
set_option maxHeartbeats 3200000 in
theorem begun12_any (w : World) : Calls Try.prog 11 #[] w fun e w' => e = .returned (.bool true) ∧ Below w.heap.size w w' := by
  have C0 := wNew_ok 2 (by decide) (by decide) w
  obtain ⟨q, hq⟩ : ∃ q, q = w.heap.size := ⟨_, rfl⟩
  have HQ := Lib.hid hq
  rw [← hq] at C0 ⊢
  rw [show List.replicate 2 (0 : Int) = [0, 0] from rfl] at C0
  have HC1 := Lib.hid (fun u (h : WtIs u q [0, 0]) => wMark_any q [0, 0] 0 9 u h)
  have HC2 := Lib.hid (fun u (h : WtIs u q [9, 0]) => wMark_any q [9, 0] 1 4 u h)
  have HC3 := Lib.hid (fun u (h : WtIs u q [9, 4]) => wMerged_any q [9, 4] u h)
  have HC4 := Lib.hid (fun u (h : WtIs u q [9, 4]) => wHorizon_any (.pointer (some ⟨q, 0, none⟩)) 4 3 u (by decide) (by decide) (by have := wMerged_any q [9, 4] u h; rwa [bC0] at this))
  have HC5 := Lib.hid (fun u (h : WtIs u q [9, 4]) => wLate_any q [9, 4] 1 3 u h)
  have HC6 := Lib.hid (fun u (h : WtIs u q [9, 4]) => wLate_any q [9, 4] 1 4 u h)
  rw [bA0, bA1, bA2] at HC1
  rw [bB0, bB1, bB2] at HC2
  rw [bC0] at HC3
  rw [bC1] at HC4
  rw [bD0] at HC5
  rw [bD1] at HC6
  have HC0 := Lib.hid C0
  clear C0 hq
  go_enter Try.func11, Try.ntmps11
  go_wp2_with fail
  refine HC0.out.mono ?_
  rintro e w1 ⟨rfl, h1, b1⟩
  have H1 := Lib.hid h1; have B1 := Lib.hid b1
  clear h1 b1
  go_wp2_with fail
  (with_reducible refine (HC1.out _ H1.out).mono ?_)
  rintro e w2 ⟨rfl, h2, c2⟩
  have H2 := Lib.hid h2
  have B2 := Lib.hid (B1.out.trans (c2.below (by have := B1.out.size; have := HQ.out; omega) (fun k hk => by rw [hk]; exact Nat.le_refl _)))
  clear h2 c2
  go_wp2_with fail
  (with_reducible refine (HC2.out _ H2.out).mono ?_)
  rintro e w3 ⟨rfl, h3, c3⟩
  have H3 := Lib.hid h3
  have B3 := Lib.hid (B2.out.trans (c3.below (by have := B2.out.size; have := HQ.out; omega) (fun k hk => by rw [hk]; exact Nat.le_refl _)))
  clear h3 c3
  go_wp2_with (first
    | (go_at_call 18; (with_reducible refine (QC.one (HC3.out _ H3.out)).mono ?_); rintro e w1 ⟨rfl, n1, rfl⟩)
    | (go_at_call 19; (with_reducible refine (QC.one (HC4.out _ (H3.out.drewN n1))).mono ?_); rintro e w1 ⟨rfl, n2, rfl⟩)
    | (go_at_call 20; (with_reducible refine (HC5.out _ (H3.out.drewN _)).mono ?_); rintro e w1 ⟨rfl, rfl⟩)
    | (go_at_call 20; (with_reducible refine (HC6.out _ (H3.out.drewN _)).mono ?_); rintro e w1 ⟨rfl, rfl⟩))
  go_ret
  exact ⟨rfl, Below.drewN' B3.out _⟩
end Go.Proofs.Ytclbfmjmamcjjaa
