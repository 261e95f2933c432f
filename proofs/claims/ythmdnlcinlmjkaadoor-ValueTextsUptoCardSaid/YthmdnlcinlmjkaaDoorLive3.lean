/- Contracts: a string's text, and that the program answers what the document fixes. -/
import Derived.Test.YthmdnlcinlmjkaaDoorQu
import Derived.Test.YthmdnlcinlmjkaaDoorVn
namespace Go.Proofs.YthmdnlcinlmjkaaDoor
open Go Go.RowKit

set_option maxHeartbeats 1000000 in
theorem vTextS_any (n : Int) (s : ByteArray) (w : World) (hs : 4 * s.size + 2 ≤ 140737488355328) :
    Calls Tryd.prog 8 #[.agg #[.int .i64 2, .int .i64 n, .string s]] w fun e w' => e = .returned (.string ⟨(quoL s.data.toList).toArray⟩) ∧ Below w.heap.size w w' := by
  go_enter Tryd.func8, Tryd.ntmps8
  go_wp2_with (go_at_call 19; (with_reducible refine (vQuote_any _ _ hs).mono ?_); rintro e w1 ⟨rfl, hb⟩)
  go_ret
  exact ⟨rfl, ((Below.refl _ _).alloc (Nat.le_refl _) _).trans (hb.mono (by simp))⟩

theorem quo_ab : quoL [97, 34, 98] = [34, 97, 92, 34, 98, 34] := by decide
theorem name_x1 : nameB [120, 49] = true := by decide
theorem name_1x : nameB [49, 120] = false := by decide

set_option maxRecDepth 100000 in
set_option maxHeartbeats 2000000 in
theorem live_any (w : World) : Calls Tryd.prog 7 #[] w fun e w' => e = .returned (.bool true) ∧ Below w.heap.size w w' := by
  have C1 : ∀ w, Calls Tryd.prog 15 #[.agg #[.int .i64 1, .int .i64 3, .string ⟨#[]⟩], .agg #[.int .i64 1, .int .i64 (-5), .string ⟨#[]⟩]] w fun e w' => e = .returned (.tuple #[.int .i64 1, .bool true]) ∧ Below w.heap.size w w' := fun w => vCompare_any 1 3 ⟨#[]⟩ 1 (-5) ⟨#[]⟩ w
  have C2 : ∀ w, Calls Tryd.prog 8 #[.agg #[.int .i64 2, .int .i64 0, .string ⟨#[97, 34, 98]⟩]] w fun e w' => e = .returned (.string ⟨#[34, 97, 92, 34, 98, 34]⟩) ∧ Below w.heap.size w w' := fun w => by
    have h := vTextS_any 0 ⟨#[97, 34, 98]⟩ w (by decide)
    rw [show (⟨#[97, 34, 98]⟩ : ByteArray).data.toList = [97, 34, 98] from rfl, quo_ab] at h
    exact h
  have C3 : ∀ w, Calls Tryd.prog 16 #[.string ⟨#[120, 49]⟩] w fun e w' => e = .returned (.bool true) ∧ w = w' := fun w => by
    have h := vName_any ⟨#[120, 49]⟩ w (by decide)
    rw [show (⟨#[120, 49]⟩ : ByteArray).data.toList = [120, 49] from rfl, name_x1] at h
    exact h
  have C4 : ∀ w, Calls Tryd.prog 16 #[.string ⟨#[49, 120]⟩] w fun e w' => e = .returned (.bool false) ∧ w = w' := fun w => by
    have h := vName_any ⟨#[49, 120]⟩ w (by decide)
    rw [show (⟨#[49, 120]⟩ : ByteArray).data.toList = [49, 120] from rfl, name_1x] at h
    exact h
  have C5 : ∀ w, Calls Tryd.prog 17 #[.int .i64 3] w fun e w' => e = .returned (.int .i64 5) ∧ w = w' := fun w => vSwap_any 3 w
  have H1 := Lib.hid C1; have H2 := Lib.hid C2; have H3 := Lib.hid C3; have H4 := Lib.hid C4; have H5 := Lib.hid C5
  clear C1 C2 C3 C4 C5
  go_enter Tryd.func7, Tryd.ntmps7
  go_wp2_with (first
    | (go_at_call 15; (with_reducible refine (H1.out _).mono ?_); rintro e w1 ⟨rfl, hb1⟩)
    | (go_at_call 8; (with_reducible refine (H2.out _).mono ?_); rintro e w2 ⟨rfl, hb2⟩)
    | (go_at_call 16; (with_reducible refine (H3.out _).mono ?_); rintro e w3 ⟨rfl, rfl⟩)
    | (go_at_call 16; (with_reducible refine (H4.out _).mono ?_); rintro e w3 ⟨rfl, rfl⟩)
    | (go_at_call 17; (with_reducible refine (H5.out _).mono ?_); rintro e w3 ⟨rfl, rfl⟩))
  go_ret
  exact ⟨rfl, hb1.trans (hb2.mono hb1.size)⟩
end Go.Proofs.YthmdnlcinlmjkaaDoor
