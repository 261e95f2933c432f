/- Contracts: a string's text, and that the program answers what the document fixes. -/
import Derived.Test.YtdmdakkibgjffaaDoorQu
import Derived.Test.YtdmdakkibgjffaaDoorVn
namespace Go.Proofs.YtdmdakkibgjffaaDoor
open Go Go.RowKit

set_option maxHeartbeats 1000000 in
theorem vTextS_any (n : Int) (s : ByteArray) (w : World) (hs : 4 * s.size + 2 ≤ 140737488355328) :
    Calls Tryd.prog 55 #[.agg #[.int .i64 2, .int .i64 n, .string s]] w fun e w' => e = .returned (.string ⟨(quoL s.data.toList).toArray⟩) ∧ Below w.heap.size w w' := by
  go_enter Tryd.func55, Tryd.ntmps55
  go_wp2_with (go_at_call 65; (with_reducible refine (vQuote_any _ _ hs).mono ?_); rintro e w1 ⟨rfl, hb⟩)
  go_ret
  exact ⟨rfl, ((Below.refl _ _).alloc (Nat.le_refl _) _).trans (hb.mono (by simp))⟩

theorem quo_ab : quoL [97, 34, 98] = [34, 97, 92, 34, 98, 34] := by decide
theorem name_x1 : nameB [120, 49] = true := by decide
theorem name_1x : nameB [49, 120] = false := by decide

end Go.Proofs.YtdmdakkibgjffaaDoor
