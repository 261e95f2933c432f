/- Contracts of the small functions of package bits: what each returns, and that it leaves memory alone. -/
import Derived.Test.YtcnecokamckfaaaGreatDoorRows
import Derived.WalkKit
import Derived.Outline
namespace Go.Proofs.YtcnecokamckfaaaGreatDoor
open Go.RowKit

theorem isMade_any (q : Nat) (w : World) (h : w.cell? ⟨q, 0, none⟩ = some (.bool true)) :
    Calls Tryz.prog 81 #[.pointer (some ⟨q, 0, none⟩)] w fun e w' => e = .returned (.bool true) ∧ w = w' := by
  go_enter Tryz.func81, Tryz.ntmps81
  go_wp2
  go_ret
  exact ⟨rfl, rfl⟩

theorem hasRoom_any (q : Nat) (n k : Int) (w : World) (hn : 0 ≤ n) (hn2 : n ≤ 1048576) (h : w.cell? ⟨q, 3, none⟩ = some (.int .i64 n)) :
    Calls Tryz.prog 82 #[.pointer (some ⟨q, 0, none⟩), .int .i64 k] w fun e w' => e = .returned (.bool (decide (k ≤ 1048576 - n))) ∧ w = w' := by
  go_enter Tryz.func82, Tryz.ntmps82
  go_wp2
  go_ret
  exact ⟨rfl, rfl⟩

theorem kLen_any (q : Nat) (n : Int) (w : World) (h0 : w.cell? ⟨q, 0, none⟩ = some (.bool true)) (h : w.cell? ⟨q, 3, none⟩ = some (.int .i64 n)) :
    Calls Tryz.prog 54 #[.pointer (some ⟨q, 0, none⟩)] w fun e w' => e = .returned (.int .i64 n) ∧ w = w' := by
  go_enter Tryz.func54, Tryz.ntmps54
  go_wp2_with (go_at_call 81; refine (isMade_any _ _ (by assumption)).mono ?_; rintro e w' ⟨rfl, rfl⟩)
  go_ret
  exact ⟨rfl, rfl⟩

end Go.Proofs.YtcnecokamckfaaaGreatDoor
