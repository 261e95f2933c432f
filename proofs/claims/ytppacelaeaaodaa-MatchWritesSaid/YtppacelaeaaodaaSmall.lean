/- Contracts of the small functions of package bits: what each returns, and that it leaves memory alone. -/
import Derived.Test.YtppacelaeaaodaaRows
import Derived.WalkKit
import Derived.Outline
namespace Go.Proofs.Ytppacelaeaaodaa
open Go.RowKit

theorem isMade_any (q : Nat) (w : World) (h : w.cell? ⟨q, 0, none⟩ = some (.bool true)) :
    Calls Try.prog 67 #[.pointer (some ⟨q, 0, none⟩)] w fun e w' => e = .returned (.bool true) ∧ w = w' := by
  go_enter Try.func67, Try.ntmps67
  go_wp2
  go_ret
  exact ⟨rfl, rfl⟩

theorem hasRoom_any (q : Nat) (n k : Int) (w : World) (hn : 0 ≤ n) (hn2 : n ≤ 1048576) (h : w.cell? ⟨q, 3, none⟩ = some (.int .i64 n)) :
    Calls Try.prog 68 #[.pointer (some ⟨q, 0, none⟩), .int .i64 k] w fun e w' => e = .returned (.bool (decide (k ≤ 1048576 - n))) ∧ w = w' := by
  go_enter Try.func68, Try.ntmps68
  go_wp2
  go_ret
  exact ⟨rfl, rfl⟩

theorem kLen_any (q : Nat) (n : Int) (w : World) (h0 : w.cell? ⟨q, 0, none⟩ = some (.bool true)) (h : w.cell? ⟨q, 3, none⟩ = some (.int .i64 n)) :
    Calls Try.prog 37 #[.pointer (some ⟨q, 0, none⟩)] w fun e w' => e = .returned (.int .i64 n) ∧ w = w' := by
  go_enter Try.func37, Try.ntmps37
  go_wp2_with (go_at_call 67; refine (isMade_any _ _ (by assumption)).mono ?_; rintro e w' ⟨rfl, rfl⟩)
  go_ret
  exact ⟨rfl, rfl⟩

end Go.Proofs.Ytppacelaeaaodaa
