/- Contracts of the small functions of package bits: what each returns, and that it leaves memory alone. -/
import Derived.Test.YtebojmjbolphfaaRows
import Derived.WalkKit
import Derived.Outline
namespace Go.Proofs.Ytebojmjbolphfaa
open Go.RowKit

theorem isMade_any (q : Nat) (w : World) (h : w.cell? ⟨q, 0, none⟩ = some (.bool true)) :
    Calls Try.prog 43 #[.pointer (some ⟨q, 0, none⟩)] w fun e w' => e = .returned (.bool true) ∧ w = w' := by
  go_enter Try.func43, Try.ntmps43
  go_wp2
  go_ret
  exact ⟨rfl, rfl⟩

theorem hasRoom_any (q : Nat) (n k : Int) (w : World) (hn : 0 ≤ n) (hn2 : n ≤ 1048576) (h : w.cell? ⟨q, 3, none⟩ = some (.int .i64 n)) :
    Calls Try.prog 55 #[.pointer (some ⟨q, 0, none⟩), .int .i64 k] w fun e w' => e = .returned (.bool (decide (k ≤ 1048576 - n))) ∧ w = w' := by
  go_enter Try.func55, Try.ntmps55
  go_wp2
  go_ret
  exact ⟨rfl, rfl⟩

end Go.Proofs.Ytebojmjbolphfaa
