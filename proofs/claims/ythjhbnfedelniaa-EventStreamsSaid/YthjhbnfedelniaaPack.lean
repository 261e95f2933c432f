/- Contract of Pack of the document's own answers. -/
import Derived.Test.YthjhbnfedelniaaPuts2
import Derived.Test.YthjhbnfedelniaaPackm
namespace Go.Proofs.Ythjhbnfedelniaa
open Go Go.RowKit

end Go.Proofs.Ythjhbnfedelniaa
namespace Go.Proofs.Ythjhbnfedelniaa
open Go Go.RowKit

theorem made_bytes' (w : World) (k : Nat) (hk : k ≤ 140737488355328) : (w.alloc (.cells (madeCells #[.int .u8 0] k) 5)).ownsRow w.heap.size 5 1 (.slice (some ⟨w.heap.size, 0, none⟩) k k) k (byteVs (List.replicate k 0)) := by
  have e' : (madeCells #[.int .u8 0] k).toList = byteVs (List.replicate k 0) := by rw [toList_madeCells_one]; simp [byteVs]
  have hs : (madeCells #[Value.int .u8 0] k).size = k := by rw [size_madeCells]
  refine ⟨by simp [byteVs_length], .inr ⟨w.heap.size, k, _, rfl, Nat.le_refl _, heap_alloc_new _ _, Nat.le_refl _, by unfold maxLen; omega, by rw [hs]; omega, ?_⟩⟩
  rw [Nat.mul_one, List.take_of_length_le (by rw [Array.length_toList, hs]; omega)]
  exact e'
theorem shr_128 (k : Nat) (hk : k < 8) : (128 : Int) / 2 ^ k = ((2 ^ (7 - k) : Nat) : Int) := by
  have h : ∀ k : Fin 8, (128 : Int) / 2 ^ k.val = ((2 ^ (7 - k.val) : Nat) : Int) := by decide
  exact h ⟨k, hk⟩

end Go.Proofs.Ythjhbnfedelniaa
