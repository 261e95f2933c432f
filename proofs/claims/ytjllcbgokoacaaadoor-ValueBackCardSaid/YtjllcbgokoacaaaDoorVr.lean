/- Contracts: relations, and whether one holds of two values: the program's calls and the document's. -/
import Derived.Test.YtjllcbgokoacaaaDoorVc
namespace Go.Proofs.YtjllcbgokoacaaaDoor
open Go Go.RowKit

theorem vSwap_any (rel : Int) (w : World) : Calls Tryd.prog 25 #[.int .i64 rel] w fun e w' => e = .returned (.int .i64 (swapI rel)) ∧ w = w' := by
  rcases rel_cases rel with rfl | rfl | rfl | rfl | rfl | rfl | ⟨h1, h2, h3, h4, h5, h6⟩
  · rw [show swapI 1 = 1 from rfl]
    go_enter Tryd.func25, Tryd.ntmps25
    go_wp2
    go_ret
    exact ⟨rfl, rfl⟩
  · rw [show swapI 2 = 2 from rfl]
    go_enter Tryd.func25, Tryd.ntmps25
    go_wp2
    go_ret
    exact ⟨rfl, rfl⟩
  · rw [show swapI 3 = 5 from rfl]
    go_enter Tryd.func25, Tryd.ntmps25
    go_wp2
    go_ret
    exact ⟨rfl, rfl⟩
  · rw [show swapI 4 = 6 from rfl]
    go_enter Tryd.func25, Tryd.ntmps25
    go_wp2
    go_ret
    exact ⟨rfl, rfl⟩
  · rw [show swapI 5 = 3 from rfl]
    go_enter Tryd.func25, Tryd.ntmps25
    go_wp2
    go_ret
    exact ⟨rfl, rfl⟩
  · rw [show swapI 6 = 4 from rfl]
    go_enter Tryd.func25, Tryd.ntmps25
    go_wp2
    go_ret
    exact ⟨rfl, rfl⟩
  · rw [show swapI rel = 0 by simp [swapI, h1, h2, h3, h4, h5, h6]]
    have b1 : (rel == 1) = false := by simpa using h1
    have b2 : (rel == 2) = false := by simpa using h2
    have b3 : (rel == 3) = false := by simpa using h3
    have b4 : (rel == 4) = false := by simpa using h4
    have b5 : (rel == 5) = false := by simpa using h5
    have b6 : (rel == 6) = false := by simpa using h6
    clear h1 h2 h3 h4 h5 h6
    go_enter Tryd.func25, Tryd.ntmps25
    go_wp2
    go_ret
    exact ⟨rfl, rfl⟩
theorem r3Swap_any (rel : Int) (w : World) : Calls Tryd.prog 26 #[.int .i64 rel] w fun e w' => e = .returned (.int .i64 (swapI rel)) ∧ w = w' := by
  rcases rel_cases rel with rfl | rfl | rfl | rfl | rfl | rfl | ⟨h1, h2, h3, h4, h5, h6⟩
  · rw [show swapI 1 = 1 from rfl]
    go_enter Tryd.func26, Tryd.ntmps26
    go_wp2
    go_ret
    exact ⟨rfl, rfl⟩
  · rw [show swapI 2 = 2 from rfl]
    go_enter Tryd.func26, Tryd.ntmps26
    go_wp2
    go_ret
    exact ⟨rfl, rfl⟩
  · rw [show swapI 3 = 5 from rfl]
    go_enter Tryd.func26, Tryd.ntmps26
    go_wp2
    go_ret
    exact ⟨rfl, rfl⟩
  · rw [show swapI 4 = 6 from rfl]
    go_enter Tryd.func26, Tryd.ntmps26
    go_wp2
    go_ret
    exact ⟨rfl, rfl⟩
  · rw [show swapI 5 = 3 from rfl]
    go_enter Tryd.func26, Tryd.ntmps26
    go_wp2
    go_ret
    exact ⟨rfl, rfl⟩
  · rw [show swapI 6 = 4 from rfl]
    go_enter Tryd.func26, Tryd.ntmps26
    go_wp2
    go_ret
    exact ⟨rfl, rfl⟩
  · rw [show swapI rel = 0 by simp [swapI, h1, h2, h3, h4, h5, h6]]
    have b1 : (rel == 1) = false := by simpa using h1
    have b2 : (rel == 2) = false := by simpa using h2
    have b3 : (rel == 3) = false := by simpa using h3
    have b4 : (rel == 4) = false := by simpa using h4
    have b5 : (rel == 5) = false := by simpa using h5
    have b6 : (rel == 6) = false := by simpa using h6
    clear h1 h2 h3 h4 h5 h6
    go_enter Tryd.func26, Tryd.ntmps26
    go_wp2
    go_ret
    exact ⟨rfl, rfl⟩
theorem vNot_any (rel : Int) (w : World) : Calls Tryd.prog 27 #[.int .i64 rel] w fun e w' => e = .returned (.int .i64 (notI rel)) ∧ w = w' := by
  rcases rel_cases rel with rfl | rfl | rfl | rfl | rfl | rfl | ⟨h1, h2, h3, h4, h5, h6⟩
  · rw [show notI 1 = 2 from rfl]
    go_enter Tryd.func27, Tryd.ntmps27
    go_wp2
    go_ret
    exact ⟨rfl, rfl⟩
  · rw [show notI 2 = 1 from rfl]
    go_enter Tryd.func27, Tryd.ntmps27
    go_wp2
    go_ret
    exact ⟨rfl, rfl⟩
  · rw [show notI 3 = 6 from rfl]
    go_enter Tryd.func27, Tryd.ntmps27
    go_wp2
    go_ret
    exact ⟨rfl, rfl⟩
  · rw [show notI 4 = 5 from rfl]
    go_enter Tryd.func27, Tryd.ntmps27
    go_wp2
    go_ret
    exact ⟨rfl, rfl⟩
  · rw [show notI 5 = 4 from rfl]
    go_enter Tryd.func27, Tryd.ntmps27
    go_wp2
    go_ret
    exact ⟨rfl, rfl⟩
  · rw [show notI 6 = 3 from rfl]
    go_enter Tryd.func27, Tryd.ntmps27
    go_wp2
    go_ret
    exact ⟨rfl, rfl⟩
  · rw [show notI rel = 0 by simp [notI, h1, h2, h3, h4, h5, h6]]
    have b1 : (rel == 1) = false := by simpa using h1
    have b2 : (rel == 2) = false := by simpa using h2
    have b3 : (rel == 3) = false := by simpa using h3
    have b4 : (rel == 4) = false := by simpa using h4
    have b5 : (rel == 5) = false := by simpa using h5
    have b6 : (rel == 6) = false := by simpa using h6
    clear h1 h2 h3 h4 h5 h6
    go_enter Tryd.func27, Tryd.ntmps27
    go_wp2
    go_ret
    exact ⟨rfl, rfl⟩
theorem r3Not_any (rel : Int) (w : World) : Calls Tryd.prog 28 #[.int .i64 rel] w fun e w' => e = .returned (.int .i64 (notI rel)) ∧ w = w' := by
  rcases rel_cases rel with rfl | rfl | rfl | rfl | rfl | rfl | ⟨h1, h2, h3, h4, h5, h6⟩
  · rw [show notI 1 = 2 from rfl]
    go_enter Tryd.func28, Tryd.ntmps28
    go_wp2
    go_ret
    exact ⟨rfl, rfl⟩
  · rw [show notI 2 = 1 from rfl]
    go_enter Tryd.func28, Tryd.ntmps28
    go_wp2
    go_ret
    exact ⟨rfl, rfl⟩
  · rw [show notI 3 = 6 from rfl]
    go_enter Tryd.func28, Tryd.ntmps28
    go_wp2
    go_ret
    exact ⟨rfl, rfl⟩
  · rw [show notI 4 = 5 from rfl]
    go_enter Tryd.func28, Tryd.ntmps28
    go_wp2
    go_ret
    exact ⟨rfl, rfl⟩
  · rw [show notI 5 = 4 from rfl]
    go_enter Tryd.func28, Tryd.ntmps28
    go_wp2
    go_ret
    exact ⟨rfl, rfl⟩
  · rw [show notI 6 = 3 from rfl]
    go_enter Tryd.func28, Tryd.ntmps28
    go_wp2
    go_ret
    exact ⟨rfl, rfl⟩
  · rw [show notI rel = 0 by simp [notI, h1, h2, h3, h4, h5, h6]]
    have b1 : (rel == 1) = false := by simpa using h1
    have b2 : (rel == 2) = false := by simpa using h2
    have b3 : (rel == 3) = false := by simpa using h3
    have b4 : (rel == 4) = false := by simpa using h4
    have b5 : (rel == 5) = false := by simpa using h5
    have b6 : (rel == 6) = false := by simpa using h6
    clear h1 h2 h3 h4 h5 h6
    go_enter Tryd.func28, Tryd.ntmps28
    go_wp2
    go_ret
    exact ⟨rfl, rfl⟩
theorem vIsKind_any (n : Int) (w : World) : Calls Tryd.prog 45 #[.int .i64 n] w fun e w' => e = .returned (.bool (kindB n)) ∧ w = w' := by
  by_cases h0 : n = 1
  · subst h0
    rw [show kindB 1 = true from rfl]
    go_enter Tryd.func45, Tryd.ntmps45
    go_wp2
    go_ret
    exact ⟨rfl, rfl⟩
  · have b0 : (n == 1) = false := by simpa using h0
    by_cases h1 : n = 2
    · subst h1
      rw [show kindB 2 = true from rfl]
      clear h0 b0
      go_enter Tryd.func45, Tryd.ntmps45
      go_wp2
      go_ret
      exact ⟨rfl, rfl⟩
    · have b1 : (n == 2) = false := by simpa using h1
      rw [show kindB n = false by simp [kindB, h0, h1]]
      clear h0 h1
      go_enter Tryd.func45, Tryd.ntmps45
      go_wp2
      go_ret
      exact ⟨rfl, rfl⟩
theorem r3some_any (k n : Int) (s : ByteArray) (w : World) : Calls Tryd.prog 46 #[.agg #[.int .i64 k, .int .i64 n, .string s]] w fun e w' => e = .returned (.bool (kindB k)) ∧ Below w.heap.size w w' := by
  by_cases h0 : k = 1
  · subst h0
    rw [show kindB 1 = true from rfl]
    go_enter Tryd.func46, Tryd.ntmps46
    go_wp2
    go_ret
    exact ⟨rfl, (Below.refl _ _).alloc (Nat.le_refl _) _⟩
  · have b0 : (k == 1) = false := by simpa using h0
    by_cases h1 : k = 2
    · subst h1
      rw [show kindB 2 = true from rfl]
      clear h0 b0
      go_enter Tryd.func46, Tryd.ntmps46
      go_wp2
      go_ret
      exact ⟨rfl, (Below.refl _ _).alloc (Nat.le_refl _) _⟩
    · have b1 : (k == 2) = false := by simpa using h1
      rw [show kindB k = false by simp [kindB, h0, h1]]
      clear h0 h1
      go_enter Tryd.func46, Tryd.ntmps46
      go_wp2
      go_ret
      exact ⟨rfl, (Below.refl _ _).alloc (Nat.le_refl _) _⟩
end Go.Proofs.YtjllcbgokoacaaaDoor
