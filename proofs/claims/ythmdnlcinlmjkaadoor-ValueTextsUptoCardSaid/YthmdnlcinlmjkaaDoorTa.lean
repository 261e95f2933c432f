/- Contracts of Text at any value: the program's and the document's. -/
import Derived.Test.YthmdnlcinlmjkaaDoorPa
import Derived.Test.YthmdnlcinlmjkaaDoorQr
import Derived.Test.YthmdnlcinlmjkaaDoorLive3
import Derived.Test.YthmdnlcinlmjkaaDoorNr
namespace Go.Proofs.YthmdnlcinlmjkaaDoor
open Go Go.RowKit

theorem textL_no {k n : Int} {l : List UInt8} (h1 : ¬ k = 1) (h2 : ¬ k = 2) : textL k n l = [63] := by unfold textL; rw [if_neg h1, if_neg h2]
theorem textI_to {n : Int} {s : ByteArray} : (⟨(Lib.itoa n).toArray⟩ : ByteArray) = ⟨(textL 1 n s.data.toList).toArray⟩ := rfl
theorem textS_to {n : Int} {s : ByteArray} : (⟨(quoL s.data.toList).toArray⟩ : ByteArray) = ⟨(textL 2 n s.data.toList).toArray⟩ := rfl

set_option maxHeartbeats 1000000 in
set_option maxRecDepth 100000 in
theorem vText_any (k n : Int) (s : ByteArray) (hn : inI n) (hs : 4 * s.size + 2 ≤ 140737488355328) (w : World) (hE : ErrV w) :
    Calls Tryd.prog 8 #[.agg #[.int .i64 k, .int .i64 n, .string s]] w fun e w' => e = .returned (.string ⟨(textL k n s.data.toList).toArray⟩) ∧ Below w.heap.size w w' := by
  by_cases h1 : k = 1
  · subst h1; exact vTextI_any n hn.1 hn.2 s w hE
  · by_cases h2 : k = 2
    · subst h2; exact vTextS_any n s w hs
    · rw [textL_no h1 h2]
      have b1 : (k == 1) = false := by simp [h1]
      have b2 : (k == 2) = false := by simp [h2]
      have HB := Lib.hid ((Below.refl w.heap.size w).alloc (Nat.le_refl _) (.cells #[.int .i64 k, .int .i64 n, .string s] 23))
      clear hE hn hs
      go_enter Tryd.func8, Tryd.ntmps8
      go_wp2_with fail
      go_ret
      exact ⟨rfl, HB.out⟩

set_option maxHeartbeats 1000000 in
set_option maxRecDepth 100000 in
theorem r3Text_any (k n : Int) (s : ByteArray) (hn : inI n) (hs : 4 * s.size + 2 ≤ 140737488355328) (w : World) :
    Calls Tryd.prog 9 #[.agg #[.int .i64 k, .int .i64 n, .string s]] w fun e w' => e = .returned (.string ⟨(textL k n s.data.toList).toArray⟩) ∧ Below w.heap.size w w' := by
  by_cases h1 : k = 1
  · subst h1
    have HD := Lib.hid (fun w => r3digits_any n hn.1 hn.2 w)
    have HB := Lib.hid ((Below.refl w.heap.size w).alloc (Nat.le_refl _) (.cells #[.int .i64 1, .int .i64 n, .string s] 23))
    clear hn hs
    go_enter Tryd.func9, Tryd.ntmps9
    go_wp2_with (go_at_call 20; refine (HD.out _).mono ?_; rintro e w1 ⟨rfl, rfl⟩)
    go_ret
    exact ⟨rfl, HB.out⟩
  · by_cases h2 : k = 2
    · subst h2; exact r3TextS_any n s w hs
    · rw [textL_no h1 h2]
      have b1 : (k == 1) = false := by simp [h1]
      have b2 : (k == 2) = false := by simp [h2]
      have HB := Lib.hid ((Below.refl w.heap.size w).alloc (Nat.le_refl _) (.cells #[.int .i64 k, .int .i64 n, .string s] 23))
      clear hn hs
      go_enter Tryd.func9, Tryd.ntmps9
      go_wp2_with fail
      go_ret
      exact ⟨rfl, HB.out⟩
end Go.Proofs.YthmdnlcinlmjkaaDoor
