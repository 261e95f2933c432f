/- Contract of Text at a value that may be. -/
import Derived.Test.YthmdnlcinlmjkaaDoorRd
namespace Go.Proofs.YthmdnlcinlmjkaaDoor
open Go Go.RowKit Go.Sort

theorem grow_below (w : World) (k : Nat) (os : Array Obj) : Below w.heap.size w (grow (w.drewN k) os) := by
  refine ⟨rfl, rfl, rfl, by simp [grow], fun j hj => ?_⟩
  show (w.heap ++ os)[j]? = w.heap[j]?
  rw [Array.getElem?_append_left hj]
set_option maxHeartbeats 1000000 in
theorem vTextI_any (n : Int) (h0 : -9223372036854775808 ≤ n) (h1 : n ≤ 9223372036854775807) (s : ByteArray) (w : World) (hE : ErrV w) :
    Calls Tryd.prog 8 #[.agg #[.int .i64 1, .int .i64 n, .string s]] w fun e w' => e = .returned (.string ⟨(Lib.itoa n).toArray⟩) ∧ Below w.heap.size w w' := by
  have hF := fun w ht => Tryd.strconv_FormatInt_10 n h0 h1 w ht
  have hb0 : Below w.heap.size w (w.alloc (.cells #[.int .i64 1, .int .i64 n, .string s] 23)) := (Below.refl _ _).alloc (Nat.le_refl _) _
  have HE := Lib.hid (hE.keep hb0)
  have HB0 := Lib.hid hb0
  clear hE hb0
  go_enter Tryd.func8, Tryd.ntmps8
  go_wp2_with (go_at_call 18; refine (hF _ HE.out.tab).mono ?_; rintro e w1 ⟨rfl, k, os, rfl⟩)
  go_ret
  exact ⟨rfl, HB0.out.trans ((grow_below _ _ _).mono (by simp))⟩
theorem vTextC_any (k n : Int) (s : ByteArray) (hck : ckB k n s.data.toList = true) (hn : -9223372036854775808 ≤ n ∧ n ≤ 9223372036854775807) (w : World) (hE : ErrV w) :
    Calls Tryd.prog 8 #[.agg #[.int .i64 k, .int .i64 n, .string s]] w fun e w' => e = .returned (.string ⟨(textL k n s.data.toList).toArray⟩) ∧ Below w.heap.size w w' := by
  rcases ck_ways hck with ⟨rfl, _⟩ | ⟨rfl, rfl, hs⟩
  · exact vTextI_any n hn.1 hn.2 s w hE
  · exact vTextS_any 0 s w (by rw [← Lib.size_eq] at hs; omega)
end Go.Proofs.YthmdnlcinlmjkaaDoor
