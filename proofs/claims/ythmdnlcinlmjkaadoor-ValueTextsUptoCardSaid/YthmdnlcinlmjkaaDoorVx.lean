/- How things stand within a law over values: their boxes. -/
import Derived.Test.YthmdnlcinlmjkaaDoorVc
import Derived.Test.YthmdnlcinlmjkaaDoorLive3
import Derived.Deep.RegionHeld3
namespace Go.Proofs.YthmdnlcinlmjkaaDoor
open Go Go.RowKit

/-- A value as it is handed over. -/
def vcs (k n : Int) (s : ByteArray) : Array Value := #[.int .i64 k, .int .i64 n, .string s]
/-- The boxes of the values l lie at blocks P, P + 1, ..; below P nothing has turned. -/
structure Vx (w0 : World) (P : Nat) (l : List (Array Value)) (w : World) : Prop where
  below : Below P w0 w
  sz : P + l.length ≤ w.heap.size
  bx : ∀ i cs, l[i]? = some cs → w.heap[P + i]? = some (.cells cs 23 (0, 0))
theorem Vx.call {w0 : World} {P : Nat} {l : List (Array Value)} {w w' : World} (h : Vx w0 P l w) (hb : Below w.heap.size w w') : Vx w0 P l w' := by
  have h1 := h.sz
  refine ⟨h.below.trans (hb.mono (by omega)), Nat.le_trans h.sz hb.size, fun i cs hi => ?_⟩
  have hl : i < l.length := (List.getElem?_eq_some_iff.1 hi).1
  exact (hb.block (P + i) (by omega)).trans (h.bx i cs hi)
theorem Vx.drew {w0 : World} {P : Nat} {l : List (Array Value)} {w : World} (h : Vx w0 P l w) : Vx w0 P l w.drew := ⟨h.below.drew, h.sz, h.bx⟩
theorem Vx.start (w : World) : Vx w w.heap.size [] w := ⟨Below.refl _ _, by simp, fun i cs h => by simp at h⟩
theorem Vx.box {w0 : World} {P : Nat} {l : List (Array Value)} {w : World} (h : Vx w0 P l w) (hs : w.heap.size = P + l.length) (cs : Array Value) : Vx w0 P (l ++ [cs]) (w.alloc (.cells cs 23)) := by
  refine ⟨h.below.alloc (by omega) _, by simp; omega, fun i c hi => ?_⟩
  rcases Nat.lt_or_ge i l.length with hl | hl
  · rw [List.getElem?_append_left hl] at hi
    rw [Below.heap_alloc _ _ _ (by omega)]; exact h.bx i c hi
  · rw [List.getElem?_append_right hl] at hi
    have hi0 : i - l.length = 0 := by
      rcases Nat.eq_zero_or_pos (i - l.length) with h0 | h0
      · exact h0
      · rw [List.getElem?_eq_none (by simp; omega)] at hi; cases hi
    rw [hi0] at hi
    simp only [List.getElem?_cons_zero, Option.some.injEq] at hi
    subst hi
    rw [show P + i = w.heap.size by omega]; exact heap_alloc_new w _
theorem Vx.c0 {w0 : World} {P : Nat} {l : List (Array Value)} {w : World} {k n : Int} {s : ByteArray} (h : Vx w0 P (vcs k n s :: l) w) :
    w.cell? ⟨P, 0, none⟩ = some (.int .i64 k) ∧ w.cell? ⟨P, 1, none⟩ = some (.int .i64 n) ∧ w.cell? ⟨P, 2, none⟩ = some (.string s) := cell_of_three (h.bx 0 _ rfl)
theorem Vx.c1 {w0 : World} {P : Nat} {l : List (Array Value)} {w : World} {x : Array Value} {k n : Int} {s : ByteArray} (h : Vx w0 P (x :: vcs k n s :: l) w) :
    w.cell? ⟨P + 1, 0, none⟩ = some (.int .i64 k) ∧ w.cell? ⟨P + 1, 1, none⟩ = some (.int .i64 n) ∧ w.cell? ⟨P + 1, 2, none⟩ = some (.string s) := cell_of_three (h.bx 1 _ rfl)
theorem Vx.c2 {w0 : World} {P : Nat} {l : List (Array Value)} {w : World} {x y : Array Value} {k n : Int} {s : ByteArray} (h : Vx w0 P (x :: y :: vcs k n s :: l) w) :
    w.cell? ⟨P + 1 + 1, 0, none⟩ = some (.int .i64 k) ∧ w.cell? ⟨P + 1 + 1, 1, none⟩ = some (.int .i64 n) ∧ w.cell? ⟨P + 1 + 1, 2, none⟩ = some (.string s) := cell_of_three (h.bx 2 _ rfl)
end Go.Proofs.YthmdnlcinlmjkaaDoor
