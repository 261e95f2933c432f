/- Partial matches in boxes: how things stand within the statements' walks. -/
import Derived.Test.YtiinljljbjjaeaaGreatDoorMg0
import Derived.Test.YtiinljljbjjaeaaGreatDoorOf0
import Derived.Test.YtiinljljbjjaeaaGreatDoorSp0
namespace Go.Proofs.YtiinljljbjjaeaaGreatDoor
open Go Go.RowKit

/-- Boxes from block P on, each with a partial match that lies below P or is in memory of the walk's own. -/
structure Bx (w0 : World) (P : Nat) (L : List (Nat × Value × List Bd)) (u : World) : Prop where
  below : Below P w0 u
  sz : P ≤ u.heap.size
  all : ∀ q v bs, (q, v, bs) ∈ L → P ≤ q ∧ u.heap[q]? = some (.cells #[v] 38 (0, 0)) ∧ (BsV u P v bs ∨ BsO u P v bs)
  nd : (L.map Prod.fst).Nodup
theorem Bx.nil {w : World} : Bx w w.heap.size [] w := ⟨Below.refl _ _, Nat.le_refl _, (fun _ _ _ h => by cases h), List.nodup_nil⟩
theorem Bx.call {w0 u u' : World} {P : Nat} {L : List (Nat × Value × List Bd)} (h : Bx w0 P L u) (hb : Below u.heap.size u u') : Bx w0 P L u' :=
  ⟨h.below.trans (hb.mono h.sz), Nat.le_trans h.sz hb.size, fun q v bs hm => by
    obtain ⟨h1, h2, h3⟩ := h.all q v bs hm
    exact ⟨h1, (hb.block q (lt_of_block h2)).trans h2, h3.elim (fun k => .inl (k.below hb h.sz)) (fun k => .inr (k.call hb))⟩, h.nd⟩
theorem Bx.alloc {w0 u : World} {P : Nat} {L : List (Nat × Value × List Bd)} (h : Bx w0 P L u) (o : Obj) : Bx w0 P L (u.alloc o) := h.call ((Below.refl _ _).alloc (Nat.le_refl _) o)
theorem Bx.new {w0 u : World} {P : Nat} {L : List (Nat × Value × List Bd)} (h : Bx w0 P L u) {v : Value} {bs : List Bd} (hv : BsV u P v bs ∨ BsO u P v bs) : Bx w0 P ((u.heap.size, v, bs) :: L) (u.alloc (.cells #[v] 38)) := by
  have hb := (Below.refl u.heap.size u).alloc (Nat.le_refl _) (.cells #[v] 38)
  refine ⟨(h.alloc _).below, (h.alloc _).sz, fun q v' bs' hm => ?_, ?_⟩
  rotate_left
  · rw [List.map_cons, List.nodup_cons]
    refine ⟨fun hm => ?_, h.nd⟩
    obtain ⟨⟨q, x, y⟩, hx, e⟩ := List.mem_map.1 hm
    have := lt_of_block (h.all q x y hx).2.1
    simp only at e; omega
  rcases List.mem_cons.1 hm with e | hm
  · simp only [Prod.mk.injEq] at e
    obtain ⟨rfl, rfl, rfl⟩ := e
    exact ⟨h.sz, heap_alloc_new _ _, hv.elim (fun k => .inl (k.below hb h.sz)) (fun k => .inr (k.call hb))⟩
  · exact (h.alloc _).all q v' bs' hm
theorem Bx.cell {w0 u : World} {P q : Nat} {L : List (Nat × Value × List Bd)} {v : Value} {bs : List Bd} (h : Bx w0 P L u) (hm : (q, v, bs) ∈ L) : u.cell? ⟨q, 0, none⟩ = some v := cells_one0 (h.all q v bs hm).2.1
theorem Bx.bsv {w0 u : World} {P q : Nat} {L : List (Nat × Value × List Bd)} {v : Value} {bs : List Bd} (h : Bx w0 P L u) (hm : (q, v, bs) ∈ L) : BsV u u.heap.size v bs :=
  (h.all q v bs hm).2.2.elim (fun k => k.mono h.sz) (fun k => k.bsv)
/-- A box is given another one. -/
theorem Bx.set {w0 u : World} {P q : Nat} {v v' : Value} {bs bs' : List Bd} (A B : List (Nat × Value × List Bd)) (h : Bx w0 P (A ++ (q, v, bs) :: B) u) (hv : BsV u P v' bs' ∨ BsO u P v' bs') :
    Bx w0 P (A ++ (q, v', bs') :: B) (u.setCell ⟨q, 0, none⟩ v') := by
  obtain ⟨h1, h2, _⟩ := h.all q v bs (by simp)
  have hb : Below P u (u.setCell ⟨q, 0, none⟩ v') := (Below.refl P u).setCell (p := ⟨q, 0, none⟩) h1 _
  have key : ∀ {x y}, (BsV u P x y ∨ BsO u P x y) → (BsV (u.setCell ⟨q, 0, none⟩ v') P x y ∨ BsO (u.setCell ⟨q, 0, none⟩ v') P x y) := fun k => k.elim (fun k => .inl (k.below hb (Nat.le_refl _))) (fun k => .inr (k.setP h2 v'))
  have hnd := h.nd
  refine ⟨h.below.trans hb, by have := h.sz; simpa using this, fun q' x y hm => ?_, by simpa using hnd⟩
  rw [List.mem_append, List.mem_cons] at hm
  have hq : (q', x, y) ∈ A ∨ (q', x, y) ∈ B → q' ≠ q := by
    intro hh e
    subst e
    rw [List.map_append, List.map_cons, List.nodup_append] at hnd
    rcases hh with hh | hh
    · exact hnd.2.2 q' (List.mem_map.2 ⟨_, hh, rfl⟩) q' (List.mem_cons_self ..) rfl
    · exact (List.nodup_cons.1 hnd.2.1).1 (List.mem_map.2 ⟨_, hh, rfl⟩)
  have old : (q', x, y) ∈ A ∨ (q', x, y) ∈ B → P ≤ q' ∧ (u.setCell ⟨q, 0, none⟩ v').heap[q']? = some (.cells #[x] 38 (0, 0)) ∧ (BsV (u.setCell ⟨q, 0, none⟩ v') P x y ∨ BsO (u.setCell ⟨q, 0, none⟩ v') P x y) := fun hh => by
    obtain ⟨g1, g2, g3⟩ := h.all q' x y (by rw [List.mem_append, List.mem_cons]; rcases hh with hh | hh; exact .inl hh; exact .inr (.inr hh))
    exact ⟨g1, by rw [Below.heap_setCell _ _ _ _ (show q' ≠ q from hq hh)]; exact g2, key g3⟩
  rcases hm with hm | hm | hm
  · exact old (.inl hm)
  · simp only [Prod.mk.injEq] at hm
    obtain ⟨rfl, rfl, rfl⟩ := hm
    exact ⟨h1, heap_setCell_same h2 x, key hv⟩
  · exact old (.inr hm)
theorem Bx.free {w0 u : World} {P q : Nat} {L : List (Nat × Value × List Bd)} {v : Value} {bs : List Bd} (h : Bx w0 P L u) (hm : (q, v, bs) ∈ L) : u.frozen? ⟨q, 0, none⟩ = false := by
  simp [World.frozen?, (h.all q v bs hm).2.1]
end Go.Proofs.YtiinljljbjjaeaaGreatDoor
