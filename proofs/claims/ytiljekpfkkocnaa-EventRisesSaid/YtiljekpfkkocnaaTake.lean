/- Contract of take: both sources tell the same, and stand at the same bit afterwards. -/
import Derived.Test.YtiljekpfkkocnaaRnew
namespace Go.Proofs.Ytiljekpfkkocnaa
open Go Go.RowKit

def takeT (e : Nat) : Bool := srcT e || refT e
theorem takeT_src (e : Nat) (h : takeT e = false) : srcT e = false := by unfold takeT at h; simp at h; exact h.1
theorem takeT_ref (e : Nat) (h : takeT e = false) : refT e = false := by unfold takeT at h; simp at h; exact h.2

theorem SrcIs.kept {w w' : World} {B B' q : Nat} {bytes : List Nat} {p : Nat} {T : Nat → Bool} (h : SrcIs w B q bytes p) (hk : Kept B' T w w') (h1 : T 119 = false) (h2 : T 5 = false) : SrcIs w' B q bytes p := by
  obtain ⟨v, hq, ho⟩ := h.row
  exact ⟨h.from_, h.len, h.at_, h.small, v, hk.typed _ _ _ _ hq h1, hk.ownsRow ho h2⟩
theorem SrcIs.below {w w' : World} {B B' q : Nat} {bytes : List Nat} {p : Nat} (h : SrcIs w B q bytes p) (hb : Below B' w w') (hB : w.heap.size ≤ B') : SrcIs w' B q bytes p := by
  obtain ⟨v, hq, ho⟩ := h.row
  exact ⟨h.from_, h.len, h.at_, h.small, v, by rw [hb.block q (by have := lt_of_block hq; omega)]; exact hq, ownsRow_below ho hb hB⟩
theorem RefIs.lower {w : World} {B B' q : Nat} {l : List Bool} (h : RefIs w B q l) (hB : B' ≤ B) : RefIs w B' q l := ⟨Nat.le_trans hB h.from_, h.len, h.row⟩

/-- Both stand at the same bit. -/
def Both (w : World) (B q q' : Nat) (bytes : List Nat) : Prop := ∃ p, SrcIs w B q bytes p ∧ RefIs w B q' (leftL bytes p)

/-- What the two calls of take leave. -/
theorem both_of {w w1 w2 : World} {B q q' : Nat} {bytes : List Nat} {l' : List Bool} (h1 : ∃ p', SrcIs w1 B q bytes p' ∧ leftL bytes p' = l') (k1 : Kept B srcT w w1) (h2 : RefIs w2 B q' l') (k2 : Kept B refT w1 w2) : Both w2 B q q' bytes ∧ Kept B takeT w w2 := by
  obtain ⟨p', h3, h4⟩ := h1
  refine ⟨⟨p', h3.kept k2 (by decide) (by decide), by rw [h4]; exact h2⟩, (k1.mono (Nat.le_refl _) takeT_src).trans (k2.mono (Nat.le_refl _) takeT_ref)⟩

end Go.Proofs.Ytiljekpfkkocnaa
