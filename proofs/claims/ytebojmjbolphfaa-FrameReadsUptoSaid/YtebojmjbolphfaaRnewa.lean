/- Contract of New of the document's own source, whatever the slice. -/
import Derived.Test.YtebojmjbolphfaaRnew
namespace Go.Proofs.Ytebojmjbolphfaa
open Go Go.RowKit

theorem rNew_any (ao : Option Addr) (cap : Nat) (bytes : List Nat) (w : World) (hbig : bytes.length ≤ 1048576) (hsm : ∀ c ∈ bytes, c < 256) (h : BytesAt w ao bytes) :
    Calls Try.prog 38 #[.slice ao bytes.length cap] w fun e w' => ∃ q, e = .returned (.pointer (some ⟨q, 0, none⟩)) ∧ RefIs w' w.heap.size q (bitsAll bytes) ∧ Below w.heap.size w w' := by
  rcases Nat.eq_zero_or_pos bytes.length with hl | hl
  · obtain rfl : bytes = [] := List.length_eq_zero_iff.1 hl
    exact rNew_nil ao cap w
  · cases ao with
    | none => have := h.1 rfl; omega
    | some a =>
      obtain ⟨b, o, s⟩ := a
      have h0 := h.2 _ rfl 0 hl
      obtain rfl : s = none := by simpa [Addr.add] using World.cell?_spot h0
      have hb : b < w.heap.size := World.block_lt_of_cell? _ _ h0
      refine rNew_some b o cap bytes w hbig hsm (by simpa [Addr.add] using hb) (fun j hj => ?_)
      have := h.2 _ rfl j hj
      rwa [Go.WideShapes.add_plain] at this
end Go.Proofs.Ytebojmjbolphfaa
