/- Contracts: whether a relation holds of two values: the program's call and the document's. -/
import Derived.Test.YtnagngdijlancaaVr
namespace Go.Proofs.Ytnagngdijlancaa
open Go Go.RowKit

theorem bcell {W w1 : World} (hb : Below W.heap.size W w1) : (∀ b o, b < W.heap.size → w1.cell? ⟨b, o, none⟩ = W.cell? ⟨b, o, none⟩) ∧ (∀ b o, b < W.heap.size → w1.frozen? ⟨b, o, none⟩ = W.frozen? ⟨b, o, none⟩) :=
  ⟨fun b o h => hb.cell (p := ⟨b, o, none⟩) h, fun b o h => hb.frozen (p := ⟨b, o, none⟩) h⟩
theorem holdsB_yes {rel k1 n1 : Int} {s1 : List UInt8} {k2 n2 : Int} {s2 : List UInt8} (h : cmpB k1 k2 = true) : holdsB rel k1 n1 s1 k2 n2 s2 = relB rel (cmpV k1 n1 s1 k2 n2 s2) := by unfold holdsB; rw [if_pos h]
theorem holdsB_no {rel k1 n1 : Int} {s1 : List UInt8} {k2 n2 : Int} {s2 : List UInt8} (h : cmpB k1 k2 = false) : holdsB rel k1 n1 s1 k2 n2 s2 = (decide (rel = 2) && (kindB k1 && kindB k2)) := by unfold holdsB; rw [h]; rfl

end Go.Proofs.Ytnagngdijlancaa
