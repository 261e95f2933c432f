/- Contracts: which operands and conditions may be: the program's calls. -/
import Derived.Test.YtpbloplbpkedcaaSs7
import Derived.Test.YtpbloplbpkedcaaVn
import Derived.BigQuiet
import Derived.Deep.QuietTactic
namespace Go.Proofs.Ytpbloplbpkedcaa
open Go Go.RowKit

theorem ne_em1 {s : ByteArray} (h : s ≠ em) : s.toList ≠ [] := fun hh => h (by apply ByteArray.ext; rw [Lib.toList_data] at hh; simpa [em] using hh)
theorem ne_em2 {s : ByteArray} (h : s ≠ em) : (s.toList == []) = false := by simpa using ne_em1 h
theorem ne_em3 {s : ByteArray} (h : s ≠ em) : s.toList.isEmpty = false := by simpa using ne_em1 h
theorem below_dn7 {B : Nat} {a w : World} (h : Below B a w) (n : Nat) : Below B a (w.drewN n) := ⟨h.os, h.tape, h.output, h.size, h.block⟩

theorem below_next {B : Nat} {a b c : World} (h : Below B a b) (hB : B ≤ a.heap.size) (k : Below b.heap.size b c) : Below B a c := h.trans (k.mono (Nat.le_trans hB h.size))

theorem cell_of_five {w : World} {q : Nat} {c0 c1 c2 c3 c4 : Value} {t : Nat} (h : w.heap[q]? = some (.cells #[c0, c1, c2, c3, c4] t (0, 0))) :
    w.cell? ⟨q, 0, none⟩ = some c0 ∧ w.cell? ⟨q, 1, none⟩ = some c1 ∧ w.cell? ⟨q, 2, none⟩ = some c2 ∧ w.cell? ⟨q, 3, none⟩ = some c3 ∧ w.cell? ⟨q, 4, none⟩ = some c4 := by
  simp [World.cell?, h]
def wdO (o : Opd) : Prop := o.var.size ≤ maxLen ∧ o.attr.size ≤ maxLen ∧ o.vs.size ≤ maxLen
def wdC (c : Cnd) : Prop := wdO c.left ∧ wdO c.right
theorem vEq_zero (k n : Int) (s : ByteArray) : vEq k n s 0 0 ⟨#[]⟩ = (decide (k = 0) && decide (n = 0) && decide (s = em)) := by
  cases h : vEq k n s 0 0 ⟨#[]⟩ with
  | true => obtain ⟨rfl, rfl, rfl⟩ := vEq_iff.1 h; rfl
  | false =>
    cases h2 : (decide (k = 0) && decide (n = 0) && decide (s = em)) with
    | false => rfl
    | true =>
      simp only [Bool.and_eq_true, decide_eq_true_eq] at h2
      obtain ⟨⟨rfl, rfl⟩, rfl⟩ := h2
      exact absurd (vEq_iff.2 ⟨rfl, rfl, rfl⟩) (by rw [show em = (⟨#[]⟩ : ByteArray) from rfl] at *; rw [h]; simp)

theorem cell_of_eleven {w : World} {q : Nat} {c0 c1 c2 c3 c4 c5 c6 c7 c8 c9 c10 : Value} {t : Nat} (h : w.heap[q]? = some (.cells #[c0, c1, c2, c3, c4, c5, c6, c7, c8, c9, c10] t (0, 0))) :
    w.cell? ⟨q, 0, none⟩ = some c0 ∧ w.cell? ⟨q, 1, none⟩ = some c1 ∧ w.cell? ⟨q, 2, none⟩ = some c2 ∧ w.cell? ⟨q, 3, none⟩ = some c3 ∧ w.cell? ⟨q, 4, none⟩ = some c4 ∧ w.cell? ⟨q, 5, none⟩ = some c5 ∧ w.cell? ⟨q, 6, none⟩ = some c6 ∧ w.cell? ⟨q, 7, none⟩ = some c7 ∧ w.cell? ⟨q, 8, none⟩ = some c8 ∧ w.cell? ⟨q, 9, none⟩ = some c9 ∧ w.cell? ⟨q, 10, none⟩ = some c10 := by
  simp [World.cell?, h]
end Go.Proofs.Ytpbloplbpkedcaa
