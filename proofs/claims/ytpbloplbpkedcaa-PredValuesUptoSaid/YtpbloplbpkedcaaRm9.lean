/- A sorted row, each text once: in strict order, with the same texts. -/
import Derived.Test.YtpbloplbpkedcaaIm9
namespace Go.Proofs.Ytpbloplbpkedcaa
open Go Go.RowKit Go.Sort

theorem keeps_is (l : List Nm) (m : Nat) : Lib.keeps l.toArray m = (decide (m = 0) || decide (l[m]! ≠ l[m - 1]!)) := by
  unfold Lib.keeps
  simp
theorem comp_inv (l : List Nm) (h : l.Pairwise (fun x y => x ≤ y)) : ∀ m, m ≤ l.length →
    (Lib.compactUpTo l.toArray m).Pairwise (fun x y => x < y) ∧ (∀ j, j < m → l[j]! ∈ Lib.compactUpTo l.toArray m) ∧ ∀ x ∈ Lib.compactUpTo l.toArray m, ∃ j, j < m ∧ x = l[j]!
  | 0, _ => by
    refine ⟨by simp [Lib.compactUpTo], fun j hj => absurd hj (Nat.not_lt_zero _), fun x hx => ?_⟩
    simp [Lib.compactUpTo] at hx
  | m + 1, hm => by
    obtain ⟨h1, h2, h3⟩ := comp_inv l h m (by omega)
    rw [Lib.compactUpTo_succ]
    have hle : ∀ i j, i ≤ j → j < l.length → l[i]! ≤ l[j]! := fun i j hij hj => by
      rw [getElem!_pos l i (by omega), getElem!_pos l j hj]
      rcases Nat.lt_or_ge i j with h4 | h4
      · exact List.pairwise_iff_getElem.1 h i j (by omega) hj h4
      · obtain rfl : i = j := by omega
        exact List.le_refl _
    have harr : l.toArray[m]! = l[m]! := by simp
    rw [harr]
    by_cases hk : Lib.keeps l.toArray m = true
    · rw [if_pos hk]
      refine ⟨List.pairwise_append.2 ⟨h1, List.pairwise_singleton _ _, fun x hx y hy => ?_⟩, fun j hj => ?_, fun x hx => ?_⟩
      · obtain rfl := List.mem_singleton.1 hy
        obtain ⟨j, hj, rfl⟩ := h3 x hx
        rw [keeps_is, Bool.or_eq_true, decide_eq_true_eq, decide_eq_true_eq] at hk
        have hne : l[m]! ≠ l[m - 1]! := by
          rcases hk with hk | hk
          · omega
          · exact hk
        have e1 := hle j (m - 1) (by omega) (by omega)
        have e2 := hle (m - 1) m (by omega) (by omega)
        have e3 : l[m - 1]! < l[m]! := by
          rcases List.le_iff_lt_or_eq.1 e2 with e | e
          · exact e
          · exact absurd e.symm hne
        exact List.lt_of_le_of_lt e1 e3
      · rcases Nat.lt_succ_iff_lt_or_eq.1 hj with hj | rfl
        · exact List.mem_append_left _ (h2 j hj)
        · exact List.mem_append_right _ (List.mem_singleton.2 rfl)
      · rcases List.mem_append.1 hx with hx | hx
        · obtain ⟨j, hj, e⟩ := h3 x hx
          exact ⟨j, by omega, e⟩
        · exact ⟨m, by omega, List.mem_singleton.1 hx⟩
    · rw [if_neg hk, List.append_nil]
      refine ⟨h1, fun j hj => ?_, fun x hx => ?_⟩
      · rcases Nat.lt_succ_iff_lt_or_eq.1 hj with hj | rfl
        · exact h2 j hj
        · rw [keeps_is, Bool.or_eq_true, decide_eq_true_eq, decide_eq_true_eq, not_or] at hk
          have e : l[j]! = l[j - 1]! := Classical.not_not.1 hk.2
          rw [e]
          exact h2 (j - 1) (by omega)
      · obtain ⟨j, hj, e⟩ := h3 x hx
        exact ⟨j, by omega, e⟩
theorem sortS_le (l : List Nm) : (sortS l).Pairwise (fun x y => x ≤ y) := by
  have := List.pairwise_mergeSort (le := fun x y : Nm => decide (x ≤ y)) (fun a b c h1 h2 => by
    rw [decide_eq_true_eq] at h1 h2 ⊢; exact List.le_trans h1 h2) (fun a b => by
    rw [Bool.or_eq_true, decide_eq_true_eq, decide_eq_true_eq]; exact List.le_total a b) l
  exact this.imp (fun h => by simpa using h)
theorem dist_lt (l : List Nm) : (compS (sortS l)).Pairwise (fun x y => x < y) := (comp_inv (sortS l) (sortS_le l) _ (Nat.le_refl _)).1
theorem dist_mem (l : List Nm) {s : Nm} (h : s ∈ l) : s ∈ compS (sortS l) := by
  have h2 : s ∈ sortS l := by unfold sortS; rw [List.mem_mergeSort]; exact h
  obtain ⟨i, hi, rfl⟩ := List.mem_iff_getElem.1 h2
  have := (comp_inv (sortS l) (sortS_le l) _ (Nat.le_refl _)).2.1 i hi
  rwa [getElem!_pos (sortS l) i hi] at this
theorem dist_len (l : List Nm) : (compS (sortS l)).length ≤ l.length := Nat.le_trans (compS_le _) (by rw [sortS_len]; exact Nat.le_refl _)
end Go.Proofs.Ytpbloplbpkedcaa
