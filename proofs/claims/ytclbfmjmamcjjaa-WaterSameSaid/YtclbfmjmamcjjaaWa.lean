/- Marks: what they are in memory; the contracts of their small calls. -/
import Derived.Test.YtclbfmjmamcjjaaChg6
import Derived.Test.YtclbfmjmamcjjaaRows
import Derived.WalkKit
import Derived.Outline
import Derived.Laws.OwnMore
import Derived.Deep.QuietTactic
import Derived.BigQuiet
import Derived.Deep.RegionHeld3
import Derived.IntWalk
import Derived.Lib.Hide
import Derived.Lib.QuietBelow
namespace Go.Proofs.Ytclbfmjmamcjjaa
open Go Go.RowKit

theorem cell_of_st {w : World} {q : Nat} {cs : List Value} {t : Nat} {fr : Nat × Nat} (h : w.heap[q]? = some (.cells cs.toArray t fr)) (i : Nat) : w.cell? ⟨q, i, none⟩ = cs[i]? := by
  simp [World.cell?, h]
theorem free_of_st {w : World} {q : Nat} {cs : Array Value} {t : Nat} (h : w.heap[q]? = some (.cells cs t (0, 0))) (i : Nat) : w.frozen? ⟨q, i, none⟩ = false := by
  simp [World.frozen?, h]
theorem take_one {α : Type} [Inhabited α] {bs : List α} {k : Nat} (hk : k < bs.length) : bs.take (k + 1) = bs.take k ++ [bs[k]!] := by
  rw [List.take_succ_eq_append_getElem hk, getElem!_pos bs k hk]

/-- Whether a mark may be. -/
def mayB (t : Int) : Bool := decide (0 ≤ t) && decide (t ≤ 1099511627777)
/-- The least of marks. -/
def minI (ms : List Int) : Int := ms.foldl min 1099511627777
theorem minI_snoc (ms : List Int) (x : Int) : minI (ms ++ [x]) = min (minI ms) x := by unfold minI; rw [List.foldl_append]; rfl
theorem minI_nil : minI [] = 1099511627777 := rfl
theorem foldl_min_le (ms : List Int) (a : Int) : ms.foldl min a ≤ a ∧ ∀ x ∈ ms, ms.foldl min a ≤ x := by
  induction ms generalizing a with
  | nil => exact ⟨Int.le_refl _, fun x hx => by cases hx⟩
  | cons y r ih =>
    rw [List.foldl_cons]
    obtain ⟨h1, h2⟩ := ih (min a y)
    refine ⟨by omega, fun x hx => ?_⟩
    rcases List.mem_cons.1 hx with rfl | hx
    · omega
    · exact h2 x hx
theorem foldl_min_ge (ms : List Int) (a b : Int) (ha : b ≤ a) (h : ∀ x ∈ ms, b ≤ x) : b ≤ ms.foldl min a := by
  induction ms generalizing a with
  | nil => exact ha
  | cons y r ih =>
    rw [List.foldl_cons]
    have := h y (List.mem_cons_self ..)
    exact ih (min a y) (by omega) (fun x hx => h x (List.mem_cons_of_mem _ hx))
theorem minI_le (ms : List Int) : minI ms ≤ 1099511627777 := (foldl_min_le ms _).1
theorem minI_mem {ms : List Int} {x : Int} (h : x ∈ ms) : minI ms ≤ x := (foldl_min_le ms _).2 x h
theorem minI_ge {ms : List Int} {b : Int} (hb : b ≤ 1099511627777) (h : ∀ x ∈ ms, b ≤ x) : b ≤ minI ms := foldl_min_ge ms _ b hb h

/-- The cells of marks. -/
def wtCells (ms : List Int) : List Value := .int .i64 (ms.length : Int) :: (ms ++ List.replicate (12 - ms.length) 0).map (fun t => Value.int .i64 t)
theorem wtCells_len {ms : List Int} (h : ms.length ≤ 12) : (wtCells ms).length = 13 := by unfold wtCells; simp; omega
/-- In w the block q is the marks ms. -/
structure WtIs (w : World) (q : Nat) (ms : List Int) : Prop where
  k0 : 1 ≤ ms.length
  k12 : ms.length ≤ 12
  may : ∀ t ∈ ms, 0 ≤ t ∧ t ≤ 1099511627777
  blk : w.heap[q]? = some (.cells (wtCells ms).toArray 50 (0, 0))
theorem WtIs.lt {w : World} {q : Nat} {ms : List Int} (h : WtIs w q ms) : q < w.heap.size := lt_of_block h.blk
theorem WtIs.num {w : World} {q : Nat} {ms : List Int} (h : WtIs w q ms) : w.cell? ⟨q, 0, none⟩ = some (.int .i64 (ms.length : Int)) := by
  rw [cell_of_st h.blk]; rfl
theorem WtIs.at {w : World} {q : Nat} {ms : List Int} (h : WtIs w q ms) (j : Nat) (hj : j < ms.length) : w.cell? ⟨q, 1 + j, none⟩ = some (.int .i64 ms[j]!) := by
  rw [cell_of_st h.blk, wtCells, show 1 + j = j + 1 by omega, List.getElem?_cons_succ, List.getElem?_map, List.getElem?_append_left hj, getElem!_pos ms j hj, List.getElem?_eq_getElem hj]
  rfl
theorem WtIs.free {w : World} {q : Nat} {ms : List Int} (h : WtIs w q ms) (i : Nat) : w.frozen? ⟨q, i, none⟩ = false := free_of_st h.blk i
theorem WtIs.chg {G : Nat → Prop} {w w' : World} {q : Nat} {ms : List Int} (h : WtIs w q ms) (hc : Chg G w w') (hq : ¬ G q) : WtIs w' q ms :=
  ⟨h.k0, h.k12, h.may, by rw [hc.block q h.lt hq]; exact h.blk⟩
theorem WtIs.below {w w' : World} {q : Nat} {ms : List Int} (h : WtIs w q ms) (hb : Below w.heap.size w w') : WtIs w' q ms :=
  ⟨h.k0, h.k12, h.may, by rw [hb.block q h.lt]; exact h.blk⟩
theorem WtIs.drew {w : World} {q : Nat} {ms : List Int} (h : WtIs w q ms) : WtIs w.drew q ms := ⟨h.k0, h.k12, h.may, h.blk⟩
theorem wtCells_set (ms : List Int) (j : Nat) (hj : j < ms.length) (t : Int) : (wtCells ms).set (1 + j) (.int .i64 t) = wtCells (ms.set j t) := by
  unfold wtCells
  rw [show 1 + j = j + 1 by omega, List.set_cons_succ, List.length_set, ← List.map_set, List.set_append_left _ _ hj]
theorem mem_set_of {ms : List Int} {j : Nat} {t x : Int} (h : x ∈ ms.set j t) : x ∈ ms ∨ x = t := List.mem_or_eq_of_mem_set h
theorem WtIs.mark {w : World} {q : Nat} {ms : List Int} (h : WtIs w q ms) (j : Nat) (hj : j < ms.length) (t : Int) (ht : 0 ≤ t ∧ t ≤ 1099511627777) : WtIs (w.setCell ⟨q, 1 + j, none⟩ (.int .i64 t)) q (ms.set j t) := by
  refine ⟨by rw [List.length_set]; exact h.k0, by rw [List.length_set]; exact h.k12, fun x hx => ?_, ?_⟩
  · rcases mem_set_of hx with hx | rfl
    · exact h.may x hx
    · exact ht
  · rw [heap_setCell_same h.blk, ← wtCells_set ms j hj, List.setIfInBounds_toArray]

theorem wIsMark_any (t : Int) (w : World) : Calls Try.prog 25 #[.int .i64 t] w fun e w' => e = .returned (.bool (mayB t)) ∧ w = w' := by
  unfold mayB
  by_cases h0 : 0 ≤ t
  · have h1 : decide (t ≥ 0) = true := by simpa using h0
    rw [show decide (0 ≤ t) = true by simpa using h0]
    go_enter Try.func25, Try.ntmps25
    go_wp2
    go_ret
    exact ⟨rfl, rfl⟩
  · have h1 : decide (t ≥ 0) = false := by simpa using h0
    rw [show decide (0 ≤ t) = false by simpa using h0]
    go_enter Try.func25, Try.ntmps25
    go_wp2
    go_ret
    exact ⟨rfl, rfl⟩
theorem r12May_any (t : Int) (w : World) : Calls Try.prog 26 #[.int .i64 t] w fun e w' => e = .returned (.bool (mayB t)) ∧ w = w' := by
  unfold mayB
  by_cases h0 : 0 ≤ t
  · have h1 : decide (t ≥ 0) = true := by simpa using h0
    rw [show decide (0 ≤ t) = true by simpa using h0]
    go_enter Try.func26, Try.ntmps26
    go_wp2
    go_ret
    exact ⟨rfl, rfl⟩
  · have h1 : decide (t ≥ 0) = false := by simpa using h0
    rw [show decide (0 ≤ t) = false by simpa using h0]
    go_enter Try.func26, Try.ntmps26
    go_wp2
    go_ret
    exact ⟨rfl, rfl⟩
theorem wIsMade_any (q n : Nat) (w : World) (h : w.cell? ⟨q, 0, none⟩ = some (.int .i64 (n : Int))) :
    Calls Try.prog 27 #[.pointer (some ⟨q, 0, none⟩)] w fun e w' => e = .returned (.bool (decide (0 < n))) ∧ w = w' := by
  go_enter Try.func27, Try.ntmps27
  go_wp2
  go_ret
  exact ⟨rfl, rfl⟩
theorem wIsMade_nil (w : World) : Calls Try.prog 27 #[.pointer none] w fun e w' => e = .returned (.bool false) ∧ w = w' := by
  go_enter Try.func27, Try.ntmps27
  go_wp2
  go_ret
  exact ⟨rfl, rfl⟩
/-- Whether there is that input. -/
def hasI (k : Nat) (i : Int) : Bool := decide (0 ≤ i) && decide (i < (k : Int))
theorem hasI_nat {k : Nat} {i : Int} (h : hasI k i = true) : ∃ j : Nat, i = (j : Int) ∧ j < k := by
  unfold hasI at h
  rw [Bool.and_eq_true, decide_eq_true_iff, decide_eq_true_iff] at h
  exact ⟨i.toNat, by omega, by omega⟩
theorem wHas_any (q n : Nat) (i : Int) (w : World) (h : w.cell? ⟨q, 0, none⟩ = some (.int .i64 (n : Int))) :
    Calls Try.prog 28 #[.pointer (some ⟨q, 0, none⟩), .int .i64 i] w fun e w' => e = .returned (.bool (hasI n i)) ∧ w = w' := by
  unfold hasI
  by_cases h0 : 0 ≤ i
  · have h1 : decide (i ≥ 0) = true := by simpa using h0
    rw [show decide (0 ≤ i) = true by simpa using h0]
    go_enter Try.func28, Try.ntmps28
    go_wp2
    go_ret
    exact ⟨rfl, rfl⟩
  · have h1 : decide (i ≥ 0) = false := by simpa using h0
    rw [show decide (0 ≤ i) = false by simpa using h0]
    go_enter Try.func28, Try.ntmps28
    go_wp2
    go_ret
    exact ⟨rfl, rfl⟩
end Go.Proofs.Ytclbfmjmamcjjaa
