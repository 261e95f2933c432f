/- Rows of texts of the call's own: what slices.Sort and slices.Compact leave of them. -/
import Derived.Test.YtpbloplbpkedcaaRx7
import Derived.Test.YtpbloplbpkedcaaPm9
import Derived.Lib.OwnBridge
import Derived.Lib.SlicesCompact
import Derived.Sort.OwnSorted
namespace Go.Proofs.Ytpbloplbpkedcaa
open Go Go.RowKit Go.Sort

/-- A row of texts in a block of its own, from base on, that is nowhere frozen. -/
def SrtV (w : World) (base : Nat) (v : Value) (l : List Nm) : Prop :=
  ∃ ao cap, v = .slice ao l.length cap ∧ l.length ≤ cap ∧ cap ≤ 9223372036854775807 ∧ (l ≠ [] → ∃ g, ao = some ⟨g, 0, none⟩ ∧ base ≤ g ∧ g < w.heap.size ∧ Sort.Holds encStr w g 0 l.toArray)
theorem SrtV.of_own {w : World} {base : Nat} {e : TypeId} {v : Value} {l : List Nm} (h : w.ownsRow base e 1 v l.length (l.map encStr)) : SrtV w base v l := by
  rcases h.2 with ⟨rfl, h0⟩ | ⟨g, cap, cur, rfl, hb, hg, h1, h2, _, _⟩
  · obtain rfl : l = [] := List.eq_nil_of_length_eq_zero h0
    exact ⟨none, 0, rfl, Nat.le_refl _, by omega, fun h => absurd rfl h⟩
  · refine ⟨some ⟨g, 0, none⟩, cap, rfl, h1, by unfold maxLen at h2; omega, fun _ => ⟨g, rfl, hb, lt_of_block hg, fun j hj => ⟨?_, by simp [World.frozen?, hg]⟩⟩⟩
    have hj' : j < l.length := by simpa using hj
    have := h.cells (g := g) rfl j (encStr l[j]) (by rw [List.getElem?_map, List.getElem?_eq_getElem hj']; rfl)
    rw [add_none7'] at this
    rw [this]
    simp [hj']
theorem SrtV.ss {w : World} {base : Nat} {v : Value} {l : List Nm} (h : SrtV w base v l) : SsV w (fun b => b < w.heap.size) v l := by
  obtain ⟨ao, cap, rfl, _, _, hh⟩ := h
  refine ⟨ao, cap, rfl, fun hl => ?_⟩
  obtain ⟨g, e, _, hg, hH⟩ := hh hl
  refine ⟨g, 0, e, hg, fun j x hj => ?_⟩
  obtain ⟨hj', rfl⟩ := List.getElem?_eq_some_iff.1 hj
  have := (hH j (by simpa using hj')).1
  simpa [hj', encStr_ba] using this
theorem below_grown9 {B : Nat} {a w : World} (h : Below B a w) (hB : B ≤ w.heap.size) (os : Array Obj) : Below B a (grow w os) := by
  refine h.trans ⟨rfl, rfl, rfl, by simp [grow], fun k hk => ?_⟩
  show (w.heap ++ os)[k]? = _
  rw [Array.getElem?_append_left (by omega)]
theorem holds_grown9 {w : World} {g : Nat} {d : Array Nm} (h : Sort.Holds encStr w g 0 d) (hg : g < w.heap.size) (os : Array Obj) : Sort.Holds encStr (grow w os) g 0 d := by
  have hb := below_grown9 (Below.refl w.heap.size w) (Nat.le_refl _) os
  exact fun j hj => ⟨(hb.cell (p := ⟨g, _, none⟩) hg).trans (h j hj).1, (hb.frozen (p := ⟨g, _, none⟩) hg).trans (h j hj).2⟩
def sortS (l : List Nm) : List Nm := l.mergeSort fun x y => decide (x ≤ y)
theorem sortS_len (l : List Nm) : (sortS l).length = l.length := List.length_mergeSort l
theorem sort_srt (w : World) (base : Nat) (v : Value) (l : List Nm) (h : SrtV w base v l) (hB : base ≤ w.heap.size) (hl : l.length < 4611686018427387904) :
    Calls Try.prog 71 #[v] w fun e w' => e = .returned (.tuple #[]) ∧ SrtV w' base v (sortS l) ∧ Below base w w' ∧ w.heap.size ≤ w'.heap.size := by
  obtain ⟨ao, cap, rfl, h1, h2, hh⟩ := h
  by_cases hn : l = []
  · subst hn
    refine (Try.slices_Sort_string_none ao cap w).mono fun e w' ⟨he, hw⟩ => ?_
    subst hw
    exact ⟨he, ⟨ao, cap, by simp [sortS], by simp [sortS], h2, fun h => absurd (by simp [sortS]) h⟩, Below.refl _ _, Nat.le_refl _⟩
  · obtain ⟨g, rfl, hbg, hg, hH⟩ := hh hn
    refine (Try.slices_Sort_string g 0 cap l w hH hg hl).mono fun e w' ⟨he, n, os, hw0⟩ => ?_
    have hw : w' = grow (putRow encStr (Sort.ahead w n) g 0 (sortS l).toArray) os := hw0
    clear hw0
    have hsz : (putRow encStr (Sort.ahead w n) g 0 (sortS l).toArray).heap.size = w.heap.size := by rw [size_putRow]; rfl
    subst hw
    refine ⟨he, ⟨some ⟨g, 0, none⟩, cap, by rw [sortS_len], by rw [sortS_len]; exact h1, h2, fun _ => ⟨g, rfl, hbg, ?_, ?_⟩⟩, ?_, ?_⟩
    · show g < (grow (putRow encStr (Sort.ahead w n) g 0 (sortS l).toArray) os).heap.size
      simp only [grow, Array.size_append]; omega
    · refine holds_grown9 ?_ (by rw [hsz]; exact hg) os
      exact holds_putRow encStr (Sort.ahead w n) g 0 l.toArray (sortS l).toArray hH (by simp [sortS_len])
    · exact below_grown9 (Lib.below_putRow (Below.refl base w) hbg) (by rw [hsz]; exact hB) os
    · simp only [grow, Array.size_append, size_putRow]; show w.heap.size ≤ w.heap.size + _; omega
def compS (l : List Nm) : List Nm := Lib.compact l
theorem compS_le (l : List Nm) : (compS l).length ≤ l.length := by
  unfold compS Lib.compact Lib.compactUpTo
  rw [List.length_map]
  exact Nat.le_trans (List.length_filter_le _ _) (by simp)
theorem putRow_other9 (w : World) (q g : Nat) (d : Array Nm) {x : Nat} (h : x ≠ g) : (putRow encStr (Sort.ahead w q) g 0 d).heap[x]? = w.heap[x]? := by
  simp [putRow, mapBlock, Sort.ahead, Array.getElem?_modify, Ne.symm h]
theorem comp_srt (w : World) (base : Nat) (v : Value) (l : List Nm) (h : SrtV w base v l) (hB : base ≤ w.heap.size) :
    Calls Try.prog 72 #[v] w fun e w' => ∃ v', e = .returned v' ∧ SrtV w' base v' (compS l) ∧ Below base w w' ∧ w.heap.size ≤ w'.heap.size ∧ ∀ x, v.ownBlock ≠ some x → w'.heap[x]? = w.heap[x]? := by
  obtain ⟨ao, cap, rfl, h1, h2, hh⟩ := h
  by_cases hn : l = []
  · subst hn
    refine (Try.slices_Compact_string_empty ao cap w).mono fun e w' ⟨he, hw⟩ => ?_
    subst hw
    exact ⟨_, he, ⟨ao, cap, by simp [compS, Lib.compact, Lib.compactUpTo], by simp [compS, Lib.compact, Lib.compactUpTo], h2, fun h => absurd (by simp [compS, Lib.compact, Lib.compactUpTo]) h⟩, Below.refl _ _, Nat.le_refl _, fun _ _ => rfl⟩
  · obtain ⟨g, rfl, hbg, hg, hH⟩ := hh hn
    refine (Try.slices_Compact_string g 0 cap l w hH (by omega) h1).mono fun e w' ⟨he, q, hw0⟩ => ?_
    obtain ⟨Z, hZ⟩ : ∃ Z, Z = compS l ++ List.replicate (l.length - (compS l).length) [] := ⟨_, rfl⟩
    have hle := compS_le l
    have hzl : Z.length = l.length := by rw [hZ, List.length_append, List.length_replicate]; omega
    have hzp : ∀ j, j < (compS l).length → Z[j]? = (compS l)[j]? := fun j hj => by rw [hZ, List.getElem?_append_left hj]
    have hw : w' = putRow encStr (Sort.ahead w q) g 0 Z.toArray := by rw [hZ]; exact hw0
    have he' : e = .returned (.slice (some ⟨g, 0, none⟩) (compS l).length cap) := he
    clear hw0 he hZ
    obtain ⟨C, hC⟩ : ∃ C, C = compS l := ⟨_, rfl⟩
    rw [← hC] at hle hzp he' ⊢
    clear hC
    have hsz : w'.heap.size = w.heap.size := by rw [hw, size_putRow]; rfl
    have hHW : Sort.Holds encStr w' g 0 Z.toArray := by rw [hw]; exact holds_putRow encStr (Sort.ahead w q) g 0 l.toArray Z.toArray hH (by simpa using hzl)
    have hbl : Below base w w' := by rw [hw]; exact Lib.below_putRow (Below.refl base w) hbg
    have hot : ∀ x, (Value.slice (some ⟨g, 0, none⟩) l.length cap).ownBlock ≠ some x → w'.heap[x]? = w.heap[x]? := fun x hx => by rw [hw]; exact putRow_other9 w q g _ (fun e => hx (by rw [e]; rfl))
    clear hw hH hh
    refine ⟨_, he', ⟨some ⟨g, 0, none⟩, cap, rfl, by omega, h2, fun _ => ⟨g, rfl, hbg, by omega, fun j hj => ?_⟩⟩, hbl, by omega, hot⟩
    have hj' : j < C.length := by simpa using hj
    obtain ⟨a, b⟩ := hHW j (by simp; omega)
    refine ⟨?_, b⟩
    rw [a]
    have := hzp j hj'
    rw [List.getElem?_eq_getElem hj', List.getElem?_eq_getElem (by omega)] at this
    simp only [Option.some.injEq] at this
    rw [getElem!_pos Z.toArray j (by simp; omega), getElem!_pos C.toArray j (by simpa using hj')]
    simp only [List.getElem_toArray]
    rw [this]
end Go.Proofs.Ytpbloplbpkedcaa
