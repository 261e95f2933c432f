/- Whether two slices of conditions, two trees, two patterns are the same: the program's. -/
import Derived.Test.YtnfjodkpapmfkaaSm8
import Derived.Test.YtnfjodkpapmfkaaShelf3
import Derived.Test.YtnfjodkpapmfkaaCn8
namespace Go.Proofs.Ytnfjodkpapmfkaa
open Go Go.RowKit Go.Maps Go.Sort Go.Lib

instance : Inhabited Cnd := ⟨⟨⟨em, em, 0, 0, em⟩, 0, ⟨em, em, 0, 0, em⟩⟩⟩
theorem allEqC (xs ys : List Cnd) : Lib.allEq cEq xs ys = decide (xs = ys) := by
  by_cases hl : xs.length = ys.length
  · by_cases h : xs = ys
    · subst h
      rw [decide_eq_true rfl]
      exact Lib.allEq_all cEq xs xs rfl (fun j _ => cEq_iff.2 rfl)
    · rw [decide_eq_false h]
      obtain ⟨j, h1, h2, hne⟩ : ∃ j, ∃ (h1 : j < xs.length) (h2 : j < ys.length), xs[j] ≠ ys[j] := by
        refine Classical.byContradiction fun hc => h ?_
        refine List.ext_getElem hl fun i h1 h2 => ?_
        exact Classical.byContradiction fun hn => hc ⟨i, h1, h2, hn⟩
      refine Lib.allEq_elem cEq xs ys j h1 h2 ?_
      rw [Bool.eq_false_iff]
      exact fun h3 => hne (cEq_iff.1 (by simpa [getElem!_pos, h1, h2] using h3))
  · rw [Lib.allEq_len cEq xs ys hl, decide_eq_false (fun h => hl (by rw [h]))]
theorem cells_bang {w : World} {l : List Cnd} {b o : Nat} (h : CdAt w l b o) : ∀ j, j < l.length → ∀ i v, (encC l[j]!)[i]? = some v → w.cell? ⟨b, o + j * 11 + i, none⟩ = some v := fun j hj i v hv => by
  rw [getElem!_pos l j hj] at hv
  exact h.at j hj i v hv
set_option maxRecDepth 100000 in
theorem EqualCond_any (a b : List Cnd) (va vb : Value) (G H : Nat → Prop) (w : World) (ha : CdV w G va a) (hb : CdV w H vb b) (hn : a.length ≤ 1048576) :
    Calls Try.prog 58 #[va, vb] w fun e w' => e = .returned (.bool (decide (a = b))) ∧ ∃ q, w' = w.drewN q := by
  obtain ⟨aa, ca, rfl, h1⟩ := ha
  obtain ⟨ab, cb, rfl, h2⟩ := hb
  by_cases hl : a.length = b.length
  · cases a with
    | nil =>
      have : b = [] := List.eq_nil_of_length_eq_zero hl.symm
      subst this
      clear h1 h2 hl hn
      simp only [List.length_nil]
      go_enter Try.func58, Try.ntmps58
      go_wp2
      refine wp_loop_rounds 1 ?_
      rw [rounds_succ]
      go_wp2
      go_ret
      exact ⟨rfl, 0, rfl⟩
    | cons x r =>
      cases b with
      | nil => simp at hl
      | cons y t =>
        obtain ⟨b1, o1, rfl, _, hc1⟩ := h1 (List.cons_ne_nil _ _)
        obtain ⟨b2, o2, rfl, _, hc2⟩ := h2 (List.cons_ne_nil _ _)
        have C := AnyQ.slices_Equal Try.lEqual 11 Try.isAgg37 Try.sizeOf37 encC encC_len cEq cNe b1 o1 (x :: r).length ca b2 o2 (y :: t).length cb (x :: r) (y :: t) w (Nat.le_refl _) (Nat.le_refl _) (by omega) (by rw [← hl]; omega) (cells_bang hc1) (cells_bang hc2)
        change Calls Try.prog 58 _ _ _ at C
        rw [List.take_of_length_le (Nat.le_refl _), List.take_of_length_le (Nat.le_refl _), allEqC] at C
        exact C
  · rw [decide_eq_false (fun h => hl (by rw [h]))]
    have h3 : ¬ (a.length : Int) = (b.length : Int) := by omega
    have h4 : ((a.length : Int) == (b.length : Int)) = false := beq_eq_false_iff_ne.2 h3
    clear h1 h2 hl hn
    go_enter Try.func58, Try.ntmps58
    go_wp2
    go_ret
    exact ⟨rfl, 0, rfl⟩
end Go.Proofs.Ytnfjodkpapmfkaa
