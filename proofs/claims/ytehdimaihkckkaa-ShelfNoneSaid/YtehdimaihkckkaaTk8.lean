/- A load may be taken first where the store that hits its cell waits for it: what holds of the world hangs on what has come up. -/
import Derived.OrdersHeld
namespace Go.Proofs.Ytehdimaihkckkaa
open Go

section
variable {P : Program} {ops : Array Oper} {Q : Exit → Act → World → Prop} {md : Region.Mode} {S : Array Bool → World → Prop}
/-- In whatever order, what is asked of the world behind each step named by what has come up. -/
def wpPh (P : Program) (md : Region.Mode) (ops : Array Oper) (Q : Exit → Act → World → Prop) (S : Array Bool → World → Prop) : Nat → Array Bool → Act → World → Prop
  | 0, l, a, w => Region.ready md ops l = [] ∧ Q .normal a w
  | n + 1, l, a, w => (Region.ready md ops l = [] → Q .normal a w) ∧
    ∀ i ∈ Region.ready md ops l, wpOp P ops Q i (fun a' w' => S (l.setIfInBounds i true) w' ∧ wpPh P md ops Q S n (l.setIfInBounds i true) a' w') a w
theorem wpPh.any : ∀ (n : Nat) (l : Array Bool) (a : Act) (w : World), wpPh P md ops Q S n l a w → wpAny P md ops Q n l a w
  | 0, _, _, _, h => h
  | n + 1, _, _, _, h => ⟨h.1, fun i hi => wpOp_mono (fun a' w' h' => wpPh.any n _ a' w' h'.2) (h.2 i hi)⟩
/-- Number i first: T holds in each world in which it may come up. -/
theorem wpPh.first {T : World → Prop} {I : Array Bool → Prop} {i : Nat} {oi : Oper} {v : Value} (hi : ops[i]? = some oi) (hs : Region.noSelect ops = true)
    (hQ : ∀ c a w, Q (.panic c) (a.put oi.dst v) w → Q (.panic c) a w)
    (hI : ∀ l j, I l → j ∈ Region.ready md ops l → I (l.setIfInBounds j true)) (hT : ∀ l w, I l → l[i]? = some false → S l w → T w) (hS : ∀ l w, S (l.setIfInBounds i true) w ↔ S l w) :
    ∀ (n : Nat) (l : Array Bool) (a : Act) (w : World), I l →
      (∀ j oj, ops[j]? = some oj → j ≠ i → l.getD j true = false → (∀ e ∈ oj.after, Region.binds md e = true → e.on ≠ i) → oi.apart ops oj = true) →
      i ∈ Region.ready md ops l → YieldsIf P ops T oi v a → S l w → wpPh P md ops Q S n (l.setIfInBounds i true) (a.put oi.dst v) w → wpPh P md ops Q S (n + 1) l a w := by
  have hsel := fun (j : Nat) (o : Oper) cs b => Region.noSelect_spec hs j o cs b
  have hnl : ∀ {l : Array Bool}, i ∈ Region.ready md ops l → l[i]? = some false := fun {l} hr => by
    have h := (mem_ready.1 hr).1
    rcases Nat.lt_or_ge i l.size with h' | h'
    · simp [h'] at h ⊢; exact h
    · simp [Array.getElem?_eq_none h'] at h
  intro n
  induction n with
  | zero =>
    intro l a w hIl _ hr hy hSl H
    refine ⟨fun h => (by rw [h] at hr; cases hr), fun j hj => ?_⟩
    by_cases e : j = i
    · subst e; exact hy.wpOp hi (hT l w hIl (hnl hr) hSl) ⟨(hS l w).2 hSl, H⟩
    · have h1 := ready_mono hj e
      rw [H.1] at h1; cases h1
  | succ n ih =>
    intro l a w hIl hfree hr hy hSl H
    refine ⟨fun h => (by rw [h] at hr; cases hr), fun j hj => ?_⟩
    by_cases e : j = i
    · subst e; exact hy.wpOp hi (hT l w hIl (hnl hr) hSl) ⟨(hS l w).2 hSl, H⟩
    · have h1 := H.2 j (ready_mono hj e)
      obtain ⟨hjun, oj, hoj, hall⟩ := mem_ready.1 hj
      have hnot : ∀ d ∈ oj.after, Region.binds md d = true → d.on ≠ i := fun d hd hb heq => by
        have h2 := hall d hd hb
        rw [heq] at h2
        have h3 := hnl hr
        simp [h3] at h2
      have h2 := wpOp_putIf hoj (hfree j oj hoj e hjun hnot) (fun cs b => hsel i oi cs b hi) (fun cs b => hsel j oj cs b hoj) hQ hy h1
      refine wpOp_mono (fun a' w' h3 => ?_) h2
      have hc : (l.setIfInBounds i true).setIfInBounds j true = (l.setIfInBounds j true).setIfInBounds i true := Array.setIfInBounds_comm _ _ (Ne.symm e)
      obtain ⟨h4, h5, h6⟩ := h3
      rw [hc] at h5 h6
      have h7 := (hS _ _).1 h5
      refine ⟨h7, ih (l.setIfInBounds j true) a' w' (hI l j hIl hj) (fun k ok hk hki hun hno => ?_) (ready_mono hr (Ne.symm e)) h4 h7 h6⟩
      refine hfree k ok hk hki ?_ hno
      by_cases hjk : j = k
      · subst hjk; exact hjun
      · rw [getD_set_ne true hjk] at hun; exact hun
theorem wpPh.take {T : World → Prop} {I : Array Bool → Prop} {i : Nat} {oi : Oper} {v : Value} {n : Nat} {l : Array Bool} {a : Act} {w : World} (hi : ops[i]? = some oi)
    (hs : Region.noSelect ops = true) (hf : Region.free md ops l i = true) (hr : (Region.ready md ops l).contains i = true)
    (hQ : ∀ c a w, Q (.panic c) (a.put oi.dst v) w → Q (.panic c) a w)
    (hI : ∀ l j, I l → j ∈ Region.ready md ops l → I (l.setIfInBounds j true)) (hT : ∀ l w, I l → l[i]? = some false → S l w → T w) (hS : ∀ l w, S (l.setIfInBounds i true) w ↔ S l w)
    (hIl : I l) (hy : YieldsIf P ops T oi v a) (hSl : S l w)
    (h : wpPh P md ops Q S n (l.setIfInBounds i true) (a.put oi.dst v) w) : wpPh P md ops Q S (n + 1) l a w :=
  wpPh.first hi hs hQ hI hT hS n l a w hIl (Region.free_spec hi hf) (by simpa using hr) hy hSl h
theorem wpPh.all {rs : List Nat} {n : Nat} {l : Array Bool} {a : Act} {w : World} (hr : Region.ready md ops l = rs) (hne : rs ≠ [])
    (h : ∀ i ∈ rs, wpOp P ops Q i (fun a' w' => S (l.setIfInBounds i true) w' ∧ wpPh P md ops Q S n (l.setIfInBounds i true) a' w') a w) : wpPh P md ops Q S (n + 1) l a w :=
  ⟨fun h0 => absurd (hr ▸ h0) hne, hr ▸ h⟩
theorem wpPh.done {l : Array Bool} {a : Act} {w : World} (hr : Region.ready md ops l = []) (h : Q .normal a w) : ∀ n, wpPh P md ops Q S n l a w
  | 0 => ⟨hr, h⟩
  | _ + 1 => ⟨fun _ => h, by rw [hr]; simp⟩
theorem wp_region_ph {id : Nat} {a : Act} {w : World} (hm : P.follows .mixedOrders = true)
    (h : wpPh P .any ops Q S ops.size (Array.replicate ops.size false) a { w with drawn := w.drawn + 1 }) : (Code.region id ops true).wp P Q a w :=
  wp_region_any hm (wpPh.any _ _ _ _ h)
theorem wpOp_go {i : Nat} {o : Oper} {K : Act → World → Prop} {a : Act} {w : World} (hi : ops[i]? = some o) (hw : Region.wanted o (yielded ops a.tmps) = true) (h : o.wp P a w K Q) : wpOp P ops Q i K a w := by
  unfold wpOp
  rw [hi]
  show (if Region.wanted o (yielded ops a.tmps) = true then o.wp P a w K Q ∨ (o.asks P a w ∧ LetsOut Q) else K (a.put o.dst undef) w)
  rw [if_pos hw]
  exact .inl h
theorem wpOp_step {i : Nat} {o : Oper} {K : Act → World → Prop} {a : Act} {w : World} {E : Prop} (hi : ops[i]? = some o) (hw : Region.wanted o (yielded ops a.tmps) = true)
    (h : if Region.wanted o (yielded ops a.tmps) = true then o.wp P a w K Q else E) : wpOp P ops Q i K a w := wpOp_go hi hw (by rwa [if_pos hw] at h)
theorem set_true {l : Array Bool} {j x : Nat} (h : l[x]? = some true) : (l.setIfInBounds j true)[x]? = some true := by
  rw [Array.getElem?_setIfInBounds]
  split
  next e =>
    subst e
    have hlt := (Array.getElem?_eq_some_iff.1 h).1
    rw [if_pos hlt]
  next => exact h
theorem getD_true {l : Array Bool} {x : Nat} (h : l.getD x false = true) : l[x]? = some true := by
  rcases Nat.lt_or_ge x l.size with h' | h'
  · simp [h'] at h ⊢; exact h
  · simp [Array.getElem?_eq_none h'] at h
/-- What number m waits for has come up where m has. -/
theorem waits_keep {m : Nat} {om : Oper} {xs : List Nat} (hm : ops[m]? = some om) (hx : ∀ x ∈ xs, ∃ e ∈ om.after, e.on = x ∧ Region.binds md e = true) (l : Array Bool) (j : Nat)
    (h : m < l.size ∧ (l[m]? = some true → ∀ x ∈ xs, l[x]? = some true)) (hj : j ∈ Region.ready md ops l) :
    m < (l.setIfInBounds j true).size ∧ ((l.setIfInBounds j true)[m]? = some true → ∀ x ∈ xs, (l.setIfInBounds j true)[x]? = some true) := by
  refine ⟨by simpa using h.1, fun h1 x hxx => ?_⟩
  by_cases e : j = m
  · subst e
    obtain ⟨_, oj, hoj, hall⟩ := mem_ready.1 hj
    rw [hm] at hoj
    cases hoj
    obtain ⟨d, hd, rfl, hb⟩ := hx x hxx
    exact set_true (getD_true (hall d hd hb))
  · rw [Array.getElem?_setIfInBounds_ne e] at h1
    exact set_true (h.2 h1 x hxx)
theorem not_yet {l : Array Bool} {m x : Nat} {xs : List Nat} (h : m < l.size ∧ (l[m]? = some true → ∀ x ∈ xs, l[x]? = some true)) (hx : x ∈ xs) (h0 : l[x]? = some false) : l[m]? = some false := by
  have h1 := Array.getElem?_eq_getElem h.1
  cases hv : l[m] with
  | false => rw [h1, hv]
  | true =>
    rw [hv] at h1
    rw [h.2 h1 x hx] at h0; cases h0
end
end Go.Proofs.Ytehdimaihkckkaa
