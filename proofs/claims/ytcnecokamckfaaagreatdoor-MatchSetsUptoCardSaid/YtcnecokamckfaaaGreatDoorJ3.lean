/- Joined: Ra4, Tk8, Rs4, Rs5. -/
import Derived.Test.YtcnecokamckfaaaGreatDoorK8
import Derived.OrdersHeld
import Derived.Test.YtcnecokamckfaaaGreatDoorJ2
import Derived.Test.YtcnecokamckfaaaGreatDoorK7
set_option linter.unusedVariables false
set_option linter.unusedSimpArgs false
/- Laws for a row that is laid anew: append onto nil, append of what may be nothing, slices from the front and to the end. -/
namespace Go.Proofs.YtcnecokamckfaaaGreatDoor
open Go Go.RowKit Go.Sort

theorem below_of_grown0 {w w' : World} (h : w.grownBy w' (Value.slice none 0 0).ownBlock) : Below w.heap.size w w' := ⟨h.os, h.tape, h.output, h.size, fun k hk => h.block k hk (by simp [Value.ownBlock])⟩
theorem run_append_first {P : Program} (w : World) (t ty e : TypeId) (i : TypeInfo) (ht : P.underlying t = some (.slice e)) (hi : P.info? e = some i) (c : Nat) : (Builtin.append_ #[t, t] ty #[.slice none 0 0, .slice none 0 c]).run P w = .ok (.slice none 0 0) w := by
  simp [Builtin.append_, run_underlying ht, sizeOf, typeInfo, hi, Builtin.lenOf, Builtin.firstCells]
/-- append onto nil, whatever the source. -/
theorem wpList_append_first {P : Program} {w : World} {ops : Array Oper} {rest : List Oper} {o : Oper} {a : Act} {Q : Exit → Act → World → Prop} (hgd : o.guard = none) (s x : Operand) (t : TypeId)
    (ho : o.op = .call { callee := .builtin .append, args := #[s, x], argTypes := #[t, t] })
    (e : TypeId) (i : TypeInfo) (z : Value) (size bytes : Nat) (ht : P.underlying t = some (.slice e)) (hi : P.info? e = some i) (hz : i.zero = some z)
    (hsize : i.size = size) (hby : i.bytes = bytes) (hzs : z.cells.size = size) (hsz : 0 < size)
    (hs : a.eval s = .slice none 0 0) (A : Option Addr) (n c : Nat) (xs : List Value) (hx : a.eval x = .slice A n c) (hl : xs.length = n * size)
    (hr : 0 < n → ∃ ad, A = some ad ∧ ∀ j u, xs[j]? = some u → w.cell? (ad.add j) = some u) (h1 : ∀ u ∈ xs, u.oneCell' = true)
    (h63 : n ≤ maxLen) (hbytes : n * bytes ≤ 140737488355328)
    (h : ∀ v' w', w'.ownsRow w.heap.size e size v' n xs → Below w.heap.size w w' → wpList P ops Q rest (a.put o.dst v') w') : wpList P ops Q (o :: rest) a w := by
  cases A with
  | none =>
    have hn : n = 0 := by
      rcases Nat.eq_zero_or_pos n with h0 | h0
      · exact h0
      · obtain ⟨ad, e, _⟩ := hr h0; cases e
    subst hn
    have hxs : xs = [] := List.eq_nil_of_length_eq_zero (by simpa using hl)
    subst hxs
    refine wpList_plain hgd fun K hK => ?_
    have hrun := run_append_first (P := P) w t o.type e i ht hi c
    unfold Oper.wp
    simp [execOp, ho, resolve, invoke, builtin, hs, hx, hrun, Result.andThen]
    exact hK _ _ (h _ _ (World.ownsRow_nil _ _ _ _) (Below.refl _ _))
  | some ad =>
    refine wpList_append_own w hgd s x t ho w.heap.size e i z size bytes ht hi hz hsize hby hzs hsz (.slice none 0 0) 0 [] hs (World.ownsRow_nil _ _ _ _) ad n c xs hx hl (fun j u hj => ?_) h1 (by omega) (by rw [Nat.zero_add]; exact hbytes) (Nat.le_refl _) ?_
    · have hn : 0 < n := by
        rcases Nat.eq_zero_or_pos n with h0 | h0
        · rw [h0, Nat.zero_mul] at hl
          rw [List.eq_nil_of_length_eq_zero hl] at hj
          simp at hj
        · exact h0
      obtain ⟨ad', e, hc⟩ := hr hn
      cases e
      exact hc j u hj
    · intro v' w' hown hgrow _
      rw [Nat.zero_add, List.nil_append] at hown
      exact h v' w' hown (below_of_grown0 hgrow)
theorem run_append_none {P : Program} (w : World) (t ty e : TypeId) (i : TypeInfo) (ht : P.underlying t = some (.slice e)) (hi : P.info? e = some i) (a : Option Addr) (n c c' : Nat) (hn : n ≤ c) : (Builtin.append_ #[t, t] ty #[.slice a n c, .slice none 0 c']).run P w = .ok (.slice a n c) w := by
  cases a <;> simp [Builtin.append_, run_underlying ht, sizeOf, typeInfo, hi, Builtin.lenOf, Builtin.firstCells, hn, storeCells]
/-- append of what may be nothing onto a row of the call's own, as a step of a region that draws its order. -/
theorem step_append_rest {P : Program} {w : World} {ops : Array Oper} {o : Oper} {a : Act} {K : Act → World → Prop} {Q : Exit → Act → World → Prop} {E : Prop} (hgd : o.guard = none) (s x : Operand) (t : TypeId)
    (ho : o.op = .call { callee := .builtin .append, args := #[s, x], argTypes := #[t, t] })
    (base : Nat) (e : TypeId) (i : TypeInfo) (z : Value) (size bytes : Nat) (ht : P.underlying t = some (.slice e)) (hi : P.info? e = some i) (hz : i.zero = some z)
    (hsize : i.size = size) (hby : i.bytes = bytes) (hzs : z.cells.size = size) (hsz : 0 < size)
    (v : Value) (n : Nat) (xs : List Value) (hs : a.eval s = v) (hown : w.ownsRow base e size v n xs)
    (A : Option Addr) (m c : Nat) (news : List Value) (hx : a.eval x = .slice A m c) (hl : news.length = m * size)
    (hr : 0 < m → ∃ ad, A = some ad ∧ ∀ j u, news[j]? = some u → w.cell? (ad.add j) = some u) (h1 : ∀ u ∈ news, u.oneCell' = true)
    (h63 : n + m ≤ maxLen) (hbytes : (n + m) * bytes ≤ 140737488355328) (hbase : base ≤ w.heap.size)
    (h : ∀ v' w', w'.ownsRow base e size v' (n + m) (xs ++ news) → w.grownBy w' v.ownBlock → K (a.put o.dst v') w') : if Region.wanted o (yielded ops a.tmps) = true then Oper.wp P o a w K Q else E := by
  cases A with
  | none =>
    have hm : m = 0 := by
      rcases Nat.eq_zero_or_pos m with h0 | h0
      · exact h0
      · obtain ⟨ad, e, _⟩ := hr h0; cases e
    subst hm
    have hnews : news = [] := List.eq_nil_of_length_eq_zero (by simpa using hl)
    subst hnews
    have hw : Region.wanted o (yielded ops a.tmps) = true := by simp [Region.wanted, hgd]
    rw [if_pos hw]
    obtain ⟨va, vc, hv, hnc⟩ : ∃ va vc, v = .slice va n vc ∧ n ≤ vc := by
      rcases hown.2 with ⟨rfl, rfl⟩ | ⟨g, cap, cur, rfl, _, _, hc, _⟩
      · exact ⟨none, 0, rfl, Nat.le_refl _⟩
      · exact ⟨_, cap, rfl, hc⟩
    subst hv
    have hrun := run_append_none (P := P) w t o.type e i ht hi va n vc c hnc
    unfold Oper.wp
    simp [execOp, ho, resolve, invoke, builtin, hs, hx, hrun, Result.andThen]
    exact h _ _ (by simpa using hown) ⟨rfl, rfl, rfl, Nat.le_refl _, fun k hk _ => rfl⟩
  | some ad =>
    refine step_append_own hgd s x t ho base e i z size bytes ht hi hz hsize hby hzs hsz v n xs hs hown ad m c news hx hl (fun j u hj => ?_) h1 h63 hbytes hbase h
    have hm : 0 < m := by
      rcases Nat.eq_zero_or_pos m with h0 | h0
      · rw [h0, Nat.zero_mul] at hl
        rw [List.eq_nil_of_length_eq_zero hl] at hj
        simp at hj
      · exact h0
    obtain ⟨ad', e, hc⟩ := hr hm
    cases e
    exact hc j u hj
theorem grown_types {w w' : World} {base e size n : Nat} {v : Value} {xs : List Value} (ho : w.ownsRow base e size v n xs) (hg : w.grownBy w' v.ownBlock) : ∀ (k : Nat) (cs : Array Value) (t : Nat) (fr : Nat × Nat), t ≠ e → w.heap[k]? = some (.cells cs t fr) → w'.heap[k]? = some (.cells cs t fr) := fun k cs t fr hne hk => by
  refine (hg.block k (lt_of_block hk) (fun h => ?_)).trans hk
  rcases ho.2 with ⟨rfl, _⟩ | ⟨g, cap, cur, rfl, _, hgg, _⟩
  · simp [Value.ownBlock] at h
  · simp only [Value.ownBlock, Option.some.injEq] at h
    rw [← h, hk] at hgg
    cases hgg; exact hne rfl
def lowA (a : Option Addr) (cap k : Nat) : Option Addr := if cap = k then a else a.map (·.add k)
theorem run_high4 {P : Program} (W : World) (t e : TypeId) (ht : P.underlying t = some (.slice e)) (hz : ∀ w, (Go.sizeOf e).run P w = .ok 1 w) (a : Option Addr) (len cap k : Nat) (hk : k ≤ cap) :
    (Instr.slice t (.slice a len cap) none (some (.int .i64 (k : Int))) none).run P W = .ok (.slice a k cap) W := by
  have ht' : P.underlying t = some (.slice (P.elem t)) := by simp [Program.elem, ht]
  have he : P.elem t = e := by simp [Program.elem, ht]
  rw [run_slice_h W t _ _ _ ht' .i64 _ (by omega) (by omega), he, hz]
  cases a <;> simp [Result.andThen, sliced, Addr.add]
theorem run_low4 {P : Program} (W : World) (t e : TypeId) (ht : P.underlying t = some (.slice e)) (hz : ∀ w, (Go.sizeOf e).run P w = .ok 1 w) (a : Option Addr) (len cap k : Nat) (hk : k ≤ len) :
    (Instr.slice t (.slice a len cap) (some (.int .i64 (k : Int))) none none).run P W = .ok (.slice (lowA a cap k) (len - k) (cap - k)) W := by
  have ht' : P.underlying t = some (.slice (P.elem t)) := by simp [Program.elem, ht]
  have he : P.elem t = e := by simp [Program.elem, ht]
  rw [run_slice_l W t _ _ _ ht' .i64 _ (by omega) (by omega), he, hz]
  simp [Result.andThen, sliced, lowA]
end Go.Proofs.YtcnecokamckfaaaGreatDoor

/- A load may be taken first where the store that hits its cell waits for it: what holds of the world hangs on what has come up. -/
namespace Go.Proofs.YtcnecokamckfaaaGreatDoor
open Go

section
variable {P : Program} {ops : Array Oper} {Q : Exit → Act → World → Prop} {md : Region.Mode} {S : Array Bool → World → Prop}
/-- In whatever order, what is asked of the world behind each step named by what has come up. -/
def wpPh (P : Program) (md : Region.Mode) (ops : Array Oper) (Q : Exit → Act → World → Prop) (S : Array Bool → World → Prop) : Nat → Array Bool → Act → World → Prop
  | 0, l, a, w => Region.ready md ops l = [] ∧ Q .normal a w
  | n + 1, l, a, w => (Region.ready md ops l = [] → Q .normal a w) ∧
    ∀ i ∈ Region.ready md ops l, wpOp P ops Q i (fun a' w' => S (l.setIfInBounds i true) w' ∧ wpPh P md ops Q S n (l.setIfInBounds i true) a' w') a w
theorem wpPh.any : ∀ (n : Nat) (l : Array Bool) (a : Act) (w : World), wpPh P md ops Q S n l a w → wpAny P md ops Q n l a w
  | 0, _, _, _, h => h
  | n + 1, _, _, _, h => ⟨h.1, fun i hi => wpOp_mono (fun a' w' h' => wpPh.any n _ a' w' h'.2) (h.2 i hi)⟩
/-- Number i first: T holds in each world in which it may come up. -/
theorem wpPh.first {T : World → Prop} {I : Array Bool → Prop} {i : Nat} {oi : Oper} {v : Value} (hi : ops[i]? = some oi) (hs : Region.noSelect ops = true)
    (hQ : ∀ c a w, Q (.panic c) (a.put oi.dst v) w → Q (.panic c) a w)
    (hI : ∀ l j, I l → j ∈ Region.ready md ops l → I (l.setIfInBounds j true)) (hT : ∀ l w, I l → l[i]? = some false → S l w → T w) (hS : ∀ l w, S (l.setIfInBounds i true) w ↔ S l w) :
    ∀ (n : Nat) (l : Array Bool) (a : Act) (w : World), I l →
      (∀ j oj, ops[j]? = some oj → j ≠ i → l.getD j true = false → (∀ e ∈ oj.after, Region.binds md e = true → e.on ≠ i) → oi.apart ops oj = true) →
      i ∈ Region.ready md ops l → YieldsIf P ops T oi v a → S l w → wpPh P md ops Q S n (l.setIfInBounds i true) (a.put oi.dst v) w → wpPh P md ops Q S (n + 1) l a w := by
  have hsel := fun (j : Nat) (o : Oper) cs b => Region.noSelect_spec hs j o cs b
  have hnl : ∀ {l : Array Bool}, i ∈ Region.ready md ops l → l[i]? = some false := fun {l} hr => by
    have h := (mem_ready.1 hr).1
    rcases Nat.lt_or_ge i l.size with h' | h'
    · simp [h'] at h ⊢; exact h
    · simp [Array.getElem?_eq_none h'] at h
  intro n
  induction n with
  | zero =>
    intro l a w hIl _ hr hy hSl H
    refine ⟨fun h => (by rw [h] at hr; cases hr), fun j hj => ?_⟩
    by_cases e : j = i
    · subst e; exact hy.wpOp hi (hT l w hIl (hnl hr) hSl) ⟨(hS l w).2 hSl, H⟩
    · have h1 := ready_mono hj e
      rw [H.1] at h1; cases h1
  | succ n ih =>
    intro l a w hIl hfree hr hy hSl H
    refine ⟨fun h => (by rw [h] at hr; cases hr), fun j hj => ?_⟩
    by_cases e : j = i
    · subst e; exact hy.wpOp hi (hT l w hIl (hnl hr) hSl) ⟨(hS l w).2 hSl, H⟩
    · have h1 := H.2 j (ready_mono hj e)
      obtain ⟨hjun, oj, hoj, hall⟩ := mem_ready.1 hj
      have hnot : ∀ d ∈ oj.after, Region.binds md d = true → d.on ≠ i := fun d hd hb heq => by
        have h2 := hall d hd hb
        rw [heq] at h2
        have h3 := hnl hr
        simp [h3] at h2
      have h2 := wpOp_putIf hoj (hfree j oj hoj e hjun hnot) (fun cs b => hsel i oi cs b hi) (fun cs b => hsel j oj cs b hoj) hQ hy h1
      refine wpOp_mono (fun a' w' h3 => ?_) h2
      have hc : (l.setIfInBounds i true).setIfInBounds j true = (l.setIfInBounds j true).setIfInBounds i true := Array.setIfInBounds_comm _ _ (Ne.symm e)
      obtain ⟨h4, h5, h6⟩ := h3
      rw [hc] at h5 h6
      have h7 := (hS _ _).1 h5
      refine ⟨h7, ih (l.setIfInBounds j true) a' w' (hI l j hIl hj) (fun k ok hk hki hun hno => ?_) (ready_mono hr (Ne.symm e)) h4 h7 h6⟩
      refine hfree k ok hk hki ?_ hno
      by_cases hjk : j = k
      · subst hjk; exact hjun
      · rw [getD_set_ne true hjk] at hun; exact hun
theorem wpPh.take {T : World → Prop} {I : Array Bool → Prop} {i : Nat} {oi : Oper} {v : Value} {n : Nat} {l : Array Bool} {a : Act} {w : World} (hi : ops[i]? = some oi)
    (hs : Region.noSelect ops = true) (hf : Region.free md ops l i = true) (hr : (Region.ready md ops l).contains i = true)
    (hQ : ∀ c a w, Q (.panic c) (a.put oi.dst v) w → Q (.panic c) a w)
    (hI : ∀ l j, I l → j ∈ Region.ready md ops l → I (l.setIfInBounds j true)) (hT : ∀ l w, I l → l[i]? = some false → S l w → T w) (hS : ∀ l w, S (l.setIfInBounds i true) w ↔ S l w)
    (hIl : I l) (hy : YieldsIf P ops T oi v a) (hSl : S l w)
    (h : wpPh P md ops Q S n (l.setIfInBounds i true) (a.put oi.dst v) w) : wpPh P md ops Q S (n + 1) l a w :=
  wpPh.first hi hs hQ hI hT hS n l a w hIl (Region.free_spec hi hf) (by simpa using hr) hy hSl h
theorem wpPh.all {rs : List Nat} {n : Nat} {l : Array Bool} {a : Act} {w : World} (hr : Region.ready md ops l = rs) (hne : rs ≠ [])
    (h : ∀ i ∈ rs, wpOp P ops Q i (fun a' w' => S (l.setIfInBounds i true) w' ∧ wpPh P md ops Q S n (l.setIfInBounds i true) a' w') a w) : wpPh P md ops Q S (n + 1) l a w :=
  ⟨fun h0 => absurd (hr ▸ h0) hne, hr ▸ h⟩
theorem wpPh.done {l : Array Bool} {a : Act} {w : World} (hr : Region.ready md ops l = []) (h : Q .normal a w) : ∀ n, wpPh P md ops Q S n l a w
  | 0 => ⟨hr, h⟩
  | _ + 1 => ⟨fun _ => h, by rw [hr]; simp⟩
theorem wp_region_ph {id : Nat} {a : Act} {w : World} (hm : P.follows .mixedOrders = true)
    (h : wpPh P .any ops Q S ops.size (Array.replicate ops.size false) a { w with drawn := w.drawn + 1 }) : (Code.region id ops true).wp P Q a w :=
  wp_region_any hm (wpPh.any _ _ _ _ h)
theorem wpOp_go {i : Nat} {o : Oper} {K : Act → World → Prop} {a : Act} {w : World} (hi : ops[i]? = some o) (hw : Region.wanted o (yielded ops a.tmps) = true) (h : o.wp P a w K Q) : wpOp P ops Q i K a w := by
  unfold wpOp
  rw [hi]
  show (if Region.wanted o (yielded ops a.tmps) = true then o.wp P a w K Q ∨ (o.asks P a w ∧ LetsOut Q) else K (a.put o.dst undef) w)
  rw [if_pos hw]
  exact .inl h
theorem wpOp_step {i : Nat} {o : Oper} {K : Act → World → Prop} {a : Act} {w : World} {E : Prop} (hi : ops[i]? = some o) (hw : Region.wanted o (yielded ops a.tmps) = true)
    (h : if Region.wanted o (yielded ops a.tmps) = true then o.wp P a w K Q else E) : wpOp P ops Q i K a w := wpOp_go hi hw (by rwa [if_pos hw] at h)
theorem set_true {l : Array Bool} {j x : Nat} (h : l[x]? = some true) : (l.setIfInBounds j true)[x]? = some true := by
  rw [Array.getElem?_setIfInBounds]
  split
  next e =>
    subst e
    have hlt := (Array.getElem?_eq_some_iff.1 h).1
    rw [if_pos hlt]
  next => exact h
theorem getD_true {l : Array Bool} {x : Nat} (h : l.getD x false = true) : l[x]? = some true := by
  rcases Nat.lt_or_ge x l.size with h' | h'
  · simp [h'] at h ⊢; exact h
  · simp [Array.getElem?_eq_none h'] at h
/-- What number m waits for has come up where m has. -/
theorem waits_keep {m : Nat} {om : Oper} {xs : List Nat} (hm : ops[m]? = some om) (hx : ∀ x ∈ xs, ∃ e ∈ om.after, e.on = x ∧ Region.binds md e = true) (l : Array Bool) (j : Nat)
    (h : m < l.size ∧ (l[m]? = some true → ∀ x ∈ xs, l[x]? = some true)) (hj : j ∈ Region.ready md ops l) :
    m < (l.setIfInBounds j true).size ∧ ((l.setIfInBounds j true)[m]? = some true → ∀ x ∈ xs, (l.setIfInBounds j true)[x]? = some true) := by
  refine ⟨by simpa using h.1, fun h1 x hxx => ?_⟩
  by_cases e : j = m
  · subst e
    obtain ⟨_, oj, hoj, hall⟩ := mem_ready.1 hj
    rw [hm] at hoj
    cases hoj
    obtain ⟨d, hd, rfl, hb⟩ := hx x hxx
    exact set_true (getD_true (hall d hd hb))
  · rw [Array.getElem?_setIfInBounds_ne e] at h1
    exact set_true (h.2 h1 x hxx)
theorem not_yet {l : Array Bool} {m x : Nat} {xs : List Nat} (h : m < l.size ∧ (l[m]? = some true → ∀ x ∈ xs, l[x]? = some true)) (hx : x ∈ xs) (h0 : l[x]? = some false) : l[m]? = some false := by
  have h1 := Array.getElem?_eq_getElem h.1
  cases hv : l[m] with
  | false => rw [h1, hv]
  | true =>
    rw [hv] at h1
    rw [h.2 h1 x hx] at h0; cases h0
end
end Go.Proofs.YtcnecokamckfaaaGreatDoor

/- The document's Add. -/
namespace Go.Proofs.YtcnecokamckfaaaGreatDoor
open Go Go.RowKit Go.Sort

set_option maxRecDepth 100000 in
set_option maxHeartbeats 6400000 in
theorem r10SetAdd_any (F : Nat → Prop) (q : Nat) (ks : List (List Bd)) (vs : List Value) (ao : Option Addr) (n cap : Nat) (bs : List Bd) (w : World) (h : RsM F w q ks vs) (hp : BsV w w.heap.size (.slice ao n cap) bs) (hk : ckP bs = 0 → KyB bs) (hm : ks.length < 5864062014805) :
    Calls Tryz.prog 16 #[.pointer (some ⟨q, 0, none⟩), .agg #[.slice ao n cap]] w fun e w' => e = .returned (.bool (decide (ckP bs = 0) && !hasR ks bs)) ∧ (∃ vs', RsM F w' q (addD ks bs) vs') ∧ Chg (fun k => k = q) w w' := by
  obtain ⟨ao2, cap2, hq, hcap, hcap2, hnil, hrow⟩ := h.row
  obtain ⟨P, hP⟩ : ∃ P, P = w.heap.size := ⟨_, rfl⟩
  obtain ⟨W0, hW0⟩ : ∃ W0, W0 = w.alloc (.cells #[.slice ao n cap] 38) := ⟨_, rfl⟩
  have hb0 : Below P w W0 := by rw [hW0, hP]; exact (Below.refl _ _).alloc (Nat.le_refl _) _
  have hs0 : W0.heap.size = P + 1 := by rw [hW0, hP]; simp
  have hx0 : W0.heap[P]? = some (.cells #[.slice ao n cap] 38 (0, 0)) := by rw [hW0, hP]; exact heap_alloc_new w _
  have hqP : q < P := by rw [hP]; exact lt_of_block hq
  have HX : Hid (∀ W, Below (P + 1) W0 W → Below w.heap.size w W ∧ W.cell? ⟨P, 0, none⟩ = some (.slice ao n cap) ∧ W.cell? ⟨q, 0, none⟩ = some (.slice ao2 ks.length cap2) ∧ P + 1 ≤ W.heap.size ∧ W.frozen? ⟨q, 0, none⟩ = false) := Lib.hid fun W hW => by
    have h1 := hb0.trans (hW.mono (by omega))
    have h2 := (h1.block q hqP).trans hq
    exact ⟨by rw [← hP]; exact h1, cells_one0 ((hW.block P (by omega)).trans hx0), cells_one0 h2, by have := hW.size; omega, free1 h2⟩
  have HCK := Lib.hid (fun u (hu : Below w.heap.size w u) => r10Check_any w.heap.size ao n cap bs u (hp.below hu (Nat.le_refl _)) hu.size)
  have HHS : Hid (∀ u, Below w.heap.size w u → Calls Tryz.prog 14 #[.pointer (some ⟨q, 0, none⟩), .agg #[.slice ao n cap]] u fun e w' => e = .returned (.bool (hasR ks bs)) ∧ Below u.heap.size u w') := Lib.hid fun u hu => by
    obtain ⟨v, h1, h2⟩ := (h.call hu).lp
    exact r10SetHas_any q v ks ao n cap bs u h1 h2 ((hp.below hu (Nat.le_refl _)).mono hu.size)
  have HCL := Lib.hid (fun u (hu : Below w.heap.size w u) => r10Clone_any w.heap.size ao n cap bs u (hp.below hu (Nat.le_refl _)) hu.size)
  have HCMP : Hid (∀ k, k < ks.length → ∃ b o aa m c, ao2 = some ⟨b, o, none⟩ ∧ (∀ W, Below (P + 1) W0 W → W.cell? ⟨b, o + k, none⟩ = some (.slice aa m c)) ∧ ∀ u, Below (P + 1) W0 u → Calls Tryz.prog 37 #[.agg #[.slice aa m c], .agg #[.slice ao n cap]] u fun e w' => e = .returned (.int .i64 (cmpL ks[k]! bs)) ∧ Below u.heap.size u w') := Lib.hid fun k hkl => by
    obtain ⟨b, o, e, hF, hb, hc⟩ := hrow (by omega)
    obtain ⟨hs, aa, m, c, hv⟩ := h.nth hkl
    have h1 := hc k hkl
    rw [hv] at h1 hs
    refine ⟨b, o, aa, m, c, e, fun W hW => ((HX.out W hW).1.cell (p := ⟨b, o + k, none⟩) hb).trans h1, fun u hu => ?_⟩
    have h3 := (HX.out u hu).1
    exact r10Compare_any w.heap.size w.heap.size aa m c ao n cap ks[k]! bs u (hs.now.below h3 (Nat.le_refl _)) (hp.below h3 (Nat.le_refl _)) h3.size h3.size
  have HSET := Lib.hid h
  have hmany := h.many
  have HP := Lib.hid hP; have HW0 := Lib.hid hW0; have HNIL := Lib.hid hnil; have HROW := Lib.hid hrow; have HKY := Lib.hid hk; have HM := Lib.hid hm; have HS0 := Lib.hid hs0
  have HB0 := Lib.hid (Below.refl (P + 1) W0)
  obtain ⟨hbw, c1, c2, hz, _⟩ := HX.out W0 HB0.out
  have HBW := Lib.hid hbw; have HZ := Lib.hid hz
  clear h hp hk hm hb0 hs0 hx0 hqP hq hnil hrow hP hW0 hbw hz
  by_cases hck : ckP bs = 0
  case neg =>
    have hr : addD ks bs = ks := if_neg fun hh => hck hh.1
    have hne : (ckP bs != 0) = true := by simp [hck]
    have hne2 : (ckP bs == 0) = false := beq_eq_false_iff_ne.2 hck
    rw [decide_eq_false hck, hr]
    generalize ckP bs = cv at HCK hne hne2 hck
    go_enter Tryz.func16, Tryz.ntmps16
    go_wp2_with fail
    rw [← HW0.out, ← HP.out]
    go_wp2_with (first | (go_at_call 39; (with_reducible refine (HCK.out _ HBW.out).mono ?_); rintro e w1 ⟨rfl, hb⟩; have HB1 := Lib.hid (HB0.out.trans (hb.mono HZ.out)); clear hb))
    go_ret
    exact ⟨rfl, ⟨vs, HSET.out.call (HX.out _ HB1.out).1⟩, Chg.of_below (HX.out _ HB1.out).1⟩
  case pos =>
    rw [hck] at HCK
    cases hh : hasR ks bs with
    | true =>
      rw [hh] at HHS
      have hr : addD ks bs = ks := if_neg fun h2 => by rw [hh] at h2; cases h2.2
      rw [decide_eq_true hck, hr]
      clear hck hh
      go_enter Tryz.func16, Tryz.ntmps16
      go_wp2_with fail
      rw [← HW0.out, ← HP.out]
      go_wp2_with (first
        | (go_at_call 39; (with_reducible refine (HCK.out _ HBW.out).mono ?_); rintro e w1 ⟨rfl, hb⟩; have HB1 := Lib.hid (HB0.out.trans (hb.mono HZ.out)); clear hb c1 c2; obtain ⟨hbw, c1, c2, hz, _⟩ := HX.out w1 HB1.out; have HBW1 := Lib.hid hbw; have HZ1 := Lib.hid hz; clear hbw hz)
        | (go_at_call 14; (with_reducible refine (HHS.out _ HBW1.out).mono ?_); rintro e w2 ⟨rfl, hb⟩; have HB2 := Lib.hid (HB1.out.trans (hb.mono HZ1.out)); clear hb))
      go_ret
      exact ⟨rfl, ⟨vs, HSET.out.call (HX.out _ HB2.out).1⟩, Chg.of_below (HX.out _ HB2.out).1⟩
    | false =>
      rw [hh] at HHS
      have hr : addD ks bs = insR ks bs := if_pos ⟨hck, hh⟩
      rw [decide_eq_true hck, hr]
      clear hh
      go_enter Tryz.func16, Tryz.ntmps16
      go_wp2_with fail
      rw [← HW0.out, ← HP.out]
      go_wp2_with (first
        | (go_at_call 39; (with_reducible refine (HCK.out _ HBW.out).mono ?_); rintro e w1 ⟨rfl, hb⟩; have HB1 := Lib.hid (HB0.out.trans (hb.mono HZ.out)); clear hb c1 c2; obtain ⟨hbw, c1, c2, hz, _⟩ := HX.out w1 HB1.out; have HBW1 := Lib.hid hbw; have HZ1 := Lib.hid hz; clear hbw hz)
        | (go_at_call 14; (with_reducible refine (HHS.out _ HBW1.out).mono ?_); rintro e w2 ⟨rfl, hb⟩; have HB2 := Lib.hid (HB1.out.trans (hb.mono HZ1.out)); clear hb c1 c2))
      go_loopw [5] (fun iv wr => ∃ k : Nat, k ≤ ks.length ∧ iv = .int .i64 k ∧ Hid (∀ j, j < k → cmpL ks[j]! bs < 0) ∧ Hid (Below (P + 1) W0 wr)) (fun iv _ => ks.length - (intOf iv).toNat)
      case atStart => exact ⟨0, Nat.zero_le _, rfl, Lib.hid (fun j hj => absurd hj (by omega)), HB2⟩
      case round =>
        obtain ⟨k, hkl, rfl, HK, HB⟩ := hrel
        obtain ⟨hbp, c1, c2, hz, fq⟩ := HX.out wr HB.out
        have HZr := Lib.hid hz
        have m1 := cell_regrown c1; have m2 := cell_regrown c2
        have hkz : (0 : Int) ≤ (k : Int) := by omega
        have e1 : IntKind.i64.wrap ((k : Int) + 1) = (k : Int) + 1 := IntWalk.i64_in _ (by omega)
        clear hbp hz
        by_cases hgo : k < ks.length ∧ cmpL ks[k]! bs < 0
        · obtain ⟨hlt, hneg⟩ := hgo
          obtain ⟨b, o, aa, m, c, rfl, he, hC⟩ := HCMP.out k hlt
          have m0 := cell_regrown (he wr HB.out)
          have HNX : Hid (∀ j, j < k + 1 → cmpL ks[j]! bs < 0) := Lib.hid fun j hj => by
            by_cases hjk : j < k
            · exact HK.out j hjk
            · obtain rfl : j = k := by omega
              exact hneg
          have hki : decide ((k : Int) < (ks.length : Int)) = true := by simpa using hlt
          have R1 := Lib.hid (rg (w := wr) (fun u hu => hC u (HB.out.trans (hu.mono HZr.out))))
          have hd := decide_eq_true hneg
          generalize cmpL ks[k]! bs = cv at R1 hd hneg
          clear he hC c1 c2 fq
          go_wp2_with fail
          refine wp_region_quiet_below (by kernel_rfl) (by kernel_rfl) ?_
          repeat (quiet_step (with_reducible exact R1.out _ _))
          refine wpQuiet_nil ?_
          intro _ hw'
          obtain ⟨⟨dq, osq⟩, hw''⟩ := hw'
          subst hw''
          have hb1 : Below (P + 1) W0 (grow (redrawn wr dq) osq) := HB.out.trans ((below_regrown wr dq osq).mono HZr.out)
          clear m0 m1 m2 R1
          generalize grow (redrawn wr dq) osq = u1 at hb1 ⊢
          have HB1 := Lib.hid hb1
          clear hb1
          go_wp2
          go_roundw
          case rel => exact ⟨k + 1, by omega, by go_num, HNX, HB1⟩
          case measure => simp [intOf]; omega
        · have HIX : Hid (idxR ks bs = k) := Lib.hid (idxR_is hkl (fun j hj => HK.out j hj) (fun hlt hneg => hgo ⟨hlt, hneg⟩))
          have HLT : Hid (∀ u, Below w.heap.size w u → 0 < k → ∃ ad, ao2 = some ad ∧ ∀ j x, (vs.take k)[j]? = some x → u.cell? (ad.add j) = some x) := Lib.hid fun u hu h0 => by
            obtain ⟨b, o, e, _, hb, hc⟩ := HROW.out (by omega)
            refine ⟨_, e, fun j x hj => ?_⟩
            have hjk : j < k := by have := (List.getElem?_eq_some_iff.1 hj).1; rw [List.length_take] at this; omega
            have hjv : j < vs.length := by rw [HSET.out.vsl]; omega
            rw [List.getElem?_take_of_lt hjk, List.getElem?_eq_getElem hjv] at hj
            have := hc j (by omega)
            rw [getElem!_pos vs j hjv] at this
            rw [Addr.add_lit, (hu.cell (p := ⟨b, o + j, none⟩) hb), this, hj]
          have HONE : Hid (∀ u ∈ vs, u.oneCell' = true) := Lib.hid fun u hu => by
            obtain ⟨j, hj, rfl⟩ := List.getElem_of_mem hu
            obtain ⟨_, a, n', c, hv⟩ := HSET.out.nth (j := j) (by rw [← HSET.out.vsl]; exact hj)
            rw [getElem!_pos vs j hj] at hv
            rw [hv]; rfl
          have HTL : Hid ((vs.take k).length = k * 1) := Lib.hid (by rw [List.length_take, HSET.out.vsl]; omega)
          obtain ⟨i0, hi, hz0, hz1, hz2⟩ := info_parts infoPt
          have HKLE : Hid (k ≤ ks.length) := Lib.hid hkl
          have HMN : Hid (ks.length < 5864062014805 ∧ k ≤ ks.length) := Lib.hid ⟨HM.out, hkl⟩
          have hszp : ∀ w, (Go.sizeOf 38).run Tryz.prog w = .ok 1 w := fun w => by simp [Go.sizeOf, typeInfo, hi, hz1]
          have hsl6 := fun wx => run_high4 (P := Tryz.prog) wx 22 38 Tryz.underlying22 hszp ao2 ks.length cap2 k (Nat.le_trans hkl hcap)
          have HSL := Lib.hid (fun wx => run_low4 (P := Tryz.prog) wx 22 38 Tryz.underlying22 hszp ao2 ks.length cap2 k hkl)
          have HDL : Hid ((vs.drop k).length = (ks.length - k) * 1) := Lib.hid (by rw [List.length_drop, HSET.out.vsl]; omega)
          have HDR : Hid (∀ u, Below w.heap.size w u → 0 < ks.length - k → ∃ ad, lowA ao2 cap2 k = some ad ∧ ∀ j x, (vs.drop k)[j]? = some x → u.cell? (ad.add j) = some x) := Lib.hid fun u hu h0 => by
            obtain ⟨b, o, e, _, hb, hc⟩ := HROW.out (by omega)
            have hne : ¬ cap2 = k := by omega
            refine ⟨⟨b, o + k, none⟩, ?_, fun j x hj => ?_⟩
            · unfold lowA
              rw [if_neg hne, e]
              simp only [Option.map_some, Option.some.injEq]
              exact Addr.add_lit _ _ _
            · have hjk : j < vs.length - k := by have := (List.getElem?_eq_some_iff.1 hj).1; rwa [List.length_drop] at this
              have hvl := HSET.out.vsl
              have hjv : k + j < vs.length := by omega
              rw [List.getElem?_drop, List.getElem?_eq_getElem hjv] at hj
              have := hc (k + j) (by omega)
              rw [getElem!_pos vs (k + j) hjv] at this
              rw [Addr.add_lit, (hu.cell (p := ⟨b, o + k + j, none⟩) hb), Nat.add_assoc, this, hj]
          clear hszp
          have HSL6 := Lib.hid hsl6
          by_cases hlt : k < ks.length
          · have hneg : ¬ cmpL ks[k]! bs < 0 := fun hh => hgo ⟨hlt, hh⟩
            obtain ⟨b, o, aa, m, c, rfl, he, hC⟩ := HCMP.out k hlt
            have m0 := cell_regrown (he wr HB.out)
            have hki : decide ((k : Int) < (ks.length : Int)) = true := by simpa using hlt
            have R1 := Lib.hid (rg (w := wr) (fun u hu => hC u (HB.out.trans (hu.mono HZr.out))))
            have hd := decide_eq_false hneg
            generalize cmpL ks[k]! bs = cv at R1 hd hneg
            clear he hC c1 c2 fq hsl6 hgo
            go_wp2_with fail
            refine wp_region_quiet_below (by kernel_rfl) (by kernel_rfl) ?_
            repeat (quiet_step (with_reducible exact R1.out _ _))
            refine wpQuiet_nil ?_
            intro _ hw'
            obtain ⟨⟨dq, osq⟩, hw''⟩ := hw'
            subst hw''
            have hb1 : Below (P + 1) W0 (grow (redrawn wr dq) osq) := HB.out.trans ((below_regrown wr dq osq).mono HZr.out)
            clear m0 m1 m2 R1
            generalize grow (redrawn wr dq) osq = u1 at hb1 ⊢
            have HB1 := Lib.hid hb1
            clear hb1
            have hsl6 := HSL6.out
            obtain ⟨hbp, c1, c2, hz, fq⟩ := HX.out u1 HB1.out
            have HBP := Lib.hid hbp
            have HZ1 := Lib.hid hz
            clear hbp hz
            go_wp2_with (at_builtin; refine wpList_append_first rfl (.const (.slice none 0 0)) (.tmp 41) 22 rfl 38 i0 (.agg #[.slice none 0 0]) 1 24 Tryz.underlying22 hi hz0 hz1 hz2 rfl (by decide) rfl (some ⟨b, o, none⟩) k cap2 (vs.take k) rfl HTL.out (HLT.out u1 HBP.out) (fun u hu => HONE.out u (List.mem_of_mem_take hu)) (by have := HMN.out; unfold maxLen; omega) (by have := HMN.out; omega) ?_; intro v2 w2 hown2 hb2; have HOW2 := Lib.hid hown2; have HB2' := Lib.hid (HB1.out.trans (hb2.mono HZ1.out)); have HS12 : Hid (u1.heap.size ≤ w2.heap.size) := Lib.hid hb2.size; clear c1 c2 fq hown2 hb2)
            have HU1 : Hid (P + 1 ≤ u1.heap.size) := HZ1
            clear HBP HZ1
            obtain ⟨hbp2, c1, c2, hz, fq⟩ := HX.out w2 HB2'.out
            have HBD : Hid (Below w.heap.size w w2.drew) := Lib.hid hbp2.drew
            have HZ2 := Lib.hid hz
            have hsl11 := HSL.out
            clear hbp2 hz hsl6
            have HS0 : Hid (∀ l : Array Bool, l[15]? = some false → (w2.drew.cell? ⟨P, 0, none⟩ = some (.slice ao n cap) ∧ w2.drew.cell? ⟨q, 0, none⟩ = some (.slice (some ⟨b, o, none⟩) ks.length cap2))) := Lib.hid (fun _ _ => ⟨c1, c2⟩)
            refine wp_region_ph (S := (fun (l : Array Bool) (u : World) => l[15]? = some false → (u.cell? ⟨P, 0, none⟩ = some (.slice ao n cap) ∧ u.cell? ⟨q, 0, none⟩ = some (.slice (some ⟨b, o, none⟩) ks.length cap2)))) (by rfl) ?_
            change wpPh _ _ _ _ _ 16 _ _ w2.drew
            refine wpPh.take (i := 0) (v := .pointer (some ⟨q, 0, none⟩)) (T := fun u => True) (I := (fun l => 15 < l.size ∧ (l[15]? = some true → ∀ x ∈ [2, 9], l[x]? = some true))) rfl (by kernel_rfl) (by kernel_rfl) (by kernel_rfl) (fun _ _ _ h => h) (waits_keep (m := 15) rfl (by simp [Region.binds])) (fun _ _ _ _ _ => trivial) (fun l u => by rw [Array.getElem?_setIfInBounds_ne (by decide)]) ⟨by simp, fun h => (by simp at h)⟩ (.inl ⟨by rfl, fun u hu => ?_⟩) (HS0.out _) ?_
            · first | (go_simp; done) | (go_simp; simp [hu]; done) | (simp [execOp, go_sem, hu]; done)
            refine wpPh.take (i := 1) (v := v2) (T := fun u => True) (I := (fun l => 15 < l.size ∧ (l[15]? = some true → ∀ x ∈ [2, 9], l[x]? = some true))) rfl (by kernel_rfl) (by kernel_rfl) (by kernel_rfl) (fun _ _ _ h => h) (waits_keep (m := 15) rfl (by simp [Region.binds])) (fun _ _ _ _ _ => trivial) (fun l u => by rw [Array.getElem?_setIfInBounds_ne (by decide)]) ⟨by simp, fun h => (by simp at h)⟩ (.inl ⟨by rfl, fun u hu => ?_⟩) (HS0.out _) ?_
            · first | (go_simp; done) | (go_simp; simp [hu]; done) | (simp [execOp, go_sem, hu]; done)
            refine wpPh.take (i := 2) (v := .agg #[.slice ao n cap]) (T := fun u => u.cell? ⟨P, 0, none⟩ = some (.slice ao n cap)) (I := (fun l => 15 < l.size ∧ (l[15]? = some true → ∀ x ∈ [2, 9], l[x]? = some true))) rfl (by kernel_rfl) (by kernel_rfl) (by kernel_rfl) (fun _ _ _ h => h) (waits_keep (m := 15) rfl (by simp [Region.binds])) (fun l u hI h0 h => And.left (h (not_yet hI (by simp) h0))) (fun l u => by rw [Array.getElem?_setIfInBounds_ne (by decide)]) ⟨by simp, fun h => (by simp at h)⟩ (.inl ⟨by rfl, fun u hu => ?_⟩) (HS0.out _) ?_
            · first | (go_simp; done) | (go_simp; simp [hu]; done) | (simp [execOp, go_sem, hu]; done)
            refine wpPh.take (i := 6) (v := .pointer (some ⟨q, 0, none⟩)) (T := fun u => True) (I := (fun l => 15 < l.size ∧ (l[15]? = some true → ∀ x ∈ [2, 9], l[x]? = some true))) rfl (by kernel_rfl) (by kernel_rfl) (by kernel_rfl) (fun _ _ _ h => h) (waits_keep (m := 15) rfl (by simp [Region.binds])) (fun _ _ _ _ _ => trivial) (fun l u => by rw [Array.getElem?_setIfInBounds_ne (by decide)]) ⟨by simp, fun h => (by simp at h)⟩ (.inl ⟨by rfl, fun u hu => ?_⟩) (HS0.out _) ?_
            · first | (go_simp; done) | (go_simp; simp [hu]; done) | (simp [execOp, go_sem, hu]; done)
            refine wpPh.take (i := 7) (v := .pointer (some ⟨q, 0, none⟩)) (T := fun u => True) (I := (fun l => 15 < l.size ∧ (l[15]? = some true → ∀ x ∈ [2, 9], l[x]? = some true))) rfl (by kernel_rfl) (by kernel_rfl) (by kernel_rfl) (fun _ _ _ h => h) (waits_keep (m := 15) rfl (by simp [Region.binds])) (fun _ _ _ _ _ => trivial) (fun l u => by rw [Array.getElem?_setIfInBounds_ne (by decide)]) ⟨by simp, fun h => (by simp at h)⟩ (.inl ⟨by rfl, fun u hu => ?_⟩) (HS0.out _) ?_
            · first | (go_simp; done) | (go_simp; simp [hu]; done) | (simp [execOp, go_sem, hu]; done)
            refine wpPh.take (i := 8) (v := .pointer (some ⟨q, 0, none⟩)) (T := fun u => True) (I := (fun l => 15 < l.size ∧ (l[15]? = some true → ∀ x ∈ [2, 9], l[x]? = some true))) rfl (by kernel_rfl) (by kernel_rfl) (by kernel_rfl) (fun _ _ _ h => h) (waits_keep (m := 15) rfl (by simp [Region.binds])) (fun _ _ _ _ _ => trivial) (fun l u => by rw [Array.getElem?_setIfInBounds_ne (by decide)]) ⟨by simp, fun h => (by simp at h)⟩ (.inl ⟨by rfl, fun u hu => ?_⟩) (HS0.out _) ?_
            · first | (go_simp; done) | (go_simp; simp [hu]; done) | (simp [execOp, go_sem, hu]; done)
            refine wpPh.take (i := 9) (v := .slice (some ⟨b, o, none⟩) ks.length cap2) (T := fun u => u.cell? ⟨q, 0, none⟩ = some (.slice (some ⟨b, o, none⟩) ks.length cap2)) (I := (fun l => 15 < l.size ∧ (l[15]? = some true → ∀ x ∈ [2, 9], l[x]? = some true))) rfl (by kernel_rfl) (by kernel_rfl) (by kernel_rfl) (fun _ _ _ h => h) (waits_keep (m := 15) rfl (by simp [Region.binds])) (fun l u hI h0 h => And.right (h (not_yet hI (by simp) h0))) (fun l u => by rw [Array.getElem?_setIfInBounds_ne (by decide)]) ⟨by simp, fun h => (by simp at h)⟩ (.inl ⟨by rfl, fun u hu => ?_⟩) (HS0.out _) ?_
            · first | (go_simp; done) | (go_simp; simp [hu]; done) | (simp [execOp, go_sem, hu]; done)
            refine wpPh.take (i := 10) (v := .int .i64 (k : Int)) (T := fun u => True) (I := (fun l => 15 < l.size ∧ (l[15]? = some true → ∀ x ∈ [2, 9], l[x]? = some true))) rfl (by kernel_rfl) (by kernel_rfl) (by kernel_rfl) (fun _ _ _ h => h) (waits_keep (m := 15) rfl (by simp [Region.binds])) (fun _ _ _ _ _ => trivial) (fun l u => by rw [Array.getElem?_setIfInBounds_ne (by decide)]) ⟨by simp, fun h => (by simp at h)⟩ (.inl ⟨by rfl, fun u hu => ?_⟩) (HS0.out _) ?_
            · first | (go_simp; done) | (go_simp; simp [hu]; done) | (simp [execOp, go_sem, hu]; done)
            refine wpPh.take (i := 11) (v := .slice (lowA (some ⟨b, o, none⟩) cap2 k) (ks.length - k) (cap2 - k)) (T := fun u => True) (I := (fun l => 15 < l.size ∧ (l[15]? = some true → ∀ x ∈ [2, 9], l[x]? = some true))) rfl (by kernel_rfl) (by kernel_rfl) (by kernel_rfl) (fun _ _ _ h => h) (waits_keep (m := 15) rfl (by simp [Region.binds])) (fun _ _ _ _ _ => trivial) (fun l u => by rw [Array.getElem?_setIfInBounds_ne (by decide)]) ⟨by simp, fun h => (by simp at h)⟩ (.inl ⟨by rfl, fun u hu => ?_⟩) (HS0.out _) ?_
            · first | (go_simp; done) | (go_simp; simp [hu]; done) | (simp [execOp, go_sem, hu]; done)
            refine wpPh.all (rs := [3]) (by kernel_rfl) (by simp) (fun i hmem => ?_)
            obtain rfl : i = 3 := by simpa using hmem
            refine wpOp_go rfl (by rfl) ?_
            unfold Oper.wp
            go_simp
            refine (HCL.out _ HBD.out).mono ?_
            rintro e w3 ⟨v5, rfl, ho5, hb3⟩
            have HB3 : Hid (Below (P + 1) W0 w3) := Lib.hid (HB2'.out.drew.trans (hb3.mono HZ2.out))
            have HO5 := Lib.hid ho5
            have HB23 := Lib.hid hb3
            clear c1 c2 fq HS0 ho5 hb3
            obtain ⟨hbp3, c1, c2, hz, fq⟩ := HX.out w3 HB3.out
            have HBP3 := Lib.hid hbp3
            have HZ3 := Lib.hid hz
            clear hbp3 hz
            refine ⟨(by first | exact ⟨c1, c2⟩ | exact fun _ => ⟨c1, c2⟩), ?_⟩
            refine wpPh.all (rs := [4]) (by kernel_rfl) (by simp) (fun i hmem => ?_)
            obtain rfl : i = 4 := by simpa using hmem
            refine wpOp_go rfl (by rfl) ?_
            unfold Oper.wp
            go_simp
            obtain ⟨X4, hX4⟩ : ∃ X4, X4 = w3.alloc (.cells #[v5] 38) := ⟨_, rfl⟩
            rw [← hX4]
            have HB4 : Hid (Below (P + 1) W0 X4) := Lib.hid (by rw [hX4]; exact HB3.out.alloc HZ3.out _)
            have HN4 : Hid (∀ j x, [v5][j]? = some x → X4.cell? (Addr.add ⟨w3.heap.size, 0, none⟩ j) = some x) := Lib.hid (by
              intro j x hj
              obtain rfl : j = 0 := by
                have := (List.getElem?_eq_some_iff.1 hj).1
                simpa using this
              simp only [List.getElem?_cons_zero, Option.some.injEq] at hj
              subst hj
              rw [hX4]
              exact cells_one0 (heap_alloc_new w3 _))
            have HB24 : Hid (Below w2.heap.size w2.drew X4) := Lib.hid (by rw [hX4]; exact HB23.out.alloc HB23.out.size _)
            have HX4 : Hid (X4.heap.size = w3.heap.size + 1) := Lib.hid (by rw [hX4]; simp)
            have HO4 : Hid (X4.ownsRow (P + 1) 38 1 v2 k (vs.take k)) := Lib.hid (own_lower0 (own_call0 (w := w2.drew) HOW2.out HB24.out) HU1.out)
            have HS4 : Hid (P + 1 ≤ X4.heap.size) := Lib.hid (by have := HX4.out; have := HZ3.out; omega)
            have HBS4 : Hid (BsO X4 w.heap.size v5 bs) := Lib.hid (by rw [hX4]; exact (HO5.out.call ((Below.refl _ _).alloc (Nat.le_refl _) _)).lower (by have := HS12.out; have := HU1.out; have := HP.out; show w.heap.size ≤ w2.heap.size; omega))
            have H5C : Hid (∀ x ∈ [v5], x.oneCell' = true) := Lib.hid (by
              intro x hx
              obtain rfl : x = v5 := by simpa using hx
              obtain ⟨_, _, hv⟩ := HO5.out.shape
              rw [hv]; rfl)
            clear c1 c2 fq hX4
            obtain ⟨hbp4, c1, c2, hz, fq⟩ := HX.out X4 HB4.out
            have HBP4 := Lib.hid hbp4
            clear hbp4 hz
            refine ⟨(by first | exact ⟨c1, c2⟩ | exact fun _ => ⟨c1, c2⟩), ?_⟩
            refine wpPh.all (rs := [5]) (by kernel_rfl) (by simp) (fun i hmem => ?_)
            obtain rfl : i = 5 := by simpa using hmem
            refine wpOp_step (E := False) rfl (by rfl) ?_
            refine step_append_own (w := X4) (by rfl) (.tmp 44) (.tmp 47) 22 (by rfl) (P + 1) 38 i0 (.agg #[.slice none 0 0]) 1 24 Tryz.underlying22 hi hz0 hz1 hz2 rfl (by decide) v2 k (vs.take k) (by rfl) HO4.out ⟨w3.heap.size, 0, none⟩ 1 1 [v5] (by rfl) rfl HN4.out H5C.out (by have := HMN.out; unfold maxLen; omega) (by have := HMN.out; omega) HS4.out ?_
            intro v4 w4 hown4 hg4
            have HBX4 : Hid (Below (P + 1) W0 w4) := Lib.hid (HB4.out.grown hg4 HS4.out (fun r hr => (HO4.out.lt r hr).1))
            have HBW4 : Hid (Below w.heap.size w w4) := Lib.hid (HX.out w4 HBX4.out).1
            have HS5 : Hid (P + 1 ≤ w4.heap.size) := Lib.hid (HX.out w4 HBX4.out).2.2.2.1
            have HBS5 : Hid (BsO w4 w.heap.size v5 bs) := Lib.hid (HBS4.out.stays (fun K cs t fr ht hk => grown_types HO4.out hg4 K cs t fr (by rcases ht with rfl | rfl <;> decide) hk))
            have HO4' := Lib.hid hown4
            clear c1 c2 fq hown4 hg4
            obtain ⟨hbp5, c1, c2, hz, fq⟩ := HX.out w4 HBX4.out
            clear hbp5 hz
            refine ⟨(by first | exact ⟨c1, c2⟩ | exact fun _ => ⟨c1, c2⟩), ?_⟩
            refine wpPh.all (rs := [12]) (by kernel_rfl) (by simp) (fun i hmem => ?_)
            obtain rfl : i = 12 := by simpa using hmem
            refine wpOp_step (E := False) rfl (by rfl) ?_
            refine step_append_rest (w := w4) (by rfl) (.tmp 48) (.tmp 54) 22 (by rfl) (P + 1) 38 i0 (.agg #[.slice none 0 0]) 1 24 Tryz.underlying22 hi hz0 hz1 hz2 rfl (by decide) v4 (k + 1) (vs.take k ++ [v5]) (by rfl) HO4'.out (lowA (some ⟨b, o, none⟩) cap2 k) (ks.length - k) (cap2 - k) (vs.drop k) (by rfl) HDL.out (HDR.out w4 HBW4.out) (fun u hu => HONE.out u (List.mem_of_mem_drop hu)) (by have := HMN.out; unfold maxLen; omega) (by have := HMN.out; omega) HS5.out ?_
            intro v7 w7 hown7 hg7
            have HBX7 : Hid (Below (P + 1) W0 w7) := Lib.hid (HBX4.out.grown hg7 HS5.out (fun r hr => (HO4'.out.lt r hr).1))
            have HBW7 : Hid (Below w.heap.size w w7) := Lib.hid (HX.out w7 HBX7.out).1
            have HBS7 : Hid (BsO w7 w.heap.size v5 bs) := Lib.hid (HBS5.out.stays (fun K cs t fr ht hk => grown_types HO4'.out hg7 K cs t fr (by rcases ht with rfl | rfl <;> decide) hk))
            have HO7 : Hid (w7.ownsRow w.heap.size 38 1 v7 (ks.length + 1) (vs.take k ++ v5 :: vs.drop k)) := Lib.hid (by
              have e1 : k + 1 + (ks.length - k) = ks.length + 1 := by omega
              rw [e1, List.append_assoc] at hown7
              exact own_lower0 hown7 (by have := HP.out; omega))
            clear c1 c2 fq hown7 hg7
            obtain ⟨a7, c7, rfl⟩ := own_slice HO7.out
            obtain ⟨hbp7, c1, t0, hz, fq⟩ := HX.out w7 HBX7.out
            clear hbp7 hz
            refine ⟨(by first | exact ⟨c1, t0⟩ | exact fun _ => ⟨c1, t0⟩), ?_⟩
            refine wpPh.all (rs := [13]) (by kernel_rfl) (by simp) (fun i hmem => ?_)
            obtain rfl : i = 13 := by simpa using hmem
            refine wpOp_go rfl (by rfl) ?_
            unfold Oper.wp
            go_simp
            refine wpPh.all (rs := [14]) (by kernel_rfl) (by simp) (fun i hmem => ?_)
            obtain rfl : i = 14 := by simpa using hmem
            refine wpOp_go rfl (by rfl) ?_
            unfold Oper.wp
            go_simp
            refine wpPh.all (rs := [15]) (by kernel_rfl) (by simp) (fun i hmem => ?_)
            obtain rfl : i = 15 := by simpa using hmem
            refine wpOp_go rfl (by rfl) ?_
            unfold Oper.wp
            go_simp
            try refine ⟨fun h => absurd h (by simp), ?_⟩
            refine wpPh.done (by kernel_rfl) ?_ _
            go_wp2
            go_ret
            have hput := HSET.out.put HBW7.out HKLE.out HBS7.out HO7.out HKY.out HM.out
            refine ⟨rfl, ⟨vs.take k ++ v5 :: vs.drop k, ?_⟩, hput.2⟩
            have := hput.1
            rw [show insR ks bs = ks.take k ++ bs :: ks.drop k by unfold insR; rw [HIX.out]]
            exact this
          · have hki : decide ((k : Int) < (ks.length : Int)) = false := by simp; omega
            clear hgo hsl6 fq m1 m2
            go_wp2_with fail
            go_quiet (fail)
            have HB1 : Hid (Below (P + 1) W0 (wr.drewN nq)) := Lib.hid (Below.drewN' HB.out nq)
            clear c1 c2
            generalize wr.drewN nq = u1 at HB1 ⊢
            have hsl6 := HSL6.out
            obtain ⟨hbp, c1, c2, hz, fq⟩ := HX.out u1 HB1.out
            have HBP := Lib.hid hbp
            have HZ1 := Lib.hid hz
            clear hbp hz
            go_wp2_with (at_builtin; refine wpList_append_first rfl (.const (.slice none 0 0)) (.tmp 41) 22 rfl 38 i0 (.agg #[.slice none 0 0]) 1 24 Tryz.underlying22 hi hz0 hz1 hz2 rfl (by decide) rfl ao2 k cap2 (vs.take k) rfl HTL.out (HLT.out u1 HBP.out) (fun u hu => HONE.out u (List.mem_of_mem_take hu)) (by have := HMN.out; unfold maxLen; omega) (by have := HMN.out; omega) ?_; intro v2 w2 hown2 hb2; have HOW2 := Lib.hid hown2; have HB2' := Lib.hid (HB1.out.trans (hb2.mono HZ1.out)); have HS12 : Hid (u1.heap.size ≤ w2.heap.size) := Lib.hid hb2.size; clear c1 c2 fq hown2 hb2)
            have HU1 : Hid (P + 1 ≤ u1.heap.size) := HZ1
            clear HBP HZ1
            obtain ⟨hbp2, c1, c2, hz, fq⟩ := HX.out w2 HB2'.out
            have HBD : Hid (Below w.heap.size w w2.drew) := Lib.hid hbp2.drew
            have HZ2 := Lib.hid hz
            have hsl11 := HSL.out
            clear hbp2 hz hsl6
            have HS0 : Hid (∀ l : Array Bool, l[15]? = some false → (w2.drew.cell? ⟨P, 0, none⟩ = some (.slice ao n cap) ∧ w2.drew.cell? ⟨q, 0, none⟩ = some (.slice ao2 ks.length cap2))) := Lib.hid (fun _ _ => ⟨c1, c2⟩)
            refine wp_region_ph (S := (fun (l : Array Bool) (u : World) => l[15]? = some false → (u.cell? ⟨P, 0, none⟩ = some (.slice ao n cap) ∧ u.cell? ⟨q, 0, none⟩ = some (.slice ao2 ks.length cap2)))) (by rfl) ?_
            change wpPh _ _ _ _ _ 16 _ _ w2.drew
            refine wpPh.take (i := 0) (v := .pointer (some ⟨q, 0, none⟩)) (T := fun u => True) (I := (fun l => 15 < l.size ∧ (l[15]? = some true → ∀ x ∈ [2, 9], l[x]? = some true))) rfl (by kernel_rfl) (by kernel_rfl) (by kernel_rfl) (fun _ _ _ h => h) (waits_keep (m := 15) rfl (by simp [Region.binds])) (fun _ _ _ _ _ => trivial) (fun l u => by rw [Array.getElem?_setIfInBounds_ne (by decide)]) ⟨by simp, fun h => (by simp at h)⟩ (.inl ⟨by rfl, fun u hu => ?_⟩) (HS0.out _) ?_
            · first | (go_simp; done) | (go_simp; simp [hu]; done) | (simp [execOp, go_sem, hu]; done)
            refine wpPh.take (i := 1) (v := v2) (T := fun u => True) (I := (fun l => 15 < l.size ∧ (l[15]? = some true → ∀ x ∈ [2, 9], l[x]? = some true))) rfl (by kernel_rfl) (by kernel_rfl) (by kernel_rfl) (fun _ _ _ h => h) (waits_keep (m := 15) rfl (by simp [Region.binds])) (fun _ _ _ _ _ => trivial) (fun l u => by rw [Array.getElem?_setIfInBounds_ne (by decide)]) ⟨by simp, fun h => (by simp at h)⟩ (.inl ⟨by rfl, fun u hu => ?_⟩) (HS0.out _) ?_
            · first | (go_simp; done) | (go_simp; simp [hu]; done) | (simp [execOp, go_sem, hu]; done)
            refine wpPh.take (i := 2) (v := .agg #[.slice ao n cap]) (T := fun u => u.cell? ⟨P, 0, none⟩ = some (.slice ao n cap)) (I := (fun l => 15 < l.size ∧ (l[15]? = some true → ∀ x ∈ [2, 9], l[x]? = some true))) rfl (by kernel_rfl) (by kernel_rfl) (by kernel_rfl) (fun _ _ _ h => h) (waits_keep (m := 15) rfl (by simp [Region.binds])) (fun l u hI h0 h => And.left (h (not_yet hI (by simp) h0))) (fun l u => by rw [Array.getElem?_setIfInBounds_ne (by decide)]) ⟨by simp, fun h => (by simp at h)⟩ (.inl ⟨by rfl, fun u hu => ?_⟩) (HS0.out _) ?_
            · first | (go_simp; done) | (go_simp; simp [hu]; done) | (simp [execOp, go_sem, hu]; done)
            refine wpPh.take (i := 6) (v := .pointer (some ⟨q, 0, none⟩)) (T := fun u => True) (I := (fun l => 15 < l.size ∧ (l[15]? = some true → ∀ x ∈ [2, 9], l[x]? = some true))) rfl (by kernel_rfl) (by kernel_rfl) (by kernel_rfl) (fun _ _ _ h => h) (waits_keep (m := 15) rfl (by simp [Region.binds])) (fun _ _ _ _ _ => trivial) (fun l u => by rw [Array.getElem?_setIfInBounds_ne (by decide)]) ⟨by simp, fun h => (by simp at h)⟩ (.inl ⟨by rfl, fun u hu => ?_⟩) (HS0.out _) ?_
            · first | (go_simp; done) | (go_simp; simp [hu]; done) | (simp [execOp, go_sem, hu]; done)
            refine wpPh.take (i := 7) (v := .pointer (some ⟨q, 0, none⟩)) (T := fun u => True) (I := (fun l => 15 < l.size ∧ (l[15]? = some true → ∀ x ∈ [2, 9], l[x]? = some true))) rfl (by kernel_rfl) (by kernel_rfl) (by kernel_rfl) (fun _ _ _ h => h) (waits_keep (m := 15) rfl (by simp [Region.binds])) (fun _ _ _ _ _ => trivial) (fun l u => by rw [Array.getElem?_setIfInBounds_ne (by decide)]) ⟨by simp, fun h => (by simp at h)⟩ (.inl ⟨by rfl, fun u hu => ?_⟩) (HS0.out _) ?_
            · first | (go_simp; done) | (go_simp; simp [hu]; done) | (simp [execOp, go_sem, hu]; done)
            refine wpPh.take (i := 8) (v := .pointer (some ⟨q, 0, none⟩)) (T := fun u => True) (I := (fun l => 15 < l.size ∧ (l[15]? = some true → ∀ x ∈ [2, 9], l[x]? = some true))) rfl (by kernel_rfl) (by kernel_rfl) (by kernel_rfl) (fun _ _ _ h => h) (waits_keep (m := 15) rfl (by simp [Region.binds])) (fun _ _ _ _ _ => trivial) (fun l u => by rw [Array.getElem?_setIfInBounds_ne (by decide)]) ⟨by simp, fun h => (by simp at h)⟩ (.inl ⟨by rfl, fun u hu => ?_⟩) (HS0.out _) ?_
            · first | (go_simp; done) | (go_simp; simp [hu]; done) | (simp [execOp, go_sem, hu]; done)
            refine wpPh.take (i := 9) (v := .slice ao2 ks.length cap2) (T := fun u => u.cell? ⟨q, 0, none⟩ = some (.slice ao2 ks.length cap2)) (I := (fun l => 15 < l.size ∧ (l[15]? = some true → ∀ x ∈ [2, 9], l[x]? = some true))) rfl (by kernel_rfl) (by kernel_rfl) (by kernel_rfl) (fun _ _ _ h => h) (waits_keep (m := 15) rfl (by simp [Region.binds])) (fun l u hI h0 h => And.right (h (not_yet hI (by simp) h0))) (fun l u => by rw [Array.getElem?_setIfInBounds_ne (by decide)]) ⟨by simp, fun h => (by simp at h)⟩ (.inl ⟨by rfl, fun u hu => ?_⟩) (HS0.out _) ?_
            · first | (go_simp; done) | (go_simp; simp [hu]; done) | (simp [execOp, go_sem, hu]; done)
            refine wpPh.take (i := 10) (v := .int .i64 (k : Int)) (T := fun u => True) (I := (fun l => 15 < l.size ∧ (l[15]? = some true → ∀ x ∈ [2, 9], l[x]? = some true))) rfl (by kernel_rfl) (by kernel_rfl) (by kernel_rfl) (fun _ _ _ h => h) (waits_keep (m := 15) rfl (by simp [Region.binds])) (fun _ _ _ _ _ => trivial) (fun l u => by rw [Array.getElem?_setIfInBounds_ne (by decide)]) ⟨by simp, fun h => (by simp at h)⟩ (.inl ⟨by rfl, fun u hu => ?_⟩) (HS0.out _) ?_
            · first | (go_simp; done) | (go_simp; simp [hu]; done) | (simp [execOp, go_sem, hu]; done)
            refine wpPh.take (i := 11) (v := .slice (lowA ao2 cap2 k) (ks.length - k) (cap2 - k)) (T := fun u => True) (I := (fun l => 15 < l.size ∧ (l[15]? = some true → ∀ x ∈ [2, 9], l[x]? = some true))) rfl (by kernel_rfl) (by kernel_rfl) (by kernel_rfl) (fun _ _ _ h => h) (waits_keep (m := 15) rfl (by simp [Region.binds])) (fun _ _ _ _ _ => trivial) (fun l u => by rw [Array.getElem?_setIfInBounds_ne (by decide)]) ⟨by simp, fun h => (by simp at h)⟩ (.inl ⟨by rfl, fun u hu => ?_⟩) (HS0.out _) ?_
            · first | (go_simp; done) | (go_simp; simp [hu]; done) | (simp [execOp, go_sem, hu]; done)
            refine wpPh.all (rs := [3]) (by kernel_rfl) (by simp) (fun i hmem => ?_)
            obtain rfl : i = 3 := by simpa using hmem
            refine wpOp_go rfl (by rfl) ?_
            unfold Oper.wp
            go_simp
            refine (HCL.out _ HBD.out).mono ?_
            rintro e w3 ⟨v5, rfl, ho5, hb3⟩
            have HB3 : Hid (Below (P + 1) W0 w3) := Lib.hid (HB2'.out.drew.trans (hb3.mono HZ2.out))
            have HO5 := Lib.hid ho5
            have HB23 := Lib.hid hb3
            clear c1 c2 fq HS0 ho5 hb3
            obtain ⟨hbp3, c1, c2, hz, fq⟩ := HX.out w3 HB3.out
            have HBP3 := Lib.hid hbp3
            have HZ3 := Lib.hid hz
            clear hbp3 hz
            refine ⟨(by first | exact ⟨c1, c2⟩ | exact fun _ => ⟨c1, c2⟩), ?_⟩
            refine wpPh.all (rs := [4]) (by kernel_rfl) (by simp) (fun i hmem => ?_)
            obtain rfl : i = 4 := by simpa using hmem
            refine wpOp_go rfl (by rfl) ?_
            unfold Oper.wp
            go_simp
            obtain ⟨X4, hX4⟩ : ∃ X4, X4 = w3.alloc (.cells #[v5] 38) := ⟨_, rfl⟩
            rw [← hX4]
            have HB4 : Hid (Below (P + 1) W0 X4) := Lib.hid (by rw [hX4]; exact HB3.out.alloc HZ3.out _)
            have HN4 : Hid (∀ j x, [v5][j]? = some x → X4.cell? (Addr.add ⟨w3.heap.size, 0, none⟩ j) = some x) := Lib.hid (by
              intro j x hj
              obtain rfl : j = 0 := by
                have := (List.getElem?_eq_some_iff.1 hj).1
                simpa using this
              simp only [List.getElem?_cons_zero, Option.some.injEq] at hj
              subst hj
              rw [hX4]
              exact cells_one0 (heap_alloc_new w3 _))
            have HB24 : Hid (Below w2.heap.size w2.drew X4) := Lib.hid (by rw [hX4]; exact HB23.out.alloc HB23.out.size _)
            have HX4 : Hid (X4.heap.size = w3.heap.size + 1) := Lib.hid (by rw [hX4]; simp)
            have HO4 : Hid (X4.ownsRow (P + 1) 38 1 v2 k (vs.take k)) := Lib.hid (own_lower0 (own_call0 (w := w2.drew) HOW2.out HB24.out) HU1.out)
            have HS4 : Hid (P + 1 ≤ X4.heap.size) := Lib.hid (by have := HX4.out; have := HZ3.out; omega)
            have HBS4 : Hid (BsO X4 w.heap.size v5 bs) := Lib.hid (by rw [hX4]; exact (HO5.out.call ((Below.refl _ _).alloc (Nat.le_refl _) _)).lower (by have := HS12.out; have := HU1.out; have := HP.out; show w.heap.size ≤ w2.heap.size; omega))
            have H5C : Hid (∀ x ∈ [v5], x.oneCell' = true) := Lib.hid (by
              intro x hx
              obtain rfl : x = v5 := by simpa using hx
              obtain ⟨_, _, hv⟩ := HO5.out.shape
              rw [hv]; rfl)
            clear c1 c2 fq hX4
            obtain ⟨hbp4, c1, c2, hz, fq⟩ := HX.out X4 HB4.out
            have HBP4 := Lib.hid hbp4
            clear hbp4 hz
            refine ⟨(by first | exact ⟨c1, c2⟩ | exact fun _ => ⟨c1, c2⟩), ?_⟩
            refine wpPh.all (rs := [5]) (by kernel_rfl) (by simp) (fun i hmem => ?_)
            obtain rfl : i = 5 := by simpa using hmem
            refine wpOp_step (E := False) rfl (by rfl) ?_
            refine step_append_own (w := X4) (by rfl) (.tmp 44) (.tmp 47) 22 (by rfl) (P + 1) 38 i0 (.agg #[.slice none 0 0]) 1 24 Tryz.underlying22 hi hz0 hz1 hz2 rfl (by decide) v2 k (vs.take k) (by rfl) HO4.out ⟨w3.heap.size, 0, none⟩ 1 1 [v5] (by rfl) rfl HN4.out H5C.out (by have := HMN.out; unfold maxLen; omega) (by have := HMN.out; omega) HS4.out ?_
            intro v4 w4 hown4 hg4
            have HBX4 : Hid (Below (P + 1) W0 w4) := Lib.hid (HB4.out.grown hg4 HS4.out (fun r hr => (HO4.out.lt r hr).1))
            have HBW4 : Hid (Below w.heap.size w w4) := Lib.hid (HX.out w4 HBX4.out).1
            have HS5 : Hid (P + 1 ≤ w4.heap.size) := Lib.hid (HX.out w4 HBX4.out).2.2.2.1
            have HBS5 : Hid (BsO w4 w.heap.size v5 bs) := Lib.hid (HBS4.out.stays (fun K cs t fr ht hk => grown_types HO4.out hg4 K cs t fr (by rcases ht with rfl | rfl <;> decide) hk))
            have HO4' := Lib.hid hown4
            clear c1 c2 fq hown4 hg4
            obtain ⟨hbp5, c1, c2, hz, fq⟩ := HX.out w4 HBX4.out
            clear hbp5 hz
            refine ⟨(by first | exact ⟨c1, c2⟩ | exact fun _ => ⟨c1, c2⟩), ?_⟩
            refine wpPh.all (rs := [12]) (by kernel_rfl) (by simp) (fun i hmem => ?_)
            obtain rfl : i = 12 := by simpa using hmem
            refine wpOp_step (E := False) rfl (by rfl) ?_
            refine step_append_rest (w := w4) (by rfl) (.tmp 48) (.tmp 54) 22 (by rfl) (P + 1) 38 i0 (.agg #[.slice none 0 0]) 1 24 Tryz.underlying22 hi hz0 hz1 hz2 rfl (by decide) v4 (k + 1) (vs.take k ++ [v5]) (by rfl) HO4'.out (lowA ao2 cap2 k) (ks.length - k) (cap2 - k) (vs.drop k) (by rfl) HDL.out (HDR.out w4 HBW4.out) (fun u hu => HONE.out u (List.mem_of_mem_drop hu)) (by have := HMN.out; unfold maxLen; omega) (by have := HMN.out; omega) HS5.out ?_
            intro v7 w7 hown7 hg7
            have HBX7 : Hid (Below (P + 1) W0 w7) := Lib.hid (HBX4.out.grown hg7 HS5.out (fun r hr => (HO4'.out.lt r hr).1))
            have HBW7 : Hid (Below w.heap.size w w7) := Lib.hid (HX.out w7 HBX7.out).1
            have HBS7 : Hid (BsO w7 w.heap.size v5 bs) := Lib.hid (HBS5.out.stays (fun K cs t fr ht hk => grown_types HO4'.out hg7 K cs t fr (by rcases ht with rfl | rfl <;> decide) hk))
            have HO7 : Hid (w7.ownsRow w.heap.size 38 1 v7 (ks.length + 1) (vs.take k ++ v5 :: vs.drop k)) := Lib.hid (by
              have e1 : k + 1 + (ks.length - k) = ks.length + 1 := by omega
              rw [e1, List.append_assoc] at hown7
              exact own_lower0 hown7 (by have := HP.out; omega))
            clear c1 c2 fq hown7 hg7
            obtain ⟨a7, c7, rfl⟩ := own_slice HO7.out
            obtain ⟨hbp7, c1, t0, hz, fq⟩ := HX.out w7 HBX7.out
            clear hbp7 hz
            refine ⟨(by first | exact ⟨c1, t0⟩ | exact fun _ => ⟨c1, t0⟩), ?_⟩
            refine wpPh.all (rs := [13]) (by kernel_rfl) (by simp) (fun i hmem => ?_)
            obtain rfl : i = 13 := by simpa using hmem
            refine wpOp_go rfl (by rfl) ?_
            unfold Oper.wp
            go_simp
            refine wpPh.all (rs := [14]) (by kernel_rfl) (by simp) (fun i hmem => ?_)
            obtain rfl : i = 14 := by simpa using hmem
            refine wpOp_go rfl (by rfl) ?_
            unfold Oper.wp
            go_simp
            refine wpPh.all (rs := [15]) (by kernel_rfl) (by simp) (fun i hmem => ?_)
            obtain rfl : i = 15 := by simpa using hmem
            refine wpOp_go rfl (by rfl) ?_
            unfold Oper.wp
            go_simp
            try refine ⟨fun h => absurd h (by simp), ?_⟩
            refine wpPh.done (by kernel_rfl) ?_ _
            go_wp2
            go_ret
            have hput := HSET.out.put HBW7.out HKLE.out HBS7.out HO7.out HKY.out HM.out
            refine ⟨rfl, ⟨vs.take k ++ v5 :: vs.drop k, ?_⟩, hput.2⟩
            have := hput.1
            rw [show insR ks bs = ks.take k ++ bs :: ks.drop k by unfold insR; rw [HIX.out]]
            exact this
end Go.Proofs.YtcnecokamckfaaaGreatDoor

/- The document's NewSet. -/
namespace Go.Proofs.YtcnecokamckfaaaGreatDoor
open Go Go.RowKit Go.Sort

theorem setD_snoc (ls : List (List Bd)) (bs : List Bd) : setD (ls ++ [bs]) = addD (setD ls) bs := by unfold setD; rw [List.foldl_append]; rfl
theorem setD_len (ls : List (List Bd)) : (setD ls).length ≤ ls.length := by
  rw [(setD_perm ls).length_eq]; exact setK_len ls
set_option maxRecDepth 100000 in
set_option maxHeartbeats 6400000 in
theorem r10NewSet_any (G : Nat → Prop) (B : Nat) (v : Value) (ls : List (List Bd)) (w : World) (h : LpV w B v ls) (hB : B ≤ w.heap.size) (hG : ∀ k, G k → k < w.heap.size) :
    Calls Tryz.prog 7 #[v] w fun e w' => ∃ q vs, e = .returned (.pointer (some ⟨q, 0, none⟩)) ∧ w.heap.size ≤ q ∧ RsM (fun k => k = q ∨ G k) w' q (setD ls) vs ∧ Below w.heap.size w w' := by
  obtain ⟨ao, cap, rfl, hcap, hcap2, hrow⟩ := h.row
  obtain ⟨N, hN⟩ : ∃ N, N = ls.length := ⟨_, rfl⟩
  have hlen := h.len
  rw [← hN] at hcap hlen ⊢
  obtain ⟨b, hb⟩ : ∃ b, b = w.heap.size := ⟨_, rfl⟩
  obtain ⟨w0, hw0⟩ : ∃ w0, w0 = w.alloc (.cells #[.slice none 0 0] 33) := ⟨_, rfl⟩
  have HS0 : Hid (RsM (fun k => k = b ∨ G k) w0 b [] []) := by
    have hsz : w0.heap.size = b + 1 := by rw [hw0, hb]; simp
    refine Lib.hid ⟨.inl rfl, fun k hk => hk.elim (fun e => by omega) (fun hg => by have := hG _ hg; omega), ⟨none, 0, ?_, by simp, by simp, fun _ => rfl, fun h0 => absurd h0 (by simp)⟩, rfl, (fun p hp => by cases hp), (fun z hz => by cases hz), by simp⟩
    rw [hw0, hb]; exact heap_alloc_new _ _
  have HBW0 : Hid (Below w.heap.size w w0) := by rw [hw0]; exact (Below.refl _ _).alloc (Nat.le_refl _) _
  have HH := Lib.hid h; have HN := Lib.hid hN; have HROW := Lib.hid hrow; have HBL := Lib.hid hB; have HW0 := Lib.hid hw0; have HBB := Lib.hid hb
  have H63 : Hid (N ≤ 5864062014805) := hlen
  clear h hN hrow hlen hcap hcap2 hB hG hw0 hb
  go_enter Tryz.func7, Tryz.ntmps7
  go_wp2_with fail
  rw [← HBB.out, ← HW0.out]
  go_loopw [4] (fun iv wr => ∃ (k : Nat) (vs : List Value), k ≤ N ∧ iv = .int .i64 (k : Int) ∧ Hid (RsM (fun k => k = b ∨ G k) wr b (setD (ls.take k)) vs) ∧ Hid (Below w.heap.size w wr)) (fun iv _ => N - (intOf iv).toNat)
  case atStart => exact ⟨0, [], Nat.zero_le _, rfl, HS0, HBW0⟩
  case round =>
    obtain ⟨k, vs, hk, rfl, HS, HBW⟩ := hrel
    by_cases hlt : k < N
    · obtain ⟨bb, o, rfl, hbB, hcell⟩ := HROW.out (by have := HN.out; omega)
      have hkl : k < ls.length := by have := HN.out; omega
      obtain ⟨aa, n, c, hc, hbs⟩ := hcell k hkl
      have a0 := (HBW.out.cell (p := ⟨bb, o + k, none⟩) (show bb < w.heap.size by have := HBL.out; omega)).trans hc
      have HSN : Hid (setD (ls.take (k + 1)) = addD (setD (ls.take k)) ls[k]!) := by
        rw [List.take_succ_eq_append_getElem hkl, setD_snoc, getElem!_pos ls k hkl]; exact Lib.hid rfl
      have HKY : Hid (ckP ls[k]! = 0 → KyB ls[k]!) := HH.out.ky _ (by rw [getElem!_pos ls k hkl]; exact List.getElem_mem _)
      have HBS := Lib.hid (hbs.below (HBW.out.mono HBL.out) (Nat.le_refl _))
      have HLM : Hid ((setD (ls.take k)).length < 5864062014805) := by
        have h2 := setD_len (ls.take k)
        rw [List.length_take] at h2
        have := H63.out
        unfold Hid; omega
      generalize ls[k]! = x at HSN HKY HBS
      have HADD := Lib.hid (r10SetAdd_any _ b (setD (ls.take k)) vs aa n c x wr HS.out (HBS.out.mono (Nat.le_trans HBL.out HBW.out.size)) HKY.out HLM.out)
      have e1 : IntKind.i64.wrap ((k : Int) + 1) = (k : Int) + 1 := IntWalk.i64_in _ (by have := H63.out; omega)
      have hkz : (0 : Int) ≤ (k : Int) := by omega
      have hki : decide ((k : Int) < (N : Int)) = true := by simpa using hlt
      clear hcell hc hbs hkl
      go_wp2_with (first | (go_at_call 16; (with_reducible refine HADD.out.mono ?_); rintro e w2 ⟨rfl, ⟨vs', hs⟩, hch⟩; have HS2 := Lib.hid hs; have HCH := Lib.hid hch; clear hs hch))
      go_roundw
      case rel =>
        refine ⟨k + 1, vs', by omega, by go_num, ?_, ?_⟩
        · rw [HSN.out]; exact HS2
        · exact Lib.hid (HBW.out.trans (HCH.out.below HBW.out.size (fun k hk => by have := HBB.out; omega)))
      case measure => simp [intOf]; omega
    · have HT : Hid (ls.take k = ls) := List.take_of_length_le (by have := HN.out; omega)
      have hki : decide ((k : Int) < (N : Int)) = false := by simp; omega
      rw [HT.out] at HS
      go_wp2
      go_ret
      exact ⟨b, vs, rfl, by have := HBB.out; omega, HS.out, HBW.out⟩
end Go.Proofs.YtcnecokamckfaaaGreatDoor
