/- What the index tells, and what holds says by it: the conditions themselves (no program in it). -/
import Derived.Test.YtpbloplbpkedcaaHo9
import Derived.Test.YtpbloplbpkedcaaRm9
namespace Go.Proofs.Ytpbloplbpkedcaa
open Go Go.RowKit Go.Sort

def sawL (rk : Nm → Nat) (xs : List At) (nm : ByteArray) : Option (Vl × Vl) := (xs.find? (isNm nm)).map fun x => (⟨x.k, x.n, x.s⟩, briefL rk ⟨x.k, x.n, x.s⟩)
theorem saw_fnd (rk : Nm → Nat) (xs : List At) (nm : ByteArray) : (sawL rk xs nm).getD (zeroL, zeroL) = fndL rk xs nm := by
  unfold sawL fndL
  cases xs.find? (isNm nm) <;> rfl
theorem isNm_nb (nm : ByteArray) (x : At) : isNm nm x = decide (nm = x.name) := by
  unfold isNm
  rw [Lib.toList_data, Lib.toList_data]
  show (nb x.name == nb nm) = _
  by_cases h : nm = x.name
  · subst h; simp
  · rw [decide_eq_false h, beq_eq_false_iff_ne]
    exact fun e => h (nb_inj9 e).symm
theorem step_other (rk : Nm → Nat) (i j : Nat) (G : Nat → ByteArray → Option (Vl × Vl)) (y : At) (nm : ByteArray) (h : j ≠ i) : stepA rk i G y j nm = G j nm := by
  unfold stepA
  split
  · rfl
  · simp [updG, h]
theorem procA_other (rk : Nm → Nat) (i j : Nat) (nm : ByteArray) (h : j ≠ i) : ∀ (xs : List At) (G : Nat → ByteArray → Option (Vl × Vl)), procA rk i G xs j nm = G j nm
  | [], _ => rfl
  | y :: r, G => (procA_other rk i j nm h r (stepA rk i G y)).trans (step_other rk i j G y nm h)
theorem procA_at (rk : Nm → Nat) (i : Nat) (nm : ByteArray) : ∀ (xs : List At) (G : Nat → ByteArray → Option (Vl × Vl)), procA rk i G xs i nm = (G i nm).or (sawL rk xs nm)
  | [], G => by simp [procA, sawL]
  | y :: r, G => by
    have h := procA_at rk i nm r (stepA rk i G y)
    have e : procA rk i G (y :: r) = procA rk i (stepA rk i G y) r := rfl
    rw [e, h]
    by_cases hn : nm = y.name
    · have hs : sawL rk (y :: r) nm = some (⟨y.k, y.n, y.s⟩, briefL rk ⟨y.k, y.n, y.s⟩) := by
        unfold sawL
        rw [List.find?_cons_of_pos (by rw [isNm_nb]; exact decide_eq_true hn)]
        rfl
      rw [hs]
      subst hn
      unfold stepA
      cases hg : G i y.name with
      | some p => simp [hg]
      | none => simp [updG, hg]
    · have hs : sawL rk (y :: r) nm = sawL rk r nm := by
        unfold sawL
        rw [List.find?_cons_of_neg (by rw [isNm_nb, decide_eq_false hn]; simp)]
      rw [hs]
      have : stepA rk i G y i nm = G i nm := by
        unfold stepA
        split
        · rfl
        · simp [updG, hn]
      rw [this]
def isV (v : Nm) (b : Bd) : Bool := decide (nb b.var = v)
/-- What the maps of the index tell of bounds. -/
def Tells (rk : Nm → Nat) (l : List Bd) (S : (Nm → Option Nat) × (Nat → ByteArray → Option (Vl × Vl))) : Prop :=
  (∀ v, l.find? (isV v) = none → S.1 v = none) ∧ (∀ v b, l.find? (isV v) = some b → ∃ i, i < l.length ∧ S.1 v = some i ∧ ∀ nm, S.2 i nm = sawL rk b.ats nm) ∧ ∀ i nm, l.length ≤ i → S.2 i nm = none
theorem Tells.nil (rk : Nm → Nat) : Tells rk [] (fun _ => none, fun _ _ => none) := ⟨fun _ _ => rfl, fun v b h => by simp at h, fun _ _ _ => rfl⟩
theorem Tells.snoc {rk : Nm → Nat} {l : List Bd} {S : (Nm → Option Nat) × (Nat → ByteArray → Option (Vl × Vl))} (h : Tells rk l S) (x : Bd) : Tells rk (l ++ [x]) (stepB rk S x l.length) := by
  obtain ⟨h1, h2, h3⟩ := h
  unfold stepB
  by_cases hs : (S.1 (nb x.var)).isSome = true
  · rw [if_pos hs]
    refine ⟨fun v hv => ?_, fun v b hv => ?_, fun i nm hi => ?_⟩
    · rw [List.find?_append, Option.or_eq_none_iff] at hv
      exact h1 v hv.1
    · rw [List.find?_append] at hv
      cases hl : l.find? (isV v) with
      | some y =>
        rw [hl] at hv
        obtain rfl : y = b := by simpa using hv
        obtain ⟨i, hi, h4, h5⟩ := h2 v y hl
        exact ⟨i, by rw [List.length_append]; omega, h4, h5⟩
      | none =>
        rw [hl, Option.none_or] at hv
        have hx : isV v x = true := List.find?_some (l := [x]) (by rw [hv]; have := List.mem_of_find?_eq_some hv; rw [List.mem_singleton] at this; rw [this])
        have e : nb x.var = v := of_decide_eq_true hx
        rw [e, h1 v hl] at hs
        simp at hs
    · rw [List.length_append] at hi
      exact h3 i nm (by omega)
  · rw [if_neg hs]
    have hn : S.1 (nb x.var) = none := by simpa using hs
    refine ⟨fun v hv => ?_, fun v b hv => ?_, fun i nm hi => ?_⟩
    · rw [List.find?_append, Option.or_eq_none_iff] at hv
      have hx : ¬ v = nb x.var := fun e => by
        have := List.find?_eq_none.1 hv.2 x (by simp)
        exact this (decide_eq_true e.symm)
      show updF S.1 (nb x.var) l.length v = none
      unfold updF
      rw [if_neg hx]
      exact h1 v hv.1
    · rw [List.find?_append] at hv
      show ∃ i, i < (l ++ [x]).length ∧ updF S.1 (nb x.var) l.length v = some i ∧ ∀ nm, procA rk l.length S.2 x.ats i nm = sawL rk b.ats nm
      rw [List.length_append]
      cases hl : l.find? (isV v) with
      | some y =>
        rw [hl] at hv
        obtain rfl : y = b := by simpa using hv
        obtain ⟨i, hi, h4, h5⟩ := h2 v y hl
        refine ⟨i, by omega, ?_, fun nm => by rw [procA_other rk _ _ nm (by omega)]; exact h5 nm⟩
        unfold updF
        rw [if_neg (fun e => by rw [e, hn] at h4; simp at h4)]
        exact h4
      | none =>
        rw [hl, Option.none_or] at hv
        have hxb : b = x := by have := List.mem_of_find?_eq_some hv; rwa [List.mem_singleton] at this
        subst hxb
        have e : nb b.var = v := of_decide_eq_true (List.find?_some hv : isV v b = true)
        refine ⟨l.length, by simp, by unfold updF; rw [if_pos e.symm], fun nm => ?_⟩
        rw [procA_at, h3 _ nm (Nat.le_refl _), Option.none_or]
    · rw [List.length_append] at hi
      show procA rk l.length S.2 x.ats i nm = none
      have hi1 : l.length + 1 ≤ i := hi
      rw [procA_other rk _ _ nm (by omega)]
      exact h3 i nm (by omega)
theorem tells_from (rk : Nm → Nat) : ∀ (r l : List Bd) (S : (Nm → Option Nat) × (Nat → ByteArray → Option (Vl × Vl))), Tells rk l S → Tells rk (l ++ r) (procB rk r S l.length)
  | [], l, S, h => by rw [List.append_nil]; exact h
  | x :: r, l, S, h => by
    have := tells_from rk r (l ++ [x]) _ (h.snoc x)
    rw [List.append_assoc, List.length_append] at this
    exact this
theorem tells_all (rk : Nm → Nat) (bs : List Bd) : Tells rk bs (procB rk bs (fun _ => none, fun _ _ => none) 0) := tells_from rk bs [] _ (Tells.nil rk)
theorem isVar_V (v : ByteArray) : isVar v = isV (nb v) := by funext b; rw [isVar_nb]; rfl
/-- What find tells of an operand. -/
theorem find_is {rk : Nm → Nat} {bs : List Bd} {S : (Nm → Option Nat) × (Nat → ByteArray → Option (Vl × Vl))} (h : Tells rk bs S) {o : Opd} {p : Vl × Vl} (hp : FindP o S.1 S.2 p (okF o S.1)) :
    (okF o S.1 = true → valL o bs = some p.1 ∧ (o.attr ≠ em → ∃ b ∈ bs, p = fndL rk b.ats o.attr)) ∧ (okF o S.1 = false → valL o bs = none) := by
  unfold FindP at hp
  unfold okF valL
  unfold okF at hp
  by_cases ha : o.attr = em
  · rw [if_pos ha] at hp ⊢
    rw [decide_eq_true ha]
    refine ⟨fun _ => ⟨by rw [hp.1], fun h => absurd ha h⟩, fun h => by simp at h⟩
  · rw [if_neg ha] at hp ⊢
    rw [decide_eq_false ha, Bool.false_or, isVar_V]
    cases hf : bs.find? (isV (nb o.var)) with
    | none =>
      rw [h.1 _ hf]
      exact ⟨fun h => by simp at h, fun _ => rfl⟩
    | some b =>
      obtain ⟨i, hi, h4, h5⟩ := h.2.1 _ b hf
      rw [h4] at hp ⊢
      have e : p = fndL rk b.ats o.attr := by rw [← saw_fnd, ← h5]; exact hp.1
      refine ⟨fun _ => ⟨?_, fun _ => ⟨b, List.mem_of_find?_eq_some hf, e⟩⟩, fun h => by simp at h⟩
      rw [e, fndL_fst]
      show some (ownL o b.ats) = _
      unfold ownL
      rw [if_neg ha]
theorem hold_is {rk : Nm → Nat} {bs : List Bd} {S : (Nm → Option Nat) × (Nat → ByteArray → Option (Vl × Vl))} (h : Tells rk bs S) (hr : Ranks rk (strsB bs)) {c : Cnd} {b : Bool} (hb : HoldP c S.1 S.2 b) : b = condB c bs := by
  obtain ⟨p, q, hp, hq, rfl⟩ := hb
  have h1 := find_is h hp
  have h2 := find_is h hq
  unfold holdI condB
  cases hl : okF c.left S.1 with
  | false => rw [h1.2 hl]; rfl
  | true =>
    obtain ⟨e1, f1⟩ := h1.1 hl
    rw [e1]
    cases hm : okF c.right S.1 with
    | false => rw [h2.2 hm]; rfl
    | true =>
      obtain ⟨e2, f2⟩ := h2.1 hm
      rw [e2]
      by_cases ha : c.left.attr = em
      · rw [decide_eq_true ha]; rfl
      by_cases hc : c.right.attr = em
      · rw [decide_eq_true hc, Bool.or_true]; rfl
      rw [decide_eq_false ha, decide_eq_false hc]
      obtain ⟨x, hx, rfl⟩ := f1 ha
      obtain ⟨y, hy, rfl⟩ := f2 hc
      have ex : ∀ z ∈ bs, ∀ s ∈ strsA z.ats, s ∈ strsB bs := fun z hz s hs => List.mem_flatMap.2 ⟨z, hz, hs⟩
      have := fnd_hold hr c.rel (ex x hx) (ex y hy) c.left.attr c.right.attr
      show holdL c.rel _ _ = holdL c.rel _ _
      rw [this, fndL_fst, fndL_fst]
/-- The index of the bounds, with the ranks that `ranks` gives. -/
def idxOf (bs : List Bd) : (Nm → Option Nat) × (Nat → ByteArray → Option (Vl × Vl)) := procB (rankIn (compS (sortS (strsB bs)))) bs (fun _ => none, fun _ _ => none) 0
theorem hold_index {bs : List Bd} (hT : (strsB bs).length ≤ 1048576) {c : Cnd} {b : Bool} (hb : HoldP c (idxOf bs).1 (idxOf bs).2 b) : b = condB c bs :=
  hold_is (tells_all _ bs) (ranks_of (dist_lt _) (Nat.le_trans (dist_len _) (by omega)) (fun s hs => dist_mem _ hs)) hb
end Go.Proofs.Ytpbloplbpkedcaa
