/- Partial matches as lists of bounds: which may be, how two are put together. No program in this text. -/
import Derived.Test.YtcnecokamckfaaaGreatDoorEv
namespace Go.Proofs.YtcnecokamckfaaaGreatDoor
open Go Go.RowKit

/-- A bound: a variable and its event. -/
structure Bd where
  var : ByteArray
  ev : Ev
  deriving DecidableEq, Inhabited
def cbV (a b : Bd) : Int := Lib.compareBytes a.var.data.toList b.var.data.toList
def idE (a b : Bd) : Bool := decide (a.ev.src = b.ev.src) && decide (a.ev.seq = b.ev.seq)
def nmB (n : Nat) (x : Bd) : Bool := nameB x.var.data.toList || (decide (x.var.data.toList = []) && decide (n = 1))
def risB (l : List Bd) (k : Nat) : Bool := !(decide (0 < k) && decide (cbV l[k]! l[k - 1]! ≤ 0))
def frsB (l : List Bd) (k : Nat) : Bool := !((l.take k).any fun o => idE o l[k]!)
/-- Whether a bound may stand where it does, whatever else its event is. -/
def stB (l : List Bd) (k : Nat) : Bool := nmB l.length l[k]! && (risB l k && frsB l k)
def ckAt (l : List Bd) (k : Nat) : Int := if stB l k = true then ckE l[k]!.ev else 100
def ckFr (l : List Bd) (k : Nat) : Int :=
  if k < l.length then if ckAt l k = 0 then ckFr l (k + 1) else ckAt l k else 0
termination_by l.length - k
/-- What is wrong with a partial match. -/
def ckP (l : List Bd) : Int := if 12 < l.length then 100 else ckFr l 0
theorem ckFr_end {l : List Bd} {k : Nat} (h : ¬ k < l.length) : ckFr l k = 0 := by rw [ckFr, if_neg h]
theorem ckFr_go {l : List Bd} {k : Nat} (h : k < l.length) (h1 : ckAt l k = 0) : ckFr l k = ckFr l (k + 1) := by rw [ckFr, if_pos h, if_pos h1]
theorem ckFr_bad {l : List Bd} {k : Nat} (h : k < l.length) (h1 : ckAt l k ≠ 0) : ckFr l k = ckAt l k := by rw [ckFr, if_pos h, if_neg h1]
theorem ckAt_st {l : List Bd} {k : Nat} (h : stB l k = false) : ckAt l k = 100 := by unfold ckAt; rw [h]; rfl
theorem ckAt_ev {l : List Bd} {k : Nat} (h : stB l k = true) : ckAt l k = ckE l[k]!.ev := by unfold ckAt; rw [if_pos h]
theorem ckFr_st {l : List Bd} {k : Nat} (h : k < l.length) (h1 : stB l k = false) : ckFr l k = 100 := by
  have := ckAt_st h1
  rw [ckFr_bad h (by rw [this]; decide), this]
theorem ckFr_zero (l : List Bd) (k : Nat) : ckFr l k = 0 ↔ ∀ j, k ≤ j → j < l.length → ckAt l j = 0 := by
  generalize hm : l.length - k = m
  induction m generalizing k with
  | zero => rw [ckFr_end (by omega)]; exact ⟨fun _ j h1 h2 => by omega, fun _ => rfl⟩
  | succ m ih =>
    have hk : k < l.length := by omega
    by_cases h : ckAt l k = 0
    · rw [ckFr_go hk h, ih (k + 1) (by omega)]
      refine ⟨fun hh j h1 h2 => ?_, fun hh j h1 h2 => hh j (by omega) h2⟩
      by_cases e : j = k
      · rw [e]; exact h
      · exact hh j (by omega) h2
    · rw [ckFr_bad hk h]
      exact ⟨fun hh => absurd hh h, fun hh => hh k (Nat.le_refl _) hk⟩

theorem cbV_swap (a b : Bd) : cbV b a = -cbV a b := cb_swap _ _
theorem cbV_trans {a b c : Bd} (h1 : cbV a b < 0) (h2 : cbV b c < 0) : cbV a c < 0 := (cb_trans _ _ _ (Int.le_of_lt h1) (Int.le_of_lt h2)).2 (.inl h1)
theorem idE_swap (a b : Bd) : idE b a = idE a b := by
  unfold idE
  rw [show decide (b.ev.src = a.ev.src) = decide (a.ev.src = b.ev.src) by rw [decide_eq_decide]; exact ⟨Eq.symm, Eq.symm⟩, show decide (b.ev.seq = a.ev.seq) = decide (a.ev.seq = b.ev.seq) by rw [decide_eq_decide]; exact ⟨Eq.symm, Eq.symm⟩]
/-- What partial matches are that may be. -/
structure Okl (l : List Bd) : Prop where
  len : l.length ≤ 12
  nm : ∀ x ∈ l, nmB l.length x = true
  ris : l.Pairwise fun a b => cbV a b < 0
  frs : l.Pairwise fun a b => idE a b = false
  ev : ∀ x ∈ l, ckE x.ev = 0
theorem stB_iff (l : List Bd) (k : Nat) : stB l k = true ↔ nmB l.length l[k]! = true ∧ (0 < k → 0 < cbV l[k]! l[k - 1]!) ∧ ∀ o ∈ l.take k, idE o l[k]! = false := by
  unfold stB risB frsB
  rw [Bool.and_eq_true, Bool.and_eq_true]
  refine and_congr Iff.rfl (and_congr ?_ ?_)
  · rw [Bool.not_eq_true', Bool.and_eq_false_iff, decide_eq_false_iff_not, decide_eq_false_iff_not]
    constructor
    · rintro (h | h) hk
      · exact absurd hk h
      · omega
    · intro h
      by_cases hk : 0 < k
      · exact .inr (by have := h hk; omega)
      · exact .inl hk
  · rw [Bool.not_eq_true', List.any_eq_false]
    exact ⟨fun h o ho => by simpa using h o ho, fun h o ho => by rw [h o ho]; exact Bool.false_ne_true⟩
theorem ckP_iff (l : List Bd) : ckP l = 0 ↔ Okl l := by
  unfold ckP
  by_cases hl : 12 < l.length
  · rw [if_pos hl]
    exact ⟨(fun h => by cases h), fun h => absurd h.len (by omega)⟩
  rw [if_neg hl, ckFr_zero]
  have key : ∀ j, ckAt l j = 0 ↔ stB l j = true ∧ ckE l[j]!.ev = 0 := fun j => by
    unfold ckAt
    cases h : stB l j
    · simp
    · simp
  constructor
  · intro h
    have h' := fun j (hj : j < l.length) => (key j).1 (h j (Nat.zero_le _) hj)
    have hs := fun j (hj : j < l.length) => (stB_iff l j).1 (h' j hj).1
    refine ⟨by omega, fun x hx => ?_, ?_, ?_, fun x hx => ?_⟩
    · obtain ⟨i, hi, rfl⟩ := List.mem_iff_getElem.1 hx
      have := (hs i hi).1
      rwa [getElem!_pos l i hi] at this
    · rw [List.pairwise_iff_getElem]
      intro i j hi hj hij
      induction j with
      | zero => omega
      | succ j ih =>
        have h1 := (hs (j + 1) hj).2.1 (by omega)
        rw [getElem!_pos l (j + 1) hj, Nat.add_sub_cancel, getElem!_pos l j (by omega)] at h1
        have h2 : cbV l[j] l[j + 1] < 0 := by have := cbV_swap l[j] l[j + 1]; omega
        by_cases e : i = j
        · subst e; exact h2
        · exact cbV_trans (ih (by omega) (by omega)) h2
    · rw [List.pairwise_iff_getElem]
      intro i j hi hj hij
      have := (hs j hj).2.2 l[i] (by rw [List.mem_take_iff_getElem]; exact ⟨i, by omega, rfl⟩)
      rwa [getElem!_pos l j hj] at this
    · obtain ⟨i, hi, rfl⟩ := List.mem_iff_getElem.1 hx
      have := (h' i hi).2
      rwa [getElem!_pos l i hi] at this
  · intro h j _ hj
    refine (key j).2 ⟨(stB_iff l j).2 ⟨?_, fun hk => ?_, fun o ho => ?_⟩, ?_⟩
    · rw [getElem!_pos l j hj]; exact h.nm _ (List.getElem_mem _)
    · have := (List.pairwise_iff_getElem.1 h.ris) (j - 1) j (by omega) hj (by omega)
      rw [getElem!_pos l j hj, getElem!_pos l (j - 1) (by omega)]
      have h2 := cbV_swap l[j - 1] l[j]; omega
    · obtain ⟨i, hi, rfl⟩ := List.mem_take_iff_getElem.1 ho
      have := (List.pairwise_iff_getElem.1 h.frs) i j (by omega) hj (by omega)
      rwa [getElem!_pos l j hj]
    · rw [getElem!_pos l j hj]; exact h.ev _ (List.getElem_mem _)

/-- Two put together: all of both, rising by the variables. -/
def MrgR (a b m : List Bd) : Prop := m.Perm (a ++ b) ∧ m.Pairwise fun x y => cbV x y ≤ 0
def leV (x y : Bd) : Bool := decide (cbV x y ≤ 0)
def mrg (a b : List Bd) : List Bd := (a ++ b).mergeSort leV
theorem mrg_is (a b : List Bd) : MrgR a b (mrg a b) := by
  refine ⟨List.mergeSort_perm _ _, ?_⟩
  have h := List.pairwise_mergeSort (le := leV) (fun x y z h1 h2 => by
    unfold leV at *
    rw [decide_eq_true_eq] at *
    exact (cb_trans _ _ _ h1 h2).1) (fun x y => by
    unfold leV
    have := cbV_swap x y
    rw [Bool.or_eq_true, decide_eq_true_eq, decide_eq_true_eq]; omega) (a ++ b)
  exact h.imp fun h => by unfold leV at h; rwa [decide_eq_true_eq] at h
theorem ris_of {m m' : List Bd} (hp : m.Perm m') (h : m.Pairwise fun x y => cbV x y < 0) (h' : m'.Pairwise fun x y => cbV x y ≤ 0) : m'.Pairwise fun x y => cbV x y < 0 := by
  have hne : m.Pairwise fun x y => cbV x y ≠ 0 := h.imp fun h => by omega
  have hne' : m'.Pairwise fun x y => cbV x y ≠ 0 := (List.Perm.pairwise_iff (fun {x y} hxy => by have := cbV_swap x y; omega) hp).1 hne
  exact List.Pairwise.imp (fun h => by omega) (List.Pairwise.and h' hne')
theorem srt_eq {m m' : List Bd} (hp : m.Perm m') (h : m.Pairwise fun x y => cbV x y < 0) (h' : m'.Pairwise fun x y => cbV x y ≤ 0) : m = m' :=
  List.Perm.eq_of_pairwise (le := fun x y => cbV x y < 0) (fun x y _ _ h1 h2 => by have := cbV_swap x y; omega) h (ris_of hp h h') hp
theorem MrgR.eq {a b m m' : List Bd} (h : MrgR a b m) (h' : MrgR a b m') (ho : ckP m = 0) : m = m' := srt_eq (h.1.trans h'.1.symm) ((ckP_iff m).1 ho).ris h'.2
/-- What becomes of two. -/
def mergeO (a b : List Bd) : Option (List Bd) := if ckP a = 0 ∧ ckP b = 0 ∧ ckP (mrg a b) = 0 then some (mrg a b) else none
theorem mergeO_a {a b : List Bd} (h : ckP a ≠ 0) : mergeO a b = none := if_neg fun hh => h hh.1
theorem mergeO_b {a b : List Bd} (h : ckP b ≠ 0) : mergeO a b = none := if_neg fun hh => h hh.2.1
theorem mergeO_no {a b m : List Bd} (h : MrgR a b m) (hm : ckP m ≠ 0) : mergeO a b = none := if_neg fun hh => hm (by rw [← (mrg_is a b).eq h hh.2.2]; exact hh.2.2)
theorem mergeO_yes {a b m : List Bd} (h : MrgR a b m) (ha : ckP a = 0) (hb : ckP b = 0) (hm : ckP m = 0) : mergeO a b = some m := by
  have e := h.eq (mrg_is a b) hm
  unfold mergeO
  rw [← e, if_pos ⟨ha, hb, hm⟩]
theorem mergeO_some {a b m : List Bd} (h : mergeO a b = some m) : ckP a = 0 ∧ ckP b = 0 ∧ ckP m = 0 ∧ MrgR a b m := by
  unfold mergeO at h
  split at h
  · next hh =>
    obtain rfl : mrg a b = m := by simpa using h
    exact ⟨hh.1, hh.2.1, hh.2.2, mrg_is a b⟩
  · cases h
theorem MrgR.swap {a b m : List Bd} (h : MrgR a b m) : MrgR b a m := ⟨h.1.trans List.perm_append_comm, h.2⟩
theorem mergeO_comm (a b : List Bd) : mergeO a b = mergeO b a := by
  cases h : mergeO b a with
  | some m =>
    obtain ⟨h1, h2, h3, h4⟩ := mergeO_some h
    exact mergeO_yes h4.swap h2 h1 h3
  | none =>
    cases h' : mergeO a b with
    | none => rfl
    | some m =>
      obtain ⟨h1, h2, h3, h4⟩ := mergeO_some h'
      rw [mergeO_yes h4.swap h2 h1 h3] at h
      cases h
/-- A part, in order, of what may be, may be. -/
theorem Okl.part {q m r : List Bd} (h : Okl q) (hp : q.Perm (m ++ r)) (hs : m.Pairwise fun x y => cbV x y ≤ 0) : Okl m := by
  have hl : q.length = m.length + r.length := by rw [hp.length_eq, List.length_append]
  have hr : (m ++ r).Pairwise fun x y => cbV x y ≠ 0 := (List.Perm.pairwise_iff (fun {x y} hxy => by have := cbV_swap x y; omega) hp).1 (h.ris.imp fun h => by omega)
  have hf : (m ++ r).Pairwise fun x y => idE x y = false := (List.Perm.pairwise_iff (fun {x y} hxy => by rw [idE_swap]; exact hxy) hp).1 h.frs
  have hm : ∀ x ∈ m, x ∈ q := fun x hx => hp.mem_iff.2 (List.mem_append_left _ hx)
  refine ⟨by have := h.len; omega, fun x hx => ?_, ?_, (List.pairwise_append.1 hf).1, fun x hx => h.ev x (hm x hx)⟩
  · have h1 := h.nm x (hm x hx)
    have h2 : 0 < m.length := List.length_pos_of_mem hx
    unfold nmB at h1 ⊢
    rw [Bool.or_eq_true, Bool.and_eq_true, decide_eq_true_eq, decide_eq_true_eq] at *
    rcases h1 with h1 | ⟨h1, h3⟩
    · exact .inl h1
    · exact .inr ⟨h1, by omega⟩
  · exact List.Pairwise.imp (fun h => by omega) (List.Pairwise.and hs (List.pairwise_append.1 hr).1)
theorem mergeO_three {a b c p q : List Bd} (h1 : mergeO a b = some p) (h2 : mergeO p c = some q) : ∃ r, mergeO b c = some r ∧ mergeO a r = some q := by
  obtain ⟨ha, hb, hp, hm⟩ := mergeO_some h1
  obtain ⟨_, hc, hq, hn⟩ := mergeO_some h2
  have hq' := (ckP_iff q).1 hq
  have P1 : q.Perm (a ++ (b ++ c)) := hn.1.trans ((hm.1.append_right c).trans (by rw [List.append_assoc]))
  have P2 : q.Perm (mrg b c ++ a) := P1.trans (List.perm_append_comm.trans ((mrg_is b c).1.symm.append_right a))
  have hr : ckP (mrg b c) = 0 := (ckP_iff _).2 (hq'.part P2 (mrg_is b c).2)
  exact ⟨mrg b c, mergeO_yes (mrg_is b c) hb hc hr, mergeO_yes ⟨P2.trans List.perm_append_comm, hn.2⟩ ha hr hq⟩
/-- Of three, in whatever order. -/
theorem mergeO_assoc (a b c : List Bd) : ((mergeO a b).bind fun p => mergeO p c) = ((mergeO b c).bind fun r => mergeO a r) := by
  cases h : ((mergeO a b).bind fun p => mergeO p c) with
  | some q =>
    obtain ⟨p, h1, h2⟩ := Option.bind_eq_some_iff.1 h
    obtain ⟨r, h3, h4⟩ := mergeO_three h1 h2
    rw [h3]; exact h4.symm
  | none =>
    cases h' : ((mergeO b c).bind fun r => mergeO a r) with
    | none => rfl
    | some q =>
      obtain ⟨r, h1, h2⟩ := Option.bind_eq_some_iff.1 h'
      rw [mergeO_comm] at h1 h2
      obtain ⟨p, h3, h4⟩ := mergeO_three h1 h2
      rw [mergeO_comm] at h3 h4
      rw [h3] at h
      have : mergeO p c = none := h
      rw [this] at h4
      cases h4

/-! When the events are. -/
def begT : List Bd → Int
  | [] => 0
  | x :: r => r.foldl (fun m b => min m b.ev.time) x.ev.time
def endT : List Bd → Int
  | [] => 0
  | x :: r => r.foldl (fun m b => max m b.ev.time) x.ev.time
theorem begT_one (x : Bd) : begT [x] = x.ev.time := rfl
theorem endT_one (x : Bd) : endT [x] = x.ev.time := rfl
theorem begT_snoc : ∀ (l : List Bd) (x : Bd), l ≠ [] → begT (l ++ [x]) = min (begT l) x.ev.time
  | [], _, h => absurd rfl h
  | y :: r, x, _ => by show ((r ++ [x]).foldl _ _) = _; rw [List.foldl_append]; rfl
theorem endT_snoc : ∀ (l : List Bd) (x : Bd), l ≠ [] → endT (l ++ [x]) = max (endT l) x.ev.time
  | [], _, h => absurd rfl h
  | y :: r, x, _ => by show ((r ++ [x]).foldl _ _) = _; rw [List.foldl_append]; rfl
end Go.Proofs.YtcnecokamckfaaaGreatDoor
