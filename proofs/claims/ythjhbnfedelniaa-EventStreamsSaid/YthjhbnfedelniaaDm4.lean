/- The program's streams and the document's say the same: the mathematics. -/
import Derived.Test.YthjhbnfedelniaaDa4
namespace Go.Proofs.Ythjhbnfedelniaa
open Go Go.RowKit

/-- What the program's streams hold (sd) is what the document's do (evs, gone). -/
structure Same4 (k : Nat) (sd : List Sd) (evs : List Ev) (gone : List Bool) : Prop where
  k16 : k ≤ 16
  sdl : sd.length = 16
  gl : gone.length = k
  src : ∀ e ∈ evs, hasB k e.src = true
  many : ∀ j : Nat, j < 16 → sd[j]!.many = (cntL evs (j : Int) : Int)
  last : ∀ j : Nat, j < 16 → sd[j]!.last = lastL evs (j : Int)
  gone : ∀ j : Nat, j < k → sd[j]!.gone = gone[j]!
theorem cntL_none {evs : List Ev} {n : Int} (h : ∀ e ∈ evs, e.src ≠ n) : cntL evs n = 0 := by
  unfold cntL
  rw [List.filter_eq_nil_iff.2 (fun e he => by simpa using h e he)]; rfl
theorem lastL_none {evs : List Ev} {n : Int} (h : ∀ e ∈ evs, e.src ≠ n) : lastL evs n = 0 := by
  unfold lastL
  rw [List.filter_eq_nil_iff.2 (fun e he => by simpa using h e he)]; rfl
theorem Same4.none {k : Nat} {sd : List Sd} {evs : List Ev} {gone : List Bool} (h : Same4 k sd evs gone) {n : Int} (hn : hasB k n = false) : ∀ e ∈ evs, e.src ≠ n := fun e he hs => by
  have := h.src e he
  rw [hs, hn] at this; cases this
theorem sd0_at (j : Nat) (hj : j < 16) : sd0[j]! = ⟨0, 0, false⟩ := by
  have hl : j < sd0.length := hj
  rw [getElem!_pos sd0 j hl]
  exact List.getElem_replicate _
theorem Same4.start {k : Nat} (hk : k ≤ 16) : Same4 k sd0 [] (List.replicate k false) := by
  refine ⟨hk, rfl, by simp, by simp, fun j hj => by rw [sd0_at j hj]; rfl, fun j hj => by rw [sd0_at j hj]; rfl, fun j hj => ?_⟩
  rw [sd0_at j (by omega), getElem!_pos _ j (by simpa using hj), List.getElem_replicate]
theorem Same4.next {k : Nat} {sd : List Sd} {evs : List Ev} {gone : List Bool} (h : Same4 k sd evs gone) (n : Int) : (saidAt k sd n).many = (cntL evs n : Int) := by
  cases hh : hasB k n with
  | false => rw [saidAt_no hh, cntL_none (h.none hh)]; rfl
  | true =>
    obtain ⟨j, rfl, hj⟩ := hasB_nat hh
    rw [saidAt_nat hj]; exact h.many j (by have := h.k16; omega)
theorem Same4.closed {k : Nat} {sd : List Sd} {evs : List Ev} {gone : List Bool} (h : Same4 k sd evs gone) (n : Int) : (saidAt k sd n).gone = goneAt k gone n := by
  unfold goneAt
  cases hh : hasB k n with
  | false => rw [saidAt_no hh]; rfl
  | true =>
    obtain ⟨j, rfl, hj⟩ := hasB_nat hh
    rw [saidAt_nat hj]; exact h.gone j hj
theorem Same4.mark {k : Nat} {sd : List Sd} {evs : List Ev} {gone : List Bool} (h : Same4 k sd evs gone) (n : Int) : markI (saidAt k sd n) = rMark k evs gone n := by
  unfold markI rMark
  rw [h.closed n]
  cases hg : goneAt k gone n with
  | true => rfl
  | false =>
    simp only [Bool.false_eq_true, if_false]
    cases hh : hasB k n with
    | false => rw [saidAt_no hh, lastL_none (h.none hh)]
    | true =>
      obtain ⟨j, rfl, hj⟩ := hasB_nat hh
      rw [saidAt_nat hj]; exact h.last j (by have := h.k16; omega)
theorem Same4.clsErr {k : Nat} {sd : List Sd} {evs : List Ev} {gone : List Bool} (h : Same4 k sd evs gone) (n : Int) : clsErr k sd n = rClsErr k gone n := by
  unfold Go.Proofs.Ythjhbnfedelniaa.clsErr rClsErr
  cases hh : hasB k n with
  | false => rfl
  | true =>
    obtain ⟨j, rfl, hj⟩ := hasB_nat hh
    rw [show ((j : Int)).toNat = j from rfl, h.gone j hj]
theorem getElem!_set_sd (l : List Sd) (j i : Nat) (x : Sd) (hi : i < l.length) : (l.set j x)[i]! = if j = i then x else l[i]! := by
  rw [getElem!_pos _ i (by rw [List.length_set]; exact hi), List.getElem_set, getElem!_pos l i hi]
theorem Same4.cls {k : Nat} {sd : List Sd} {evs : List Ev} {gone : List Bool} (h : Same4 k sd evs gone) (n : Int) : Same4 k (clsSd k sd n) evs (rClsGone k gone n) := by
  unfold clsSd rClsGone
  rw [h.clsErr n]
  by_cases he : rClsErr k gone n = 0
  · rw [if_pos he, if_pos he]
    cases hh : hasB k n with
    | false => unfold rClsErr at he; rw [hh] at he; simp at he
    | true =>
      obtain ⟨j, rfl, hj⟩ := hasB_nat hh
      rw [show ((j : Int)).toNat = j from rfl]
      refine ⟨h.k16, by rw [List.length_set]; exact h.sdl, by rw [List.length_set]; exact h.gl, h.src, fun i hi => ?_, fun i hi => ?_, fun i hi => ?_⟩
      · rw [getElem!_set_sd _ _ _ _ (by rw [h.sdl]; exact hi)]
        split
        · rename_i e; subst e; exact h.many _ hi
        · exact h.many _ hi
      · rw [getElem!_set_sd _ _ _ _ (by rw [h.sdl]; exact hi)]
        split
        · rename_i e; subst e; exact h.last _ hi
        · exact h.last _ hi
      · rw [getElem!_set_sd _ _ _ _ (by rw [h.sdl]; have := h.k16; omega), set_at _ _ _ (by rw [h.gl]; exact hi)]
        split
        · rfl
        · exact h.gone _ hi
  · rw [if_neg he, if_neg he]; exact h
theorem Same4.accErr {k : Nat} {sd : List Sd} {evs : List Ev} {gone : List Bool} (h : Same4 k sd evs gone) (ev : Ev) : accErr k sd evs.length ev = rAccErr k evs gone ev := by
  unfold Go.Proofs.Ythjhbnfedelniaa.accErr rAccErr
  split
  · rfl
  · cases hh : hasB k ev.src with
    | false => rfl
    | true =>
      simp only [Bool.true_eq_false, if_false]
      obtain ⟨j, hs, hj⟩ := hasB_nat hh
      have hj16 : j < 16 := by have := h.k16; omega
      have hm : rMark k evs gone ev.src = if gone[j]! then 1099511627777 else lastL evs (j : Int) := by
        unfold rMark goneAt
        rw [hh, hs, show ((j : Int)).toNat = j from rfl]; simp
      rw [hm, hs, show ((j : Int)).toNat = j from rfl]
      unfold nxErr
      rw [h.gone j hj, h.many j hj16, h.last j hj16]
      cases gone[j]! with
      | true => simp
      | false =>
        simp only [Bool.false_eq_true, if_false]
        by_cases h1 : ev.seq = (cntL evs (j : Int) : Int)
        · simp only [h1, ne_eq, not_true_eq_false, if_false]
          by_cases h2 : ev.time < lastL evs (j : Int)
          · simp [h2]
          · simp [h2]
        · simp [h1]
theorem Same4.acc {k : Nat} {sd : List Sd} {evs : List Ev} {gone : List Bool} (h : Same4 k sd evs gone) (ev : Ev) (he : rAccErr k evs gone ev = 0) : Same4 k (accSd sd ev) (evs ++ [ev]) gone := by
  cases hh : hasB k ev.src with
  | false =>
    unfold rAccErr at he
    rw [hh] at he
    split at he
    · rename_i h1; exact absurd he h1
    · simp at he
  | true =>
    obtain ⟨j, hs, hj⟩ := hasB_nat hh
    have hj16 : j < 16 := by have := h.k16; omega
    unfold accSd
    rw [hs, show ((j : Int)).toNat = j from rfl]
    refine ⟨h.k16, by rw [List.length_set]; exact h.sdl, h.gl, fun e hm => ?_, fun i hi => ?_, fun i hi => ?_, fun i hi => ?_⟩
    · rcases List.mem_append.1 hm with hm | hm
      · exact h.src e hm
      · rw [List.mem_singleton.1 hm]; exact hh
    · rw [getElem!_set_sd _ _ _ _ (by rw [h.sdl]; exact hi)]
      split
      · rename_i e; subst e
        have := cntL_snoc_eq evs ev
        rw [hs] at this
        rw [this]; simp only; rw [h.many _ hi]; omega
      · rename_i e
        rw [cntL_snoc_ne evs ev (i : Int) (by rw [hs]; omega)]; exact h.many _ hi
    · rw [getElem!_set_sd _ _ _ _ (by rw [h.sdl]; exact hi)]
      split
      · rename_i e; subst e
        have := lastL_snoc_eq evs ev
        rw [hs] at this
        rw [this]
      · rename_i e
        rw [lastL_snoc_ne evs ev (i : Int) (by rw [hs]; omega)]; exact h.last _ hi
    · rw [getElem!_set_sd _ _ _ _ (by rw [h.sdl]; have := h.k16; omega)]
      split
      · rename_i e; subst e; exact h.gone _ hi
      · exact h.gone _ hi
end Go.Proofs.Ythjhbnfedelniaa
