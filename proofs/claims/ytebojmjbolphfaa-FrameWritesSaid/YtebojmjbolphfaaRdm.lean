/- Plain facts: what bits say as a datagram, step by step and all at once; there and back. No program here. -/
import Derived.Test.YtebojmjbolphfaaFm
namespace Go.Proofs.Ytebojmjbolphfaa
open Go Crc

/-- What a reader of bits stands at: its first error, and the bits that are left if there is none. -/
abbrev St := Nat × List Bool
def rdB (n : Nat) (s : St) : Nat × St := if s.1 = 0 then (bitsVal s.2 n, (bitsErr n s.2.length, bitsRest s.2 n)) else (0, s)
def rdN (s : St) : Nat × St := if s.1 = 0 then (natValL s.2, (natErrL s.2, natRestL s.2)) else (0, s)
def rdBody (s : St) : List Nat × St :=
  if 16384 < (rdN s).1 then ([], (21, [])) else if (rdN s).2.1 = 0 then
    if (rdN s).2.2.length < 8 * (rdN s).1 then ([], (10, [])) else ((List.range (rdN s).1).map (chunk (rdN s).2.2), (0, (rdN s).2.2.drop (8 * (rdN s).1)))
  else ([], (rdN s).2)
def r1 (l : List Bool) := rdB 2 (0, l)
def s2 (l : List Bool) : St := if (r1 l).2.1 = 0 ∧ kdB (r1 l).1 = false then (21, []) else (r1 l).2
def r3 (l : List Bool) := rdB 4 (s2 l)
def r4 (l : List Bool) := rdB 4 (r3 l).2
def r5 (l : List Bool) := rdN (r4 l).2
def r6 (l : List Bool) := rdN (r5 l).2
def r7 (l : List Bool) := rdBody (r6 l).2
/-- Where a reader stands behind a datagram. -/
def rEnd (l : List Bool) : St := if (r1 l).1 = 1 then (r7 l).2 else (r5 l).2

theorem rdB_err (n : Nat) (s : St) (h : s.1 ≠ 0) : rdB n s = (0, s) := by unfold rdB; rw [if_neg h]
theorem rdN_err (s : St) (h : s.1 ≠ 0) : rdN s = (0, s) := by unfold rdN; rw [if_neg h]
theorem rdB_ends (n : Nat) (l : List Bool) (h64 : n ≤ 64) (h : l.length < n) : rdB n (0, l) = (0, (10, l)) := by
  have e : bitsErr (n : Int) l.length = 10 := bitsErr_ends (by omega) (by omega)
  unfold rdB bitsVal bitsRest
  rw [if_pos rfl]; simp only [e]; rfl
theorem rdB_ok (n : Nat) (l : List Bool) (h64 : n ≤ 64) (h : n ≤ l.length) : rdB n (0, l) = (valBits (l.take n), (0, l.drop n)) := by
  have e : bitsErr (n : Int) l.length = 0 := bitsErr_ok h64 h
  unfold rdB bitsVal bitsRest
  rw [if_pos rfl]; simp only [e, if_true]; rfl
theorem rdN_bad (l : List Bool) (h : natErrL l ≠ 0) : rdN (0, l) = (0, (natErrL l, l)) := by
  unfold rdN natValL natRestL
  rw [if_pos rfl]; simp only [if_neg h]
theorem rdN_ok (l : List Bool) (h : natErrL l = 0) : rdN (0, l) = (natValL l, (0, natRestL l)) := by
  unfold rdN
  rw [if_pos rfl]; simp only [h]
theorem rdBody_err (s : St) (h : s.1 ≠ 0) : rdBody s = ([], s) := by
  unfold rdBody
  rw [rdN_err s h, if_neg (by simp), if_neg h]

theorem rdBody_bad (l : List Bool) (h : natErrL l ≠ 0) : rdBody (0, l) = ([], (natErrL l, l)) := by
  unfold rdBody
  rw [rdN_bad l h, if_neg (by simp), if_neg h]
theorem rdBody_long (l : List Bool) (h0 : natErrL l = 0) (h : 16384 < natValL l) : rdBody (0, l) = ([], (21, [])) := by
  unfold rdBody
  rw [rdN_ok l h0, if_pos h]
theorem rdBody_ends (l : List Bool) (h0 : natErrL l = 0) (h : ¬ 16384 < natValL l) (h2 : (natRestL l).length < 8 * natValL l) : rdBody (0, l) = ([], (10, [])) := by
  unfold rdBody
  rw [rdN_ok l h0, if_neg h]
  show (if (0 : Nat) = 0 then _ else _) = _
  rw [if_pos rfl]
  show (if (natRestL l).length < 8 * natValL l then _ else _) = _
  rw [if_pos h2]
theorem rdBody_ok (l : List Bool) (h0 : natErrL l = 0) (h : ¬ 16384 < natValL l) (h2 : ¬ (natRestL l).length < 8 * natValL l) : rdBody (0, l) = ((List.range (natValL l)).map (chunk (natRestL l)), (0, (natRestL l).drop (8 * natValL l))) := by
  unfold rdBody
  rw [rdN_ok l h0, if_neg h]
  show (if (0 : Nat) = 0 then _ else _) = _
  rw [if_pos rfl]
  show (if (natRestL l).length < 8 * natValL l then _ else _) = _
  rw [if_neg h2]

/-- A datagram as bits say it: its numbers of 64 bits. -/
structure Dg where
  f : Nat
  t : Nat
  k : Nat
  s : Nat
  a : Nat
  x : List Nat
def dgErr (l : List Bool) : Nat :=
  if l.length < 2 then 10 else if kdB (valBits (l.take 2)) = false then 21 else if l.length < 10 then 10 else
  if natErrL (l.drop 10) ≠ 0 then natErrL (l.drop 10) else if valBits (l.take 2) ≠ 1 then 0 else
  if natErrL (natRestL (l.drop 10)) ≠ 0 then natErrL (natRestL (l.drop 10)) else
  if natErrL (natRestL (natRestL (l.drop 10))) ≠ 0 then natErrL (natRestL (natRestL (l.drop 10))) else
  if 16384 < natValL (natRestL (natRestL (l.drop 10))) then 21 else
  if (natRestL (natRestL (natRestL (l.drop 10)))).length < 8 * natValL (natRestL (natRestL (l.drop 10))) then 10 else 0
def dgOf (l : List Bool) : Dg :=
  ⟨valBits ((l.drop 2).take 4), valBits ((l.drop 6).take 4), valBits (l.take 2), if valBits (l.take 2) = 1 then natValL (natRestL (l.drop 10)) else 0, natValL (l.drop 10),
    if valBits (l.take 2) = 1 then (List.range (natValL (natRestL (natRestL (l.drop 10))))).map (chunk (natRestL (natRestL (natRestL (l.drop 10))))) else []⟩
def dgRest (l : List Bool) : List Bool :=
  if valBits (l.take 2) = 1 then (natRestL (natRestL (natRestL (l.drop 10)))).drop (8 * natValL (natRestL (natRestL (l.drop 10)))) else natRestL (l.drop 10)

theorem drop24 (l : List Bool) : ((l.drop 2).drop 4).drop 4 = l.drop 10 := by simp [List.drop_drop]
/-- Step by step is all at once: the error. -/
theorem rEnd_err (l : List Bool) : (rEnd l).1 = dgErr l := by
  unfold dgErr
  by_cases h1 : l.length < 2
  · have e1 : r1 l = (0, (10, l)) := rdB_ends 2 l (by omega) h1
    have e2 : s2 l = (10, l) := by unfold s2; rw [e1]; simp
    have e3 : r3 l = (0, (10, l)) := by unfold r3; rw [e2]; exact rdB_err 4 _ (by simp)
    have e4 : r4 l = (0, (10, l)) := by unfold r4; rw [e3]; exact rdB_err 4 _ (by simp)
    have e5 : r5 l = (0, (10, l)) := by unfold r5; rw [e4]; exact rdN_err _ (by simp)
    rw [if_pos h1]; unfold rEnd; rw [e1, e5]; simp
  rw [if_neg h1]
  have e1 : r1 l = (valBits (l.take 2), (0, l.drop 2)) := rdB_ok 2 l (by omega) (by omega)
  by_cases h2 : kdB (valBits (l.take 2)) = false
  · have e2 : s2 l = (21, []) := by unfold s2; rw [e1, if_pos ⟨rfl, h2⟩]
    have e3 : r3 l = (0, (21, [])) := by unfold r3; rw [e2]; exact rdB_err 4 _ (by simp)
    have e4 : r4 l = (0, (21, [])) := by unfold r4; rw [e3]; exact rdB_err 4 _ (by simp)
    have e5 : r5 l = (0, (21, [])) := by unfold r5; rw [e4]; exact rdN_err _ (by simp)
    have hne : valBits (l.take 2) ≠ 1 := by intro h; rw [h] at h2; simp [kdB] at h2
    rw [if_pos h2]; unfold rEnd; rw [e1, if_neg hne, e5]
  rw [if_neg h2]
  have e2 : s2 l = (0, l.drop 2) := by unfold s2; rw [e1, if_neg (fun h => h2 h.2)]
  -- behind an error nothing more is taken
  have stop : ∀ e : Nat, e ≠ 0 → ∀ m, (r5 l).2 = (e, m) → (rEnd l).1 = e := by
    intro e he m h
    unfold rEnd
    by_cases hk : (r1 l).1 = 1
    · rw [if_pos hk]
      have e6 : r6 l = (0, (e, m)) := by unfold r6; rw [h]; exact rdN_err _ he
      unfold r7; rw [e6, rdBody_err _ he]
    · rw [if_neg hk, h]
  by_cases h3 : l.length < 10
  · rw [if_pos h3]
    by_cases h3' : l.length < 6
    · have e3 : r3 l = (0, (10, l.drop 2)) := by unfold r3; rw [e2]; exact rdB_ends 4 _ (by omega) (by rw [List.length_drop]; omega)
      have e4 : r4 l = (0, (10, l.drop 2)) := by unfold r4; rw [e3]; exact rdB_err 4 _ (by simp)
      have e5 : r5 l = (0, (10, l.drop 2)) := by unfold r5; rw [e4]; exact rdN_err _ (by simp)
      exact stop 10 (by simp) _ (by rw [e5])
    · have e3 : r3 l = (valBits ((l.drop 2).take 4), (0, (l.drop 2).drop 4)) := by unfold r3; rw [e2]; exact rdB_ok 4 _ (by omega) (by rw [List.length_drop]; omega)
      have e4 : r4 l = (0, (10, (l.drop 2).drop 4)) := by unfold r4; rw [e3]; exact rdB_ends 4 _ (by omega) (by rw [List.length_drop, List.length_drop]; omega)
      have e5 : r5 l = (0, (10, (l.drop 2).drop 4)) := by unfold r5; rw [e4]; exact rdN_err _ (by simp)
      exact stop 10 (by simp) _ (by rw [e5])
  rw [if_neg h3]
  have e3 : r3 l = (valBits ((l.drop 2).take 4), (0, (l.drop 2).drop 4)) := by unfold r3; rw [e2]; exact rdB_ok 4 _ (by omega) (by rw [List.length_drop]; omega)
  have e4 : r4 l = (valBits (((l.drop 2).drop 4).take 4), (0, l.drop 10)) := by unfold r4; rw [e3, ← drop24]; exact rdB_ok 4 _ (by omega) (by rw [List.length_drop, List.length_drop]; omega)
  by_cases h4 : natErrL (l.drop 10) ≠ 0
  · have e5 : r5 l = (0, (natErrL (l.drop 10), l.drop 10)) := by unfold r5; rw [e4]; exact rdN_bad _ h4
    rw [if_pos h4]
    exact stop _ h4 _ (by rw [e5])
  rw [if_neg h4]
  have h4' : natErrL (l.drop 10) = 0 := Decidable.not_not.1 h4
  have e5 : r5 l = (natValL (l.drop 10), (0, natRestL (l.drop 10))) := by unfold r5; rw [e4]; exact rdN_ok _ h4'
  by_cases h5 : valBits (l.take 2) ≠ 1
  · rw [if_pos h5]; unfold rEnd; rw [e1, if_neg h5, e5]
  rw [if_neg h5]
  have h5' : valBits (l.take 2) = 1 := Decidable.not_not.1 h5
  have eE : rEnd l = (r7 l).2 := by unfold rEnd; rw [e1, if_pos h5']
  rw [eE]
  by_cases h6 : natErrL (natRestL (l.drop 10)) ≠ 0
  · have e6 : r6 l = (0, (natErrL (natRestL (l.drop 10)), natRestL (l.drop 10))) := by unfold r6; rw [e5]; exact rdN_bad _ h6
    rw [if_pos h6]; unfold r7; rw [e6, rdBody_err _ h6]
  rw [if_neg h6]
  have e6 : r6 l = (natValL (natRestL (l.drop 10)), (0, natRestL (natRestL (l.drop 10)))) := by unfold r6; rw [e5]; exact rdN_ok _ (Decidable.not_not.1 h6)
  unfold r7
  rw [e6]
  by_cases h7 : natErrL (natRestL (natRestL (l.drop 10))) ≠ 0
  · rw [if_pos h7, rdBody_bad _ h7]
  rw [if_neg h7]
  by_cases h8 : 16384 < natValL (natRestL (natRestL (l.drop 10)))
  · rw [if_pos h8, rdBody_long _ (Decidable.not_not.1 h7) h8]
  rw [if_neg h8]
  by_cases h9 : (natRestL (natRestL (natRestL (l.drop 10)))).length < 8 * natValL (natRestL (natRestL (l.drop 10)))
  · rw [if_pos h9, rdBody_ends _ (Decidable.not_not.1 h7) h8 h9]
  · rw [if_neg h9, rdBody_ok _ (Decidable.not_not.1 h7) h8 h9]
/-- And what is read. -/
theorem rEnd_ok (l : List Bool) (h : dgErr l = 0) : (r1 l).1 = (dgOf l).k ∧ (r3 l).1 = (dgOf l).f ∧ (r4 l).1 = (dgOf l).t ∧ (r5 l).1 = (dgOf l).a ∧ (rEnd l).2 = dgRest l ∧ ((dgOf l).k = 1 ∨ (dgOf l).k = 2) ∧ ((dgOf l).k = 1 → (r6 l).1 = (dgOf l).s ∧ (r7 l).1 = (dgOf l).x) ∧ ((dgOf l).k = 2 → (dgOf l).s = 0 ∧ (dgOf l).x = []) := by
  unfold dgErr at h
  by_cases h1 : l.length < 2
  · rw [if_pos h1] at h; cases h
  rw [if_neg h1] at h
  by_cases h2 : kdB (valBits (l.take 2)) = false
  · rw [if_pos h2] at h; cases h
  rw [if_neg h2] at h
  by_cases h3 : l.length < 10
  · rw [if_pos h3] at h; cases h
  rw [if_neg h3] at h
  by_cases h4 : natErrL (l.drop 10) ≠ 0
  · rw [if_pos h4] at h; exact absurd h h4
  rw [if_neg h4] at h
  have h4' : natErrL (l.drop 10) = 0 := Decidable.not_not.1 h4
  have hk : valBits (l.take 2) = 1 ∨ valBits (l.take 2) = 2 := by
    simp [kdB] at h2
    omega
  have e1 : r1 l = (valBits (l.take 2), (0, l.drop 2)) := rdB_ok 2 l (by omega) (by omega)
  have e2 : s2 l = (0, l.drop 2) := by unfold s2; rw [e1, if_neg (fun h => h2 h.2)]
  have e3 : r3 l = (valBits ((l.drop 2).take 4), (0, (l.drop 2).drop 4)) := by unfold r3; rw [e2]; exact rdB_ok 4 _ (by omega) (by rw [List.length_drop]; omega)
  have e4 : r4 l = (valBits (((l.drop 2).drop 4).take 4), (0, l.drop 10)) := by unfold r4; rw [e3, ← drop24]; exact rdB_ok 4 _ (by omega) (by rw [List.length_drop, List.length_drop]; omega)
  have e5 : r5 l = (natValL (l.drop 10), (0, natRestL (l.drop 10))) := by unfold r5; rw [e4]; exact rdN_ok _ h4'
  have a1 : (r1 l).1 = (dgOf l).k := by rw [e1]; rfl
  have a2 : (r3 l).1 = (dgOf l).f := by rw [e3]; rfl
  have a3 : (r4 l).1 = (dgOf l).t := by rw [e4]; simp [dgOf, List.drop_drop]
  have a4 : (r5 l).1 = (dgOf l).a := by rw [e5]; rfl
  by_cases h5 : valBits (l.take 2) ≠ 1
  · refine ⟨a1, a2, a3, a4, ?_, hk, fun hh => absurd hh h5, fun _ => ⟨?_, ?_⟩⟩
    · unfold rEnd dgRest; rw [e1, if_neg h5, if_neg h5, e5]
    · show (if valBits (l.take 2) = 1 then _ else 0) = 0
      rw [if_neg h5]
    · show (if valBits (l.take 2) = 1 then _ else []) = []
      rw [if_neg h5]
  rw [if_neg h5] at h
  have h5' : valBits (l.take 2) = 1 := Decidable.not_not.1 h5
  by_cases h6 : natErrL (natRestL (l.drop 10)) ≠ 0
  · rw [if_pos h6] at h; exact absurd h h6
  rw [if_neg h6] at h
  have e6 : r6 l = (natValL (natRestL (l.drop 10)), (0, natRestL (natRestL (l.drop 10)))) := by unfold r6; rw [e5]; exact rdN_ok _ (Decidable.not_not.1 h6)
  by_cases h7 : natErrL (natRestL (natRestL (l.drop 10))) ≠ 0
  · rw [if_pos h7] at h; exact absurd h h7
  rw [if_neg h7] at h
  by_cases h8 : 16384 < natValL (natRestL (natRestL (l.drop 10)))
  · rw [if_pos h8] at h; cases h
  rw [if_neg h8] at h
  by_cases h9 : (natRestL (natRestL (natRestL (l.drop 10)))).length < 8 * natValL (natRestL (natRestL (l.drop 10)))
  · rw [if_pos h9] at h; cases h
  have e7 : r7 l = ((List.range (natValL (natRestL (natRestL (l.drop 10))))).map (chunk (natRestL (natRestL (natRestL (l.drop 10))))), (0, (natRestL (natRestL (natRestL (l.drop 10)))).drop (8 * natValL (natRestL (natRestL (l.drop 10)))))) := by
    unfold r7
    rw [e6]
    exact rdBody_ok _ (Decidable.not_not.1 h7) h8 h9
  refine ⟨a1, a2, a3, a4, ?_, hk, fun _ => ⟨?_, ?_⟩, fun hh => ?_⟩
  · unfold rEnd dgRest; rw [e1, if_pos h5', if_pos h5', e7]
  · show _ = if valBits (l.take 2) = 1 then natValL (natRestL (l.drop 10)) else 0
    rw [if_pos h5', e6]
  · show _ = if valBits (l.take 2) = 1 then _ else []
    rw [if_pos h5', e7]
  · have : valBits (l.take 2) = 2 := hh
    omega
end Go.Proofs.Ytebojmjbolphfaa
