/- Plain facts: what bits that are left say, as functions of the list of these bits. No program here. -/
import Derived.Test.YtiljekpfkkocnaaSnat
namespace Go.Proofs.Ytiljekpfkkocnaa
open Go

def zerosL (l : List Bool) : Nat := ((l.take 65).takeWhile (fun b => !b)).length
def natErrL (l : List Bool) : Nat :=
  if 64 < zerosL l then 11
  else if l.length < 2 * zerosL l + 1 then 10
  else if zerosL l = 64 ∧ valBits ((l.drop (zerosL l + 1)).take (zerosL l)) ≠ 0 then 11
  else 0
def natValL (l : List Bool) : Nat := if natErrL l = 0 then 2 ^ zerosL l + valBits ((l.drop (zerosL l + 1)).take (zerosL l)) - 1 else 0
def natRestL (l : List Bool) : List Bool := if natErrL l = 0 then l.drop (2 * zerosL l + 1) else l

/-- The bits that are left behind bit p. -/
def leftL (bytes : List Nat) (p : Nat) : List Bool := (bitsAll bytes).drop p
theorem leftL_length (bytes : List Nat) (p : Nat) : (leftL bytes p).length = 8 * bytes.length - p := by simp [leftL, bitsAll_length]
theorem valAt_left (bytes : List Nat) (p a n : Nat) : valAt bytes (p + a) n = valBits (((leftL bytes p).drop a).take n) := by
  simp [valAt, leftL, List.drop_drop]
theorem zerosAt_left (bytes : List Nat) (p : Nat) : zerosAt bytes p = zerosL (leftL bytes p) := rfl
theorem natErr_left (bytes : List Nat) (p : Nat) : natErr bytes p = natErrL (leftL bytes p) := by
  unfold natErr natErrL
  rw [zerosAt_left, leftL_length, Nat.add_assoc, valAt_left]
theorem natVal_left (bytes : List Nat) (p : Nat) : natVal bytes p = natValL (leftL bytes p) := by
  unfold natVal natValL
  rw [natErr_left, zerosAt_left, Nat.add_assoc, valAt_left]
theorem natRest_left (bytes : List Nat) (p : Nat) : leftL bytes (natNext bytes p) = natRestL (leftL bytes p) := by
  unfold natNext natRestL
  rw [natErr_left, zerosAt_left]
  split
  · simp [leftL, List.drop_drop, Nat.add_assoc]
  · rfl
theorem natVal_lt (bytes : List Nat) (p : Nat) : natVal bytes p < 2 ^ 64 := by
  unfold natVal
  by_cases h : natErr bytes p = 0
  · rw [if_pos h]
    unfold natErr at h
    have hv := valAt_lt bytes (p + zerosAt bytes p + 1) (zerosAt bytes p)
    by_cases h1 : 64 < zerosAt bytes p
    · rw [if_pos h1] at h; cases h
    rw [if_neg h1] at h
    by_cases h2 : 8 * bytes.length - p < 2 * zerosAt bytes p + 1
    · rw [if_pos h2] at h; cases h
    rw [if_neg h2] at h
    by_cases h3 : zerosAt bytes p = 64 ∧ valAt bytes (p + zerosAt bytes p + 1) (zerosAt bytes p) ≠ 0
    · rw [if_pos h3] at h; cases h
    by_cases h4 : zerosAt bytes p = 64
    · have h5 : valAt bytes (p + zerosAt bytes p + 1) (zerosAt bytes p) = 0 := by
        by_cases h6 : valAt bytes (p + zerosAt bytes p + 1) (zerosAt bytes p) = 0
        · exact h6
        · exact absurd ⟨h4, h6⟩ h3
      rw [h5, h4]; decide
    · have h7 : 2 ^ zerosAt bytes p ≤ 2 ^ 63 := Nat.pow_le_pow_right (by omega) (by omega)
      omega
  · rw [if_neg h]; decide

/-- What a text says: how many bytes, then these; what is wrong; what is left. -/
def chunk (l : List Bool) (i : Nat) : Nat := valBits ((l.drop (8 * i)).take 8)
theorem chunk_lt (l : List Bool) (i : Nat) : chunk l i < 256 := by
  unfold chunk
  have h := valBits_lt ((l.drop (8 * i)).take 8)
  have hl : ((l.drop (8 * i)).take 8).length ≤ 8 := by simp; omega
  have := Nat.pow_le_pow_right (n := 2) (by omega) hl
  omega
def textErrL (l : List Bool) : Nat := if natErrL l ≠ 0 then natErrL l else if (natRestL l).length / 8 < natValL l then 10 else 0
def textBytesL (l : List Bool) : List Nat := if textErrL l = 0 then (List.range (natValL l)).map (chunk (natRestL l)) else []
def textRestL (l : List Bool) : List Bool := if textErrL l = 0 then (natRestL l).drop (8 * natValL l) else l

def endErrL (l : List Bool) : Nat := if 8 ≤ l.length then 12 else if l.any id then 12 else 0
theorem valBits_zero (l : List Bool) : valBits l = 0 ↔ l.any id = false := by
  refine snocInd (P := fun l => valBits l = 0 ↔ l.any id = false) (by simp [valBits]) (fun l b ih => ?_) l
  rw [valBits_snoc, List.any_append, Bool.or_eq_false_iff, ← ih]
  cases b <;> simp <;> omega
theorem endErr_left (bytes : List Nat) (p : Nat) (_hp : p ≤ 8 * bytes.length) : (if 8 ≤ 8 * bytes.length - p then 12 else if valAt bytes p (8 * bytes.length - p) ≠ 0 then 12 else 0) = endErrL (leftL bytes p) := by
  unfold endErrL
  rw [leftL_length]
  have h : valAt bytes p (8 * bytes.length - p) = valBits (leftL bytes p) := by
    have := valAt_left bytes p 0 (8 * bytes.length - p)
    rw [Nat.add_zero, List.drop_zero, List.take_of_length_le (by rw [leftL_length]; omega)] at this
    exact this
  rw [h]
  by_cases h8 : 8 ≤ 8 * bytes.length - p
  · rw [if_pos h8, if_pos h8]
  · rw [if_neg h8, if_neg h8]
    cases hv : (leftL bytes p).any id with
    | true =>
      have h2 : valBits (leftL bytes p) ≠ 0 := by
        intro h3
        rw [valBits_zero] at h3
        rw [h3] at hv
        cases hv
      rw [if_pos h2, if_pos rfl]
    | false =>
      have h2 := (valBits_zero _).2 hv
      rw [if_neg (by omega), if_neg (by simp)]

/-- The bits of bytes, byte by byte. -/
theorem bitsAll_snoc (bytes : List Nat) (c : Nat) : bitsAll (bytes ++ [c]) = bitsAll bytes ++ bitsOf c 8 := by
  apply List.ext_getElem
  · simp [bitsAll_length, bitsOf_length]; omega
  · intro i h1 h2
    rw [bitsAll_getElem]
    rw [bitsAll_length] at h1
    simp at h1
    by_cases hi : i < 8 * bytes.length
    · rw [List.getElem_append_left (by rw [bitsAll_length]; exact hi), bitsAll_getElem]
      unfold bitAt
      have : i / 8 < bytes.length := by omega
      simp [List.getD, List.getElem?_append_left this, this]
    · rw [List.getElem_append_right (by rw [bitsAll_length]; omega), bitsOf_getElem]
      unfold bitAt
      have : i / 8 = bytes.length := by omega
      rw [bitsAll_length, this]
      simp only [List.getD, List.getElem?_append_right (Nat.le_refl _), Nat.sub_self, List.getElem?_cons_zero, Option.getD_some]
      congr 1
      omega
end Go.Proofs.Ytiljekpfkkocnaa
