/- Plain facts: what bytes say as a datagram with its sum. No program here. -/
import Derived.Test.YtebojmjbolphfaaRdm
namespace Go.Proofs.Ytebojmjbolphfaa
open Go Crc

def told (b : List Nat) : List Nat := b.take (b.length - 4)
def tail4 (b : List Nat) : List Nat := b.drop (b.length - 4)
theorem told_tail (b : List Nat) : told b ++ tail4 b = b := List.take_append_drop _ _
theorem told_length (b : List Nat) : (told b).length = b.length - 4 := by simp [told]
theorem tail4_length (b : List Nat) (h : 4 ≤ b.length) : (tail4 b).length = 4 := by simp [tail4]; omega
/-- The number that bytes say, the highest one first. -/
def num32 (l : List Nat) : Nat := l.foldl (fun u c => u * 256 + c) 0
theorem num32_snoc (l : List Nat) (c : Nat) : num32 (l ++ [c]) = num32 l * 256 + c := by simp [num32]
theorem num32_lt (l : List Nat) (h : ∀ c ∈ l, c < 256) : num32 l < 256 ^ l.length := by
  refine snocInd (P := fun l => (∀ c ∈ l, c < 256) → num32 l < 256 ^ l.length) (fun _ => by simp [num32]) (fun l c ih h => ?_) l h
  have h1 := ih (fun d hd => h d (by simp [hd]))
  have h2 := h c (by simp)
  rw [num32_snoc, List.length_append, List.length_singleton, Nat.pow_succ]
  have : num32 l * 256 + 256 ≤ 256 ^ l.length * 256 := by
    have := Nat.mul_le_mul_right 256 h1
    omega
  omega
theorem be32_num (l : List Nat) (h : l.length = 4) (hs : ∀ c ∈ l, c < 256) (s : Nat) (hlt : s < 4294967296) : (num32 l = s) ↔ l = be32 s := by
  match l, h with
  | [a, b, c, d], _ =>
    have ha := hs a (by simp); have hb := hs b (by simp); have hc := hs c (by simp); have hd := hs d (by simp)
    simp only [num32, List.foldl_cons, List.foldl_nil, be32, List.cons.injEq, and_true]
    constructor
    · intro h; omega
    · rintro ⟨h1, h2, h3, h4⟩; omega

/-- The numbers of a datagram as they are read; the last of the errors of reading. -/
def dS (l : List Bool) : Int := if (r1 l).1 = 1 then RowKit.wrap64 (((r6 l).1 : Nat) : Int) else 0
def dX (l : List Bool) : List Nat := if (r1 l).1 = 1 then (r7 l).1 else []
def rdE (s : St) : Nat := if s.1 = 0 then endErrL s.2 else s.1
def readErr (l : List Bool) : Nat := rdE (rEnd l)
def okB (l : List Bool) : Bool := ckB (((r3 l).1 : Nat) : Int) (((r4 l).1 : Nat) : Int) (((r1 l).1 : Nat) : Int) (dS l) (RowKit.wrap64 (((r5 l).1 : Nat) : Int)) (dX l).length
def openErr (b : List Nat) : Nat := if b.length < 6 then 10 else if num32 (tail4 b) ≠ sumN (told b) then 20 else readErr (bitsAll (told b))
/-- What is wrong with bytes, first. -/
def decErr (b : List Nat) : Nat := if openErr b ≠ 0 then openErr b else if okB (bitsAll (told b)) then 0 else 21
theorem decErr_open {b : List Nat} (h : openErr b ≠ 0) : decErr b = openErr b := by unfold decErr; rw [if_pos h]
theorem decErr_ok {b : List Nat} (h : decErr b = 0) : openErr b = 0 ∧ okB (bitsAll (told b)) = true := by
  unfold decErr at h
  by_cases h1 : openErr b ≠ 0
  · rw [if_pos h1] at h; exact absurd h h1
  · rw [if_neg h1] at h
    refine ⟨Decidable.not_not.1 h1, ?_⟩
    cases h2 : okB (bitsAll (told b)) with
    | true => rfl
    | false => rw [h2] at h; cases h
theorem openErr_ok {b : List Nat} (h : openErr b = 0) : 6 ≤ b.length ∧ num32 (tail4 b) = sumN (told b) ∧ readErr (bitsAll (told b)) = 0 := by
  unfold openErr at h
  by_cases h1 : b.length < 6
  · rw [if_pos h1] at h; cases h
  rw [if_neg h1] at h
  by_cases h2 : num32 (tail4 b) ≠ sumN (told b)
  · rw [if_pos h2] at h; cases h
  rw [if_neg h2] at h
  exact ⟨by omega, Decidable.not_not.1 h2, h⟩
theorem readErr_ok {l : List Bool} (h : readErr l = 0) : dgErr l = 0 ∧ endErrL (dgRest l) = 0 := by
  unfold readErr rdE at h
  by_cases h1 : (rEnd l).1 = 0
  · rw [if_pos h1] at h
    rw [rEnd_err] at h1
    exact ⟨h1, by rw [← (rEnd_ok l h1).2.2.2.2.1]; exact h⟩
  · rw [if_neg h1] at h; exact absurd h h1
theorem dX_le (l : List Bool) : (dX l).length ≤ 16384 := by
  unfold dX
  split
  · unfold r7 rdBody
    split
    · simp
    · split
      · split
        · simp
        · rw [List.length_map, List.length_range]; omega
      · simp
  · simp
/-- The same without steps. -/
theorem readErr_eq (l : List Bool) : readErr l = if dgErr l ≠ 0 then dgErr l else endErrL (dgRest l) := by
  unfold readErr rdE
  by_cases h1 : (rEnd l).1 = 0
  · have h2 := h1
    rw [rEnd_err] at h2
    rw [if_pos h1, if_neg (by omega), (rEnd_ok l h2).2.2.2.2.1]
  · have h2 := h1
    rw [rEnd_err] at h2
    rw [if_neg h1, if_pos h2, rEnd_err]
theorem dS_ok {l : List Bool} (h : dgErr l = 0) : dS l = RowKit.wrap64 (((dgOf l).s : Nat) : Int) := by
  obtain ⟨a1, _, _, _, _, hk, h1, h2⟩ := rEnd_ok l h
  unfold dS
  rw [a1]
  rcases hk with hk | hk
  · rw [if_pos hk, (h1 hk).1]
  · rw [if_neg (by omega), (h2 hk).1]; unfold RowKit.wrap64; omega
theorem dX_ok {l : List Bool} (h : dgErr l = 0) : dX l = (dgOf l).x := by
  obtain ⟨a1, _, _, _, _, hk, h1, h2⟩ := rEnd_ok l h
  unfold dX
  rw [a1]
  rcases hk with hk | hk
  · rw [if_pos hk, (h1 hk).2]
  · rw [if_neg (by omega), (h2 hk).2]
end Go.Proofs.Ytebojmjbolphfaa
