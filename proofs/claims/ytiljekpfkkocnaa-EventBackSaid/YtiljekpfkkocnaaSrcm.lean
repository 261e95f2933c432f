/- Plain facts on the bits of bytes. No program here. -/
import Derived.Test.YtiljekpfkkocnaaNatm
namespace Go.Proofs.Ytiljekpfkkocnaa
open Go

/-- Bit p of bytes, the highest bit of each byte first. -/
def bitAt (bytes : List Nat) (p : Nat) : Bool := (bytes.getD (p / 8) 0).testBit (7 - p % 8)
def bitsAll (bytes : List Nat) : List Bool := (List.range (8 * bytes.length)).map (bitAt bytes)
theorem bitsAll_length (bytes : List Nat) : (bitsAll bytes).length = 8 * bytes.length := by simp [bitsAll]
theorem bitsAll_getElem (bytes : List Nat) (p : Nat) (h : p < (bitsAll bytes).length) : (bitsAll bytes)[p] = bitAt bytes p := by simp [bitsAll]

/-- The number of the n bits from a on. -/
def valAt (bytes : List Nat) (a n : Nat) : Nat := valBits (((bitsAll bytes).drop a).take n)
theorem valAt_zero (bytes : List Nat) (a : Nat) : valAt bytes a 0 = 0 := by simp [valAt, valBits]
theorem valAt_succ (bytes : List Nat) (a k : Nat) (h : a + k < 8 * bytes.length) : valAt bytes a (k + 1) = 2 * valAt bytes a k + (bitAt bytes (a + k)).toNat := by
  unfold valAt
  rw [List.take_succ_eq_append_getElem (by rw [List.length_drop, bitsAll_length]; omega), List.getElem_drop, bitsAll_getElem, valBits_snoc]
theorem valAt_lt (bytes : List Nat) (a n : Nat) : valAt bytes a n < 2 ^ n := by
  unfold valAt
  have h := valBits_lt (((bitsAll bytes).drop a).take n)
  have hl : (((bitsAll bytes).drop a).take n).length ≤ n := by simp; omega
  have := Nat.pow_le_pow_right (n := 2) (by omega) hl
  omega

theorem and_bit8 (c k : Nat) (hc : c < 256) (hk : k < 8) : bits BinOp.and IntKind.u8 ((c : Int) / 2 ^ k) 1 = ((c.testBit k).toNat : Int) := by
  have h : ∀ c : Fin 256, ∀ k : Fin 8, bits BinOp.and IntKind.u8 (((c.val : Nat) : Int) / 2 ^ k.val) 1 = ((c.val.testBit k.val).toNat : Int) := by decide +kernel
  exact h ⟨c, hc⟩ ⟨k, hk⟩
theorem or_bit64 (v : Nat) (b : Bool) (hv : v < 2 ^ 63) : bits BinOp.or IntKind.u64 ((v : Int) * 2) (b.toNat : Int) = ((2 * v + b.toNat : Nat) : Int) := by
  have hb : b.toNat < 2 ^ 1 := by cases b <;> simp
  have hb2 : b.toNat ≤ 1 := by omega
  have h := bits_or_u64_nat (v * 2) b.toNat (by omega) (by omega)
  have e := Nat.shiftLeft_add_eq_or_of_lt hb v
  rw [Nat.shiftLeft_eq, Nat.pow_one] at e
  rw [← e] at h
  rw [show ((v : Int) * 2) = ((v * 2 : Nat) : Int) by push_cast; rfl, h]
  congr 1
  omega

/-- How many bits 0 come next from bit p on, 65 at most, of those that are there. -/
def zerosAt (bytes : List Nat) (p : Nat) : Nat := ((((bitsAll bytes).drop p).take 65).takeWhile (fun b => !b)).length
theorem tw_len (l : List Bool) (k : Nat) (hk : k ≤ l.length) (h : ∀ i (hi : i < k), l[i]'(by omega) = false) (h2 : ∀ (hl : k < l.length), l[k] = true) : (l.takeWhile (fun b => !b)).length = k := by
  induction l generalizing k with
  | nil => simp at hk ⊢; omega
  | cons a l ih =>
    cases k with
    | zero =>
      have := h2 (by simp)
      simp at this
      simp [this]
    | succ k =>
      have h0 := h 0 (by omega)
      simp at h0
      simp only [h0, List.takeWhile_cons, Bool.not_false, if_true, List.length_cons]
      rw [ih k (by simpa using hk) (fun i hi => by have := h (i + 1) (by omega); simpa using this) (fun hl => by have := h2 (by simpa using hl); simpa using this)]
theorem zerosAt_eq (bytes : List Nat) (p k : Nat) (hp : p ≤ 8 * bytes.length) (hk : k ≤ min (8 * bytes.length - p) 65) (h : ∀ i, i < k → bitAt bytes (p + i) = false) (h2 : k < min (8 * bytes.length - p) 65 → bitAt bytes (p + k) = true) : zerosAt bytes p = k := by
  unfold zerosAt
  have hl : (((bitsAll bytes).drop p).take 65).length = min (8 * bytes.length - p) 65 := by simp [bitsAll_length]; omega
  refine tw_len _ k (by rw [hl]; exact hk) (fun i hi => ?_) (fun hlt => ?_)
  · rw [List.getElem_take, List.getElem_drop, bitsAll_getElem]; exact h i hi
  · rw [List.getElem_take, List.getElem_drop, bitsAll_getElem]; exact h2 (by rw [← hl]; exact hlt)
theorem valAt_one (bytes : List Nat) (a : Nat) (h : a < 8 * bytes.length) : valAt bytes a 1 = (bitAt bytes a).toNat := by
  rw [valAt_succ bytes a 0 (by omega), valAt_zero]; simp
end Go.Proofs.Ytiljekpfkkocnaa
