/- Plain facts on the code of a natural number: so many bits 0, then the number and one more, the highest bit first. No program here. -/
import Derived.Test.YtebojmjbolphfaaMath
import Derived.Lib.BitFns
namespace Go.Proofs.Ytebojmjbolphfaa
open Go

/-- How many bits 0 stand ahead. -/
def ahd (u : Nat) : Nat := (u + 1).log2
theorem ahd_le (u : Nat) (h : u < 2 ^ 64) : ahd u ≤ 64 := by
  unfold ahd
  have : (u + 1).log2 < 65 := (Nat.log2_lt (by omega)).2 (by omega)
  omega
theorem ahd_pow (u : Nat) : 2 ^ ahd u ≤ u + 1 := Nat.log2_self_le (by omega)
theorem ahd_lt (u : Nat) : u + 1 < 2 ^ (ahd u + 1) := Nat.lt_log2_self
theorem ahd_max : ahd 18446744073709551615 = 64 := by decide +kernel
theorem bitLenAux_log2 (f x : Nat) (hx : x ≠ 0) (h : x < 2 ^ f) : Lib.bitLenAux f x = x.log2 + 1 := by
  induction f generalizing x with
  | zero => simp at h; omega
  | succ f ih =>
    rw [Lib.bitLenAux, if_neg hx, Nat.log2_def]
    by_cases h2 : 2 ≤ x
    · rw [ih (x / 2) (by omega) (by rw [Nat.pow_succ] at h; omega), if_pos h2]; omega
    · rw [if_neg h2]
      have : x / 2 = 0 := by omega
      rw [this]
      cases f <;> simp [Lib.bitLenAux]
theorem bitLen_log2 (x : Nat) (hx : x ≠ 0) (h : x < 2 ^ 64) : Lib.bitLen x = x.log2 + 1 := bitLenAux_log2 64 x hx h

/-- The code of a natural number. -/
def natBits (u : Nat) : List Bool := List.replicate (ahd u) false ++ bitsOf (u + 1) (ahd u + 1)
theorem natBits_length (u : Nat) : (natBits u).length = 2 * ahd u + 1 := by simp [natBits, bitsOf_length]; omega
theorem bitsOf_zero_num (k : Nat) : bitsOf 0 k = List.replicate k false := by
  apply List.ext_getElem
  · simp [bitsOf]
  · intro i h1 h2; simp [bitsOf]
theorem bitsOf_mod (x k : Nat) (hk : k ≤ 64) : bitsOf (x % 2 ^ 64) k = bitsOf x k := by
  apply List.ext_getElem
  · simp [bitsOf]
  · intro i h1 h2
    simp [bitsOf] at h1
    rw [bitsOf_getElem, bitsOf_getElem, Nat.testBit_mod_two_pow]
    simp; omega
theorem testBit_top (x k : Nat) (h1 : 2 ^ k ≤ x) (h2 : x < 2 ^ (k + 1)) : x.testBit k = true := by
  rw [Nat.testBit_eq_decide_div_mod_eq]
  have : x / 2 ^ k = 1 := by
    rw [Nat.div_eq_iff (Nat.two_pow_pos k)]
    rw [Nat.pow_succ] at h2
    omega
  simp [this]
theorem natBits_parts (u : Nat) (h : u < 2 ^ 64) : natBits u = bitsOf 0 (ahd u) ++ (bitsOf 1 1 ++ bitsOf ((u + 1) % 2 ^ 64) (ahd u)) := by
  rw [natBits, bitsOf_zero_num, bitsOf_mod _ _ (ahd_le u h), bitsOf_succ, testBit_top _ _ (ahd_pow u) (ahd_lt u)]
  rfl

/-- The natural number that stands for a number. -/
def zigN (n : Int) : Nat := if 0 ≤ n then (2 * n).toNat else (2 * (-(n + 1)) + 1).toNat

/-- The code of a text. -/
def textBits (l : List UInt8) : List Bool := natBits l.length ++ l.flatMap fun c => bitsOf c.toNat 8
end Go.Proofs.Ytebojmjbolphfaa
