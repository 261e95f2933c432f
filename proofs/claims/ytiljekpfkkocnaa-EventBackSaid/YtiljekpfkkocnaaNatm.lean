/- Plain facts on the code of a natural number: so many bits 0, then the number and one more, the highest bit first. No program here. -/
import Derived.Test.YtiljekpfkkocnaaMath
import Derived.Lib.BitFns
namespace Go.Proofs.Ytiljekpfkkocnaa
open Go

/-- How many bits 0 stand ahead. -/
def ahd (u : Nat) : Nat := (u + 1).log2
theorem ahd_le (u : Nat) (h : u < 2 ^ 64) : ahd u ≤ 64 := by
  unfold ahd
  have : (u + 1).log2 < 65 := (Nat.log2_lt (by omega)).2 (by omega)
  omega
theorem ahd_pow (u : Nat) : 2 ^ ahd u ≤ u + 1 := Nat.log2_self_le (by omega)
theorem ahd_lt (u : Nat) : u + 1 < 2 ^ (ahd u + 1) := Nat.lt_log2_self
theorem ahd_max : ahd 18446744073709551615 = 64 := by decide +kernel
theorem bitLenAux_log2 (f x : Nat) (hx : x ≠ 0) (h : x < 2 ^ f) : Lib.bitLenAux f x = x.log2 + 1 := by
  induction f generalizing x with
  | zero => simp at h; omega
  | succ f ih =>
    rw [Lib.bitLenAux, if_neg hx, Nat.log2_def]
    by_cases h2 : 2 ≤ x
    · rw [ih (x / 2) (by omega) (by rw [Nat.pow_succ] at h; omega), if_pos h2]; omega
    · rw [if_neg h2]
      have : x / 2 = 0 := by omega
      rw [this]
      cases f <;> simp [Lib.bitLenAux]
theorem bitLen_log2 (x : Nat) (hx : x ≠ 0) (h : x < 2 ^ 64) : Lib.bitLen x = x.log2 + 1 := bitLenAux_log2 64 x hx h

/-- The code of a natural number. -/
def natBits (u : Nat) : List Bool := List.replicate (ahd u) false ++ bitsOf (u + 1) (ahd u + 1)
theorem natBits_length (u : Nat) : (natBits u).length = 2 * ahd u + 1 := by simp [natBits, bitsOf_length]; omega
theorem bitsOf_zero_num (k : Nat) : bitsOf 0 k = List.replicate k false := by
  apply List.ext_getElem
  · simp [bitsOf]
  · intro i h1 h2; simp [bitsOf]
theorem bitsOf_mod (x k : Nat) (hk : k ≤ 64) : bitsOf (x % 2 ^ 64) k = bitsOf x k := by
  apply List.ext_getElem
  · simp [bitsOf]
  · intro i h1 h2
    simp [bitsOf] at h1
    rw [bitsOf_getElem, bitsOf_getElem, Nat.testBit_mod_two_pow]
    simp; omega
theorem testBit_top (x k : Nat) (h1 : 2 ^ k ≤ x) (h2 : x < 2 ^ (k + 1)) : x.testBit k = true := by
  rw [Nat.testBit_eq_decide_div_mod_eq]
  have : x / 2 ^ k = 1 := by
    rw [Nat.div_eq_iff (Nat.two_pow_pos k)]
    rw [Nat.pow_succ] at h2
    omega
  simp [this]
theorem natBits_parts (u : Nat) (h : u < 2 ^ 64) : natBits u = bitsOf 0 (ahd u) ++ (bitsOf 1 1 ++ bitsOf ((u + 1) % 2 ^ 64) (ahd u)) := by
  rw [natBits, bitsOf_zero_num, bitsOf_mod _ _ (ahd_le u h), bitsOf_succ, testBit_top _ _ (ahd_pow u) (ahd_lt u)]
  rfl

/-- The natural number that stands for a number. -/
def zigN (n : Int) : Nat := if 0 ≤ n then (2 * n).toNat else (2 * (-(n + 1)) + 1).toNat

/-- The code of a text. -/
def textBits (l : List UInt8) : List Bool := natBits l.length ++ l.flatMap fun c => bitsOf c.toNat 8
end Go.Proofs.Ytiljekpfkkocnaa
namespace Go.Proofs.Ytiljekpfkkocnaa
open Go

theorem ahd_mono (a b : Nat) (h : a ≤ b) : ahd a ≤ ahd b := by
  rcases Nat.lt_or_ge (ahd b) (ahd a) with hlt | hge
  · have h1 := ahd_pow a
    have h2 := ahd_lt b
    have h3 : 2 ^ (ahd b + 1) ≤ 2 ^ ahd a := Nat.pow_le_pow_right (by omega) hlt
    omega
  · exact hge
theorem natBits_low (u i : Nat) (h : i < ahd u) : (natBits u)[i]? = some false := by
  rw [natBits, List.getElem?_append_left (by simpa using h)]
  simp [h]
theorem natBits_high (u j : Nat) (h : j ≤ ahd u) : (natBits u)[ahd u + j]? = some ((u + 1).testBit (ahd u - j)) := by
  rw [natBits, List.getElem?_append_right (by simp)]
  simp only [List.length_replicate, Nat.add_sub_cancel_left]
  rw [List.getElem?_eq_getElem (by rw [bitsOf_length]; omega), bitsOf_getElem]
  congr 2
theorem apart_lt (a b : Nat) (h : ahd a < ahd b) : (natBits a)[ahd a]? ≠ (natBits b)[ahd a]? := by
  rw [natBits_low b _ h]
  have := natBits_high a 0 (Nat.zero_le _)
  rw [Nat.add_zero] at this
  rw [this, Nat.sub_zero, testBit_top _ _ (ahd_pow a) (ahd_lt a)]
  simp
theorem take_ne_of {l m : List Bool} {i k : Nat} (hi : i < k) (h : l[i]? ≠ m[i]?) : l.take k ≠ m.take k := by
  intro e
  apply h
  have h1 := congrArg (fun x => x[i]?) e
  simpa [List.getElem?_take, hi] using h1
theorem apart_any (a b k : Nat) (h : a ≠ b) (hk : k = min (2 * ahd a + 1) (2 * ahd b + 1)) : (natBits a).take k ≠ (natBits b).take k := by
  rcases Nat.lt_trichotomy (ahd a) (ahd b) with hlt | heq | hgt
  · exact take_ne_of (i := ahd a) (by omega) (apart_lt a b hlt)
  · intro e
    apply h
    have hsucc : a + 1 = b + 1 := by
      apply Nat.eq_of_testBit_eq
      intro j
      by_cases hj : j ≤ ahd a
      · have h1 := natBits_high a (ahd a - j) (by omega)
        have h2 := natBits_high b (ahd a - j) (by omega)
        have h3 := congrArg (fun x => x[ahd a + (ahd a - j)]?) e
        simp only [List.getElem?_take] at h3
        rw [if_pos (by omega), if_pos (by omega), h1, heq] at h3
        rw [heq] at h2
        rw [h2] at h3
        simp only [Option.some.injEq] at h3
        rw [heq] at hj
        rwa [show ahd b - (ahd b - j) = j by omega] at h3
      · have p1 := ahd_lt a
        have p2 := ahd_lt b
        have p3 : 2 ^ (ahd a + 1) ≤ 2 ^ j := Nat.pow_le_pow_right (by omega) (by omega)
        have p4 : 2 ^ (ahd b + 1) ≤ 2 ^ j := Nat.pow_le_pow_right (by omega) (by omega)
        rw [Nat.testBit_lt_two_pow (by omega), Nat.testBit_lt_two_pow (by omega)]
    omega
  · have := take_ne_of (k := k) (i := ahd b) (by omega) (apart_lt b a hgt)
    exact fun e => this e.symm
end Go.Proofs.Ytiljekpfkkocnaa
