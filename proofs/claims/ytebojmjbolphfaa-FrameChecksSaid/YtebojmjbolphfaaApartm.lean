/- P1.4 on lists: no code of a natural number begins another one; greater numbers have no fewer bits. No program here. -/
import Derived.Test.YtebojmjbolphfaaNatm
namespace Go.Proofs.Ytebojmjbolphfaa
open Go

theorem ahd_mono (a b : Nat) (h : a ≤ b) : ahd a ≤ ahd b := by
  rcases Nat.lt_or_ge (ahd b) (ahd a) with hlt | hge
  · have h1 := ahd_pow a
    have h2 := ahd_lt b
    have h3 : 2 ^ (ahd b + 1) ≤ 2 ^ ahd a := Nat.pow_le_pow_right (by omega) hlt
    omega
  · exact hge
theorem natBits_low (u i : Nat) (h : i < ahd u) : (natBits u)[i]? = some false := by
  rw [natBits, List.getElem?_append_left (by simpa using h)]
  simp [h]
theorem natBits_high (u j : Nat) (h : j ≤ ahd u) : (natBits u)[ahd u + j]? = some ((u + 1).testBit (ahd u - j)) := by
  rw [natBits, List.getElem?_append_right (by simp)]
  simp only [List.length_replicate, Nat.add_sub_cancel_left]
  rw [List.getElem?_eq_getElem (by rw [bitsOf_length]; omega), bitsOf_getElem]
  congr 2
theorem apart_lt (a b : Nat) (h : ahd a < ahd b) : (natBits a)[ahd a]? ≠ (natBits b)[ahd a]? := by
  rw [natBits_low b _ h]
  have := natBits_high a 0 (Nat.zero_le _)
  rw [Nat.add_zero] at this
  rw [this, Nat.sub_zero, testBit_top _ _ (ahd_pow a) (ahd_lt a)]
  simp
theorem take_ne_of {l m : List Bool} {i k : Nat} (hi : i < k) (h : l[i]? ≠ m[i]?) : l.take k ≠ m.take k := by
  intro e
  apply h
  have h1 := congrArg (fun x => x[i]?) e
  simpa [List.getElem?_take, hi] using h1
theorem apart_any (a b k : Nat) (h : a ≠ b) (hk : k = min (2 * ahd a + 1) (2 * ahd b + 1)) : (natBits a).take k ≠ (natBits b).take k := by
  rcases Nat.lt_trichotomy (ahd a) (ahd b) with hlt | heq | hgt
  · exact take_ne_of (i := ahd a) (by omega) (apart_lt a b hlt)
  · intro e
    apply h
    have hsucc : a + 1 = b + 1 := by
      apply Nat.eq_of_testBit_eq
      intro j
      by_cases hj : j ≤ ahd a
      · have h1 := natBits_high a (ahd a - j) (by omega)
        have h2 := natBits_high b (ahd a - j) (by omega)
        have h3 := congrArg (fun x => x[ahd a + (ahd a - j)]?) e
        simp only [List.getElem?_take] at h3
        rw [if_pos (by omega), if_pos (by omega), h1, heq] at h3
        rw [heq] at h2
        rw [h2] at h3
        simp only [Option.some.injEq] at h3
        rw [heq] at hj
        rwa [show ahd b - (ahd b - j) = j by omega] at h3
      · have p1 := ahd_lt a
        have p2 := ahd_lt b
        have p3 : 2 ^ (ahd a + 1) ≤ 2 ^ j := Nat.pow_le_pow_right (by omega) (by omega)
        have p4 : 2 ^ (ahd b + 1) ≤ 2 ^ j := Nat.pow_le_pow_right (by omega) (by omega)
        rw [Nat.testBit_lt_two_pow (by omega), Nat.testBit_lt_two_pow (by omega)]
    omega
  · have := take_ne_of (k := k) (i := ahd b) (by omega) (apart_lt b a hgt)
    exact fun e => this e.symm
end Go.Proofs.Ytebojmjbolphfaa
