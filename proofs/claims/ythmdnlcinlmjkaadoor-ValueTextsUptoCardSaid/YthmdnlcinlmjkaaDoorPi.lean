/- The mathematics of reading back: a numeral, a text. No program in this text. -/
import Derived.Test.YthmdnlcinlmjkaaDoorTm
import Derived.Test.YthmdnlcinlmjkaaDoorVm
import Derived.Lib.ParseIntBCases
import Derived.Lib.ParseIntBTie
namespace Go.Proofs.YthmdnlcinlmjkaaDoor
open Go

theorem byteN (n : Nat) (h : n < 256) : (UInt8.ofNat n).toNat = n := by
  rw [UInt8.toNat_ofNat']; exact Nat.mod_eq_of_lt h
theorem uintM_dec (M : Nat) (hM : M ≤ 18446744073709551615) (u : Nat) : u ≤ M → ∀ rest, Lib.parseUintM M 0 (Lib.decDigits u ++ rest) = Lib.parseUintM M u rest := by
  induction u using Nat.strongRecOn with
  | _ u ih =>
    intro hu rest
    rw [Lib.decDigits]
    by_cases h : u < 10
    · rw [dif_pos h]
      simp only [List.cons_append, List.nil_append, Lib.parseUintM]
      rw [byteN _ (by omega), if_pos (by omega), if_neg (by omega), if_neg (by omega)]
      congr 1; omega
    · rw [dif_neg h, List.append_assoc, ih (u / 10) (by omega) (by omega)]
      simp only [List.cons_append, List.nil_append, Lib.parseUintM]
      rw [byteN _ (by omega), if_pos (by omega), if_neg (by omega), if_neg (by omega)]
      congr 1; omega
theorem dec_head (u : Nat) : ∃ c r, Lib.decDigits u = c :: r ∧ 48 ≤ c.toNat ∧ c.toNat ≤ 57 := by
  induction u using Nat.strongRecOn with
  | _ u ih =>
    rw [Lib.decDigits]
    by_cases h : u < 10
    · rw [dif_pos h]
      exact ⟨_, [], rfl, by rw [byteN _ (by omega)]; omega, by rw [byteN _ (by omega)]; omega⟩
    · rw [dif_neg h]
      obtain ⟨c, r, h1, h2, h3⟩ := ih (u / 10) (by omega)
      exact ⟨c, r ++ _, by rw [h1]; rfl, h2, h3⟩
theorem uintB_dec (u : Nat) (hu : u ≤ 18446744073709551615) : Lib.parseUintB 64 (Lib.decDigits u) = .ok u := by
  obtain ⟨c, r, h1, _, _⟩ := dec_head u
  unfold Lib.parseUintB
  rw [if_neg (by rw [h1]; simp)]
  have h := uintM_dec (2 ^ 64 - 1) (by decide) u (by simpa using hu) []
  rw [List.append_nil] at h
  rw [h]; rfl
theorem intB_itoa (n : Int) (h0 : -9223372036854775808 ≤ n) (h1 : n ≤ 9223372036854775807) : Lib.parseIntB 64 (Lib.itoa n) = .ok n := by
  unfold Lib.itoa
  by_cases hn : n < 0
  · rw [if_pos hn, Lib.parseIntB_minus, uintB_dec _ (by omega)]
    simp only [Lib.signedC, Nat.reducePow, Nat.reduceSub]
    rw [if_neg (by omega)]
    congr 1; omega
  · rw [if_neg hn]
    obtain ⟨c, r, e, a, b⟩ := dec_head n.toNat
    rw [e, Lib.parseIntB_plain _ _ _ (by omega) (by omega), ← e, uintB_dec _ (by omega)]
    simp only [Lib.signlessC, Nat.reducePow, Nat.reduceSub]
    rw [if_neg (by omega)]
    congr 1; omega
theorem itoa_head (n : Int) : ∃ c r, Lib.itoa n = c :: r ∧ c ≠ 34 := by
  unfold Lib.itoa
  by_cases hn : n < 0
  · rw [if_pos hn]; exact ⟨_, _, rfl, by decide⟩
  · rw [if_neg hn]
    obtain ⟨c, r, e, a, b⟩ := dec_head n.toNat
    exact ⟨c, r, e, by intro h; rw [h] at a b; revert a b; decide⟩
end Go.Proofs.YthmdnlcinlmjkaaDoor
