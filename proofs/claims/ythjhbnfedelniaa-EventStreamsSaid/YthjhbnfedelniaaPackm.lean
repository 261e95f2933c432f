/- Plain facts: bits, eight a byte, built bit by bit. No program here. -/
import Derived.Test.YthjhbnfedelniaaBase
namespace Go.Proofs.Ythjhbnfedelniaa
open Go

/-- Byte j of bits, filled up with bits 0. -/
def packByte (l : List Bool) (j : Nat) : Nat := valBits ((l.drop (8 * j)).take 8) * 2 ^ (8 - ((l.drop (8 * j)).take 8).length)
/-- n bytes of bits. -/
def packN (l : List Bool) (n : Nat) : List Nat := (List.range n).map (packByte l)
theorem packN_length (l : List Bool) (n : Nat) : (packN l n).length = n := by simp [packN]
theorem packByte_empty (l : List Bool) (j : Nat) (h : l.length ≤ 8 * j) : packByte l j = 0 := by
  unfold packByte
  rw [List.drop_of_length_le h]; simp [valBits]
theorem packByte_lt (l : List Bool) (j : Nat) : packByte l j < 256 := by
  unfold packByte
  have h := valBits_lt ((l.drop (8 * j)).take 8)
  have hl : ((l.drop (8 * j)).take 8).length ≤ 8 := by simp; omega
  have := Nat.mul_lt_mul_of_pos_right h (Nat.two_pow_pos (8 - ((l.drop (8 * j)).take 8).length))
  rw [← Nat.pow_add, show ((l.drop (8 * j)).take 8).length + (8 - ((l.drop (8 * j)).take 8).length) = 8 by omega] at this
  omega
theorem packByte_other (l : List Bool) (b : Bool) (j : Nat) (h : j ≠ l.length / 8) : packByte (l ++ [b]) j = packByte l j := by
  unfold packByte
  rcases Nat.lt_or_ge j (l.length / 8) with hlt | hge
  · rw [List.drop_append_of_le_length (by omega), List.take_append_of_le_length (by simp; omega)]
  · have h1 : l.length < 8 * j := by omega
    rw [List.drop_of_length_le (l := l) (by omega), List.drop_of_length_le (l := l ++ [b]) (by simp; omega)]
theorem packByte_this (l : List Bool) (b : Bool) : packByte (l ++ [b]) (l.length / 8) = packByte l (l.length / 8) + b.toNat * 2 ^ (7 - l.length % 8) := by
  unfold packByte
  have hd : (l.drop (8 * (l.length / 8))).length = l.length % 8 := by rw [List.length_drop]; omega
  have hlt : l.length % 8 < 8 := Nat.mod_lt _ (by decide)
  rw [List.drop_append_of_le_length (by omega), List.take_of_length_le (by simp; omega), List.take_of_length_le (by omega), List.length_append, hd, valBits_snoc]
  simp only [List.length_cons, List.length_nil]
  rw [show 8 - l.length % 8 = (7 - l.length % 8) + 1 by omega, show 8 - (l.length % 8 + (0 + 1)) = 7 - l.length % 8 by omega, Nat.pow_succ]
  rw [Nat.add_mul]
  congr 1
  rw [Nat.mul_comm 2, Nat.mul_assoc, Nat.mul_comm 2]
theorem packed_packN (l : List Bool) : packed l = packN l ((l.length + 7) / 8) := by
  unfold packed packN
  have hfull : fullOf l = (List.range (l.length / 8)).map (packByte l) := by
    unfold fullOf
    apply List.map_congr_left
    intro j hj
    simp at hj
    unfold packByte
    have : ((l.drop (8 * j)).take 8).length = 8 := by simp; omega
    rw [this]; simp
  rw [hfull]
  by_cases h : l.length % 8 = 0
  · rw [if_pos h, List.append_nil, show (l.length + 7) / 8 = l.length / 8 by omega]
  · rw [if_neg h, show (l.length + 7) / 8 = l.length / 8 + 1 by omega, List.range_succ, List.map_append]
    congr 1
    simp only [List.map_cons, List.map_nil, List.cons.injEq, and_true]
    unfold packByte restOf
    have hd : (l.drop (8 * (l.length / 8))).length = l.length % 8 := by rw [List.length_drop]; omega
    rw [List.take_of_length_le (by omega), hd]
theorem packN_set (l : List Bool) (b : Bool) (n : Nat) (_h : l.length < 8 * n) : (byteVs (packN l n)).set (l.length / 8) (.int .u8 ((packByte l (l.length / 8) + b.toNat * 2 ^ (7 - l.length % 8) : Nat) : Int)) = byteVs (packN (l ++ [b]) n) := by
  apply List.ext_getElem
  · simp [byteVs, packN]
  · intro i h1 h2
    simp [byteVs, packN] at h1 h2 ⊢
    rw [List.getElem_set]
    by_cases hik : l.length / 8 = i
    · subst hik
      rw [if_pos rfl, packByte_this]
      push_cast; rfl
    · rw [if_neg hik, packByte_other l b i (by omega)]
      simp
theorem packN_zero (n : Nat) : packN [] n = List.replicate n 0 := by
  unfold packN
  apply List.ext_getElem
  · simp
  · intro i h1 h2
    simp [packByte_empty]
end Go.Proofs.Ythjhbnfedelniaa
