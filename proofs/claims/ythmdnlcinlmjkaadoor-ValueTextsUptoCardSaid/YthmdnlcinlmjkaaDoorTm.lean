/- The mathematics of a value's text: how a string's bytes are written. No program in this text. -/
import Derived.Lib.Bytealg
import Derived.Lib.Strings
import Derived.Lib.UnsafeStr
import Derived.Lib.ItoaNum
namespace Go.Proofs.YthmdnlcinlmjkaaDoor
open Go

/-- The digit of a half of a byte. -/
def hxD (n : Nat) : UInt8 := if n < 10 then UInt8.ofNat (48 + n) else UInt8.ofNat (87 + n)
/-- How a byte is written between quotes. -/
def escL (c : UInt8) : List UInt8 :=
  if c = 34 ∨ c = 92 then [92, c] else if c < 32 ∨ 126 < c then [92, 120, hxD (c.toNat / 16), hxD (c.toNat % 16)] else [c]
def accL (l : List UInt8) : List UInt8 := 34 :: l.flatMap escL
def quoL (l : List UInt8) : List UInt8 := accL l ++ [34]
def textL (k n : Int) (s : List UInt8) : List UInt8 := if k = 1 then Lib.itoa n else if k = 2 then quoL s else [63]

theorem escL_len (c : UInt8) : 1 ≤ (escL c).length ∧ (escL c).length ≤ 4 := by
  unfold escL; split
  · simp
  · split <;> simp
theorem flat_len : ∀ l : List UInt8, l.length ≤ (l.flatMap escL).length ∧ (l.flatMap escL).length ≤ 4 * l.length
  | [] => by simp
  | c :: l => by
    have h1 := flat_len l
    have h2 := escL_len c
    simp only [List.flatMap_cons, List.length_append, List.length_cons]; omega
theorem accL_len (l : List UInt8) : 1 ≤ (accL l).length ∧ (accL l).length ≤ 4 * l.length + 1 := by
  have := flat_len l
  unfold accL; simp only [List.length_cons]; omega
theorem accL_snoc (l : List UInt8) (c : UInt8) : accL (l ++ [c]) = accL l ++ escL c := by simp [accL]
theorem quoL_len (l : List UInt8) : (quoL l).length ≤ 4 * l.length + 2 := by
  have := accL_len l
  unfold quoL; simp only [List.length_append, List.length_cons, List.length_nil]; omega
theorem escL_two {c : UInt8} (h : c = 34 ∨ c = 92) : escL c = [92, c] := by unfold escL; rw [if_pos h]
theorem escL_four {c : UInt8} (h : ¬ (c = 34 ∨ c = 92)) (h2 : c < 32 ∨ 126 < c) : escL c = [92, 120, hxD (c.toNat / 16), hxD (c.toNat % 16)] := by unfold escL; rw [if_neg h, if_pos h2]
theorem escL_one {c : UInt8} (h : ¬ (c = 34 ∨ c = 92)) (h2 : ¬ (c < 32 ∨ 126 < c)) : escL c = [c] := by unfold escL; rw [if_neg h, if_neg h2]
theorem take_snoc (s : ByteArray) (k : Nat) (h : k < s.size) : s.data.toList.take (k + 1) = s.data.toList.take k ++ [s[k]] := by
  rw [List.take_succ_eq_append_getElem (by simpa using h)]; rfl
theorem byteCells_append (a b : List UInt8) : Lib.byteCells (a ++ b) = Lib.byteCells a ++ Lib.byteCells b := by simp [Lib.byteCells]
/-- The five ways of a byte. -/
theorem byte_ways (c : UInt8) :
    (c.toNat = 34 ∧ escL c = [92, 34]) ∨ (c.toNat = 92 ∧ escL c = [92, 92]) ∨
    (((c.toNat : Int) == 34) = false ∧ ((c.toNat : Int) == 92) = false ∧ (c.toNat : Int) < 32 ∧ escL c = [92, 120, hxD (c.toNat / 16), hxD (c.toNat % 16)]) ∨
    (((c.toNat : Int) == 34) = false ∧ ((c.toNat : Int) == 92) = false ∧ ¬ (c.toNat : Int) < 32 ∧ 126 < (c.toNat : Int) ∧ escL c = [92, 120, hxD (c.toNat / 16), hxD (c.toNat % 16)]) ∨
    (((c.toNat : Int) == 34) = false ∧ ((c.toNat : Int) == 92) = false ∧ ¬ (c.toNat : Int) < 32 ∧ ¬ 126 < (c.toNat : Int) ∧ escL c = [c]) := by
  have e34 : c = 34 ↔ c.toNat = 34 := ⟨fun h => by rw [h]; rfl, fun h => UInt8.toNat_inj.1 h⟩
  have e92 : c = 92 ↔ c.toNat = 92 := ⟨fun h => by rw [h]; rfl, fun h => UInt8.toNat_inj.1 h⟩
  have l32 : c < 32 ↔ c.toNat < 32 := UInt8.lt_iff_toNat_lt
  have l126 : 126 < c ↔ 126 < c.toNat := UInt8.lt_iff_toNat_lt
  by_cases h1 : c.toNat = 34
  · exact .inl ⟨h1, by rw [e34.2 h1]; rfl⟩
  by_cases h2 : c.toNat = 92
  · exact .inr (.inl ⟨h2, by rw [e92.2 h2]; rfl⟩)
  have b1 : ((c.toNat : Int) == 34) = false := by simp; omega
  have b2 : ((c.toNat : Int) == 92) = false := by simp; omega
  have hn : ¬ (c = 34 ∨ c = 92) := by rw [e34, e92]; omega
  by_cases h3 : c.toNat < 32
  · exact .inr (.inr (.inl ⟨b1, b2, by omega, escL_four hn (.inl (l32.2 h3))⟩))
  by_cases h4 : 126 < c.toNat
  · exact .inr (.inr (.inr (.inl ⟨b1, b2, by omega, by omega, escL_four hn (.inr (l126.2 h4))⟩)))
  · exact .inr (.inr (.inr (.inr ⟨b1, b2, by omega, by omega, escL_one hn (by rw [l32, l126]; omega)⟩)))
theorem hxD_fin : ∀ i : Fin 16, (([48, 49, 50, 51, 52, 53, 54, 55, 56, 57, 97, 98, 99, 100, 101, 102] : List UInt8)[i.val]'i.isLt) = hxD i.val := by decide
end Go.Proofs.YthmdnlcinlmjkaaDoor
