/- Plain facts on lists of bits: a number in n bits, the value of bits, what a sink holds after some bits. No program here. -/
import Derived.WalkSmall
namespace Go.Proofs.Ytehdimaihkckkaa
open Go

def valBits (l : List Bool) : Nat := l.foldl (fun a b => 2 * a + b.toNat) 0
theorem valBits_nil : valBits [] = 0 := rfl
theorem valBits_snoc (l : List Bool) (b : Bool) : valBits (l ++ [b]) = 2 * valBits l + b.toNat := by simp [valBits]
theorem snocInd {α : Type} {P : List α → Prop} (h0 : P []) (h1 : ∀ l b, P l → P (l ++ [b])) (l : List α) : P l := by
  have h : ∀ r : List α, P r.reverse := by
    intro r
    induction r with
    | nil => exact h0
    | cons a r ih => rw [List.reverse_cons]; exact h1 _ _ ih
  have := h l.reverse
  rwa [List.reverse_reverse] at this
theorem valBits_lt (l : List Bool) : valBits l < 2 ^ l.length := by
  refine snocInd (P := fun l => valBits l < 2 ^ l.length) (by simp [valBits]) (fun l b ih => ?_) l
  rw [valBits_snoc]; simp [Nat.pow_succ]; cases b <;> simp <;> omega

/-- The low n bits of x, the highest one first. -/
def bitsOf (x n : Nat) : List Bool := (List.range n).map fun i => x.testBit (n - 1 - i)
theorem bitsOf_length (x n : Nat) : (bitsOf x n).length = n := by simp [bitsOf]
theorem bitsOf_zero (x : Nat) : bitsOf x 0 = [] := rfl
theorem bitsOf_getElem (x n i : Nat) (h : i < (bitsOf x n).length) : (bitsOf x n)[i] = x.testBit (n - 1 - i) := by simp [bitsOf]
theorem bitsOf_take_succ (x n k : Nat) (h : k < n) : (bitsOf x n).take (k + 1) = (bitsOf x n).take k ++ [x.testBit (n - 1 - k)] := by
  rw [List.take_succ_eq_append_getElem (by simpa [bitsOf] using h), bitsOf_getElem]
theorem bitsOf_succ (x n : Nat) : bitsOf x (n + 1) = x.testBit n :: bitsOf x n := by
  simp only [bitsOf, List.range_succ_eq_map, List.map_cons, List.map_map]
  congr 1
  apply List.map_congr_left
  intro i hi
  simp at hi
  simp only [Function.comp]
  congr 1
  omega

/-- The bits of the last byte that is not full; the bytes that are full. -/
def restOf (bs : List Bool) : Nat := valBits (bs.drop (8 * (bs.length / 8)))
def fullOf (bs : List Bool) : List Nat := (List.range (bs.length / 8)).map fun j => valBits ((bs.drop (8 * j)).take 8)
theorem fullOf_length (bs : List Bool) : (fullOf bs).length = bs.length / 8 := by simp [fullOf]
theorem restOf_lt (bs : List Bool) : restOf bs < 128 := by
  unfold restOf
  have h := valBits_lt (bs.drop (8 * (bs.length / 8)))
  have hl : (bs.drop (8 * (bs.length / 8))).length ≤ 7 := by rw [List.length_drop]; omega
  have := Nat.pow_le_pow_right (n := 2) (by omega) hl
  omega
theorem restOf_snoc_ne (bs : List Bool) (b : Bool) (h : (bs.length + 1) % 8 ≠ 0) : restOf (bs ++ [b]) = 2 * restOf bs + b.toNat := by
  unfold restOf
  have e : (bs ++ [b]).length / 8 = bs.length / 8 := by simp; omega
  rw [e, List.drop_append_of_le_length (by omega), valBits_snoc]
theorem restOf_snoc_eq (bs : List Bool) (b : Bool) (h : (bs.length + 1) % 8 = 0) : restOf (bs ++ [b]) = 0 := by
  unfold restOf
  have e : 8 * ((bs ++ [b]).length / 8) = (bs ++ [b]).length := by simp; omega
  rw [e, List.drop_length]; rfl
theorem fullOf_snoc_ne (bs : List Bool) (b : Bool) (h : (bs.length + 1) % 8 ≠ 0) : fullOf (bs ++ [b]) = fullOf bs := by
  unfold fullOf
  have e : (bs ++ [b]).length / 8 = bs.length / 8 := by simp; omega
  rw [e]
  apply List.map_congr_left
  intro j hj
  simp at hj
  rw [List.drop_append_of_le_length (by omega), List.take_append_of_le_length (by simp; omega)]
theorem fullOf_snoc_eq (bs : List Bool) (b : Bool) (h : (bs.length + 1) % 8 = 0) : fullOf (bs ++ [b]) = fullOf bs ++ [2 * restOf bs + b.toNat] := by
  unfold fullOf restOf
  have e : (bs ++ [b]).length / 8 = bs.length / 8 + 1 := by simp; omega
  rw [e, List.range_succ, List.map_append]
  congr 1
  · apply List.map_congr_left
    intro j hj
    simp at hj
    rw [List.drop_append_of_le_length (by omega), List.take_append_of_le_length (by simp; omega)]
  · simp only [List.map_cons, List.map_nil]
    rw [List.drop_append_of_le_length (by omega), List.take_of_length_le (by simp; omega), valBits_snoc]

/-- The walk's own words for '& 1', '<< 1 |'. -/
theorem bit_of (x k : Nat) (hx : x < 2 ^ 64) : bits BinOp.and IntKind.u64 ((x : Int) / 2 ^ k) 1 % 256 = ((x.testBit k).toNat : Int) := by
  have h0 : (0 : Int) ≤ (x : Int) / 2 ^ k := Int.ediv_nonneg (by omega) (by exact_mod_cast Nat.zero_le _)
  have h1 : (x : Int) / 2 ^ k ≤ 18446744073709551615 := by
    have : (x : Int) / 2 ^ k ≤ x := Int.ediv_le_self _ (by omega)
    omega
  rw [Go.and_one_u64 _ h0 h1]
  have e : ((x : Int) / 2 ^ k) % 2 = ((x / 2 ^ k % 2 : Nat) : Int) := by push_cast; rfl
  rw [e, Nat.testBit_eq_decide_div_mod_eq]
  rcases Nat.mod_two_eq_zero_or_one (x / 2 ^ k) with h | h <;> simp [h]
theorem or_bit (r : Nat) (b : Bool) (hr : r < 128) : bits BinOp.or IntKind.u8 ((r : Int) * 2) (b.toNat : Int) = ((2 * r + b.toNat : Nat) : Int) := by
  have h : ∀ r : Fin 128, ∀ b : Bool, bits BinOp.or IntKind.u8 (((r.val : Nat) : Int) * 2) (b.toNat : Int) = ((2 * r.val + b.toNat : Nat) : Int) := by decide +kernel
  exact h ⟨r, hr⟩ b

end Go.Proofs.Ytehdimaihkckkaa
