/- Plain facts: what is spoilt within 32 bits is seen. No program here. -/
import Derived.Test.YtebojmjbolphfaaBkm
namespace Go.Proofs.Ytebojmjbolphfaa
open Go Crc

theorem bitsOf_add (x m n : Nat) : bitsOf x (m + n) = bitsOf (x / 2 ^ n) m ++ bitsOf x n := by
  apply List.ext_getElem
  · simp [bitsOf]
  · intro i h1 h2
    rw [bitsOf_length] at h1
    by_cases hi : i < m
    · rw [List.getElem_append_left (by rw [bitsOf_length]; exact hi), bitsOf_getElem, bitsOf_getElem, Nat.testBit_div_two_pow]
      congr 1; omega
    · rw [List.getElem_append_right (by rw [bitsOf_length]; omega), bitsOf_getElem, bitsOf_getElem]
      congr 1; rw [bitsOf_length]; omega
theorem bitsOf_mod256 (x : Nat) : bitsOf (x % 256) 8 = bitsOf x 8 := by
  apply List.ext_getElem
  · simp [bitsOf]
  · intro i h1 h2
    rw [bitsOf_length] at h2
    rw [bitsOf_getElem, bitsOf_getElem, show 256 = 2 ^ 8 from rfl, Nat.testBit_mod_two_pow, decide_eq_true (by omega : 8 - 1 - i < 8), Bool.true_and]
theorem bitsAll_append (a b : List Nat) : bitsAll (a ++ b) = bitsAll a ++ bitsAll b := by
  refine snocInd (P := fun b => bitsAll (a ++ b) = bitsAll a ++ bitsAll b) (by simp [bitsAll]) (fun b c ih => ?_) b
  rw [← List.append_assoc, bitsAll_snoc, bitsAll_snoc, ih, List.append_assoc]
theorem bitsAll_be32 (s : Nat) (_hs : s < 4294967296) : bitsAll (be32 s) = bitsOf s 32 := by
  have e : bitsAll (be32 s) = bitsOf (s / 16777216) 8 ++ bitsOf (s / 65536 % 256) 8 ++ bitsOf (s / 256 % 256) 8 ++ bitsOf (s % 256) 8 := by
    unfold be32
    rw [show [s / 16777216, s / 65536 % 256, s / 256 % 256, s % 256] = (([] ++ [s / 16777216]) ++ [s / 65536 % 256] ++ [s / 256 % 256]) ++ [s % 256] from rfl, bitsAll_snoc, bitsAll_snoc, bitsAll_snoc, bitsAll_snoc]
    simp [bitsAll]
  rw [e, bitsOf_mod256, bitsOf_mod256, bitsOf_mod256, show 32 = (8 + 8 + 8) + 8 from rfl, bitsOf_add, bitsOf_add (s / 2 ^ 8) (8 + 8) 8, bitsOf_add (s / 2 ^ 8 / 2 ^ 8) 8 8, Nat.div_div_eq_div_mul, Nat.div_div_eq_div_mul]
  rw [Nat.div_div_eq_div_mul]
theorem word_bit (l : List Bool) (h : l.length ≤ 32) (j : Nat) (hj : j < l.length) : (word l).getLsbD (31 - j) = l.getD j false := by
  induction l generalizing j with
  | nil => simp at hj
  | cons b l ih =>
    simp only [List.length_cons] at h hj
    simp only [word, BitVec.getLsbD_xor, BitVec.getLsbD_ushiftRight]
    cases j with
    | zero =>
      rw [BitVec.getLsbD_of_ge _ (1 + (31 - 0)) (by omega)]
      cases b <;> simp
    | succ j =>
      have hne : 31 - (j + 1) ≠ 31 := by omega
      have hb : (if b = true then 0x80000000#32 else 0#32).getLsbD (31 - (j + 1)) = false := by
        cases b
        · simp
        · rw [if_pos rfl, show (0x80000000#32) = BitVec.twoPow 32 31 from by decide, BitVec.getLsbD_twoPow]
          simp; omega
      rw [hb, Bool.false_xor, show 1 + (31 - (j + 1)) = 31 - j by omega, ih (by omega) j (by omega)]
      simp
theorem word_bitsOf (x : Nat) : word (bitsOf x 32) = BitVec.ofNat 32 x := by
  apply BitVec.eq_of_getLsbD_eq
  intro i hi
  have h := word_bit (bitsOf x 32) (by rw [bitsOf_length]; omega) (31 - i) (by rw [bitsOf_length]; omega)
  rw [show 31 - (31 - i) = i by omega] at h
  rw [h, List.getD, List.getElem?_eq_getElem (by rw [bitsOf_length]; omega), Option.getD_some, bitsOf_getElem, BitVec.getLsbD_ofNat]
  simp [hi]
  congr 1; omega

theorem onBytes_feed (l : List Nat) (hl : ∀ c ∈ l, c < 256) (s : BitVec 32) : onBytes s l = feed s (bitsAll l) := by
  refine snocInd (P := fun l => (∀ c ∈ l, c < 256) → onBytes s l = feed s (bitsAll l)) (fun _ => by simp [onBytes, feed, bitsAll]) (fun l c ih h => ?_) l hl
  rw [onBytes_snoc, bitsAll_snoc, feed_append, ih (fun d hd => h d (by simp [hd])), feed_byte _ _ (h c (by simp))]
/-- Bytes with their sum behind them always leave the same. -/
theorem residue (l : List Nat) (hl : ∀ c ∈ l, c < 256) : feed 0xFFFFFFFF#32 (bitsAll (l ++ be32 (sumN l))) = steps 32 0xFFFFFFFF#32 := by
  rw [bitsAll_append, feed_append, ← onBytes_feed l hl, bitsAll_be32 _ (sumN_lt l), feed_word _ (by rw [bitsOf_length]; omega), bitsOf_length, word_bitsOf]
  congr 1
  unfold sumN sumBV
  rw [BitVec.ofNat_toNat, BitVec.setWidth_eq]
  apply BitVec.eq_of_getLsbD_eq
  intro i hi
  rw [BitVec.getLsbD_xor, BitVec.getLsbD_not, show (0xFFFFFFFF#32) = BitVec.allOnes 32 from by decide, BitVec.getLsbD_allOnes]
  cases (onBytes (BitVec.allOnes 32) l).getLsbD i <;> simp [hi]

/-- Bytes c are bytes b with the bits of W turned, from bit a on, k of them. -/
def Turned (b c : List Nat) (a W k : Nat) : Prop :=
  c.length = b.length ∧ (∀ d ∈ c, d < 256) ∧ ∀ p, p < 8 * b.length → bitAt c p = (bitAt b p ^^ (decide (a ≤ p ∧ p < a + k) && W.testBit (p - a)))
/-- Whether a bit was turned. -/
def turnedB (n a W k : Nat) : Bool := (List.range k).any fun i => decide (a + i < 8 * n) && W.testBit i
theorem turnedB_succ (n a W k : Nat) : turnedB n a W (k + 1) = (turnedB n a W k || (decide (a + k < 8 * n) && W.testBit k)) := by
  unfold turnedB; rw [List.range_succ, List.any_append]; simp
theorem bitAt_eq (b : List Nat) (p : Nat) (h : p < 8 * b.length) : bitAt b p = (bitsAll b)[p]'(by rw [bitsAll_length]; exact h) := by rw [bitsAll_getElem]
theorem bytes_of_bits {b c : List Nat} (hb : ∀ d ∈ b, d < 256) (hc : ∀ d ∈ c, d < 256) (hl : c.length = b.length) (h : ∀ p, p < 8 * b.length → bitAt c p = bitAt b p) : c = b := by
  apply List.ext_getElem hl
  intro i h1 h2
  apply Nat.eq_of_testBit_eq
  intro j
  by_cases hj : j < 8
  · have := h (8 * i + (7 - j)) (by omega)
    unfold bitAt at this
    rw [show (8 * i + (7 - j)) / 8 = i by omega, show 7 - (8 * i + (7 - j)) % 8 = j by omega] at this
    simpa [List.getD, h1, h2] using this
  · have a1 := hc _ (List.getElem_mem h1)
    have a2 := hb _ (List.getElem_mem h2)
    rw [Nat.testBit_lt_two_pow (Nat.lt_of_lt_of_le a1 (Nat.pow_le_pow_right (n := 2) (by omega) (by omega : 8 ≤ j))), Nat.testBit_lt_two_pow (Nat.lt_of_lt_of_le a2 (Nat.pow_le_pow_right (n := 2) (by omega) (by omega : 8 ≤ j)))]
/-- If no bit was turned, nothing was. -/
theorem turned_none {b c : List Nat} {a W : Nat} (hb : ∀ d ∈ b, d < 256) (h : Turned b c a W 32) (_hW : W < 4294967296) (ht : turnedB b.length a W 32 = false) : c = b := by
  obtain ⟨h1, h2, h3⟩ := h
  refine bytes_of_bits hb h2 h1 (fun p hp => ?_)
  rw [h3 p hp]
  by_cases hr : a ≤ p ∧ p < a + 32
  · have hf : W.testBit (p - a) = false := by
      cases hw : W.testBit (p - a) with
      | false => rfl
      | true =>
        have : turnedB b.length a W 32 = true := by
          unfold turnedB
          rw [List.any_eq_true]
          exact ⟨p - a, by simp; omega, by rw [hw, decide_eq_true (by omega)]; rfl⟩
        rw [this] at ht; cases ht
    rw [hf]; simp
  · rw [decide_eq_false hr]; simp
/-- If one was, the sum is another one. -/
theorem turned_seen {h c : List Nat} {a W : Nat} (hh : ∀ d ∈ h, d < 256) (ht : Turned (sealed h) c a W 32) (ha : a < 8 * (sealed h).length) (hs : turnedB (sealed h).length a W 32 = true) : num32 (tail4 c) ≠ sumN (told c) := by
  intro heq
  obtain ⟨h1, h2, h3⟩ := ht
  have hb := sealed_small h hh
  have hl : 4 ≤ c.length := by rw [h1, sealed_length]; omega
  have hc : c = told c ++ be32 (sumN (told c)) := by
    have e := (be32_num (tail4 c) (tail4_length c hl) (fun d hd => h2 d (List.mem_of_mem_drop hd)) _ (sumN_lt (told c))).1 heq
    rw [← e]; exact (told_tail c).symm
  have r1 : feed 0xFFFFFFFF#32 (bitsAll (sealed h)) = steps 32 0xFFFFFFFF#32 := residue h hh
  have r2 : feed 0xFFFFFFFF#32 (bitsAll c) = steps 32 0xFFFFFFFF#32 := by
    rw [hc]; exact residue (told c) (fun d hd => h2 d (List.mem_of_mem_take hd))
  have hx := feed_xor (bitsAll (sealed h)) (bitsAll c) 0xFFFFFFFF#32 0xFFFFFFFF#32 (by rw [bitsAll_length, bitsAll_length, h1])
  rw [r1, r2, BitVec.xor_self, BitVec.xor_self] at hx
  obtain ⟨n8, hn8⟩ : ∃ n8, n8 = 8 * (sealed h).length := ⟨_, rfl⟩
  obtain ⟨m, hm⟩ : ∃ m, m = min 32 (n8 - a) := ⟨_, rfl⟩
  have hz : List.zipWith (· ^^ ·) (bitsAll (sealed h)) (bitsAll c) = List.replicate a false ++ ((List.range m).map (fun i => W.testBit i) ++ List.replicate (n8 - a - m) false) := by
    apply List.ext_getElem
    · simp [bitsAll_length, h1]; omega
    · intro p q1 q2
      rw [List.length_zipWith, bitsAll_length, bitsAll_length, h1, Nat.min_self] at q1
      rw [List.getElem_zipWith, bitsAll_getElem, bitsAll_getElem, h3 p q1]
      have hxx : ∀ x y : Bool, (x ^^ (x ^^ y)) = y := by decide
      rw [hxx]
      by_cases p1 : p < a
      · rw [List.getElem_append_left (by simpa using p1), decide_eq_false (by omega)]; simp
      · rw [List.getElem_append_right (by simpa using p1)]
        simp only [List.length_replicate]
        by_cases p2 : p - a < m
        · rw [List.getElem_append_left (by simpa using p2), decide_eq_true (by omega)]; simp
        · rw [List.getElem_append_right (by simpa using p2), decide_eq_false (by omega)]; simp
  rw [hz] at hx
  have hall := feed_burst a _ _ (by simp; omega) hx.symm.symm
  unfold turnedB at hs
  rw [List.any_eq_true] at hs
  obtain ⟨i, hi, hw⟩ := hs
  simp only [Bool.and_eq_true, decide_eq_true_eq] at hw
  have hi' : i < m := by rw [List.mem_range] at hi; omega
  have := hall (W.testBit i) (List.mem_map.2 ⟨i, List.mem_range.2 hi', rfl⟩)
  rw [hw.2] at this
  cases this
/-- One bit more. -/
theorem turned_zero (b : List Nat) (hb : ∀ d ∈ b, d < 256) (a W : Nat) : Turned b b a W 0 := ⟨rfl, hb, fun p _ => by rw [decide_eq_false (by omega)]; simp⟩
theorem turned_skip {b c : List Nat} {a W k : Nat} (h : Turned b c a W k) (hn : ¬ (a + k < 8 * b.length ∧ W.testBit k = true)) : Turned b c a W (k + 1) := by
  obtain ⟨h1, h2, h3⟩ := h
  refine ⟨h1, h2, fun p hp => ?_⟩
  rw [h3 p hp]
  congr 1
  by_cases hpk : p = a + k
  · subst hpk
    have : W.testBit k = false := by
      cases hw : W.testBit k with
      | false => rfl
      | true => exact absurd ⟨hp, hw⟩ hn
    rw [show a + k - a = k by omega, this]; simp
  · rw [show decide (a ≤ p ∧ p < a + (k + 1)) = decide (a ≤ p ∧ p < a + k) by apply decide_eq_decide.2; omega]
theorem turned_flip {b c : List Nat} {a W k : Nat} (h : Turned b c a W k) (hlt : a + k < 8 * b.length) (hw : W.testBit k = true) :
    Turned b (c.set ((a + k) / 8) (c.getD ((a + k) / 8) 0 ^^^ 2 ^ (7 - (a + k) % 8))) a W (k + 1) := by
  obtain ⟨h1, h2, h3⟩ := h
  have hj : (a + k) / 8 < c.length := by omega
  have hcs : c.getD ((a + k) / 8) 0 < 256 := by rw [List.getD, List.getElem?_eq_getElem hj]; exact h2 _ (List.getElem_mem _)
  refine ⟨by rw [List.length_set]; exact h1, fun d hd => ?_, fun p hp => ?_⟩
  · rcases List.mem_or_eq_of_mem_set hd with h4 | h4
    · exact h2 d h4
    · rw [h4]
      exact Nat.xor_lt_two_pow (n := 8) hcs (Nat.pow_lt_pow_right (by omega) (by omega))
  · have h5 := h3 p hp
    unfold bitAt at h5 ⊢
    by_cases hpj : p / 8 = (a + k) / 8
    · rw [hpj, List.getD, List.getElem?_set_self hj, Option.getD_some, Nat.testBit_xor]
      rw [hpj] at h5
      rw [h5, Bool.xor_assoc]
      congr 1
      rw [Nat.testBit_two_pow]
      by_cases hpk : p = a + k
      · subst hpk
        rw [show a + k - a = k by omega, hw, decide_eq_true (by omega : a ≤ a + k ∧ a + k < a + (k + 1)), decide_eq_false (by omega : ¬ (a ≤ a + k ∧ a + k < a + k))]
        simp
      · rw [show decide (a ≤ p ∧ p < a + (k + 1)) = decide (a ≤ p ∧ p < a + k) by apply decide_eq_decide.2; omega, decide_eq_false (by omega : ¬ 7 - (a + k) % 8 = 7 - p % 8)]
        simp
    · rw [List.getD, List.getElem?_set_ne (fun h => hpj h.symm)]
      rw [List.getD] at h5
      rw [h5]
      congr 1
      by_cases hpk : p = a + k
      · subst hpk; exact absurd rfl hpj
      · rw [show decide (a ≤ p ∧ p < a + (k + 1)) = decide (a ≤ p ∧ p < a + k) by apply decide_eq_decide.2; omega]
end Go.Proofs.Ytebojmjbolphfaa
