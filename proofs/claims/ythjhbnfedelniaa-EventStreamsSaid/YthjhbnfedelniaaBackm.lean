/- Plain facts: what was put is what is taken. No program here. -/
import Derived.Test.YthjhbnfedelniaaBase
import Derived.Test.YthjhbnfedelniaaPackm
import Derived.Test.YthjhbnfedelniaaPuts2
namespace Go.Proofs.Ythjhbnfedelniaa
open Go

theorem valBits_bitsOf (u m : Nat) (h : u < 2 ^ m) : valBits (bitsOf u m) = u := by
  have key : ∀ k, k ≤ m → valBits ((bitsOf u m).take k) = u / 2 ^ (m - k) := by
    intro k
    induction k with
    | zero => intro _; rw [List.take_zero, Nat.sub_zero, Nat.div_eq_of_lt h]; rfl
    | succ k ih =>
      intro hk
      rw [bitsOf_take_succ u m k (by omega), valBits_snoc, ih (by omega), show m - 1 - k = m - (k + 1) by omega, Nat.testBit_eq_decide_div_mod_eq]
      have h2 : u / 2 ^ (m - k) = u / 2 ^ (m - (k + 1)) / 2 := by
        rw [Nat.div_div_eq_div_mul, show m - k = m - (k + 1) + 1 by omega, Nat.pow_succ]
      rw [h2]
      rcases Nat.mod_two_eq_zero_or_one (u / 2 ^ (m - (k + 1))) with h3 | h3 <;> simp [h3] <;> omega
  have := key m (Nat.le_refl _)
  rw [List.take_of_length_le (by rw [bitsOf_length]; omega), Nat.sub_self, Nat.pow_zero, Nat.div_one] at this
  exact this

theorem bitsErr_front (u m : Nat) (rest : List Bool) (hm : m ≤ 64) : bitsErr (m : Int) (bitsOf u m ++ rest).length = 0 := bitsErr_ok hm (by simp [bitsOf_length])
theorem bitsVal_front (u m : Nat) (rest : List Bool) (hm : m ≤ 64) (h : u < 2 ^ m) : bitsVal (bitsOf u m ++ rest) (m : Int) = u := by
  unfold bitsVal
  rw [bitsErr_front u m rest hm, if_pos rfl, show ((m : Int)).toNat = m from rfl, List.take_append_of_le_length (by rw [bitsOf_length]; omega), List.take_of_length_le (by rw [bitsOf_length]; omega), valBits_bitsOf u m h]
theorem bitsRest_front (u m : Nat) (rest : List Bool) (hm : m ≤ 64) : bitsRest (bitsOf u m ++ rest) (m : Int) = rest := by
  unfold bitsRest
  rw [bitsErr_front u m rest hm, if_pos rfl, show ((m : Int)).toNat = m from rfl]
  have := List.drop_left (l₁ := bitsOf u m) (l₂ := rest)
  rwa [bitsOf_length] at this

theorem zerosL_front (u : Nat) (hu : u < 2 ^ 64) (rest : List Bool) : zerosL (natBits u ++ rest) = ahd u := by
  have ha := ahd_le u hu
  refine zerosL_eq _ _ (by rw [List.length_append, natBits_length]; omega) (fun i hi => ?_) (fun _ => ?_)
  · rw [List.getD, List.getElem?_append_left (by rw [natBits_length]; omega), natBits_low u i hi]; rfl
  · have := natBits_high u 0 (Nat.zero_le _)
    rw [Nat.add_zero, Nat.sub_zero, testBit_top _ _ (ahd_pow u) (ahd_lt u)] at this
    rw [List.getD, List.getElem?_append_left (by rw [natBits_length]; omega), this]; rfl
theorem natTail_front (u : Nat) (rest : List Bool) : ((natBits u ++ rest).drop (ahd u + 1)).take (ahd u) = bitsOf (u + 1) (ahd u) := by
  have h1 : natBits u = (List.replicate (ahd u) false ++ [true]) ++ bitsOf (u + 1) (ahd u) := by
    rw [natBits, bitsOf_succ, testBit_top _ _ (ahd_pow u) (ahd_lt u)]; simp
  have h2 : (List.replicate (ahd u) false ++ [true]).length = ahd u + 1 := by simp
  rw [h1, List.append_assoc, ← h2, List.drop_left]
  have h3 := List.take_left (l₁ := bitsOf (u + 1) (ahd u)) (l₂ := rest)
  rwa [bitsOf_length] at h3
theorem valTail (u : Nat) : valBits (bitsOf (u + 1) (ahd u)) = u + 1 - 2 ^ ahd u := by
  have h := valBits_bitsOf (u + 1) (ahd u + 1) (ahd_lt u)
  rw [bitsOf_succ, testBit_top _ _ (ahd_pow u) (ahd_lt u)] at h
  have h2 : ∀ l : List Bool, valBits (true :: l) = 2 ^ l.length + valBits l := by
    intro l
    refine snocInd (P := fun l => valBits (true :: l) = 2 ^ l.length + valBits l) (by simp [valBits]) (fun l b ih => ?_) l
    rw [← List.cons_append, valBits_snoc, valBits_snoc, ih, List.length_append, List.length_singleton, Nat.pow_succ]
    omega
  rw [h2, bitsOf_length] at h
  omega
theorem natErrL_front (u : Nat) (hu : u < 2 ^ 64) (rest : List Bool) : natErrL (natBits u ++ rest) = 0 := by
  have ha := ahd_le u hu
  unfold natErrL
  rw [zerosL_front u hu, natTail_front, valTail, if_neg (by omega), if_neg (by rw [List.length_append, natBits_length]; omega), if_neg]
  rintro ⟨h1, h2⟩
  rw [h1] at h2
  omega
theorem natValL_front (u : Nat) (hu : u < 2 ^ 64) (rest : List Bool) : natValL (natBits u ++ rest) = u := by
  have hp := ahd_pow u
  unfold natValL
  rw [natErrL_front u hu, if_pos rfl, zerosL_front u hu, natTail_front, valTail]
  omega
theorem natRestL_front (u : Nat) (hu : u < 2 ^ 64) (rest : List Bool) : natRestL (natBits u ++ rest) = rest := by
  unfold natRestL
  rw [natErrL_front u hu, if_pos rfl, zerosL_front u hu]
  have := List.drop_left (l₁ := natBits u) (l₂ := rest)
  rwa [natBits_length] at this

theorem numOf_zigN (n : Int) : numOf (zigN n) = n := by
  unfold numOf zigN
  by_cases h : 0 ≤ n
  · rw [if_pos h, if_pos (by omega)]; omega
  · rw [if_neg h, if_neg (by omega)]; omega

theorem valBits_testBit (l : List Bool) (r : Nat) (hr : r < l.length) : (valBits l).testBit (l.length - 1 - r) = l.getD r false := by
  refine snocInd (P := fun l => ∀ r, r < l.length → (valBits l).testBit (l.length - 1 - r) = l.getD r false) (fun r hr => by simp at hr) (fun l b ih r hr => ?_) l r hr
  rw [valBits_snoc, List.length_append, List.length_singleton]
  rw [List.length_append, List.length_singleton] at hr
  by_cases h : r < l.length
  · rw [show l.length + 1 - 1 - r = (l.length - 1 - r) + 1 by omega, Nat.testBit_succ, show (2 * valBits l + b.toNat) / 2 = valBits l by cases b <;> simp <;> omega, ih r h]
    rw [List.getD, List.getD, List.getElem?_append_left h]
  · obtain rfl : r = l.length := by omega
    rw [show l.length + 1 - 1 - l.length = 0 by omega, Nat.testBit_zero]
    rw [List.getD, List.getElem?_append_right (Nat.le_refl _)]
    cases b <;> simp <;> omega
theorem packByte_bit (l : List Bool) (i : Nat) : (packByte l (i / 8)).testBit (7 - i % 8) = l.getD i false := by
  unfold packByte
  obtain ⟨c, hc⟩ : ∃ c, c = (l.drop (8 * (i / 8))).take 8 := ⟨_, rfl⟩
  rw [← hc]
  have hl : c.length = min 8 (l.length - 8 * (i / 8)) := by rw [hc]; simp
  have hg : c.getD (i % 8) false = l.getD i false := by
    rw [hc, List.getD, List.getD, List.getElem?_take, if_pos (by omega), List.getElem?_drop, show 8 * (i / 8) + i % 8 = i by omega]
  rw [Nat.testBit_mul_two_pow]
  by_cases h : i % 8 < c.length
  · rw [decide_eq_true (by omega : 7 - i % 8 ≥ 8 - c.length), Bool.true_and, show 7 - i % 8 - (8 - c.length) = c.length - 1 - i % 8 by omega, valBits_testBit c _ h, hg]
  · rw [← hg, List.getD, List.getElem?_eq_none (by omega), decide_eq_false (by omega : ¬ 7 - i % 8 ≥ 8 - c.length)]; rfl

/-- The bits of what a sink hands out: its own, then bits 0, fewer than eight. -/
theorem bitsAll_packN (bs : List Bool) (n : Nat) (h : bs.length ≤ 8 * n) : bitsAll (packN bs n) = bs ++ List.replicate (8 * n - bs.length) false := by
  apply List.ext_getElem
  · simp [bitsAll_length, packN_length]; omega
  · intro i h1 h2
    rw [bitsAll_getElem]
    rw [bitsAll_length, packN_length] at h1
    have e : bitAt (packN bs n) i = bs.getD i false := by
      unfold bitAt packN
      have : i / 8 < n := by omega
      rw [show ((List.range n).map (packByte bs)).getD (i / 8) 0 = packByte bs (i / 8) by simp [List.getD, this], packByte_bit]
    rw [e]
    by_cases hi : i < bs.length
    · rw [List.getElem_append_left hi]; simp [List.getD, hi]
    · rw [List.getElem_append_right (by omega)]; simp [List.getD, hi]
theorem bitsAll_packed (bs : List Bool) : ∃ pad, bitsAll (packed bs) = bs ++ List.replicate pad false ∧ pad < 8 :=
  ⟨8 * ((bs.length + 7) / 8) - bs.length, by rw [packed_packN]; exact bitsAll_packN bs _ (by omega), by omega⟩
theorem packed_small (bs : List Bool) : ∀ c ∈ packed bs, c < 256 := by
  rw [packed_packN]
  intro c hc
  unfold packN at hc
  rw [List.mem_map] at hc
  obtain ⟨j, _, rfl⟩ := hc
  exact packByte_lt bs j
theorem endErrL_pad (pad : Nat) (h : pad < 8) : endErrL (List.replicate pad false) = 0 := by
  unfold endErrL
  rw [List.length_replicate, if_neg (by omega), if_neg (by simp)]

/-- Texts. -/
theorem flatb_at (l : List UInt8) (i : Nat) (h : i < l.length) : (l.flatMap fun c => bitsOf c.toNat 8) = ((l.take i).flatMap fun c => bitsOf c.toNat 8) ++ (bitsOf l[i].toNat 8 ++ (l.drop (i + 1)).flatMap fun c => bitsOf c.toNat 8) := by
  conv => lhs; rw [← List.take_append_drop i l, List.flatMap_append, List.drop_eq_getElem_cons h, List.flatMap_cons]
theorem chunk_flat (l : List UInt8) (rest : List Bool) (i : Nat) (h : i < l.length) : chunk ((l.flatMap fun c => bitsOf c.toNat 8) ++ rest) i = l[i].toNat := by
  have hl : ((l.take i).flatMap fun c => bitsOf c.toNat 8).length = 8 * i := by rw [flat_length, List.length_take]; omega
  unfold chunk
  rw [flatb_at l i h, List.append_assoc, List.append_assoc, ← hl, List.drop_left, List.take_append_of_le_length (by rw [bitsOf_length]; omega), List.take_of_length_le (by rw [bitsOf_length]; omega), valBits_bitsOf _ 8 l[i].toNat_lt]
theorem natErr_text (l : List UInt8) (rest : List Bool) (h : l.length < 2 ^ 64) : natErrL (textBits l ++ rest) = 0 := by
  rw [textBits, List.append_assoc]; exact natErrL_front _ h _
theorem natVal_text (l : List UInt8) (rest : List Bool) (h : l.length < 2 ^ 64) : natValL (textBits l ++ rest) = l.length := by
  rw [textBits, List.append_assoc]; exact natValL_front _ h _
theorem natRest_text (l : List UInt8) (rest : List Bool) (h : l.length < 2 ^ 64) : natRestL (textBits l ++ rest) = (l.flatMap fun c => bitsOf c.toNat 8) ++ rest := by
  rw [textBits, List.append_assoc]; exact natRestL_front _ h _
theorem textErrL_front (l : List UInt8) (rest : List Bool) (h : l.length < 2 ^ 64) : textErrL (textBits l ++ rest) = 0 := by
  unfold textErrL
  rw [natErr_text l rest h, natVal_text l rest h, natRest_text l rest h, if_neg (by omega), if_neg]
  rw [List.length_append, flat_length]; omega
theorem textRestL_front (l : List UInt8) (rest : List Bool) (h : l.length < 2 ^ 64) : textRestL (textBits l ++ rest) = rest := by
  unfold textRestL
  rw [textErrL_front l rest h, natVal_text l rest h, natRest_text l rest h, if_pos rfl, ← flat_length l, List.drop_left]
theorem textBytesL_front (l : List UInt8) (rest : List Bool) (h : l.length < 2 ^ 64) : textBytesL (textBits l ++ rest) = l.map UInt8.toNat := by
  unfold textBytesL
  rw [textErrL_front l rest h, natVal_text l rest h, natRest_text l rest h, if_pos rfl]
  apply List.ext_getElem
  · simp
  · intro i h1 h2
    simp at h1
    rw [List.getElem_map, List.getElem_map, List.getElem_range, chunk_flat l rest i h1]
theorem textStr_front (s : ByteArray) (rest : List Bool) (h : s.size < 2 ^ 64) : textStr (textBits s.data.toList ++ rest) = s := by
  unfold textStr
  have hd : s.data.toList.length = s.size := Array.length_toList
  rw [textBytesL_front _ _ (by omega)]
  unfold strOfNums
  rw [List.map_map, List.map_map]
  have e : s.data.toList.map (((fun n : Int => UInt8.ofNat n.toNat) ∘ (fun x : Nat => (x : Int))) ∘ UInt8.toNat) = s.data.toList := by
    conv => rhs; rw [← List.map_id s.data.toList]
    apply List.map_congr_left
    intro c _
    simp [Function.comp]
  rw [e]
/-- Flags. -/
theorem flagVal_front (b : Bool) (rest : List Bool) : flagVal (b :: rest) = b := by
  unfold flagVal bitsVal
  rw [show (1 : Int) = ((1 : Nat) : Int) from rfl, bitsErr_ok (n := 1) (by omega) (by simp), if_pos rfl]
  cases b <;> simp [valBits]
theorem flagErr_front (b : Bool) (rest : List Bool) : bitsErr 1 (b :: rest).length = 0 := bitsErr_ok (n := 1) (by omega) (by simp)
theorem flagRest_front (b : Bool) (rest : List Bool) : bitsRest (b :: rest) 1 = rest := by
  unfold bitsRest
  rw [flagErr_front, if_pos rfl]; rfl
end Go.Proofs.Ythjhbnfedelniaa
