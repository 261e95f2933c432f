/- Plain facts: an event's bits are read as it was; what is read is just these bits. No program in this text. -/
import Derived.Test.YtiljekpfkkocnaaQm
namespace Go.Proofs.Ytiljekpfkkocnaa
open Go Go.RowKit

theorem bitsOf_valBits (t : List Bool) : bitsOf (valBits t) t.length = t := by
  apply List.ext_getElem
  · rw [bitsOf_length]
  · intro i h1 h2
    rw [bitsOf_getElem, valBits_testBit t i h2]
    simp [List.getD, h2]
theorem bitsOf_valBits' (t : List Bool) (n : Nat) (h : t.length = n) : bitsOf (valBits t) n = t := by subst h; exact bitsOf_valBits t
theorem bitsOf_low (x z : Nat) : bitsOf (x % 2 ^ z) z = bitsOf x z := by
  apply List.ext_getElem
  · simp [bitsOf]
  · intro i h1 h2
    rw [bitsOf_length] at h2
    rw [bitsOf_getElem, bitsOf_getElem, Nat.testBit_mod_two_pow, decide_eq_true (by omega : z - 1 - i < z), Bool.true_and]
theorem takeWhile_take (l : List Bool) : l.take ((l.takeWhile (fun b => !b)).length) = List.replicate ((l.takeWhile (fun b => !b)).length) false := by
  induction l with
  | nil => rfl
  | cons a l ih =>
    cases a with
    | true => rfl
    | false => simp only [List.takeWhile_cons, Bool.not_false, if_true, List.length_cons, List.take_succ_cons, List.replicate_succ, ih]
theorem takeWhile_next (l : List Bool) (h : (l.takeWhile (fun b => !b)).length < l.length) : l[(l.takeWhile (fun b => !b)).length] = true := by
  induction l with
  | nil => simp at h
  | cons a l ih =>
    cases a with
    | true => simp
    | false =>
      simp only [List.takeWhile_cons, Bool.not_false, if_true, List.length_cons] at h ⊢
      have := ih (by omega)
      simpa using this
theorem zeros_split (l : List Bool) (h64 : zerosL l ≤ 64) (hl : zerosL l < l.length) : l = List.replicate (zerosL l) false ++ (true :: l.drop (zerosL l + 1)) := by
  have h1 := takeWhile_take (l.take 65)
  have hlt : ((l.take 65).takeWhile (fun b => !b)).length < (l.take 65).length := by
    have : zerosL l = ((l.take 65).takeWhile (fun b => !b)).length := rfl
    rw [List.length_take]; omega
  have h2 := takeWhile_next (l.take 65) hlt
  rw [show ((l.take 65).takeWhile (fun b => !b)).length = zerosL l from rfl] at h1
  rw [List.take_take, show min (zerosL l) 65 = zerosL l by omega] at h1
  have h3 : l[zerosL l] = true := by
    have : (l.take 65)[zerosL l]'(by rw [List.length_take]; omega) = true := h2
    rwa [List.getElem_take] at this
  conv => lhs; rw [← List.take_append_drop (zerosL l) l, h1, List.drop_eq_getElem_cons hl, h3]
theorem natErrL_zero {l : List Bool} (h : natErrL l = 0) : zerosL l ≤ 64 ∧ 2 * zerosL l + 1 ≤ l.length ∧ (zerosL l = 64 → valBits ((l.drop (zerosL l + 1)).take (zerosL l)) = 0) := by
  unfold natErrL at h
  by_cases h1 : 64 < zerosL l
  · rw [if_pos h1] at h; cases h
  rw [if_neg h1] at h
  by_cases h2 : l.length < 2 * zerosL l + 1
  · rw [if_pos h2] at h; cases h
  rw [if_neg h2] at h
  by_cases h3 : zerosL l = 64 ∧ valBits ((l.drop (zerosL l + 1)).take (zerosL l)) ≠ 0
  · rw [if_pos h3] at h; cases h
  exact ⟨by omega, by omega, fun h4 => Decidable.byContradiction fun h5 => h3 ⟨h4, h5⟩⟩
/-- What was read as a natural number is its code. -/
theorem nat_back (l : List Bool) (h : natErrL l = 0) : l = natBits (natValL l) ++ natRestL l ∧ natValL l < 2 ^ 64 := by
  obtain ⟨h1, h2, h3⟩ := natErrL_zero h
  obtain ⟨z, hz⟩ : ∃ z, z = zerosL l := ⟨_, rfl⟩
  have hs := zeros_split l h1 (by omega)
  have ht : ((l.drop (zerosL l + 1)).take (zerosL l)).length = zerosL l := by rw [List.length_take, List.length_drop]; omega
  have hv := valBits_lt ((l.drop (zerosL l + 1)).take (zerosL l))
  rw [ht] at hv
  have hb := bitsOf_valBits' ((l.drop (zerosL l + 1)).take (zerosL l)) (zerosL l) ht
  have hr : natRestL l = l.drop (2 * zerosL l + 1) := by unfold natRestL; rw [if_pos h]
  have hn : natValL l = 2 ^ zerosL l + valBits ((l.drop (zerosL l + 1)).take (zerosL l)) - 1 := by unfold natValL; rw [if_pos h]
  have hd : l.drop (zerosL l + 1) = (l.drop (zerosL l + 1)).take (zerosL l) ++ l.drop (2 * zerosL l + 1) := by
    conv => lhs; rw [← List.take_append_drop (zerosL l) (l.drop (zerosL l + 1)), List.drop_drop]
    rw [show zerosL l + 1 + zerosL l = 2 * zerosL l + 1 by omega]
  rw [hr, hn]
  rw [← hz] at h1 h2 h3 hs ht hv hb hr hn hd ⊢
  obtain ⟨t, htt⟩ : ∃ t, t = (l.drop (z + 1)).take z := ⟨_, rfl⟩
  rw [← htt] at hb hv hd h3 ⊢
  have hp : 0 < 2 ^ z := Nat.two_pow_pos z
  have hu : 2 ^ z + valBits t - 1 + 1 = 2 ^ z + valBits t := by omega
  have ha : ahd (2 ^ z + valBits t - 1) = z := by
    unfold ahd
    rw [hu]
    rw [Nat.log2_eq_iff (by omega)]
    rw [Nat.pow_succ]
    omega
  constructor
  · unfold natBits
    rw [ha, hu, bitsOf_succ, testBit_top _ _ (by omega) (by rw [Nat.pow_succ]; omega), ← bitsOf_low, Nat.add_mod_left, Nat.mod_eq_of_lt hv, hb]
    conv => lhs; rw [hs, hd]
    simp
  · by_cases h64 : z = 64
    · have := h3 h64
      rw [this, h64]; decide
    · have : 2 ^ z ≤ 2 ^ 63 := Nat.pow_le_pow_right (by omega) (by omega)
      omega
def byteBits (x : List Nat) : List Bool := x.flatMap fun c => bitsOf c 8
theorem byteBits_len (x : List Nat) : (byteBits x).length = 8 * x.length := by
  unfold byteBits
  induction x with
  | nil => rfl
  | cons c r ih => rw [List.flatMap_cons, List.length_append, ih, bitsOf_length, List.length_cons]; omega
theorem byteBits_split (x : List Nat) (i : Nat) (h : i < x.length) : byteBits x = byteBits (x.take i) ++ (bitsOf x[i] 8 ++ byteBits (x.drop (i + 1))) := by
  unfold byteBits
  conv => lhs; rw [← List.take_append_drop i x, List.flatMap_append, List.drop_eq_getElem_cons h, List.flatMap_cons]
theorem chunk_byteBits (x : List Nat) (rest : List Bool) (i : Nat) (h : i < x.length) (hs : ∀ c ∈ x, c < 256) : chunk (byteBits x ++ rest) i = x[i] := by
  have hl : (byteBits (x.take i)).length = 8 * i := by rw [byteBits_len, List.length_take]; omega
  unfold chunk
  rw [byteBits_split x i h, List.append_assoc, ← hl, List.drop_left, List.append_assoc]
  have h3 := List.take_left (l₁ := bitsOf x[i] 8) (l₂ := byteBits (x.drop (i + 1)) ++ rest)
  rw [bitsOf_length] at h3
  rw [h3]
  exact valBits_bitsOf _ _ (hs _ (List.getElem_mem _))
theorem chunks_byteBits (x : List Nat) (rest : List Bool) (hs : ∀ c ∈ x, c < 256) : (List.range x.length).map (chunk (byteBits x ++ rest)) = x := by
  apply List.ext_getElem
  · simp
  · intro i h1 h2
    simp only [List.getElem_map, List.getElem_range]
    exact chunk_byteBits x rest i h2 hs
theorem byteBits_back (l : List Bool) (M : Nat) (h : 8 * M ≤ l.length) : l = byteBits ((List.range M).map (chunk l)) ++ l.drop (8 * M) := by
  induction M with
  | zero => simp [byteBits]
  | succ M ih =>
    have h1 := ih (by omega)
    have h2 : l.drop (8 * M) = bitsOf (chunk l M) 8 ++ l.drop (8 * (M + 1)) := by
      have hl : ((l.drop (8 * M)).take 8).length = 8 := by simp; omega
      unfold chunk
      rw [bitsOf_valBits' _ 8 hl]
      conv => lhs; rw [← List.take_append_drop 8 (l.drop (8 * M)), List.drop_drop]
      rw [show 8 * M + 8 = 8 * (M + 1) by omega]
    rw [List.range_succ, List.map_append]
    unfold byteBits at h1 ⊢
    rw [List.flatMap_append]
    conv => lhs; rw [h1, h2]
    simp
theorem bitsAll_byteBits (b : List Nat) : bitsAll b = byteBits b := by
  refine snocInd (P := fun b => bitsAll b = byteBits b) (by simp [bitsAll, byteBits]) (fun b c ih => ?_) b
  rw [bitsAll_snoc, ih]; simp [byteBits]
theorem bytes_of_bitsAll (b : List Nat) (hs : ∀ c ∈ b, c < 256) : (List.range b.length).map (chunk (bitsAll b)) = b := by
  have h := chunks_byteBits b [] hs
  rw [List.append_nil] at h
  rw [bitsAll_byteBits]; exact h
theorem endErrL_zero {l : List Bool} (h : endErrL l = 0) : l.length < 8 ∧ l = List.replicate l.length false := by
  unfold endErrL at h
  by_cases h1 : 8 ≤ l.length
  · rw [if_pos h1] at h; cases h
  rw [if_neg h1] at h
  cases h2 : l.any id with
  | true => rw [h2] at h; cases h
  | false =>
    refine ⟨by omega, ?_⟩
    apply List.ext_getElem
    · simp
    · intro i q1 q2
      rw [List.any_eq_false] at h2
      have := h2 l[i] (List.getElem_mem _)
      simpa using this
theorem packed_back (b : List Nat) (bs : List Bool) (pad : Nat) (hs : ∀ c ∈ b, c < 256) (hp : pad < 8) (h : bitsAll b = bs ++ List.replicate pad false) : packed bs = b := by
  obtain ⟨pad', e, hp'⟩ := bitsAll_packed bs
  have hl := congrArg List.length h
  rw [bitsAll_length, List.length_append, List.length_replicate] at hl
  have hl' := congrArg List.length e
  rw [bitsAll_length, List.length_append, List.length_replicate] at hl'
  obtain rfl : pad' = pad := by omega
  have hlen : (packed bs).length = b.length := by omega
  rw [← bytes_of_bitsAll (packed bs) (packed_small bs), ← bytes_of_bitsAll b hs, e, h, hlen]

/-- There: part by part. -/
theorem qB_front (n u : Nat) (rest : List Bool) (hn : n ≤ 64) (hu : u < 2 ^ n) : qB n (0, bitsOf u n ++ rest) = (u, (0, rest)) := by
  unfold qB
  rw [if_pos rfl]
  simp only
  rw [bitsVal_front u n rest hn hu, bitsErr_front u n rest hn, bitsRest_front u n rest hn]
theorem qN_front (u : Nat) (rest : List Bool) (hu : u < 2 ^ 64) : qN (0, natBits u ++ rest) = (u, (0, rest)) := by
  unfold qN
  rw [if_pos rfl]
  simp only
  rw [natValL_front u hu, natErrL_front u hu, natRestL_front u hu]
theorem zigN_lt64 (n : Int) (h : -9223372036854775808 ≤ n ∧ n ≤ 9223372036854775807) : zigN n < 2 ^ 64 := by
  unfold zigN; split <;> omega
theorem qI_front (n : Int) (rest : List Bool) (h : -9223372036854775808 ≤ n ∧ n ≤ 9223372036854775807) : qI (0, natBits (zigN n) ++ rest) = (n, (0, rest)) := by
  have hz := zigN_lt64 n h
  unfold qI
  rw [if_pos rfl]
  simp only
  rw [natErrL_front _ hz, natRestL_front _ hz, numValL, natErrL_front _ hz, if_pos rfl, natValL_front _ hz, numOf_zigN]
theorem qT_front (s : ByteArray) (rest : List Bool) (h : s.size < 2 ^ 64) : qT (0, textBits s.data.toList ++ rest) = (s, (0, rest)) := by
  have hl : s.data.toList.length < 2 ^ 64 := by rw [← size_of_data]; exact h
  unfold qT
  rw [if_pos rfl]
  simp only
  rw [textStr_front s rest h, textErrL_front _ _ hl, textRestL_front _ _ hl]
theorem ba_empty {s : ByteArray} (h : s.size = 0) : s = ⟨#[]⟩ := by
  obtain ⟨d⟩ := s
  have : d.size = 0 := h
  rw [Array.size_eq_zero_iff.1 this]
/-- An attribute that may be, in the ranges of its types. -/
def AtIn (x : At) : Prop := (x.name.size ≤ 32 ∧ ((x.k = 1 ∧ x.s.size = 0) ∨ (x.k = 2 ∧ x.n = 0 ∧ x.s.size ≤ 64))) ∧ -9223372036854775808 ≤ x.n ∧ x.n ≤ 9223372036854775807
theorem qAttr_front (x : At) (rest : List Bool) (h : AtIn x) : qAttr (0, atBits x ++ rest) = (x, (0, rest)) := by
  obtain ⟨nm, k, n, s⟩ := x
  obtain ⟨⟨h1, h2⟩, h3⟩ := h
  simp only at h1 h2 h3
  rcases h2 with ⟨rfl, hs⟩ | ⟨rfl, rfl, hs⟩
  · obtain rfl := ba_empty hs
    have e : atBits ⟨nm, 1, n, ⟨#[]⟩⟩ ++ rest = textBits nm.data.toList ++ (bitsOf 1 2 ++ (natBits (zigN n) ++ rest)) := by simp [atBits, valBitsA]
    have q1 : qName (0, atBits ⟨nm, 1, n, ⟨#[]⟩⟩ ++ rest) = (nm, (0, bitsOf 1 2 ++ (natBits (zigN n) ++ rest))) := by rw [e]; exact qT_front nm _ (by omega)
    have q2 : qKind (0, atBits ⟨nm, 1, n, ⟨#[]⟩⟩ ++ rest) = (1, (0, natBits (zigN n) ++ rest)) := by unfold qKind; rw [q1]; exact qB_front 2 1 _ (by omega) (by decide)
    unfold qAttr qVal
    rw [q1, q2]
    simp only
    rw [if_neg (by decide), if_pos trivial, qI_front n rest h3]
  · have e : atBits ⟨nm, 2, 0, s⟩ ++ rest = textBits nm.data.toList ++ (bitsOf 2 2 ++ (textBits s.data.toList ++ rest)) := by simp [atBits, valBitsA]
    have q1 : qName (0, atBits ⟨nm, 2, 0, s⟩ ++ rest) = (nm, (0, bitsOf 2 2 ++ (textBits s.data.toList ++ rest))) := by rw [e]; exact qT_front nm _ (by omega)
    have q2 : qKind (0, atBits ⟨nm, 2, 0, s⟩ ++ rest) = (2, (0, textBits s.data.toList ++ rest)) := by unfold qKind; rw [q1]; exact qB_front 2 2 _ (by omega) (by decide)
    unfold qAttr qVal
    rw [q1, q2]
    simp only
    rw [if_neg (by decide), if_neg (by decide), if_pos trivial, qT_front s rest (by omega)]
theorem qGo_front (xs : List At) (rest : List Bool) (h : ∀ x ∈ xs, AtIn x) : ∀ k, k ≤ xs.length → qGo (0, xs.flatMap atBits ++ rest) k = (xs.take k, (0, (xs.drop k).flatMap atBits ++ rest))
  | 0, _ => by simp [qGo]
  | k + 1, hk => by
    have ih := qGo_front xs rest h k (by omega)
    have hd : xs.drop k = xs[k] :: xs.drop (k + 1) := List.drop_eq_getElem_cons (by omega)
    have hq : qAttr (0, (xs.drop k).flatMap atBits ++ rest) = (xs[k], (0, (xs.drop (k + 1)).flatMap atBits ++ rest)) := by
      rw [hd, List.flatMap_cons, List.append_assoc]
      exact qAttr_front _ _ (h _ (List.getElem_mem _))
    show ((qGo _ k).1 ++ [(qAttr (qGo _ k).2).1], (qAttr (qGo _ k).2).2) = _
    rw [ih]
    simp only
    rw [hq, List.take_succ_eq_append_getElem (by omega)]
theorem qAttrs_front (xs : List At) (rest : List Bool) (h : ∀ x ∈ xs, AtIn x) (hl : xs.length ≤ 8) : qAttrs (0, bitsOf xs.length 4 ++ (xs.flatMap atBits ++ rest)) = (xs, (0, rest)) := by
  have q1 : qMany (0, bitsOf xs.length 4 ++ (xs.flatMap atBits ++ rest)) = (xs.length, (0, xs.flatMap atBits ++ rest)) := qB_front 4 _ _ (by omega) (by omega)
  have q2 := qGo_front xs rest h xs.length (Nat.le_refl _)
  unfold qAttrs
  rw [q1]
  simp only
  rw [if_neg (by omega), q2]
  simp
theorem wrap_nat (n : Int) (h0 : 0 ≤ n) (h : n ≤ 1099511627776) : wrap64 ((n.toNat : Nat) : Int) = n := by unfold wrap64; omega
theorem qEvent_front (e : Ev) (rest : List Bool) (h : EvOk e) (hn : ∀ x ∈ e.ats, -9223372036854775808 ≤ x.n ∧ x.n ≤ 9223372036854775807) : qEvent (0, evBits e ++ rest) = (e, (0, rest)) := by
  obtain ⟨src, seq, time, ty, ats⟩ := e
  obtain ⟨a0, a1, b0, b1, c0, c1, d, f, g⟩ := h
  simp only at a0 a1 b0 b1 c0 c1 d f g hn
  have e1 : evBits ⟨src, seq, time, ty, ats⟩ ++ rest = bitsOf src.toNat 4 ++ (natBits seq.toNat ++ (natBits time.toNat ++ (textBits ty.data.toList ++ (bitsOf ats.length 4 ++ (ats.flatMap atBits ++ rest))))) := by simp [evBits, headE]
  have q1 : qSrc (0, evBits ⟨src, seq, time, ty, ats⟩ ++ rest) = (src.toNat, (0, natBits seq.toNat ++ (natBits time.toNat ++ (textBits ty.data.toList ++ (bitsOf ats.length 4 ++ (ats.flatMap atBits ++ rest)))))) := by
    rw [e1]; exact qB_front 4 _ _ (by omega) (by omega)
  have q2 : qSeq (0, evBits ⟨src, seq, time, ty, ats⟩ ++ rest) = (seq.toNat, (0, natBits time.toNat ++ (textBits ty.data.toList ++ (bitsOf ats.length 4 ++ (ats.flatMap atBits ++ rest))))) := by
    unfold qSeq; rw [q1]; exact qN_front _ _ (by omega)
  have q3 : qTime (0, evBits ⟨src, seq, time, ty, ats⟩ ++ rest) = (time.toNat, (0, textBits ty.data.toList ++ (bitsOf ats.length 4 ++ (ats.flatMap atBits ++ rest)))) := by
    unfold qTime; rw [q2]; exact qN_front _ _ (by omega)
  have q4 : qTy (0, evBits ⟨src, seq, time, ty, ats⟩ ++ rest) = (ty, (0, bitsOf ats.length 4 ++ (ats.flatMap atBits ++ rest))) := by
    unfold qTy; rw [q3]; exact qT_front _ _ (by omega)
  have q5 : qAts (0, evBits ⟨src, seq, time, ty, ats⟩ ++ rest) = (ats, (0, rest)) := by
    unfold qAts; rw [q4]; exact qAttrs_front _ _ (fun x hx => ⟨g x hx, hn x hx⟩) f
  unfold qEvent
  rw [q1, q2, q3, q4, q5]
  simp only
  rw [wrap_nat seq b0 b1, wrap_nat time c0 c1, Int.toNat_of_nonneg a0]
/-- What is written is read as it was. -/
theorem parse_there (e : Ev) (b : List Nat) (hc : ckE e = 0) (hn : ∀ x ∈ e.ats, -9223372036854775808 ≤ x.n ∧ x.n ≤ 9223372036854775807) (hb : b = packed (evBits e)) : psErr (bitsAll b) = 0 ∧ psEv (bitsAll b) = e := by
  subst hb
  obtain ⟨pad, hp, hp8⟩ := bitsAll_packed (evBits e)
  have hq := qEvent_front e (List.replicate pad false) (EvOk.of hc) hn
  have ht : tkErr (evBits e ++ List.replicate pad false) = 0 := by rw [tkErr_ck (by rw [hq]), hq]; exact hc
  rw [hp]
  have h0 : psErr (evBits e ++ List.replicate pad false) = 0 := by
    rw [psErr_end ht, tkRest_ok ht, hq]
    show ((endErrL (List.replicate pad false) : Nat) : Int) = 0
    rw [endErrL_pad pad hp8]; rfl
  exact ⟨h0, by rw [psEv_ok h0, tkEv_ok ht, hq]⟩

/-- And back: part by part. -/
theorem qB_back {n : Nat} {s : Qs} (hn : n ≤ 64) (h : (qB n s).2.1 = 0) : s.1 = 0 ∧ s.2 = bitsOf (qB n s).1 n ++ (qB n s).2.2 := by
  by_cases h0 : s.1 = 0
  · refine ⟨h0, ?_⟩
    have e : qB n s = (bitsVal s.2 n, (bitsErr n s.2.length, bitsRest s.2 n)) := by unfold qB; rw [if_pos h0]
    rw [e] at h ⊢
    simp only at h ⊢
    have hl : n ≤ s.2.length := by
      refine Decidable.byContradiction fun hc => ?_
      rw [bitsErr_ends (n := (n : Int)) (by omega) (by omega)] at h
      cases h
    unfold bitsVal bitsRest
    rw [h, if_pos rfl, if_pos rfl]
    show s.2 = bitsOf (valBits (s.2.take n)) n ++ s.2.drop n
    rw [bitsOf_valBits' _ n (by rw [List.length_take]; omega), List.take_append_drop]
  · rw [qB_err h0] at h; exact absurd h h0
theorem qN_back {s : Qs} (h : (qN s).2.1 = 0) : s.1 = 0 ∧ s.2 = natBits (qN s).1 ++ (qN s).2.2 ∧ (qN s).1 < 2 ^ 64 := by
  by_cases h0 : s.1 = 0
  · have e : qN s = (natValL s.2, (natErrL s.2, natRestL s.2)) := by unfold qN; rw [if_pos h0]
    rw [e] at h ⊢
    exact ⟨h0, nat_back s.2 h⟩
  · rw [qN_err h0] at h; exact absurd h h0
theorem zigN_numOf (u : Nat) : zigN (numOf u) = u := by
  unfold zigN numOf
  by_cases h : u % 2 = 0
  · rw [if_pos h, if_pos (by omega)]; omega
  · rw [if_neg h, if_neg (by omega)]; omega
theorem qI_back {s : Qs} (h : (qI s).2.1 = 0) : s.1 = 0 ∧ s.2 = natBits (zigN (qI s).1) ++ (qI s).2.2 := by
  by_cases h0 : s.1 = 0
  · have e : qI s = (numValL s.2, (natErrL s.2, natRestL s.2)) := by unfold qI; rw [if_pos h0]
    rw [e] at h ⊢
    refine ⟨h0, ?_⟩
    show s.2 = natBits (zigN (numValL s.2)) ++ natRestL s.2
    have h' : natErrL s.2 = 0 := h
    unfold numValL
    rw [if_pos h', zigN_numOf]
    exact (nat_back s.2 h').1
  · rw [qI_err h0] at h; exact absurd h h0
theorem text_data (l : List Bool) : (textStr l).data.toList = (textBytesL l).map UInt8.ofNat := by
  unfold textStr
  rw [strOfNums_data, List.map_map]
  apply List.map_congr_left
  intro c _
  simp
theorem text_back (l : List Bool) (h : textErrL l = 0) : l = textBits (textStr l).data.toList ++ textRestL l := by
  have h0 := h
  unfold textErrL at h
  split at h
  · rename_i h1; exact absurd h h1
  · rename_i h1
    split at h
    · cases h
    · rename_i h2
      obtain ⟨n1, n2⟩ := nat_back l (Decidable.not_not.1 h1)
      have hb := byteBits_back (natRestL l) (natValL l) (by omega)
      have ht : textBytesL l = (List.range (natValL l)).map (chunk (natRestL l)) := by unfold textBytesL; rw [if_pos h0]
      have hr : textRestL l = (natRestL l).drop (8 * natValL l) := by unfold textRestL; rw [if_pos h0]
      have hlen : (textBytesL l).length = natValL l := by rw [ht]; simp
      unfold textBits
      rw [text_data, List.length_map, hlen, hr, List.flatMap_map]
      have hf : ((textBytesL l).flatMap fun c => bitsOf (UInt8.ofNat c).toNat 8) = byteBits (textBytesL l) := by
        unfold byteBits
        have key : ∀ m : List Nat, (∀ c ∈ m, c < 256) → (m.flatMap fun c => bitsOf (UInt8.ofNat c).toNat 8) = m.flatMap fun c => bitsOf c 8 := fun m hm => by
          induction m with
          | nil => rfl
          | cons c r ih =>
            rw [List.flatMap_cons, List.flatMap_cons, ih (fun x hx => hm x (List.mem_cons_of_mem _ hx))]
            have hc : c < 256 := hm c (List.mem_cons_self ..)
            rw [show (UInt8.ofNat c).toNat = c by simp; omega]
        refine key _ (fun c hc => ?_)
        rw [ht] at hc
        obtain ⟨i, _, rfl⟩ := List.mem_map.1 hc
        exact chunk_lt _ _
      rw [hf, List.append_assoc, ht, ← hb]
      exact n1
theorem qT_back {s : Qs} (h : (qT s).2.1 = 0) : s.1 = 0 ∧ s.2 = textBits (qT s).1.data.toList ++ (qT s).2.2 := by
  by_cases h0 : s.1 = 0
  · have e : qT s = (textStr s.2, (textErrL s.2, textRestL s.2)) := by unfold qT; rw [if_pos h0]
    rw [e] at h ⊢
    exact ⟨h0, text_back s.2 h⟩
  · rw [qT_err h0] at h; exact absurd h h0
theorem qAttr_back {s : Qs} (h : (qAttr s).2.1 = 0) : s.1 = 0 ∧ s.2 = atBits (qAttr s).1 ++ (qAttr s).2.2 := by
  unfold qAttr at h ⊢
  by_cases hk : (qKind s).2.1 ≠ 0
  · rw [if_pos hk] at h; exact absurd h hk
  rw [if_neg hk] at h ⊢
  obtain ⟨k1, k2⟩ := qB_back (n := 2) (s := (qName s).2) (by omega) (show (qB 2 (qName s).2).2.1 = 0 from Decidable.not_not.1 hk)
  obtain ⟨n1, n2⟩ := qT_back (s := s) k1
  have e1 : qB 2 (qName s).2 = qKind s := rfl
  have e2 : qT s = qName s := rfl
  rw [e1] at k2
  rw [e2] at n2
  refine ⟨n1, ?_⟩
  unfold qVal at h ⊢
  by_cases h1 : (qKind s).1 = 1
  · rw [if_pos h1] at h ⊢
    obtain ⟨_, v⟩ := qI_back (s := (qKind s).2) h
    rw [h1] at k2
    unfold atBits valBitsA
    simp only
    rw [if_pos trivial, List.append_assoc, List.append_assoc, ← v]
    show s.2 = textBits (qName s).1.data.toList ++ (bitsOf 1 2 ++ (qKind s).2.2)
    rw [← k2]; exact n2
  · rw [if_neg h1] at h ⊢
    by_cases h2 : (qKind s).1 = 2
    · rw [if_pos h2] at h ⊢
      obtain ⟨_, v⟩ := qT_back (s := (qKind s).2) h
      rw [h2] at k2
      unfold atBits valBitsA
      simp only
      rw [if_neg (by decide), List.append_assoc, List.append_assoc, ← v]
      show s.2 = textBits (qName s).1.data.toList ++ (bitsOf 2 2 ++ (qKind s).2.2)
      rw [← k2]; exact n2
    · rw [if_neg h2] at h; cases h
theorem qGo_back (s : Qs) : ∀ k, (qGo s k).2.1 = 0 → s.1 = 0 ∧ s.2 = (qGo s k).1.flatMap atBits ++ (qGo s k).2.2
  | 0, h => ⟨h, by simp [qGo]⟩
  | k + 1, h => by
    obtain ⟨a1, a2⟩ := qAttr_back (s := (qGo s k).2) h
    obtain ⟨b1, b2⟩ := qGo_back s k a1
    refine ⟨b1, ?_⟩
    show s.2 = ((qGo s k).1 ++ [(qAttr (qGo s k).2).1]).flatMap atBits ++ (qAttr (qGo s k).2).2.2
    rw [List.flatMap_append, List.append_assoc, List.flatMap_cons, List.flatMap_nil, List.append_nil, ← a2]
    exact b2
theorem qAttrs_back {s : Qs} (h : (qAttrs s).2.1 = 0) : s.1 = 0 ∧ s.2 = bitsOf (qAttrs s).1.length 4 ++ ((qAttrs s).1.flatMap atBits ++ (qAttrs s).2.2) := by
  unfold qAttrs at h ⊢
  by_cases h8 : 8 < (qMany s).1
  · rw [if_pos h8] at h; cases h
  rw [if_neg h8] at h ⊢
  by_cases hg : (qGo (qMany s).2 (qMany s).1).2.1 ≠ 0
  · rw [if_pos hg] at h; exact absurd h hg
  rw [if_neg hg]
  obtain ⟨g1, g2⟩ := qGo_back (qMany s).2 (qMany s).1 (Decidable.not_not.1 hg)
  obtain ⟨m1, m2⟩ := qB_back (n := 4) (s := s) (by omega) (show (qB 4 s).2.1 = 0 from g1)
  refine ⟨m1, ?_⟩
  rw [qGo_len, ← g2]
  exact m2
theorem wrap_back (u : Nat) (hu : u < 2 ^ 64) (h0 : 0 ≤ wrap64 (u : Int)) (h : wrap64 (u : Int) ≤ 1099511627776) : (wrap64 (u : Int)).toNat = u := by
  unfold wrap64 at *; omega
theorem qEvent_back {s : Qs} (h : (qEvent s).2.1 = 0) (hc : ckE (qEvent s).1 = 0) : s.2 = evBits (qEvent s).1 ++ (qEvent s).2.2 := by
  obtain ⟨a1, a2⟩ := qAttrs_back (s := (qTy s).2) h
  obtain ⟨b1, b2⟩ := qT_back (s := (qTime s).2) a1
  obtain ⟨c1, c2, c3⟩ := qN_back (s := (qSeq s).2) b1
  obtain ⟨d1, d2, d3⟩ := qN_back (s := (qSrc s).2) c1
  obtain ⟨e1, e2⟩ := qB_back (n := 4) (s := s) (by omega) d1
  have ok := EvOk.of hc
  have f1 : (wrap64 ((qSeq s).1 : Nat)).toNat = (qSeq s).1 := wrap_back _ d3 ok.seq0 ok.seq
  have f2 : (wrap64 ((qTime s).1 : Nat)).toNat = (qTime s).1 := wrap_back _ c3 ok.time0 ok.time
  have g : evBits (qEvent s).1 ++ (qEvent s).2.2 = bitsOf (qSrc s).1 4 ++ (natBits (qSeq s).1 ++ (natBits (qTime s).1 ++ (textBits (qTy s).1.data.toList ++ (bitsOf (qAts s).1.length 4 ++ ((qAts s).1.flatMap atBits ++ (qAts s).2.2))))) := by
    show (bitsOf ((qSrc s).1 : Int).toNat 4 ++ natBits (wrap64 ((qSeq s).1 : Nat)).toNat ++ natBits (wrap64 ((qTime s).1 : Nat)).toNat ++ textBits (qTy s).1.data.toList ++ bitsOf (qAts s).1.length 4) ++ (qAts s).1.flatMap atBits ++ (qAts s).2.2 = _
    rw [f1, f2, Int.toNat_natCast]; simp
  rw [g]
  have a2' : (qTy s).2.2 = bitsOf (qAts s).1.length 4 ++ ((qAts s).1.flatMap atBits ++ (qAts s).2.2) := a2
  have b2' : (qTime s).2.2 = textBits (qTy s).1.data.toList ++ (qTy s).2.2 := b2
  have c2' : (qSeq s).2.2 = natBits (qTime s).1 ++ (qTime s).2.2 := c2
  have d2' : (qSrc s).2.2 = natBits (qSeq s).1 ++ (qSeq s).2.2 := d2
  have e2' : s.2 = bitsOf (qSrc s).1 4 ++ (qSrc s).2.2 := e2
  rw [← a2', ← b2', ← c2', ← d2']
  exact e2'
/-- What is read is written in just these bytes. -/
theorem parse_back (b : List Nat) (hs : ∀ c ∈ b, c < 256) (h : psErr (bitsAll b) = 0) : packed (evBits (psEv (bitsAll b))) = b ∧ ckE (psEv (bitsAll b)) = 0 := by
  obtain ⟨h1, h2⟩ := psErr_ok h
  obtain ⟨h3, h4⟩ := tkErr_ok h1
  rw [psEv_ok h, tkEv_ok h1]
  rw [tkRest_ok h1] at h2
  obtain ⟨p1, p2⟩ := endErrL_zero h2
  have hq : bitsAll b = evBits (qEvent (0, bitsAll b)).1 ++ (qEvent (0, bitsAll b)).2.2 := qEvent_back (s := (0, bitsAll b)) h3 h4
  refine ⟨packed_back b _ (qEvent (0, bitsAll b)).2.2.length hs p1 ?_, h4⟩
  rw [← p2]; exact hq
/-- Numbers that are read have place. -/
theorem qI_wf (s : Qs) : (Lit.int .i64 (qI s).1).wf = true := by
  unfold qI; split
  · exact numValL_wf _
  · rfl
theorem qAttr_wf (s : Qs) : (Lit.int .i64 (qAttr s).1.n).wf = true := by
  unfold qAttr qVal
  split
  · rfl
  · split
    · exact qI_wf _
    · split <;> rfl
theorem qGo_wf (s : Qs) : ∀ k, ∀ x ∈ (qGo s k).1, (Lit.int .i64 x.n).wf = true
  | 0, x, hx => by cases hx
  | k + 1, x, hx => by
    rcases List.mem_append.1 (show x ∈ (qGo s k).1 ++ [(qAttr (qGo s k).2).1] from hx) with hx | hx
    · exact qGo_wf s k x hx
    · rw [List.mem_singleton.1 hx]; exact qAttr_wf _
theorem psEv_wf (l : List Bool) : ∀ x ∈ (psEv l).ats, (Lit.int .i64 x.n).wf = true := by
  intro x hx
  by_cases h : psErr l = 0
  · rw [psEv_ok h, tkEv_ok (psErr_ok h).1] at hx
    have hx' : x ∈ (qAttrs (qTy (0, l)).2).1 := hx
    unfold qAttrs at hx'
    split at hx'
    · cases hx'
    · split at hx'
      · cases hx'
      · exact qGo_wf _ _ x hx'
  · rw [psEv_no h] at hx; cases hx
theorem psEv_ranges (l : List Bool) (hl : l.length ≤ 1125899906842624) : (∀ x ∈ (psEv l).ats, x.name.size ≤ maxLen ∧ x.s.size ≤ maxLen) ∧ (psEv l).ats.length * 48 ≤ 140737488355328 ∧ (psEv l).ty.size ≤ maxLen := by
  have hw : 8 * (qEvent (0, l)).1.ty.size ≤ l.length ∧ (∀ x ∈ (qEvent (0, l)).1.ats, 8 * x.name.size ≤ l.length ∧ 8 * x.s.size ≤ l.length) ∧ (qEvent (0, l)).1.ats.length ≤ 8 ∧ (qEvent (0, l)).2.2.length ≤ l.length := qEvent_wide (0, l)
  by_cases h : psErr l = 0
  · rw [psEv_ok h, tkEv_ok (psErr_ok h).1]
    exact ⟨fun x hx => by have := hw.2.1 x hx; unfold maxLen; omega, by omega, by unfold maxLen; omega⟩
  · rw [psEv_no h]; exact ⟨fun x hx => (by cases hx), by decide, by decide⟩
end Go.Proofs.Ytiljekpfkkocnaa
