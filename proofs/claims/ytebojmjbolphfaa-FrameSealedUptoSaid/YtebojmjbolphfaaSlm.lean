/- Plain facts: what is decoded of sealed bytes is encoded as just these. No program here. -/
import Derived.Test.YtebojmjbolphfaaBkm
import Derived.Test.YtebojmjbolphfaaFen2
namespace Go.Proofs.Ytebojmjbolphfaa
open Go Crc

theorem bitsOf_valBits (t : List Bool) : bitsOf (valBits t) t.length = t := by
  apply List.ext_getElem
  · rw [bitsOf_length]
  · intro i h1 h2
    rw [bitsOf_getElem, valBits_testBit t i h2]
    simp [List.getD, h2]
theorem bitsOf_valBits' (t : List Bool) (n : Nat) (h : t.length = n) : bitsOf (valBits t) n = t := by subst h; exact bitsOf_valBits t
theorem bitsOf_low (x z : Nat) : bitsOf (x % 2 ^ z) z = bitsOf x z := by
  apply List.ext_getElem
  · simp [bitsOf]
  · intro i h1 h2
    rw [bitsOf_length] at h2
    rw [bitsOf_getElem, bitsOf_getElem, Nat.testBit_mod_two_pow, decide_eq_true (by omega : z - 1 - i < z), Bool.true_and]
theorem takeWhile_take (l : List Bool) : l.take ((l.takeWhile (fun b => !b)).length) = List.replicate ((l.takeWhile (fun b => !b)).length) false := by
  induction l with
  | nil => rfl
  | cons a l ih =>
    cases a with
    | true => rfl
    | false => simp only [List.takeWhile_cons, Bool.not_false, if_true, List.length_cons, List.take_succ_cons, List.replicate_succ, ih]
theorem takeWhile_next (l : List Bool) (h : (l.takeWhile (fun b => !b)).length < l.length) : l[(l.takeWhile (fun b => !b)).length] = true := by
  induction l with
  | nil => simp at h
  | cons a l ih =>
    cases a with
    | true => simp
    | false =>
      simp only [List.takeWhile_cons, Bool.not_false, if_true, List.length_cons] at h ⊢
      have := ih (by omega)
      simpa using this
theorem zeros_split (l : List Bool) (h64 : zerosL l ≤ 64) (hl : zerosL l < l.length) : l = List.replicate (zerosL l) false ++ (true :: l.drop (zerosL l + 1)) := by
  have h1 := takeWhile_take (l.take 65)
  have hlt : ((l.take 65).takeWhile (fun b => !b)).length < (l.take 65).length := by
    have : zerosL l = ((l.take 65).takeWhile (fun b => !b)).length := rfl
    rw [List.length_take]; omega
  have h2 := takeWhile_next (l.take 65) hlt
  rw [show ((l.take 65).takeWhile (fun b => !b)).length = zerosL l from rfl] at h1
  rw [List.take_take, show min (zerosL l) 65 = zerosL l by omega] at h1
  have h3 : l[zerosL l] = true := by
    have : (l.take 65)[zerosL l]'(by rw [List.length_take]; omega) = true := h2
    rwa [List.getElem_take] at this
  conv => lhs; rw [← List.take_append_drop (zerosL l) l, h1, List.drop_eq_getElem_cons hl, h3]
theorem natErrL_zero {l : List Bool} (h : natErrL l = 0) : zerosL l ≤ 64 ∧ 2 * zerosL l + 1 ≤ l.length ∧ (zerosL l = 64 → valBits ((l.drop (zerosL l + 1)).take (zerosL l)) = 0) := by
  unfold natErrL at h
  by_cases h1 : 64 < zerosL l
  · rw [if_pos h1] at h; cases h
  rw [if_neg h1] at h
  by_cases h2 : l.length < 2 * zerosL l + 1
  · rw [if_pos h2] at h; cases h
  rw [if_neg h2] at h
  by_cases h3 : zerosL l = 64 ∧ valBits ((l.drop (zerosL l + 1)).take (zerosL l)) ≠ 0
  · rw [if_pos h3] at h; cases h
  exact ⟨by omega, by omega, fun h4 => Decidable.byContradiction fun h5 => h3 ⟨h4, h5⟩⟩
/-- What was read as a natural number is its code. -/
theorem nat_back (l : List Bool) (h : natErrL l = 0) : l = natBits (natValL l) ++ natRestL l ∧ natValL l < 2 ^ 64 := by
  obtain ⟨h1, h2, h3⟩ := natErrL_zero h
  obtain ⟨z, hz⟩ : ∃ z, z = zerosL l := ⟨_, rfl⟩
  have hs := zeros_split l h1 (by omega)
  have ht : ((l.drop (zerosL l + 1)).take (zerosL l)).length = zerosL l := by rw [List.length_take, List.length_drop]; omega
  have hv := valBits_lt ((l.drop (zerosL l + 1)).take (zerosL l))
  rw [ht] at hv
  have hb := bitsOf_valBits' ((l.drop (zerosL l + 1)).take (zerosL l)) (zerosL l) ht
  have hr : natRestL l = l.drop (2 * zerosL l + 1) := by unfold natRestL; rw [if_pos h]
  have hn : natValL l = 2 ^ zerosL l + valBits ((l.drop (zerosL l + 1)).take (zerosL l)) - 1 := by unfold natValL; rw [if_pos h]
  have hd : l.drop (zerosL l + 1) = (l.drop (zerosL l + 1)).take (zerosL l) ++ l.drop (2 * zerosL l + 1) := by
    conv => lhs; rw [← List.take_append_drop (zerosL l) (l.drop (zerosL l + 1)), List.drop_drop]
    rw [show zerosL l + 1 + zerosL l = 2 * zerosL l + 1 by omega]
  rw [hr, hn]
  rw [← hz] at h1 h2 h3 hs ht hv hb hr hn hd ⊢
  obtain ⟨t, htt⟩ : ∃ t, t = (l.drop (z + 1)).take z := ⟨_, rfl⟩
  rw [← htt] at hb hv hd h3 ⊢
  have hp : 0 < 2 ^ z := Nat.two_pow_pos z
  have hu : 2 ^ z + valBits t - 1 + 1 = 2 ^ z + valBits t := by omega
  have ha : ahd (2 ^ z + valBits t - 1) = z := by
    unfold ahd
    rw [hu]
    rw [Nat.log2_eq_iff (by omega)]
    rw [Nat.pow_succ]
    omega
  constructor
  · unfold natBits
    rw [ha, hu, bitsOf_succ, testBit_top _ _ (by omega) (by rw [Nat.pow_succ]; omega), ← bitsOf_low, Nat.add_mod_left, Nat.mod_eq_of_lt hv, hb]
    conv => lhs; rw [hs, hd]
    simp
  · by_cases h64 : z = 64
    · have := h3 h64
      rw [this, h64]; decide
    · have : 2 ^ z ≤ 2 ^ 63 := Nat.pow_le_pow_right (by omega) (by omega)
      omega
theorem body_back (l : List Bool) (M : Nat) (h : 8 * M ≤ l.length) : l = bodyBits ((List.range M).map (chunk l)) ++ l.drop (8 * M) := by
  induction M with
  | zero => simp [bodyBits]
  | succ M ih =>
    have h1 := ih (by omega)
    have h2 : l.drop (8 * M) = bitsOf (chunk l M) 8 ++ l.drop (8 * (M + 1)) := by
      have hl : ((l.drop (8 * M)).take 8).length = 8 := by simp; omega
      unfold chunk
      rw [bitsOf_valBits' _ 8 hl]
      conv => lhs; rw [← List.take_append_drop 8 (l.drop (8 * M)), List.drop_drop]
      rw [show 8 * M + 8 = 8 * (M + 1) by omega]
    rw [List.range_succ, List.map_append]
    unfold bodyBits at h1 ⊢
    rw [List.flatMap_append]
    conv => lhs; rw [h1, h2]
    simp
/-- And back: what was read as a datagram is its form, and what is left. -/
theorem dg_back (l : List Bool) (h : dgErr l = 0) :
    l = formBits (dgOf l).f (dgOf l).t (dgOf l).k (dgOf l).s (dgOf l).a (dgOf l).x ++ dgRest l ∧ (dgOf l).s < 2 ^ 64 ∧ (dgOf l).a < 2 ^ 64 := by
  have hk := (rEnd_ok l h).2.2.2.2.2.1
  have h0 := h
  unfold dgErr at h
  by_cases h1 : l.length < 2
  · rw [if_pos h1] at h; cases h
  rw [if_neg h1] at h
  by_cases h2 : kdB (valBits (l.take 2)) = false
  · rw [if_pos h2] at h; cases h
  rw [if_neg h2] at h
  by_cases h3 : l.length < 10
  · rw [if_pos h3] at h; cases h
  rw [if_neg h3] at h
  by_cases h4 : natErrL (l.drop 10) ≠ 0
  · rw [if_pos h4] at h; exact absurd h h4
  rw [if_neg h4] at h
  obtain ⟨n1, n2⟩ := nat_back (l.drop 10) (Decidable.not_not.1 h4)
  have hhead : l = headBits (dgOf l).f (dgOf l).t (dgOf l).k (dgOf l).a ++ natRestL (l.drop 10) := by
    have e1 : bitsOf (valBits (l.take 2)) 2 = l.take 2 := bitsOf_valBits' _ 2 (by simp; omega)
    have e2 : bitsOf (valBits ((l.drop 2).take 4)) 4 = (l.drop 2).take 4 := bitsOf_valBits' _ 4 (by simp; omega)
    have e3 : bitsOf (valBits ((l.drop 6).take 4)) 4 = (l.drop 6).take 4 := bitsOf_valBits' _ 4 (by simp; omega)
    have e4 : l = l.take 2 ++ ((l.drop 2).take 4 ++ ((l.drop 6).take 4 ++ l.drop 10)) := by
      conv => lhs; rw [← List.take_append_drop 2 l, ← List.take_append_drop 4 (l.drop 2), List.drop_drop, ← List.take_append_drop 4 (l.drop (2 + 4)), List.drop_drop]
    have e5 : headBits (dgOf l).f (dgOf l).t (dgOf l).k (dgOf l).a ++ natRestL (l.drop 10) = l.take 2 ++ ((l.drop 2).take 4 ++ ((l.drop 6).take 4 ++ (natBits (natValL (l.drop 10)) ++ natRestL (l.drop 10)))) := by
      unfold headBits
      show [] ++ bitsOf (valBits (l.take 2)) 2 ++ bitsOf (valBits ((l.drop 2).take 4)) 4 ++ bitsOf (valBits ((l.drop 6).take 4)) 4 ++ natBits (natValL (l.drop 10)) ++ natRestL (l.drop 10) = _
      rw [e1, e2, e3]; simp
    rw [e5, ← n1]; exact e4
  by_cases h5 : valBits (l.take 2) ≠ 1
  · have hk2 : (dgOf l).k = 2 := by
      rcases hk with hk | hk
      · exact absurd hk h5
      · exact hk
    have hs0 := ((rEnd_ok l h0).2.2.2.2.2.2.2 hk2).1
    refine ⟨?_, by rw [hs0]; decide, n2⟩
    have hr : dgRest l = natRestL (l.drop 10) := by unfold dgRest; rw [if_neg h5]
    unfold formBits
    rw [if_neg (show ¬ (dgOf l).k = 1 from h5), hr]
    exact hhead
  rw [if_neg h5] at h
  have h5' : valBits (l.take 2) = 1 := Decidable.not_not.1 h5
  by_cases h6 : natErrL (natRestL (l.drop 10)) ≠ 0
  · rw [if_pos h6] at h; exact absurd h h6
  rw [if_neg h6] at h
  by_cases h7 : natErrL (natRestL (natRestL (l.drop 10))) ≠ 0
  · rw [if_pos h7] at h; exact absurd h h7
  rw [if_neg h7] at h
  by_cases h8 : 16384 < natValL (natRestL (natRestL (l.drop 10)))
  · rw [if_pos h8] at h; cases h
  rw [if_neg h8] at h
  by_cases h9 : (natRestL (natRestL (natRestL (l.drop 10)))).length < 8 * natValL (natRestL (natRestL (l.drop 10)))
  · rw [if_pos h9] at h; cases h
  obtain ⟨m1, m2⟩ := nat_back _ (Decidable.not_not.1 h6)
  obtain ⟨k1, k2⟩ := nat_back _ (Decidable.not_not.1 h7)
  have b1 := body_back (natRestL (natRestL (natRestL (l.drop 10)))) (natValL (natRestL (natRestL (l.drop 10)))) (by omega)
  have hss : (dgOf l).s = natValL (natRestL (l.drop 10)) := by
    show (if valBits (l.take 2) = 1 then _ else 0) = _
    rw [if_pos h5']
  have hxs : (dgOf l).x = (List.range (natValL (natRestL (natRestL (l.drop 10))))).map (chunk (natRestL (natRestL (natRestL (l.drop 10))))) := by
    show (if valBits (l.take 2) = 1 then _ else []) = _
    rw [if_pos h5']
  have hr : dgRest l = (natRestL (natRestL (natRestL (l.drop 10)))).drop (8 * natValL (natRestL (natRestL (l.drop 10)))) := by unfold dgRest; rw [if_pos h5']
  refine ⟨?_, by rw [hss]; exact m2, n2⟩
  unfold formBits
  rw [if_pos (show (dgOf l).k = 1 from h5')]
  unfold dataBits
  rw [show headBits (dgOf l).f (dgOf l).t 1 (dgOf l).a = headBits (dgOf l).f (dgOf l).t (dgOf l).k (dgOf l).a by rw [show (dgOf l).k = 1 from h5'], hss, hxs, hr, List.length_map, List.length_range]
  conv => lhs; rw [hhead, m1, k1, b1]
  simp

theorem bitsAll_body (b : List Nat) : bitsAll b = bodyBits b := by
  refine snocInd (P := fun b => bitsAll b = bodyBits b) (by simp [bitsAll, bodyBits]) (fun b c ih => ?_) b
  rw [bitsAll_snoc, ih]; simp [bodyBits]
theorem bytes_of_bitsAll (b : List Nat) (hs : ∀ c ∈ b, c < 256) : (List.range b.length).map (chunk (bitsAll b)) = b := by
  have h := chunks_body b [] hs
  rw [List.append_nil] at h
  rw [bitsAll_body]; exact h
theorem endErrL_zero {l : List Bool} (h : endErrL l = 0) : l.length < 8 ∧ l = List.replicate l.length false := by
  unfold endErrL at h
  by_cases h1 : 8 ≤ l.length
  · rw [if_pos h1] at h; cases h
  rw [if_neg h1] at h
  cases h2 : l.any id with
  | true => rw [h2] at h; cases h
  | false =>
    refine ⟨by omega, ?_⟩
    apply List.ext_getElem
    · simp
    · intro i q1 q2
      rw [List.any_eq_false] at h2
      have := h2 l[i] (List.getElem_mem _)
      simpa using this
theorem packed_back (b : List Nat) (bs : List Bool) (pad : Nat) (hs : ∀ c ∈ b, c < 256) (hp : pad < 8) (h : bitsAll b = bs ++ List.replicate pad false) : packed bs = b := by
  obtain ⟨pad', e, hp'⟩ := bitsAll_packed bs
  have hl := congrArg List.length h
  rw [bitsAll_length, List.length_append, List.length_replicate] at hl
  have hl' := congrArg List.length e
  rw [bitsAll_length, List.length_append, List.length_replicate] at hl'
  obtain rfl : pad' = pad := by omega
  have hlen : (packed bs).length = b.length := by omega
  rw [← bytes_of_bitsAll (packed bs) (packed_small bs), ← bytes_of_bitsAll b hs, e, h, hlen]
/-- The whole. -/
theorem sealed_back (b : List Nat) (hs : ∀ c ∈ b, c < 256) (h : decErr (sealed b) = 0) :
    ckB (decF (sealed b)) (decT (sealed b)) (decK (sealed b)) (decS (sealed b)) (decA (sealed b)) (decX (sealed b)).length = true ∧
    encN (decF (sealed b)) (decT (sealed b)) (decK (sealed b)) (decS (sealed b)) (decA (sealed b)) (decX (sealed b)) = sealed b := by
  obtain ⟨h1, h2⟩ := decErr_ok h
  obtain ⟨_, _, h3⟩ := openErr_ok h1
  rw [told_sealed] at h2 h3
  obtain ⟨h4, h5⟩ := readErr_ok h3
  obtain ⟨h6, hS, hA⟩ := dg_back _ h4
  obtain ⟨hpad, hrest⟩ := endErrL_zero h5
  rw [hrest] at h6
  have hpk := packed_back b _ _ hs hpad h6
  obtain ⟨q1, q2, q3, q4, _, _, _, _⟩ := rEnd_ok _ h4
  have eF : decF (sealed b) = ((dgOf (bitsAll b)).f : Int) := by unfold decF; rw [if_pos h, told_sealed, q2]
  have eT : decT (sealed b) = ((dgOf (bitsAll b)).t : Int) := by unfold decT; rw [if_pos h, told_sealed, q3]
  have eK : decK (sealed b) = ((dgOf (bitsAll b)).k : Int) := by unfold decK; rw [if_pos h, told_sealed, q1]
  have eS : decS (sealed b) = RowKit.wrap64 ((dgOf (bitsAll b)).s : Int) := by unfold decS; rw [if_pos h, told_sealed, dS_ok h4]
  have eA : decA (sealed b) = RowKit.wrap64 ((dgOf (bitsAll b)).a : Int) := by unfold decA; rw [if_pos h, told_sealed, q4]
  have eX : decX (sealed b) = (dgOf (bitsAll b)).x := by unfold decX; rw [if_pos h, told_sealed, dX_ok h4]
  have hck : ckB (decF (sealed b)) (decT (sealed b)) (decK (sealed b)) (decS (sealed b)) (decA (sealed b)) (decX (sealed b)).length = true := by
    rw [eF, eT, eK, eS, eA, eX, ← q2, ← q3, ← q1, ← dS_ok h4, ← q4, ← dX_ok h4]; exact h2
  refine ⟨hck, ?_⟩
  have hb := hck
  obtain ⟨F, T, K, S, A, g1, g2, g3, g4, g5, _, _, _, _, hS2, hA2, _, _⟩ := ck_nat hck
  have s1 : S = (dgOf (bitsAll b)).s := by rw [eS] at g4; unfold RowKit.wrap64 at g4; omega
  have a1 : A = (dgOf (bitsAll b)).a := by rw [eA] at g5; unfold RowKit.wrap64 at g5; omega
  have f1 : F = (dgOf (bitsAll b)).f := by rw [eF] at g1; omega
  have t1 : T = (dgOf (bitsAll b)).t := by rw [eT] at g2; omega
  have k1 : K = (dgOf (bitsAll b)).k := by rw [eK] at g3; omega
  rw [g1, g2, g3, g4, g5] at hb ⊢
  rw [encN_ok hb, eX]
  unfold formN headN
  rw [f1, t1, k1, s1, a1, hpk]
end Go.Proofs.Ytebojmjbolphfaa
