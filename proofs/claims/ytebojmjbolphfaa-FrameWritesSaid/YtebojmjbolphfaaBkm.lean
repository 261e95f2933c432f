/- Plain facts: what is encoded is decoded as it was; what is decoded is encoded as it stood. No program here. -/
import Derived.Test.YtebojmjbolphfaaDec2
namespace Go.Proofs.Ytebojmjbolphfaa
open Go Crc

theorem body_split (x : List Nat) (i : Nat) (h : i < x.length) : bodyBits x = bodyBits (x.take i) ++ (bitsOf x[i] 8 ++ bodyBits (x.drop (i + 1))) := by
  unfold bodyBits
  conv => lhs; rw [← List.take_append_drop i x, List.flatMap_append, List.drop_eq_getElem_cons h, List.flatMap_cons]
theorem chunk_body (x : List Nat) (rest : List Bool) (i : Nat) (h : i < x.length) (hs : ∀ c ∈ x, c < 256) : chunk (bodyBits x ++ rest) i = x[i] := by
  have hl : (bodyBits (x.take i)).length = 8 * i := by rw [bodyBits_length, List.length_take]; omega
  unfold chunk
  rw [body_split x i h, List.append_assoc, ← hl, List.drop_left, List.append_assoc]
  have h3 := List.take_left (l₁ := bitsOf x[i] 8) (l₂ := bodyBits (x.drop (i + 1)) ++ rest)
  rw [bitsOf_length] at h3
  rw [h3]
  exact valBits_bitsOf _ _ (hs _ (List.getElem_mem _))
theorem chunks_body (x : List Nat) (rest : List Bool) (hs : ∀ c ∈ x, c < 256) : (List.range x.length).map (chunk (bodyBits x ++ rest)) = x := by
  apply List.ext_getElem
  · simp
  · intro i h1 h2
    simp only [List.getElem_map, List.getElem_range]
    exact chunk_body x rest i h2 hs

theorem drop_len {l m : List Bool} {n : Nat} (h : l.length = n) : (l ++ m).drop n = m := by rw [← h]; exact List.drop_left
theorem take_len {l m : List Bool} {n : Nat} (h : l.length = n) : (l ++ m).take n = l := by rw [← h]; exact List.take_left
theorem head_parts (F T K A : Nat) (m : List Bool) (hF : F < 16) (hT : T < 16) (hK : K < 4) :
    10 ≤ (headBits F T K A ++ m).length ∧ valBits ((headBits F T K A ++ m).take 2) = K ∧ valBits (((headBits F T K A ++ m).drop 2).take 4) = F ∧ valBits (((headBits F T K A ++ m).drop 6).take 4) = T ∧ (headBits F T K A ++ m).drop 10 = natBits A ++ m := by
  have e : headBits F T K A ++ m = bitsOf K 2 ++ (bitsOf F 4 ++ (bitsOf T 4 ++ (natBits A ++ m))) := by simp [headBits]
  rw [e]
  have d2 : (bitsOf K 2 ++ (bitsOf F 4 ++ (bitsOf T 4 ++ (natBits A ++ m)))).drop 2 = bitsOf F 4 ++ (bitsOf T 4 ++ (natBits A ++ m)) := drop_len (bitsOf_length _ _)
  have d6 : (bitsOf K 2 ++ (bitsOf F 4 ++ (bitsOf T 4 ++ (natBits A ++ m)))).drop 6 = bitsOf T 4 ++ (natBits A ++ m) := by
    rw [show 6 = 2 + 4 from rfl, ← List.drop_drop, d2]; exact drop_len (bitsOf_length _ _)
  refine ⟨by simp [bitsOf_length]; omega, ?_, ?_, ?_, ?_⟩
  · rw [take_len (bitsOf_length _ _)]; exact valBits_bitsOf _ _ hK
  · rw [d2, take_len (bitsOf_length _ _)]; exact valBits_bitsOf _ _ hF
  · rw [d6, take_len (bitsOf_length _ _)]; exact valBits_bitsOf _ _ hT
  · rw [show 10 = 6 + 4 from rfl, ← List.drop_drop, d6]; exact drop_len (bitsOf_length _ _)

/-- There: the bits of a form, and whatever stands behind. -/
theorem dg_form (F T K S A : Nat) (x : List Nat) (rest : List Bool) (hF : F < 16) (hT : T < 16) (hK : K = 1 ∨ K = 2) (hS : S ≤ 1099511627776) (hA : A ≤ 1099511627776) (hx : x.length ≤ 16384) (hs : ∀ c ∈ x, c < 256) (h2 : K = 2 → S = 0 ∧ x = []) :
    dgErr (formBits F T K S A x ++ rest) = 0 ∧ dgOf (formBits F T K S A x ++ rest) = ⟨F, T, K, S, A, x⟩ ∧ dgRest (formBits F T K S A x ++ rest) = rest := by
  rcases hK with rfl | rfl
  · have ef : formBits F T 1 S A x ++ rest = headBits F T 1 A ++ (natBits S ++ (natBits x.length ++ (bodyBits x ++ rest))) := by
      unfold formBits; rw [if_pos rfl]; simp [dataBits]
    rw [ef]
    obtain ⟨p1, p2, p3, p4, p5⟩ := head_parts F T 1 A (natBits S ++ (natBits x.length ++ (bodyBits x ++ rest))) hF hT (by decide)
    have hA' : A < 2 ^ 64 := by omega
    have hS' : S < 2 ^ 64 := by omega
    have hX' : x.length < 2 ^ 64 := by omega
    refine ⟨?_, ?_, ?_⟩
    · unfold dgErr
      rw [if_neg (by omega), p2, if_neg (by decide), if_neg (by omega), p5, natErrL_front A hA', if_neg (by decide), if_neg (by decide), natRestL_front A hA', natErrL_front S hS', if_neg (by decide), natRestL_front S hS',
        natErrL_front _ hX', if_neg (by decide), natValL_front _ hX', if_neg (by omega), natRestL_front _ hX', if_neg (by rw [List.length_append, bodyBits_length]; omega)]
    · unfold dgOf
      rw [p2, p3, p4, p5, if_pos rfl, if_pos rfl, natRestL_front A hA', natValL_front A hA', natValL_front S hS', natRestL_front S hS', natValL_front _ hX', natRestL_front _ hX', chunks_body x rest hs]
    · unfold dgRest
      rw [p2, p5, if_pos rfl, natRestL_front A hA', natRestL_front S hS', natValL_front _ hX', natRestL_front _ hX']
      exact drop_len (bodyBits_length x)
  · obtain ⟨rfl, rfl⟩ := h2 rfl
    have ef : formBits F T 2 0 A [] ++ rest = headBits F T 2 A ++ rest := by unfold formBits; rw [if_neg (by decide)]
    rw [ef]
    obtain ⟨p1, p2, p3, p4, p5⟩ := head_parts F T 2 A rest hF hT (by decide)
    have hA' : A < 2 ^ 64 := by omega
    refine ⟨?_, ?_, ?_⟩
    · unfold dgErr
      rw [if_neg (by omega), p2, if_neg (by decide), if_neg (by omega), p5, natErrL_front A hA', if_neg (by decide), if_pos (by decide)]
    · unfold dgOf
      rw [p2, p3, p4, p5, if_neg (by decide), if_neg (by decide), natValL_front A hA']
    · unfold dgRest
      rw [p2, p5, if_neg (by decide), natRestL_front A hA']

theorem told_sealed (l : List Nat) : told (sealed l) = l := by
  unfold told sealed
  rw [List.length_append, show (be32 (sumN l)).length = 4 from rfl, Nat.add_sub_cancel, List.take_left]
theorem tail_sealed (l : List Nat) : tail4 (sealed l) = be32 (sumN l) := by
  unfold tail4 sealed
  rw [List.length_append, show (be32 (sumN l)).length = 4 from rfl, Nat.add_sub_cancel, List.drop_left]
theorem num_sealed (l : List Nat) : num32 (tail4 (sealed l)) = sumN (told (sealed l)) := by
  rw [told_sealed, tail_sealed]
  exact (be32_num (be32 (sumN l)) rfl (be32_small _ (sumN_lt l)) _ (sumN_lt l)).2 rfl
theorem wrap64_small (u : Nat) (h : u ≤ 1099511627776) : RowKit.wrap64 (u : Int) = u := by unfold RowKit.wrap64; omega

/-- There and back: the whole. -/
theorem dec_form (F T K S A : Nat) (x : List Nat) (hF : F < 16) (hT : T < 16) (hK : K = 1 ∨ K = 2) (hS : S ≤ 1099511627776) (hA : A ≤ 1099511627776) (hx : x.length ≤ 16384) (hs : ∀ c ∈ x, c < 256) (h2 : K = 2 → S = 0 ∧ x = []) (hck : ckB F T K S A x.length = true) :
    decErr (formN F T K S A x) = 0 ∧ decF (formN F T K S A x) = F ∧ decT (formN F T K S A x) = T ∧ decK (formN F T K S A x) = K ∧ decS (formN F T K S A x) = S ∧ decA (formN F T K S A x) = A ∧ decX (formN F T K S A x) = x := by
  obtain ⟨pad, hpad, hpad8⟩ := bitsAll_packed (formBits F T K S A x)
  have ht : told (formN F T K S A x) = headN F T K S A x := told_sealed _
  have hb : bitsAll (told (formN F T K S A x)) = formBits F T K S A x ++ List.replicate pad false := by rw [ht]; exact hpad
  obtain ⟨d1, d2, d3⟩ := dg_form F T K S A x (List.replicate pad false) hF hT hK hS hA hx hs h2
  rw [← hb] at d1 d2 d3
  have hre : readErr (bitsAll (told (formN F T K S A x))) = 0 := by rw [readErr_eq, if_neg (by omega), d3]; exact endErrL_pad pad hpad8
  have hl6 : ¬ (formN F T K S A x).length < 6 := by
    unfold formN headN
    rw [sealed_length, packed_length]
    have : 11 ≤ (formBits F T K S A x).length := by
      unfold formBits; split
      · rw [dataBits_length]; omega
      · rw [headBits_length]; omega
    omega
  have hop : openErr (formN F T K S A x) = 0 := by
    have hnum : num32 (tail4 (formN F T K S A x)) = sumN (told (formN F T K S A x)) := num_sealed _
    unfold openErr
    rw [if_neg hl6, if_neg (fun h : num32 (tail4 (formN F T K S A x)) ≠ sumN (told (formN F T K S A x)) => h hnum), hre]
  obtain ⟨q1, q2, q3, q4, _, _, _, _⟩ := rEnd_ok _ d1
  have v1 : (r1 (bitsAll (told (formN F T K S A x)))).1 = K := by rw [q1, d2]
  have v3 : (r3 (bitsAll (told (formN F T K S A x)))).1 = F := by rw [q2, d2]
  have v4 : (r4 (bitsAll (told (formN F T K S A x)))).1 = T := by rw [q3, d2]
  have v5 : RowKit.wrap64 (((r5 (bitsAll (told (formN F T K S A x)))).1 : Nat) : Int) = A := by rw [q4, d2]; exact wrap64_small A hA
  have vS : dS (bitsAll (told (formN F T K S A x))) = S := by rw [dS_ok d1, d2]; exact wrap64_small S hS
  have vX : dX (bitsAll (told (formN F T K S A x))) = x := by rw [dX_ok d1, d2]
  have hok : okB (bitsAll (told (formN F T K S A x))) = true := by
    unfold okB
    rw [v1, v3, v4, v5, vS, vX]; exact hck
  have h0 : decErr (formN F T K S A x) = 0 := by unfold decErr; rw [if_neg (by omega), hok]; rfl
  refine ⟨h0, ?_, ?_, ?_, ?_, ?_, ?_⟩
  · unfold decF; rw [if_pos h0, v3]
  · unfold decT; rw [if_pos h0, v4]
  · unfold decK; rw [if_pos h0, v1]
  · unfold decS; rw [if_pos h0, vS]
  · unfold decA; rw [if_pos h0, v5]
  · unfold decX; rw [if_pos h0, vX]
end Go.Proofs.Ytebojmjbolphfaa
