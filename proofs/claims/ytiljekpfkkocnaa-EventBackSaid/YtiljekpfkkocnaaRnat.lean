/- Contract: the document's own code of a natural number. -/
import Derived.Test.YtiljekpfkkocnaaRef
import Derived.Test.YtiljekpfkkocnaaMake
import Derived.Deep.OwnRows
namespace Go.Proofs.Ytiljekpfkkocnaa
open Go Go.RowKit

theorem boolVs_rep (k : Nat) : List.replicate k (Value.bool false) = boolVs (List.replicate k false) := by simp [boolVs]
theorem natBits_max : natBits 18446744073709551615 = List.replicate 64 false ++ [true] ++ List.replicate 64 false := by decide +kernel

theorem Flags.below {w w' : World} {B B' : Nat} {v : Value} {bs : List Bool} (h : Flags w B v bs) (hb : Below B' w w') (hB : w.heap.size ≤ B') : Flags w' B v bs := by
  refine ⟨h.1, ?_⟩
  rcases h.2 with hn | ⟨g, cap, cur, rfl, hg, hgg, rest⟩
  · exact .inl hn
  · exact .inr ⟨g, cap, cur, rfl, hg, by rw [hb.block g (by have := lt_of_block hgg; omega)]; exact hgg, rest⟩
theorem Flags.lower {w : World} {B B' : Nat} {v : Value} {bs : List Bool} (h : Flags w B v bs) (hB : B' ≤ B) : Flags w B' v bs := by
  refine ⟨h.1, ?_⟩
  rcases h.2 with hn | ⟨g, cap, cur, rfl, hg, rest⟩
  · exact .inl hn
  · exact .inr ⟨g, cap, cur, rfl, by omega, rest⟩

set_option maxRecDepth 100000 in
set_option maxHeartbeats 400000 in
theorem rNat_max (w : World) :
    Calls Try.prog 75 #[.int .u64 18446744073709551615] w fun e w' => ∃ v, e = .returned v ∧ Flags w' w.heap.size v (natBits 18446744073709551615) ∧ Below w.heap.size w w' := by
  obtain ⟨i0, hi, hz0, hz1, hz2⟩ := info_parts Try.info4
  go_enter Try.func75, Try.ntmps75
  go_wp2_with (first | (at_make; refine wpList_make_full _ rfl _ _ 41 rfl w.heap.size 4 i0 (.bool false) 1 Try.underlying41 hi hz0 hz1 .i64 .i64 _ _ 64 rfl rfl rfl rfl (by rw [hz2]; omega) (by unfold maxLen; omega) (Nat.le_refl _) ?_; intro w1 hown1 hgrow1; have HO1 := hide hown1; have HG1 := hide hgrow1; clear hown1 hgrow1; have HB1 := hide ((Below.refl w.heap.size w).grown HG1.out (Nat.le_refl _) (fun k h => by cases h))) | (at_builtin; refine wpList_append_own _ rfl (.tmp 8) (.tmp 9) 41 rfl w.heap.size 4 i0 (.bool false) 1 1 Try.underlying41 hi hz0 hz1 hz2 rfl (by decide) _ 64 _ rfl (HO1.out.alloc _) ⟨w1.heap.size, 0, none⟩ 1 1 [.bool true] rfl rfl (by intro j' u hj; match j', hj with | 0, hj => simp at hj; subst hj; simp only [Addr.add]; exact cell_alloc_one _ _ rfl _ _) (by intro u hu; simp at hu; subst hu; rfl) (by unfold maxLen; omega) (by omega) (by have := HB1.out.size; simp; omega) ?_; intro v2 w2 hown2 hgrow2 hnil2; clear hnil2; have HO2 := hide hown2; have HG2 := hide hgrow2; clear hown2 hgrow2; have HB2 := hide ((HB1.out.alloc HB1.out.size _).grown HG2.out (by have := HB1.out.size; simp; omega) (fun k h => (HO1.out.lt k h).1)); obtain ⟨g2, cp2, rfl⟩ := own_shape HO2.out) | (at_builtin; refine wpList_append_make _ rfl (.tmp 11) (.const (.int .i64 64)) 41 3 rfl w.heap.size 4 i0 (.bool false) Try.underlying41 Try.underlying3 hi hz0 hz1 hz2 rfl rfl (.slice (some ⟨g2, 0, none⟩) 65 cp2) 65 _ rfl HO2.out (by intro h; cases h) 64 rfl (by omega) (by omega) (by have := HB2.out.size; omega) ?_; intro v3 w3 hown3 hgrow3; have HO3 := hide hown3; have HG3 := hide hgrow3; clear hown3 hgrow3; have HB3 := hide (HB2.out.grown HG3.out (by have := HB2.out.size; omega) (fun k h => (HO2.out.lt k h).1))))
  go_ret
  refine ⟨_, rfl, ?_, HB3.out⟩
  have h := HO3.out
  have e : (madeCells (Value.cells (.bool false)) (64 * 1)).toList = boolVs (List.replicate 64 false) := by rw [show Value.cells (.bool false) = #[.bool false] from rfl, toList_madeCells_one, boolVs_rep]
  unfold Flags
  rw [natBits_max, boolVs_append, boolVs_append]
  rw [e, boolVs_rep] at h
  exact h

theorem ownsRow_below {w w' : World} {B B' e size n : Nat} {v : Value} {xs : List Value} (h : w.ownsRow B e size v n xs) (hb : Below B' w w') (hB : w.heap.size ≤ B') : w'.ownsRow B e size v n xs := by
  refine ⟨h.1, ?_⟩
  rcases h.2 with hn | ⟨g, cap, cur, rfl, hg, hgg, rest⟩
  · exact .inl hn
  · exact .inr ⟨g, cap, cur, rfl, hg, by rw [hb.block g (by have := lt_of_block hgg; omega)]; exact hgg, rest⟩
theorem ownsRow_lower {w : World} {B B' e size n : Nat} {v : Value} {xs : List Value} (h : w.ownsRow B e size v n xs) (hB : B' ≤ B) : w.ownsRow B' e size v n xs := by
  refine ⟨h.1, ?_⟩
  rcases h.2 with hn | ⟨g, cap, cur, rfl, hg, rest⟩
  · exact .inl hn
  · exact .inr ⟨g, cap, cur, rfl, by omega, rest⟩
theorem flags_shape {w : World} {B x n : Nat} {v : Value} (h : Flags w B v (bitsOf x (n + 1))) : ∃ g cap, v = .slice (some ⟨g, 0, none⟩) (n + 1) cap := by
  unfold Flags at h
  rw [bitsOf_length] at h
  exact own_shape h

theorem made_flags (w : World) (k : Nat) (hk : k ≤ 64) : (w.alloc (.cells (madeCells #[.bool false] k) 4)).ownsRow w.heap.size 4 1 (.slice (some ⟨w.heap.size, 0, none⟩) k k) k (boolVs (List.replicate k false)) := by
  have e' : (madeCells #[.bool false] k).toList = boolVs (List.replicate k false) := by rw [toList_madeCells_one, boolVs_rep]
  have hs : (madeCells #[Value.bool false] k).size = k := by
    have := congrArg List.length e'
    simpa [boolVs_length] using this
  refine ⟨by simp [boolVs_length], .inr ⟨w.heap.size, k, _, rfl, Nat.le_refl _, heap_alloc_new _ _, Nat.le_refl _, by unfold maxLen; omega, by rw [hs]; omega, ?_⟩⟩
  rw [Nat.mul_one, List.take_of_length_le (by rw [Array.length_toList, hs]; omega)]
  exact e'

set_option maxRecDepth 100000 in
set_option maxHeartbeats 400000 in
theorem rNat_less (u : Nat) (w : World) (hu : u < 18446744073709551615) :
    Calls Try.prog 75 #[.int .u64 (u : Int)] w fun e w' => ∃ v, e = .returned v ∧ Flags w' w.heap.size v (natBits u) ∧ Below w.heap.size w w' := by
  obtain ⟨i0, hi, hz0, hz1, hz2⟩ := info_parts Try.info4
  have CL := fun w => rLong_any (u + 1) w (by omega) (by omega)
  obtain ⟨k, hk⟩ : ∃ k, k = ahd u := ⟨_, rfl⟩
  have hk64 : k ≤ 63 := by
    rw [hk]; unfold ahd
    have := (Nat.log2_lt (n := u + 1) (k := 64) (by omega)).2 (by omega)
    omega
  have CL2 : ∀ w, Calls Try.prog 105 #[.int .u64 ((u : Int) + 1)] w fun e w' => e = .returned (.int .i64 ((k : Int) + 1)) ∧ w = w' := by
    intro w
    rw [hk]
    exact CL w
  have CW : ∀ w, Calls Try.prog 24 #[.int .u64 ((u : Int) + 1), .int .i64 ((k : Int) + 1)] w fun e w' => ∃ v, e = .returned v ∧ Flags w' w.heap.size v (bitsOf (u + 1) (k + 1)) ∧ Below w.heap.size w w' := fun w => rLow_any (u + 1) (k + 1) w (by omega) (by omega)
  have hm' : ((u : Int) == 18446744073709551615) = false := by simp; omega
  have hw : IntKind.u64.wrap ((u : Int) + 1) = (u : Int) + 1 := by rw [IntKind.wrap_u64]; omega
  have HN : Hid (natBits u = List.replicate k false ++ bitsOf (u + 1) (k + 1)) := by rw [hk]; rfl
  clear hk CL hu
  go_enter Try.func75, Try.ntmps75
  go_wp2_with fail
  refine (CL2 w).mono ?_
  rintro e w' ⟨rfl, rfl⟩
  clear CL2
  have hmk := run_make_row' (P := Try.prog) 41 4 (.bool false) 1 Try.underlying41 Try.info4 rfl .i64 .i64 k (by omega) (by omega)
  go_wp2_with fail
  have hk65 : k ≤ 64 := by omega
  have hwk : IntKind.i64.wrap ((k : Int) + 1) = (k : Int) + 1 := by rw [IntKind.wrap_i64]; omega
  go_region_law (first | (refine step_append_own rfl (.tmp 18) (.tmp 23) 41 rfl w.heap.size 4 i0 (.bool false) 1 1 Try.underlying41 hi hz0 hz1 hz2 rfl (by decide) (.slice (some ⟨w.heap.size, 0, none⟩) k k) k (boolVs (List.replicate k false)) (by simp [Act.eval]) HM1.out ⟨g, 0, none⟩ (k + 1) cp (boolVs (bitsOf (u + 1) (k + 1))) (by simp [Act.eval]) (by simp [boolVs_length, bitsOf_length]) (HF.out.cells (g := g) rfl) (boolVs_one _) (by unfold maxLen; omega) (by omega) (by have := HB.out.size; simp at this; omega) ?_; intro v' w' hown' hgrow'; have HO' := hide hown'; have HG' := hide hgrow'; clear hown' hgrow') | (refine step_append_own rfl (.tmp 18) (.tmp 23) 41 rfl w.heap.size 4 i0 (.bool false) 1 1 Try.underlying41 hi hz0 hz1 hz2 rfl (by decide) (.slice (some ⟨w2.heap.size, 0, none⟩) k k) k (boolVs (List.replicate k false)) (by simp [Act.eval]) (ownsRow_lower (made_flags w2 k hk65) (by have := HB.out.size; simpa using this)) ⟨g, 0, none⟩ (k + 1) cp (boolVs (bitsOf (u + 1) (k + 1))) (by simp [Act.eval]) (by simp [boolVs_length, bitsOf_length]) ((World.ownsRow.alloc HF.out _).cells (g := g) rfl) (boolVs_one _) (by unfold maxLen; omega) (by omega) (by have := HB.out.size; simp at this; simp; omega) ?_; intro v' w' hown' hgrow'; have HO' := hide hown'; have HG' := hide hgrow'; clear hown' hgrow') | (go_simp; go_at_call 24; refine (CW _).mono ?_; rintro e w2 ⟨v, rfl, hf, hb⟩; obtain ⟨g, cp, rfl⟩ := flags_shape hf; have HF := hide hf; have HB := hide hb; try (have HM1 := hide (ownsRow_below (ownsRow_drew (made_flags w k hk65)) hb (Nat.le_refl _))); clear hf hb))
  all_goals go_wp2
  all_goals go_ret
  all_goals
    refine ⟨_, rfl, ?_, ?_⟩
    · unfold Flags
      rw [HN.out, boolVs_append, List.length_append, List.length_replicate, bitsOf_length]
      exact HO'.out
  · have b1 := (((Below.refl w.heap.size w).alloc (Nat.le_refl _) (.cells (madeCells #[.bool false] k) 4)).drew).trans (HB.out.mono (by simp))
    exact b1.grown HG'.out b1.size (fun j hj => by simp [Value.ownBlock] at hj; omega)
  · have b1 := ((Below.refl w.heap.size w).drew).trans (HB.out.mono (Nat.le_refl _))
    have b2 := b1.alloc b1.size (.cells (madeCells #[.bool false] k) 4)
    exact b2.grown HG'.out b2.size (fun j hj => by simp [Value.ownBlock] at hj; have := b1.size; omega)

theorem rNat_any (u : Nat) (w : World) (hu : u < 2 ^ 64) :
    Calls Try.prog 75 #[.int .u64 (u : Int)] w fun e w' => ∃ v, e = .returned v ∧ Flags w' w.heap.size v (natBits u) ∧ Below w.heap.size w w' := by
  by_cases h : u = 18446744073709551615
  · subst h; exact rNat_max w
  · exact rNat_less u w (by omega)
end Go.Proofs.Ytiljekpfkkocnaa
