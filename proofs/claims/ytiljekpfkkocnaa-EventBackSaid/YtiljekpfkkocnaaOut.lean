/- Contract: what a sink hands out: its bits, eight a byte, in memory of the call's own. -/
import Derived.Test.YtiljekpfkkocnaaNat
import Derived.Laws.AppendOwnNone
namespace Go.Proofs.Ytiljekpfkkocnaa
open Go Go.RowKit

/-- The bits, eight a byte, the last byte filled up with bits 0. -/
def packed (bs : List Bool) : List Nat := fullOf bs ++ if bs.length % 8 = 0 then [] else [restOf bs * 2 ^ (8 - bs.length % 8)]

def byteVs (l : List Nat) : List Value := l.map fun x : Nat => Value.int .u8 (x : Int)
theorem byteVs_length (l : List Nat) : (byteVs l).length = l.length := by simp [byteVs]
theorem byteVs_one (l : List Nat) : ∀ u ∈ byteVs l, u.oneCell' = true := by
  intro u hu; simp [byteVs] at hu; obtain ⟨x, _, rfl⟩ := hu; rfl
theorem byteVs_append (l m : List Nat) : byteVs (l ++ m) = byteVs l ++ byteVs m := by simp [byteVs]

theorem packed_length_le (bs : List Bool) : (packed bs).length ≤ bs.length / 8 + 1 := by
  unfold packed; rw [List.length_append, fullOf_length]; split <;> simp

theorem shl_rest (r k : Nat) (hr : r < 2 ^ k) (hk : 0 < k) (hk8 : k < 8) : IntKind.u8.wrap ((r : Int) * 2 ^ (8 - k)) = ((r * 2 ^ (8 - k) : Nat) : Int) := by
  have h : r * 2 ^ (8 - k) < 2 ^ k * 2 ^ (8 - k) := Nat.mul_lt_mul_of_pos_right hr (Nat.two_pow_pos _)
  rw [← Nat.pow_add, show k + (8 - k) = 8 by omega] at h
  rw [IntKind.wrap_u8]
  have e : ((r : Int) * 2 ^ (8 - k)) = ((r * 2 ^ (8 - k) : Nat) : Int) := by push_cast; rfl
  rw [e]; omega
theorem restOf_lt2 (bs : List Bool) : restOf bs < 2 ^ (bs.length % 8) := by
  unfold restOf
  have h := valBits_lt (bs.drop (8 * (bs.length / 8)))
  have hl : (bs.drop (8 * (bs.length / 8))).length = bs.length % 8 := by rw [List.length_drop]; omega
  rwa [hl] at h

/-- The cells of an owned row, read in a world that has grown by another one. -/
theorem own_cells_in {w w1 : World} {B n e g cap : Nat} {xs : List Value} (hg : w.grownBy w1 none) (ho : w.ownsRow B e 1 (.slice (some ⟨g, 0, none⟩) n cap) n xs) :
    ∀ j u, xs[j]? = some u → w1.cell? ((⟨g, 0, none⟩ : Addr).add j) = some u := fun j u hj => hg.cell (ho.cells (g := g) rfl j u hj) (by simp)

set_option maxRecDepth 100000 in
set_option maxHeartbeats 1000000 in
theorem kOut_any (B q : Nat) (bs : List Bool) (w : World) (hs : SinkIs w B q bs) :
    Calls Try.prog 28 #[.pointer (some ⟨q, 0, none⟩)] w fun e w' => ∃ v, e = .returned v ∧ w'.ownsRow w.heap.size 5 1 v (packed bs).length (byteVs (packed bs)) ∧ Below w.heap.size w w' := by
  obtain ⟨i0, hi, hz0, hz1, hz2⟩ := info_parts Try.info5
  have hlen := hs.len
  have hmade := hs.made
  have hqs := hs.lt
  obtain ⟨v, hq, ho⟩ := hs.row
  obtain ⟨h0, h1, h2, h3⟩ := cell_of_four hq
  obtain ⟨r, hr⟩ : ∃ r, r = restOf bs := ⟨_, rfl⟩
  obtain ⟨L, hL⟩ : ∃ L, L = bs.length := ⟨_, rfl⟩
  rw [← hr] at h2
  rw [← hL] at h3 hlen
  have hr2 : r < 2 ^ (L % 8) := by rw [hr, hL]; exact restOf_lt2 bs
  have HR := hide hr; clear hr
  have HL := hide hL; clear hL
  have HQ := hide hq; clear hq
  have HO := hide ho; clear ho
  have hr128 : r < 128 := by rw [HR.out]; exact restOf_lt bs
  go_enter Try.func28, Try.ntmps28
  go_wp2_with fail
  refine (isMade_any q _ hmade).mono ?_
  rintro e w' ⟨rfl, rfl⟩
  -- the row that the sink owns: nil, or at the head of a block
  rcases HO.out.2 with ⟨hv, hn0⟩ | ⟨g, cap, cur, hv, hg, hgg, hgn, hcapm, hcsz, htake⟩
  · subst hv
    have hf0 : fullOf bs = [] := List.length_eq_zero_iff.1 (by rw [fullOf_length]; exact hn0)
    have HF := hide hf0; clear hf0
    have HN := hide hn0; clear hn0
    by_cases hk : L % 8 = 0
    · have hk1 : L % 8 ≤ 0 := by omega
      have HK := hide hk; clear hk
      go_wp2_with (at_make; refine wpList_make_own _ rfl _ _ 33 rfl w.heap.size 5 i0 (.int .u8 0) 1 Try.underlying33 hi hz0 hz1 .i64 .i64 _ 1 rfl rfl (by first | rfl | omega) (by rw [hz2]; omega) (by unfold maxLen; omega) (Nat.le_refl _) ?_; intro w1 hown1 hgrow1; have HG1 := hide hgrow1; have HO1 := hide hown1; clear hgrow1 hown1; have HQ1 := hide ((HG1.out.block q hqs (by simp)).trans HQ.out); obtain ⟨d0, d1, d2, d3⟩ := cell_of_four HQ1.out;  rw [← HR.out] at d2; rw [← HL.out] at d3; have HB1 := hide ((Below.refl w.heap.size w).grown HG1.out (Nat.le_refl _) (fun k h => by cases h)))
      go_ret
      refine ⟨_, rfl, ?_, HB1.out⟩
      have hp : packed bs = [] := by unfold packed; rw [← HL.out, if_pos HK.out, HF.out]; rfl
      rw [hp]; exact HO1.out
    · have hk1 : 1 ≤ L % 8 := by omega
      have HK := hide hk; clear hk
      have hkb : L % 8 < 8 := Nat.mod_lt _ (by decide)
      obtain ⟨R, hR⟩ : ∃ R : Int, R = ((r * 2 ^ (8 - L % 8) : Nat) : Int) := ⟨_, rfl⟩
      have es : (r : Int) * 2 ^ (8 - L % 8) % 256 = R := by
        have := shl_rest r (L % 8) hr2 (by omega) hkb
        rw [IntKind.wrap_u8] at this
        rw [hR]; exact this
      have HRR := hide hR; clear hR
      have HR2 := hide hr2; clear hr2
      go_wp2_with (first | (at_make; refine wpList_make_own _ rfl _ _ 33 rfl w.heap.size 5 i0 (.int .u8 0) 1 Try.underlying33 hi hz0 hz1 .i64 .i64 _ 1 rfl rfl (by first | rfl | omega) (by rw [hz2]; omega) (by unfold maxLen; omega) (Nat.le_refl _) ?_; intro w1 hown1 hgrow1; have HG1 := hide hgrow1; have HO1 := hide hown1; clear hgrow1 hown1; have HQ1 := hide ((HG1.out.block q hqs (by simp)).trans HQ.out); obtain ⟨d0, d1, d2, d3⟩ := cell_of_four HQ1.out;  rw [← HR.out] at d2; rw [← HL.out] at d3; have HB1 := hide ((Below.refl w.heap.size w).grown HG1.out (Nat.le_refl _) (fun k h => by cases h))) | (at_builtin; refine wpList_append_own _ rfl (.tmp 28) (.tmp 36) 33 rfl w.heap.size 5 i0 (.int .u8 0) 1 1 Try.underlying33 hi hz0 hz1 hz2 rfl (by decide) _ 0 [] rfl (HO1.out.alloc _) ⟨w1.heap.size, 0, none⟩ 1 1 [.int .u8 R] rfl rfl (by intro j u hj; match j, hj with | 0, hj => simp at hj; subst hj; simp only [Addr.add]; exact cell_alloc_one _ _ rfl _ _) (by intro u hu; simp at hu; subst hu; rfl) (by unfold maxLen; omega) (by omega) (by have := HB1.out.size; simp; omega) ?_; intro v3 w3 hown3 hgrow3 hnil3; clear hnil3; have HO3 := hide hown3; have HG3 := hide hgrow3; clear hown3 hgrow3; have HB3 := hide ((HB1.out.alloc HB1.out.size _).grown HG3.out (by have := HB1.out.size; simp; omega) (fun k h => (HO1.out.lt k h).1))))
      go_ret
      refine ⟨_, rfl, ?_, HB3.out⟩
      have hp : packed bs = fullOf bs ++ [r * 2 ^ (8 - L % 8)] := by unfold packed; rw [← HL.out, if_neg HK.out, HR.out]
      have hh := HO3.out
      rw [HRR.out] at hh
      rw [hp, byteVs_append]
      rw [HF.out]; exact hh

  · subst hv
    have hL8 : bs.length / 8 = L / 8 := by rw [HL.out]
    rw [hL8] at h1
    have HX := hide hL8
    clear hL8 hgn hcapm hcsz htake hgg hg
    by_cases hk : L % 8 = 0
    · have hk1 : L % 8 ≤ 0 := by omega
      have HK := hide hk; clear hk
      go_wp2_with (first | (at_make; refine wpList_make_own _ rfl _ _ 33 rfl w.heap.size 5 i0 (.int .u8 0) 1 Try.underlying33 hi hz0 hz1 .i64 .i64 _ (L / 8 + 1) rfl rfl (by first | rfl | omega) (by rw [hz2]; omega) (by unfold maxLen; omega) (Nat.le_refl _) ?_; intro w1 hown1 hgrow1; have HG1 := hide hgrow1; have HO1 := hide hown1; clear hgrow1 hown1; have HQ1 := hide ((HG1.out.block q hqs (by simp)).trans HQ.out); obtain ⟨d0, d1, d2, d3⟩ := cell_of_four HQ1.out; rw [HX.out] at d1; rw [← HR.out] at d2; rw [← HL.out] at d3; have HB1 := hide ((Below.refl w.heap.size w).grown HG1.out (Nat.le_refl _) (fun k h => by cases h))) | (at_builtin; refine wpList_append_own _ rfl (.tmp 15) (.tmp 19) 33 rfl w.heap.size 5 i0 (.int .u8 0) 1 1 Try.underlying33 hi hz0 hz1 hz2 rfl (by decide) _ 0 [] rfl HO1.out ⟨g, 0, none⟩ (L / 8) cap (byteVs (fullOf bs)) rfl (by rw [byteVs_length, fullOf_length, Nat.mul_one, HX.out]) (own_cells_in HG1.out HO.out) (byteVs_one _) (by unfold maxLen; omega) (by omega) (by have := HB1.out.size; omega) ?_; intro v2 w2 hown2 hgrow2 hnil2; clear hnil2; have HO2 := hide hown2; have HG2 := hide hgrow2; clear hown2 hgrow2; have HQ2 := hide (grow_keeps HQ1.out HO1.out (by decide) HG2.out rfl); obtain ⟨e0, e1, e2, e3⟩ := cell_of_four HQ2.out; rw [HX.out] at e1; rw [← HR.out] at e2; rw [← HL.out] at e3; have HB2 := hide (HB1.out.grown HG2.out HB1.out.size (fun k h => (HO1.out.lt k h).1))))
      go_ret
      refine ⟨_, rfl, ?_, HB2.out⟩
      have hp : packed bs = fullOf bs := by unfold packed; rw [← HL.out, if_pos HK.out, List.append_nil]
      have hh := HO2.out
      rw [hp, fullOf_length, HX.out]
      simpa using hh
    · have hk1 : 1 ≤ L % 8 := by omega
      have HK := hide hk; clear hk
      have hkb : L % 8 < 8 := Nat.mod_lt _ (by decide)
      obtain ⟨R, hR⟩ : ∃ R : Int, R = ((r * 2 ^ (8 - L % 8) : Nat) : Int) := ⟨_, rfl⟩
      have es : (r : Int) * 2 ^ (8 - L % 8) % 256 = R := by
        have := shl_rest r (L % 8) hr2 (by omega) hkb
        rw [IntKind.wrap_u8] at this
        rw [hR]; exact this
      have HRR := hide hR; clear hR
      have HR2 := hide hr2; clear hr2
      go_wp2_with (first | (at_make; refine wpList_make_own _ rfl _ _ 33 rfl w.heap.size 5 i0 (.int .u8 0) 1 Try.underlying33 hi hz0 hz1 .i64 .i64 _ (L / 8 + 1) rfl rfl (by first | rfl | omega) (by rw [hz2]; omega) (by unfold maxLen; omega) (Nat.le_refl _) ?_; intro w1 hown1 hgrow1; have HG1 := hide hgrow1; have HO1 := hide hown1; clear hgrow1 hown1; have HQ1 := hide ((HG1.out.block q hqs (by simp)).trans HQ.out); obtain ⟨d0, d1, d2, d3⟩ := cell_of_four HQ1.out; rw [HX.out] at d1; rw [← HR.out] at d2; rw [← HL.out] at d3; have HB1 := hide ((Below.refl w.heap.size w).grown HG1.out (Nat.le_refl _) (fun k h => by cases h))) | (at_builtin; refine wpList_append_own _ rfl (.tmp 15) (.tmp 19) 33 rfl w.heap.size 5 i0 (.int .u8 0) 1 1 Try.underlying33 hi hz0 hz1 hz2 rfl (by decide) _ 0 [] rfl HO1.out ⟨g, 0, none⟩ (L / 8) cap (byteVs (fullOf bs)) rfl (by rw [byteVs_length, fullOf_length, Nat.mul_one, HX.out]) (own_cells_in HG1.out HO.out) (byteVs_one _) (by unfold maxLen; omega) (by omega) (by have := HB1.out.size; omega) ?_; intro v2 w2 hown2 hgrow2 hnil2; clear hnil2; have HO2 := hide hown2; have HG2 := hide hgrow2; clear hown2 hgrow2; have HQ2 := hide (grow_keeps HQ1.out HO1.out (by decide) HG2.out rfl); obtain ⟨e0, e1, e2, e3⟩ := cell_of_four HQ2.out; rw [HX.out] at e1; rw [← HR.out] at e2; rw [← HL.out] at e3; have HB2 := hide (HB1.out.grown HG2.out HB1.out.size (fun k h => (HO1.out.lt k h).1))) | (at_builtin; refine wpList_append_own _ rfl (.tmp 28) (.tmp 36) 33 rfl w.heap.size 5 i0 (.int .u8 0) 1 1 Try.underlying33 hi hz0 hz1 hz2 rfl (by decide) _ (0 + L / 8) ([] ++ byteVs (fullOf bs)) rfl (HO2.out.alloc _) ⟨w2.heap.size, 0, none⟩ 1 1 [.int .u8 R] rfl rfl (by intro j u hj; match j, hj with | 0, hj => simp at hj; subst hj; simp only [Addr.add]; exact cell_alloc_one _ _ rfl _ _) (by intro u hu; simp at hu; subst hu; rfl) (by unfold maxLen; omega) (by omega) (by have := HB2.out.size; simp; omega) ?_; intro v3 w3 hown3 hgrow3 hnil3; clear hnil3; have HO3 := hide hown3; have HG3 := hide hgrow3; clear hown3 hgrow3; have HB3 := hide ((HB2.out.alloc HB2.out.size _).grown HG3.out (by have := HB2.out.size; simp; omega) (fun k h => (HO2.out.lt k h).1))))
      go_ret
      refine ⟨_, rfl, ?_, HB3.out⟩
      have hp : packed bs = fullOf bs ++ [r * 2 ^ (8 - L % 8)] := by unfold packed; rw [← HL.out, if_neg HK.out, HR.out]
      have hh := HO3.out
      rw [HRR.out] at hh
      rw [hp, byteVs_append]
      rw [List.length_append, fullOf_length, HX.out]; simpa [byteVs] using hh
end Go.Proofs.Ytiljekpfkkocnaa
