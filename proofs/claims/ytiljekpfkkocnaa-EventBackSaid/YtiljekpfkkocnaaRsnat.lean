/- Contract of Nat of the document's own source. -/
import Derived.Test.YtiljekpfkkocnaaRsbits
namespace Go.Proofs.Ytiljekpfkkocnaa
open Go Go.RowKit

theorem zerosL_eq (l : List Bool) (k : Nat) (hk : k ≤ min l.length 65) (h : ∀ i, i < k → l.getD i false = false) (h2 : k < min l.length 65 → l.getD k false = true) : zerosL l = k := by
  unfold zerosL
  have hl : (l.take 65).length = min l.length 65 := by simp; omega
  refine tw_len _ k (by rw [hl]; exact hk) (fun i hi => ?_) (fun hlt => ?_)
  · have := h i hi
    have hil : i < l.length := by omega
    simp [List.getD, hil] at this
    rw [List.getElem_take]; exact this
  · have := h2 (by rw [← hl]; exact hlt)
    have hil : k < l.length := by omega
    simp [List.getD, hil] at this
    rw [List.getElem_take]; exact this

set_option maxRecDepth 100000 in
theorem rsNat_nil (B q : Nat) (w : World) (hs : RefIs w B q []) :
    Calls Try.prog 113 #[.pointer (some ⟨q, 0, none⟩)] w fun e w' => e = .returned (.tuple #[.int .u64 0, .int .i64 10]) ∧ RefIs w' B q [] ∧ KeptR B q w w' := by
  obtain ⟨ao, cap, h0⟩ : ∃ ao cap, w.cell? ⟨q, 0, none⟩ = some (.slice ao 0 cap) := by
    obtain ⟨ao, cap, hq, _⟩ := hs.row
    exact ⟨ao, cap, cell_of_one hq⟩
  have HS := hide hs; clear hs
  go_enter Try.func113, Try.ntmps113
  go_wp2
  refine wp_loop_rounds 1 ?_
  rw [rounds_succ]
  go_wp2
  go_ret2
  exact ⟨rfl, HS.out, .refl _ _ _⟩

set_option maxRecDepth 100000 in
set_option maxHeartbeats 1600000 in
theorem rsNat_cons (B q b o cap : Nat) (l : List Bool) (w : World) (hs : RefIs w B q l) (h0 : w.cell? ⟨q, 0, none⟩ = some (.slice (some ⟨b, o, none⟩) l.length cap)) (hcap : l.length ≤ cap) (hpos : 0 < l.length)
    (hc : ∀ j, j < l.length → w.cell? ⟨b, o + j, none⟩ = some (.bool (l.getD j false))) :
    Calls Try.prog 113 #[.pointer (some ⟨q, 0, none⟩)] w fun e w' => e = .returned (.tuple #[.int .u64 ((natValL l : Nat) : Int), .int .i64 ((natErrL l : Nat) : Int)]) ∧ RefIs w' B q (natRestL l) ∧ KeptR B q w w' := by
  have hlen := hs.len
  have hfree := hs.free
  have HM := hide (fun k hk v hv => hs.moved k hk h0 v hv)
  have HS := hide hs
  clear hs
  obtain ⟨N, hN⟩ : ∃ N, N = l.length := ⟨_, rfl⟩
  rw [← hN] at h0 hcap hpos hlen
  have HN := hide hN; clear hN
  have HC := hide hc; clear hc
  go_enter Try.func113, Try.ntmps113
  go_wp2
  go_loop [4] (fun i => ∃ k : Nat, k ≤ N ∧ k ≤ 65 ∧ i = .int .i64 k ∧ ∀ i, i < k → l.getD i false = false) (fun i => 65 - (intOf i).toNat)
  case atStart => exact ⟨0, Nat.zero_le _, by omega, rfl, by intro i hi; omega⟩
  case round =>
    obtain ⟨k, hkN, hk65, rfl, hz⟩ := hrel
    have HZ := hide hz; clear hz
    by_cases hA : k = 65
    · subst hA
      have he : zerosL l = 65 := zerosL_eq l 65 (by rw [← HN.out]; omega) HZ.out (by omega)
      have hE : natErrL l = 11 := by unfold natErrL; rw [he, if_pos (by decide)]
      have HE := hide hE; clear hE he
      by_cases hb : 65 < N
      · go_wp2
        go_ret2
        rw [natValL, natRestL, HE.out]
        exact ⟨rfl, HS.out, .refl _ _ _⟩
      · go_wp2
        go_ret2
        rw [natValL, natRestL, HE.out]
        exact ⟨rfl, HS.out, .refl _ _ _⟩
    have hk64 : k ≤ 64 := by omega
    have HA := hide hA; clear hA
    by_cases hB : N ≤ k
    · have he : zerosL l = k := zerosL_eq l k (by rw [← HN.out]; omega) HZ.out (by rw [← HN.out]; omega)
      have hE : natErrL l = 10 := by unfold natErrL; rw [he, if_neg (by omega), if_pos (by rw [← HN.out]; omega)]
      have HE := hide hE; clear hE he
      go_wp2
      go_ret2
      rw [natValL, natRestL, HE.out]
      exact ⟨rfl, HS.out, .refl _ _ _⟩
    have hlt : k < N := by omega
    have hcell := HC.out k (by rw [← HN.out]; exact hlt)
    cases hb : l.getD k false with
    | false =>
      rw [hb] at hcell
      have HB := hide hb; clear hb
      go_wp2
      go_round
      case rel =>
        refine ⟨k + 1, by omega, by omega, by go_num, fun i hi => ?_⟩
        by_cases hik : i = k
        · rw [hik]; exact HB.out
        · exact HZ.out i (by omega)
      case measure => simp [intOf]; omega
    | true =>
      rw [hb] at hcell
      have he : zerosL l = k := zerosL_eq l k (by rw [← HN.out]; omega) HZ.out (fun _ => hb)
      have HB := hide hb; clear hb
      by_cases hfew : N < 2 * k + 1
      · have hE : natErrL l = 10 := by unfold natErrL; rw [he, if_neg (by omega), if_pos (by rw [← HN.out]; omega)]
        have HE := hide hE; clear hE he
        go_wp2
        go_ret2
        rw [natValL, natRestL, HE.out]
        exact ⟨rfl, HS.out, .refl _ _ _⟩
      have hE0 : natErrL l = if k = 64 ∧ valBits ((l.drop (k + 1)).take k) ≠ 0 then 11 else 0 := by
        unfold natErrL; rw [he, if_neg (by omega), if_neg (by rw [← HN.out]; omega)]
      obtain ⟨V, hV⟩ : ∃ V, V = valBits ((l.drop (k + 1)).take k) := ⟨_, rfl⟩
      rw [← hV] at hE0
      have HEz := hide he; clear he
      -- the number that the bits behind the first 1 say
      have CV : k ≠ 0 → ∀ n c : Nat, n = k → Calls Try.prog 125 #[.slice (some ⟨b, o + (k + 1), none⟩) n c] w fun e w' => e = .returned (.int .u64 ((V : Nat) : Int)) ∧ w = w' := by
        intro _ n c hnk
        rw [hnk]
        have hll : ((l.drop (k + 1)).take k).length = k := by rw [List.length_take, List.length_drop, ← HN.out]; omega
        have := rValue_any b (o + (k + 1)) c ((l.drop (k + 1)).take k) w (by omega) (fun j hj => by
          rw [hll] at hj
          have h2 := HC.out (k + 1 + j) (by rw [← HN.out]; omega)
          rw [show o + (k + 1) + j = o + (k + 1 + j) by omega, h2]
          simp [List.getD, List.getElem?_drop, hj])
        rwa [hll, ← hV] at this
      have hV0 : k = 0 → V = 0 := by intro h; rw [hV, h]; simp [valBits]
      have hVlt : V < 2 ^ k := by
        have := valBits_lt ((l.drop (k + 1)).take k)
        rw [hV]
        rwa [show ((l.drop (k + 1)).take k).length = k by rw [List.length_take, List.length_drop, ← HN.out]; omega] at this
      have HV := hide hV; clear hV
      have HE0 := hide hE0; clear hE0
      by_cases hk0 : k = 0
      · subst hk0
        rw [Nat.add_zero] at hcell
        have HV0 := hide hV0; clear hV0 CV
        by_cases hc1 : cap = 1
        · subst hc1
          go_wp2_with (go_at_call 125; refine (rValue_nil _ _ _).mono ?_; rintro e w' ⟨rfl, rfl⟩)
          go_ret2
          have he : natErrL l = 0 := HE0.out.trans (if_neg (by rintro ⟨h, _⟩; exact absurd h (by decide)))
          rw [natValL, natRestL, he, if_pos rfl, if_pos rfl, HEz.out, ← HV.out]
          refine ⟨?_, HM.out (2 * 0 + 1) (by rw [← HN.out]; omega) _ (.inl ⟨by first | trivial | rfl | omega, by rw [← HN.out]; congr 1 <;> first | rfl | omega⟩), HS.out.keeps _⟩
          · rw [HV0.out (by trivial)]; rfl

        · have hc2 : 1 < cap := by omega
          have HC1 := hide hc1; clear hc1
          go_wp2_with (go_at_call 125; refine (rValue_nil _ _ _).mono ?_; rintro e w' ⟨rfl, rfl⟩)
          go_ret2
          have he : natErrL l = 0 := HE0.out.trans (if_neg (by rintro ⟨h, _⟩; exact absurd h (by decide)))
          rw [natValL, natRestL, he, if_pos rfl, if_pos rfl, HEz.out, ← HV.out]
          refine ⟨?_, HM.out (2 * 0 + 1) (by rw [← HN.out]; omega) _ (.inr (by rw [← HN.out] <;> rfl)), HS.out.keeps _⟩
          · rw [HV0.out (by trivial)]; rfl

      have CV2 := CV hk0
      have hk1 : 1 ≤ k := by omega
      clear CV hV0
      have HK0 := hide hk0; clear hk0
      have hcap1 : k + 1 < cap := by omega
      by_cases hk64e : k = 64
      · subst hk64e
        by_cases hVz : V = 0
        · subst hVz
          by_cases hc1 : cap = 129
          · subst hc1
            go_wp2_with (go_at_call 125; refine (CV2 _ _ (by omega)).mono ?_; rintro e w' ⟨rfl, rfl⟩)
            go_ret2
            have he : natErrL l = 0 := HE0.out.trans (if_neg (by rintro ⟨_, h⟩; exact h rfl))
            rw [natValL, natRestL, he, if_pos rfl, if_pos rfl, HEz.out, ← HV.out]
            refine ⟨?_, HM.out (2 * 64 + 1) (by rw [← HN.out]; omega) _ (.inl ⟨by first | trivial | rfl | omega, by rw [← HN.out]; congr 1 <;> first | rfl | omega⟩), HS.out.keeps _⟩
            · rfl
  
          · have hc2 : 129 < cap := by omega
            have HC1 := hide hc1; clear hc1
            go_wp2_with (go_at_call 125; refine (CV2 _ _ (by omega)).mono ?_; rintro e w' ⟨rfl, rfl⟩)
            go_ret2
            have he : natErrL l = 0 := HE0.out.trans (if_neg (by rintro ⟨_, h⟩; exact h rfl))
            rw [natValL, natRestL, he, if_pos rfl, if_pos rfl, HEz.out, ← HV.out]
            refine ⟨?_, HM.out (2 * 64 + 1) (by rw [← HN.out]; omega) _ (.inr (by rw [← HN.out] <;> rfl)), HS.out.keeps _⟩
            · rfl
  
        · have hVp : 0 < V := by omega
          have HVz := hide hVz; clear hVz
          go_wp2_with (go_at_call 125; refine (CV2 _ _ (by omega)).mono ?_; rintro e w' ⟨rfl, rfl⟩)
          go_ret2
          have he : natErrL l = 11 := HE0.out.trans (if_pos ⟨by trivial, HVz.out⟩)
          rw [natValL, natRestL, he]
          exact ⟨rfl, HS.out, .refl _ _ _⟩
      · have hk63 : k ≤ 63 := by omega
        have HK64 := hide hk64e; clear hk64e
        by_cases hc1 : cap = 2 * k + 1
        · subst hc1
          go_wp2_with (go_at_call 125; refine (CV2 _ _ (by omega)).mono ?_; rintro e w' ⟨rfl, rfl⟩)
          go_ret2
          have he : natErrL l = 0 := HE0.out.trans (if_neg (by rintro ⟨h, _⟩; exact HK64.out h))
          rw [natValL, natRestL, he, if_pos rfl, if_pos rfl, HEz.out, ← HV.out]
          refine ⟨?_, HM.out (2 * k + 1) (by rw [← HN.out]; omega) _ (.inl ⟨by first | trivial | rfl | omega, by rw [← HN.out]; congr 1 <;> first | rfl | omega⟩), HS.out.keeps _⟩
          · show Ending.returned (.tuple #[.int .u64 (IntKind.u64.wrap (IntKind.u64.wrap (IntKind.u64.wrap (2 ^ k) + (V : Int)) - 1)), .int .i64 0]) = _
            have h2k : (2 : Nat) ^ k ≤ 2 ^ 63 := Nat.pow_le_pow_right (by omega) hk63
            have h1k : 0 < (2 : Nat) ^ k := Nat.two_pow_pos k
            have hck : ((2 : Int) ^ k) = ((2 ^ k : Nat) : Int) := by push_cast; rfl
            have e : IntKind.u64.wrap (IntKind.u64.wrap (IntKind.u64.wrap (2 ^ k) + (V : Int)) - 1) = ((2 ^ k + V - 1 : Nat) : Int) := by
              rw [hck]; simp only [IntKind.wrap_u64]; omega
            rw [e]; rfl

        · have hc2 : 2 * k + 1 < cap := by omega
          have HC1 := hide hc1; clear hc1
          go_wp2_with (go_at_call 125; refine (CV2 _ _ (by omega)).mono ?_; rintro e w' ⟨rfl, rfl⟩)
          go_ret2
          have he : natErrL l = 0 := HE0.out.trans (if_neg (by rintro ⟨h, _⟩; exact HK64.out h))
          rw [natValL, natRestL, he, if_pos rfl, if_pos rfl, HEz.out, ← HV.out]
          refine ⟨?_, HM.out (2 * k + 1) (by rw [← HN.out]; omega) _ (.inr (by rw [← HN.out] <;> rfl)), HS.out.keeps _⟩
          · show Ending.returned (.tuple #[.int .u64 (IntKind.u64.wrap (IntKind.u64.wrap (IntKind.u64.wrap (2 ^ k) + (V : Int)) - 1)), .int .i64 0]) = _
            have h2k : (2 : Nat) ^ k ≤ 2 ^ 63 := Nat.pow_le_pow_right (by omega) hk63
            have h1k : 0 < (2 : Nat) ^ k := Nat.two_pow_pos k
            have hck : ((2 : Int) ^ k) = ((2 ^ k : Nat) : Int) := by push_cast; rfl
            have e : IntKind.u64.wrap (IntKind.u64.wrap (IntKind.u64.wrap (2 ^ k) + (V : Int)) - 1) = ((2 ^ k + V - 1 : Nat) : Int) := by
              rw [hck]; simp only [IntKind.wrap_u64]; omega
            rw [e]; rfl
end Go.Proofs.Ytiljekpfkkocnaa
