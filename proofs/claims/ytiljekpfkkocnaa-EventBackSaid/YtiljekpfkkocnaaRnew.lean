/- Contract of New of the document's own source: all bits of the bytes are left to it. -/
import Derived.Test.YtiljekpfkkocnaaStext
namespace Go.Proofs.Ytiljekpfkkocnaa
open Go Go.RowKit

theorem own_shape_pos {w : World} {base e size n : Nat} {v : Value} {xs : List Value} (h : w.ownsRow base e size v n xs) (hn : 0 < n) : ∃ g cap, v = .slice (some ⟨g, 0, none⟩) n cap := by
  rcases h.2 with ⟨_, h0⟩ | ⟨g, cap, cur, hv, _⟩
  · omega
  · exact ⟨g, cap, hv⟩
theorem RefIs.of_own {w : World} {B q : Nat} {l : List Bool} {v : Value} (hB : B ≤ q) (hl : l.length ≤ 1125899906842624) (hq : w.heap[q]? = some (.cells #[v] 60 (0, 0))) (ho : w.ownsRow B 4 1 v l.length (boolVs l)) : RefIs w B q l := by
  rcases ho.2 with ⟨hv, hn0⟩ | ⟨g, cap, cur, hv, hg, hgg, hgn, hcapm, hcsz, htake⟩
  · subst hv
    refine ⟨hB, hl, none, 0, by rw [hn0]; exact hq, by omega, fun _ => rfl, fun a ha => by cases ha⟩
  · subst hv
    refine ⟨hB, hl, some ⟨g, 0, none⟩, cap, hq, hgn, (fun h => by cases h), fun a ha => ?_⟩
    simp only [Option.some.injEq] at ha
    subst ha
    refine ⟨rfl, cur, hgg, fun j hj => ?_⟩
    have h1 := ho.cells (g := g) rfl j (.bool (l.getD j false)) (by simp [boolVs, hj])
    rw [add_off, cell_of_row w g j cur 4 (0, 0) hgg] at h1
    simpa using h1

set_option maxRecDepth 100000 in
theorem rNew_nil (ao : Option Addr) (cap : Nat) (w : World) :
    Calls Try.prog 33 #[.slice ao 0 cap] w fun e w' => ∃ q, e = .returned (.pointer (some ⟨q, 0, none⟩)) ∧ RefIs w' w.heap.size q (bitsAll []) ∧ Below w.heap.size w w' := by
  go_enter Try.func33, Try.ntmps33
  go_wp2
  refine wp_loop_rounds 1 ?_
  rw [rounds_succ]
  go_wp2
  go_ret
  exact ⟨w.heap.size, rfl, RefIs.of_own (Nat.le_refl _) (by simp [bitsAll]) (heap_alloc_new _ _) (by simpa [bitsAll, boolVs] using World.ownsRow_nil _ _ _ _), (Below.refl _ _).alloc (Nat.le_refl _) _⟩

set_option maxRecDepth 100000 in
set_option maxHeartbeats 1600000 in
theorem rNew_some (b off cap : Nat) (bytes : List Nat) (w : World) (hbig : bytes.length ≤ 1048576) (hsm : ∀ c ∈ bytes, c < 256) (hbw : b < w.heap.size)
    (hc : ∀ j, j < bytes.length → w.cell? ⟨b, off + j, none⟩ = some (.int .u8 ((bytes.getD j 0 : Nat) : Int))) :
    Calls Try.prog 33 #[.slice (some ⟨b, off, none⟩) bytes.length cap] w fun e w' => ∃ q, e = .returned (.pointer (some ⟨q, 0, none⟩)) ∧ RefIs w' w.heap.size q (bitsAll bytes) ∧ Below w.heap.size w w' := by
  obtain ⟨i0, hi, hz0, hz1, hz2⟩ := info_parts Try.info4
  obtain ⟨N, hN⟩ : ∃ N, N = bytes.length := ⟨_, rfl⟩
  rw [← hN] at hbig ⊢
  have HN := hide hN; clear hN
  have HC := hide hc; clear hc
  have HSm := hide hsm; clear hsm
  obtain ⟨H0, hH0⟩ : ∃ H0, H0 = w.heap.size := ⟨_, rfl⟩
  rw [← hH0] at hbw
  have HH := hide hH0
  go_enter Try.func33, Try.ntmps33
  go_wp2
  rw [← hH0]
  clear hH0
  go_loopw [4] (fun i wr => ∃ (k : Nat) (v : Value), k ≤ N ∧ i = .int .i64 k ∧ wr.heap[H0]? = some (.cells #[v] 60 (0, 0)) ∧ wr.ownsRow H0 4 1 v (8 * k) (boolVs (bitsAll (bytes.take k))) ∧ Below H0 w wr) (fun i _ => N - (intOf i).toNat)
  case atStart =>
    refine ⟨0, .slice none 0 0, Nat.zero_le _, rfl, ?_, ?_, (Below.refl _ _).alloc (by rw [HH.out]; exact Nat.le_refl _) _⟩
    · rw [HH.out]; exact heap_alloc_new _ _
    · simpa [bitsAll, boolVs] using World.ownsRow_nil _ _ _ _
  case round =>
    obtain ⟨k, v, hk, rfl, hq, hown, hbel⟩ := hrel
    have HQ := hide hq; have HO := hide hown; have HB := hide hbel
    by_cases hlt : k < N
    · have hcell := (hbel.cell (p := ⟨b, off + k, none⟩) hbw).trans (HC.out k (by rw [← HN.out]; exact hlt))
      obtain ⟨c, hcc⟩ : ∃ c, c = bytes.getD k 0 := ⟨_, rfl⟩
      rw [← hcc] at hcell
      have hc256 : c < 256 := by
        have hk' : k < bytes.length := by rw [← HN.out]; exact hlt
        rw [hcc, List.getD, List.getElem?_eq_getElem hk']
        exact HSm.out _ (List.getElem_mem _)
      have HCC := hide hcc; clear hcc
      have q0 := cell_of_one hq
      have qf := free_of_one hq
      have hqlt := lt_of_block hq
      have hH0r : H0 ≤ wr.heap.size := by omega
      have CW : ∀ w, Calls Try.prog 24 #[.int .u64 (c : Int), .int .i64 8] w fun e w' => ∃ v, e = .returned v ∧ Flags w' w.heap.size v (bitsOf c (7 + 1)) ∧ Below w.heap.size w w' := fun w => rLow_any c 8 w (by omega) (by omega)
      have hcw : IntKind.u64.wrap (c : Int) = (c : Int) := by rw [IntKind.wrap_u64]; omega
      clear hq hown hbel
      go_wp2_with fail
      go_region_law (first | (go_simp; go_at_call 24; refine (CW _).mono ?_; rintro e w2 ⟨v2, rfl, hf2, hb2⟩; obtain ⟨g2, c2, rfl⟩ := flags_shape hf2; have HF2 := hide hf2; have HB2 := hide hb2; have HQ2 := hide ((hb2.block H0 (by simpa using hqlt)).trans HQ.out); have q02 := cell_of_one HQ2.out; have qf2 := free_of_one HQ2.out; clear hf2 hb2) | (refine step_append_own rfl (.tmp 17) (.tmp 23) 41 rfl H0 4 i0 (.bool false) 1 1 Try.underlying41 hi hz0 hz1 hz2 rfl (by decide) v (8 * k) (boolVs (bitsAll (bytes.take k))) (by simp [Act.eval]) (ownsRow_below (ownsRow_drew HO.out) HB2.out (Nat.le_refl _)) ⟨g2, 0, none⟩ 8 c2 (boolVs (bitsOf c 8)) (by simp [Act.eval]) (by simp [boolVs_length, bitsOf_length]) (HF2.out.cells (g := g2) rfl) (boolVs_one _) (by unfold maxLen; omega) (by omega) (by have := HB2.out.size; simp at this; omega) ?_; intro v3 w3 hown3 hgrow3; obtain ⟨g3, c3, rfl⟩ := own_shape_pos hown3 (Nat.succ_pos _); have HO3 := hide hown3; have HG3 := hide hgrow3; have HQ3 := hide (grow_keeps (w0 := w2) HQ2.out (ownsRow_below (ownsRow_drew HO.out) HB2.out (Nat.le_refl _)) (by decide) HG3.out rfl); have q03 := cell_of_one HQ3.out; have qf3 := free_of_one HQ3.out; clear hown3 hgrow3))
      all_goals go_wp2
      all_goals go_roundw
      all_goals try (case' measure => simp [intOf]; omega)
      all_goals
        refine ⟨k + 1, .slice (some ⟨g3, 0, none⟩) (8 * k + 8) c3, by omega, by go_num, ?_, ?_, ?_⟩
        · rw [one_setCell HQ3.out]
        · have h1 : bitsAll (bytes.take (k + 1)) = bitsAll (bytes.take k) ++ bitsOf c 8 := by
            have hk' : k < bytes.length := by rw [← HN.out]; exact hlt
            rw [List.take_succ_eq_append_getElem hk', bitsAll_snoc]
            have := HCC.out
            rw [List.getD, List.getElem?_eq_getElem hk'] at this
            rw [this]; rfl
          rw [h1, boolVs_append, show 8 * (k + 1) = 8 * k + 8 by omega]
          exact ownsRow_setCell_typed HO3.out HQ3.out (by decide) _
        · have b1 := (HB.out.drew).trans (HB2.out.mono (by simpa using hH0r))
          have b2 := b1.grown HG3.out (Nat.le_trans hH0r (by simpa using HB2.out.size)) (fun j hj => (HO.out.lt j hj).1)
          exact b2.setCell (p := ⟨H0, 0, none⟩) (Nat.le_refl _) _
    · go_wp2
      go_ret
      obtain rfl : k = N := by omega
      have ho := HO.out
      rw [List.take_of_length_le (by rw [← HN.out]; omega)] at ho
      rw [← HH.out]
      refine ⟨H0, rfl, RefIs.of_own (Nat.le_refl _) (by rw [bitsAll_length, ← HN.out]; omega) HQ.out (by rw [bitsAll_length, ← HN.out]; exact ho), HB.out⟩
end Go.Proofs.Ytiljekpfkkocnaa
