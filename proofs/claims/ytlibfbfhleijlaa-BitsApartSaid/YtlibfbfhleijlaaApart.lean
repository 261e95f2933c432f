/- The walk of BitsApart: it answers true, and what was there is as it was. -/
import Derived.Test.YtlibfbfhleijlaaApartm
import Derived.Test.YtlibfbfhleijlaaRnat
namespace Go.Proofs.Ytlibfbfhleijlaa
open Go Go.RowKit

theorem flags_nat {w : World} {B u : Nat} {v : Value} (h : Flags w B v (natBits u)) : ∃ g cap, v = .slice (some ⟨g, 0, none⟩) (2 * ahd u + 1) cap := by
  unfold Flags at h
  rw [natBits_length] at h
  exact own_shape h
theorem Flags.cell {w : World} {B g n cap : Nat} {bs : List Bool} (h : Flags w B (.slice (some ⟨g, 0, none⟩) n cap) bs) (i : Nat) (hi : i < bs.length) : w.cell? ⟨g, i, none⟩ = some (.bool (bs.getD i false)) := by
  have := World.ownsRow.cells h (g := g) rfl i (.bool (bs.getD i false)) (by simp [boolVs, hi])
  rwa [add_off] at this
theorem Flags.drewN {w : World} {B : Nat} {v : Value} {bs : List Bool} (h : Flags w B v bs) (n : Nat) : Flags (w.drewN n) B v bs := h
theorem below_drewN' {B : Nat} {a w : World} (h : Below B a w) (n : Nat) : Below B a (w.drewN n) := ⟨h.os, h.tape, h.output, h.size, h.block⟩
theorem take_succ_beq (l m : List Bool) (k : Nat) (h1 : k < l.length) (h2 : k < m.length) : (l.take (k + 1) == m.take (k + 1)) = ((l.take k == m.take k) && (l.getD k false == m.getD k false)) := by
  rw [List.take_succ_eq_append_getElem h1, List.take_succ_eq_append_getElem h2]
  rw [Bool.eq_iff_iff]
  simp only [beq_iff_eq, Bool.and_eq_true]
  constructor
  · intro h
    have h3 := List.append_inj h (by simp; omega)
    refine ⟨h3.1, ?_⟩
    have h4 := h3.2
    simp only [List.cons.injEq, and_true] at h4
    simp [List.getD, h1, h2, h4]
  · rintro ⟨h3, h4⟩
    simp [List.getD, h1, h2] at h4
    rw [h3, h4]

set_option maxRecDepth 100000 in
set_option maxHeartbeats 1000000 in
theorem apart_walk (a b : Nat) (w : World) (ha : a < 2 ^ 64) (hb : b < 2 ^ 64) :
    Calls Try.prog 6 #[.int .u64 (a : Int), .int .u64 (b : Int)] w fun e w' => e = .returned (.bool true) ∧ Below w.heap.size w w' := by
  obtain ⟨A, hA⟩ : ∃ A, A = ahd a := ⟨_, rfl⟩
  obtain ⟨C, hC⟩ : ∃ C, C = ahd b := ⟨_, rfl⟩
  have hA64 : A ≤ 64 := by rw [hA]; exact ahd_le a ha
  have hC64 : C ≤ 64 := by rw [hC]; exact ahd_le b hb
  have hmono : b ≤ a → C ≤ A := by rw [hA, hC]; exact ahd_mono b a
  have SA := fun w => Size_any a ha w
  have SC := fun w => Size_any b hb w
  rw [← hA] at SA
  rw [← hC] at SC
  have HA := hide hA; have HC := hide hC
  have HM := hide hmono; clear hA hC hmono
  go_enter Try.func6, Try.ntmps6
  go_wp2_with fail
  refine (rNat_any a _ ha).mono ?_
  rintro e w1 ⟨v1, rfl, hf1, b1⟩
  obtain ⟨g1, c1, rfl⟩ := flags_nat hf1
  rw [← HA.out] at hf1 ⊢
  go_wp2_with fail
  refine (rNat_any b _ hb).mono ?_
  rintro e w2 ⟨v2, rfl, hf2, b2⟩
  obtain ⟨g2, c2, rfl⟩ := flags_nat hf2
  rw [← HC.out] at hf2 ⊢
  go_wp2_with fail
  refine (live_any _).mono ?_
  rintro e w3 ⟨rfl, b3⟩
  go_wp2_with fail
  refine (SA _).mono ?_
  rintro e w' ⟨rfl, rfl⟩
  go_wp2_with fail
  refine (SC _).mono ?_
  rintro e w' ⟨rfl, rfl⟩
  have hb3 : Below w.heap.size w w3 := (b1.trans (b2.mono b1.size)).trans (b3.mono (Nat.le_trans b1.size b2.size))
  have hF1 : Flags w3 w.heap.size (.slice (some ⟨g1, 0, none⟩) (2 * A + 1) c1) (natBits a) := (hf1.below b2 (Nat.le_refl _)).below b3 (Nat.le_refl _)
  have hF2 : Flags w3 w.heap.size (.slice (some ⟨g2, 0, none⟩) (2 * C + 1) c2) (natBits b) := (hf2.below b3 (Nat.le_refl _)).lower b1.size
  have HB := hide hb3; have HF1 := hide hF1; have HF2 := hide hF2
  clear hb3 hF1 hF2 hf1 hf2 b1 b2 b3
  have hCA : b < a → C ≤ A := fun h => HM.out (by omega)
  by_cases hba : b < a
  all_goals
    have hCA' := hCA
    clear hCA
    try (have hCA2 : C ≤ A := hCA' hba)
    clear hCA'
    go_wp2_with (first | (go_at_call 27; first | (refine (SA _).mono ?_; rintro e w' ⟨rfl, rfl⟩) | (refine (SC _).mono ?_; rintro e w' ⟨rfl, rfl⟩)) | (go_at_call 8; refine (newSink_any _).mono ?_; rintro e w4 ⟨rfl, hs4, k4⟩))
    refine (kNat_fits _ _ a [] w4 ha hs4 (by have := HA.out; simp; omega)).mono ?_
    rintro e w5 ⟨rfl, hs5, k5⟩
    rw [List.nil_append] at hs5
    have CLn := kLen_any _ _ w5 hs5.made hs5.count
    rw [natBits_length, ← HA.out] at CLn
    have hb5 : Below w.heap.size w w5 := HB.out.trans ((k4.trans k5).below.mono HB.out.size)
    have HB5 := hide hb5
    have HG1 := hide (HF1.out.below (k4.trans k5).below (Nat.le_refl _))
    have HG2 := hide (HF2.out.below (k4.trans k5).below (Nat.le_refl _))
    clear hs4 hs5 k4 k5 hb5
    go_wp2_with fail
    refine CLn.mono ?_
    rintro e w' ⟨rfl, rfl⟩
    clear CLn
    obtain ⟨M, hM⟩ : ∃ M, M = min (2 * A + 1) (2 * C + 1) := ⟨_, rfl⟩
    have eM : min (2 * (A : Int) + 1) (2 * (C : Int) + 1) = (M : Int) := by omega
    have hM1 : M ≤ 2 * A + 1 := by omega
    have hM2 : M ≤ 2 * C + 1 := by omega
    have HMM := hide hM; clear hM
    go_wp2_with fail
    go_loopw [8, 59] (fun s i wr => ∃ k : Nat, k ≤ M ∧ i = .int .i64 k ∧ s = .bool ((natBits a).take k == (natBits b).take k) ∧ Flags wr w.heap.size (.slice (some ⟨g1, 0, none⟩) (2 * A + 1) c1) (natBits a) ∧ Flags wr w.heap.size (.slice (some ⟨g2, 0, none⟩) (2 * C + 1) c2) (natBits b) ∧ Below w.heap.size w wr) (fun _ i _ => M - (intOf i).toNat)
    case atStart => exact ⟨0, Nat.zero_le _, rfl, rfl, HG1.out, HG2.out, HB5.out⟩
    case round =>
      obtain ⟨k, hk, rfl, rfl, hr1, hr2, hbr⟩ := hrel
      have HR1 := hide hr1; have HR2 := hide hr2; have HBr := hide hbr; clear hr1 hr2 hbr
      by_cases hlt : k < M
      · have hc1 := HR1.out.cell k (by rw [natBits_length, ← HA.out]; omega)
        have hc2 := HR2.out.cell k (by rw [natBits_length, ← HC.out]; omega)
        have HT := hide (take_succ_beq (natBits a) (natBits b) k (by rw [natBits_length, ← HA.out]; omega) (by rw [natBits_length, ← HC.out]; omega))
        obtain ⟨x, hx⟩ : ∃ x, x = (natBits a).getD k false := ⟨_, rfl⟩
        obtain ⟨y, hy⟩ : ∃ y, y = (natBits b).getD k false := ⟨_, rfl⟩
        rw [← hx] at hc1; rw [← hy] at hc2
        have HX := hide hx; have HY := hide hy; clear hx hy
        cases hs : ((natBits a).take k == (natBits b).take k) with
        | true =>
          have HS := hide hs; clear hs
          go_wp2_with fail
          go_quiet (fail)
          go_wp2
          go_roundw
          case rel => exact ⟨k + 1, by omega, by go_num, by rw [HT.out, HS.out, HX.out, HY.out]; rfl, HR1.out.drewN _, HR2.out.drewN _, below_drewN' HBr.out _⟩
          case measure => simp [intOf]; omega
        | false =>
          have HS := hide hs; clear hs
          go_wp2_with fail
          go_quiet (fail)
          go_wp2
          go_roundw
          case rel => exact ⟨k + 1, by omega, by go_num, by rw [HT.out, HS.out]; rfl, HR1.out.drewN _, HR2.out.drewN _, below_drewN' HBr.out _⟩
          case measure => simp [intOf]; omega
      · obtain rfl : k = M := by omega
        have hres : ((natBits a).take k == (natBits b).take k) = decide (a = b) := by
          by_cases hab : a = b
          · subst hab; simp
          · have := apart_any a b k hab (by rw [HMM.out, HA.out, HC.out])
            simp [hab, this]
        go_wp2
        go_ret
        refine ⟨?_, HBr.out⟩
        show Ending.returned (.bool (decide (a = b) == ((a : Int) == (b : Int)))) = _
        rw [show (decide (a = b) == ((a : Int) == (b : Int))) = true by
          by_cases hab : a = b
          · subst hab; simp
          · have : ¬ ((a : Int) = (b : Int)) := by omega
            simp [hab, this]]
end Go.Proofs.Ytlibfbfhleijlaa
