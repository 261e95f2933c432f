/- Contract of put: the bits of a datagram that may be. -/
import Derived.Test.YtebojmjbolphfaaFm
import Derived.Test.YtebojmjbolphfaaFcl
import Derived.Test.YtebojmjbolphfaaPuts2
namespace Go.Proofs.Ytebojmjbolphfaa
open Go Go.RowKit Crc

set_option maxRecDepth 100000 in
set_option maxHeartbeats 1600000 in
theorem fPut_data (B q F T S A : Nat) (ao : Option Addr) (n cap : Nat) (x : List Nat) (w : World) (hs : SinkIs w B q []) (hx : Bv w B (.slice ao n cap) x) (hB : B ≤ w.heap.size)
    (hF : F < 16) (hT : T < 16) (hS : S ≤ 1099511627776) (hA : A ≤ 1099511627776) (hn : n ≤ 16384) :
    Calls Try.prog 32 #[.pointer (some ⟨q, 0, none⟩), .agg #[.int .i64 (F : Int), .int .i64 (T : Int), .int .i64 1, .int .i64 (S : Int), .int .i64 (A : Int), .slice ao n cap]] w
      fun e w' => e = .returned (.tuple #[]) ∧ SinkIs w' B q (dataBits F T S A x) ∧ Below B w w' := by
  obtain ⟨W, hW⟩ : ∃ W, W = w.alloc (.cells #[.int .i64 (F : Int), .int .i64 (T : Int), .int .i64 1, .int .i64 (S : Int), .int .i64 (A : Int), .slice ao n cap] 24) := ⟨_, rfl⟩
  have hbel : Below B w W := by rw [hW]; exact (Below.refl _ _).alloc hB _
  have HSW := hide (by rw [hW]; exact hs.below ((Below.refl w.heap.size w).alloc (Nat.le_refl _) _) (Nat.le_refl _) : SinkIs W B q [])
  have HXW := hide (hx.below hbel (Nat.le_refl _))
  have HPW := hide (by rw [hW]; exact heap_alloc_new w _ : W.heap[w.heap.size]? = some (.cells #[.int .i64 (F : Int), .int .i64 (T : Int), .int .i64 1, .int .i64 (S : Int), .int .i64 (A : Int), .slice ao n cap] 24 (0, 0)))
  have HBel := hide hbel; have HW := hide hW
  obtain ⟨P, hP⟩ : ∃ P, P = w.heap.size := ⟨_, rfl⟩
  rw [← hP] at HPW
  have HPP := hide hP
  have hnx := hx.bytesIn.1
  have HNX := hide hnx
  have hah := ahd_small A hA
  have hsh := ahd_small S hS
  have hnh := ahd_body n hn
  obtain ⟨aA, haA⟩ : ∃ aA, aA = ahd A := ⟨_, rfl⟩
  obtain ⟨aS, haS⟩ : ∃ aS, aS = ahd S := ⟨_, rfl⟩
  obtain ⟨aN, haN⟩ : ∃ aN, aN = ahd n := ⟨_, rfl⟩
  rw [← haA] at hah; rw [← haS] at hsh; rw [← haN] at hnh
  have HaA := hide haA; have HaS := hide haS; have HaN := hide haN
  clear hs hx hB hbel hnx haA haS haN hW
  go_enter Try.func32, Try.ntmps32
  go_wp2_with fail
  rw [← HW.out, ← hP]
  clear hP
  refine (kBits_fits B q 1 2 [] W HSW.out (by decide) (by decide) (by simp)).mono ?_
  rintro e w1 ⟨rfl, hs1, k1⟩
  obtain ⟨c0, c1, c2, c3, c4, c5⟩ := cell_of_six (k1.typed _ _ _ _ HPW.out (by decide))
  have HS1 := hide hs1; have K1 := hide k1; clear hs1 k1
  go_wp2_with fail
  refine (kBits_fits B q F 4 _ w1 HS1.out (by decide) (by omega) (by simp [bitsOf_length])).mono ?_
  rintro e w2 ⟨rfl, hs2, k2⟩
  have K2 := hide (K1.out.trans k2)
  clear c0 c1 c2 c3 c4 c5
  obtain ⟨c0, c1, c2, c3, c4, c5⟩ := cell_of_six (K2.out.typed _ _ _ _ HPW.out (by decide))
  have HS2 := hide hs2; clear hs2 k2
  go_wp2_with fail
  refine (kBits_fits B q T 4 _ w2 HS2.out (by decide) (by omega) (by simp [bitsOf_length])).mono ?_
  rintro e w3 ⟨rfl, hs3, k3⟩
  have K3 := hide (K2.out.trans k3)
  clear c0 c1 c2 c3 c4 c5
  obtain ⟨c0, c1, c2, c3, c4, c5⟩ := cell_of_six (K3.out.typed _ _ _ _ HPW.out (by decide))
  have HS3 := hide hs3; clear hs3 k3
  go_wp2_with fail
  refine (kNat_fits B q A _ w3 (by omega) HS3.out (by simp [bitsOf_length]; rw [← HaA.out]; omega)).mono ?_
  rintro e w4 ⟨rfl, hs4, k4⟩
  have K4 := hide (K3.out.trans k4)
  clear c0 c1 c2 c3 c4 c5
  obtain ⟨c0, c1, c2, c3, c4, c5⟩ := cell_of_six (K4.out.typed _ _ _ _ HPW.out (by decide))
  have HS4 := hide (show SinkIs w4 B q (headBits F T 1 A) from hs4); clear hs4 k4
  have hl4 : (headBits F T 1 A).length = 11 + 2 * aA := by rw [headBits_length, ← HaA.out]
  obtain ⟨b4, hb4⟩ : ∃ b4, b4 = headBits F T 1 A := ⟨_, rfl⟩
  rw [← hb4] at HS4 hl4
  have HB4 := hide hb4; have HL4 := hide hl4; clear hb4 hl4
  go_wp2_with fail
  refine (kNat_fits B q S _ w4 (by omega) HS4.out (by rw [HL4.out, ← HaS.out]; omega)).mono ?_
  rintro e w5 ⟨rfl, hs5, k5⟩
  have K5 := hide (K4.out.trans k5)
  clear c0 c1 c2 c3 c4 c5
  obtain ⟨c0, c1, c2, c3, c4, c5⟩ := cell_of_six (K5.out.typed _ _ _ _ HPW.out (by decide))
  have HS5 := hide hs5; clear hs5 k5
  go_wp2_with fail
  refine (kNat_fits B q n _ w5 (by omega) HS5.out (by rw [List.length_append, natBits_length, HL4.out, ← HaS.out, ← HaN.out]; omega)).mono ?_
  rintro e w6 ⟨rfl, hs6, k6⟩
  have K6 := hide (K5.out.trans k6)
  clear c0 c1 c2 c3 c4 c5
  obtain ⟨c0, c1, c2, c3, c4, c5⟩ := cell_of_six (K6.out.typed _ _ _ _ HPW.out (by decide))
  have hl6 : (b4 ++ natBits S ++ natBits n).length = 13 + 2 * aA + 2 * aS + 2 * aN := by rw [List.length_append, List.length_append, natBits_length, natBits_length, HL4.out, ← HaS.out, ← HaN.out]; omega
  obtain ⟨b6, hb6⟩ : ∃ b6, b6 = b4 ++ natBits S ++ natBits n := ⟨_, rfl⟩
  rw [← hb6] at hs6 hl6
  have HS6 := hide hs6; have HB6 := hide hb6; have HL6 := hide hl6
  clear hs6 k6 hb6 hl6
  have HXr := hide (HXW.out.below K6.out.below (Nat.le_refl _))
  go_wp2
  go_loopw [43] (fun i wr => ∃ j : Nat, j ≤ n ∧ i = .int .i64 j ∧ SinkIs wr B q (b6 ++ bodyBits (x.take j)) ∧ Kept B sinkT w6 wr) (fun i _ => n - (intOf i).toNat)
  case atStart => exact ⟨0, Nat.zero_le _, rfl, by simpa [bodyBits] using HS6.out, Kept.refl _ _ _⟩
  case round =>
    obtain ⟨j, hj, rfl, hsj, kj⟩ := hrel
    by_cases hlt : j < n
    · have hjx : j < x.length := by rw [← HNX.out]; exact hlt
      obtain ⟨ao', cap', h1, _, _, _, h3⟩ := (HXr.out.below kj.below (Nat.le_refl _)).row
      simp only [Value.slice.injEq] at h1
      obtain ⟨rfl, hnn, rfl⟩ := h1
      clear hnn
      obtain ⟨b, o, rfl, _, hcell⟩ := h3 (by omega)
      have hcj := hcell j hjx
      have hsm : x.getD j 0 < 256 := by
        rw [List.getD, List.getElem?_eq_getElem hjx]; exact HXr.out.small _ (List.getElem_mem _)
      have HT := hide (bodyBits_take x j hjx)
      obtain ⟨c, hc⟩ : ∃ c, c = x.getD j 0 := ⟨_, rfl⟩
      rw [← hc] at hcj hsm
      have HC := hide hc
      have hlj : (b6 ++ bodyBits (x.take j)).length ≤ 262144 := by rw [List.length_append, HL6.out, bodyBits_length, List.length_take]; omega
      have HLj := hide hlj; have HSj := hide hsj; have Kj := hide kj
      clear hjx h3 hcell hc hlj hsj kj
      go_wp2_with fail
      refine (kBits_fits B q c 8 _ wr HSj.out (by decide) (by omega) (by have := HLj.out; omega)).mono ?_
      rintro e w7 ⟨rfl, hs7, k7⟩
      have HS7 := hide hs7; have K7 := hide k7; clear hs7 k7
      go_wp2
      go_roundw
      case rel => exact ⟨j + 1, by omega, by go_num, by rw [HT.out, ← HC.out, ← List.append_assoc]; exact HS7.out, Kj.out.trans K7.out⟩
      case measure => simp [intOf]; omega
    · have HSj := hide hsj; have Kj := hide kj
      clear hsj kj
      go_wp2
      go_end0
      obtain rfl : j = n := by omega
      refine ⟨rfl, ?_, (HBel.out.trans K6.out.below).trans Kj.out.below⟩
      have := HSj.out
      rw [List.take_of_length_le (by rw [← HNX.out]; omega), HB6.out, HB4.out, HNX.out] at this
      exact this

set_option maxRecDepth 100000 in
set_option maxHeartbeats 1600000 in
theorem fPut_ack (B q F T S A : Nat) (ao : Option Addr) (n cap : Nat) (w : World) (hs : SinkIs w B q []) (hB : B ≤ w.heap.size)
    (hF : F < 16) (hT : T < 16) (hA : A ≤ 1099511627776) :
    Calls Try.prog 32 #[.pointer (some ⟨q, 0, none⟩), .agg #[.int .i64 (F : Int), .int .i64 (T : Int), .int .i64 2, .int .i64 (S : Int), .int .i64 (A : Int), .slice ao n cap]] w
      fun e w' => e = .returned (.tuple #[]) ∧ SinkIs w' B q (headBits F T 2 A) ∧ Below B w w' := by
  obtain ⟨W, hW⟩ : ∃ W, W = w.alloc (.cells #[.int .i64 (F : Int), .int .i64 (T : Int), .int .i64 2, .int .i64 (S : Int), .int .i64 (A : Int), .slice ao n cap] 24) := ⟨_, rfl⟩
  have hbel : Below B w W := by rw [hW]; exact (Below.refl _ _).alloc hB _
  have HSW := hide (by rw [hW]; exact hs.below ((Below.refl w.heap.size w).alloc (Nat.le_refl _) _) (Nat.le_refl _) : SinkIs W B q [])
  have HPW := hide (by rw [hW]; exact heap_alloc_new w _ : W.heap[w.heap.size]? = some (.cells #[.int .i64 (F : Int), .int .i64 (T : Int), .int .i64 2, .int .i64 (S : Int), .int .i64 (A : Int), .slice ao n cap] 24 (0, 0)))
  have HBel := hide hbel; have HW := hide hW
  obtain ⟨P, hP⟩ : ∃ P, P = w.heap.size := ⟨_, rfl⟩
  rw [← hP] at HPW
  have hah := ahd_small A hA
  obtain ⟨aA, haA⟩ : ∃ aA, aA = ahd A := ⟨_, rfl⟩
  rw [← haA] at hah
  have HaA := hide haA
  clear hs hB hbel haA hW
  go_enter Try.func32, Try.ntmps32
  go_wp2_with fail
  rw [← HW.out, ← hP]
  clear hP
  refine (kBits_fits B q 2 2 [] W HSW.out (by decide) (by decide) (by simp)).mono ?_
  rintro e w1 ⟨rfl, hs1, k1⟩
  obtain ⟨c0, c1, c2, c3, c4, c5⟩ := cell_of_six (k1.typed _ _ _ _ HPW.out (by decide))
  have HS1 := hide hs1; have K1 := hide k1; clear hs1 k1
  go_wp2_with fail
  refine (kBits_fits B q F 4 _ w1 HS1.out (by decide) (by omega) (by simp [bitsOf_length])).mono ?_
  rintro e w2 ⟨rfl, hs2, k2⟩
  have K2 := hide (K1.out.trans k2)
  clear c0 c1 c2 c3 c4 c5
  obtain ⟨c0, c1, c2, c3, c4, c5⟩ := cell_of_six (K2.out.typed _ _ _ _ HPW.out (by decide))
  have HS2 := hide hs2; clear hs2 k2
  go_wp2_with fail
  refine (kBits_fits B q T 4 _ w2 HS2.out (by decide) (by omega) (by simp [bitsOf_length])).mono ?_
  rintro e w3 ⟨rfl, hs3, k3⟩
  have K3 := hide (K2.out.trans k3)
  clear c0 c1 c2 c3 c4 c5
  obtain ⟨c0, c1, c2, c3, c4, c5⟩ := cell_of_six (K3.out.typed _ _ _ _ HPW.out (by decide))
  have HS3 := hide hs3; clear hs3 k3
  go_wp2_with fail
  refine (kNat_fits B q A _ w3 (by omega) HS3.out (by simp [bitsOf_length]; rw [← HaA.out]; omega)).mono ?_
  rintro e w4 ⟨rfl, hs4, k4⟩
  have K4 := hide (K3.out.trans k4)
  clear c0 c1 c2 c3 c4 c5
  obtain ⟨c0, c1, c2, c3, c4, c5⟩ := cell_of_six (K4.out.typed _ _ _ _ HPW.out (by decide))
  have HS4 := hide (show SinkIs w4 B q (headBits F T 2 A) from hs4); clear hs4 k4
  go_wp2
  go_end0
  exact ⟨rfl, HS4.out, HBel.out.trans K4.out.below⟩
end Go.Proofs.Ytebojmjbolphfaa
