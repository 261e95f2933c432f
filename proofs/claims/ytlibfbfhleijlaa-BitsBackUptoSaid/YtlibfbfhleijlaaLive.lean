/- Contract: live answers true, and what was there is as it was. -/
import Derived.Test.YtlibfbfhleijlaaSnew
namespace Go.Proofs.Ytlibfbfhleijlaa
open Go Go.RowKit

theorem bytesIn_own {w : World} {B : Nat} {v : Value} {bytes : List Nat} (h : w.ownsRow B 5 1 v bytes.length (byteVs bytes)) :
    ∃ ao cap, v = .slice ao bytes.length cap ∧ Lib.BytesIn w ao bytes.length (bytes.map fun x : Nat => (x : Int)) := by
  rcases h.2 with ⟨hv, hn0⟩ | ⟨g, cap, cur, hv, hg, hgg, hgn, hcapm, hcsz, htake⟩
  · refine ⟨none, 0, by rw [hv, hn0], ?_⟩
    intro h; omega
  · refine ⟨some ⟨g, 0, none⟩, cap, hv, ?_⟩
    subst hv
    refine fun _ => ⟨g, 0, rfl, fun i hi => ?_⟩
    have := h.cells (g := g) rfl i (.int .u8 ((bytes.getD i 0 : Nat) : Int)) (by simp [byteVs, hi])
    rw [add_off] at this
    rw [Nat.zero_add, this]
    simp [List.getD, hi]
theorem bytesIn_lit (w : World) (c : Nat) (t : Nat) : Lib.BytesIn (w.alloc (.cells #[.int .u8 (c : Int)] t)) (some ⟨w.heap.size, 0, none⟩) 1 [(c : Int)] :=
  fun _ => ⟨w.heap.size, 0, rfl, fun i hi => by
    obtain rfl : i = 0 := by omega
    exact cell_alloc_one _ _ rfl _ _⟩
theorem bytesAt_lit (w : World) (c : Nat) (t : Nat) : BytesAt (w.alloc (.cells #[.int .u8 (c : Int)] t)) (some ⟨w.heap.size, 0, none⟩) [c] := by
  refine ⟨fun h => (by cases h), fun a ha j hj => ?_⟩
  simp only [Option.some.injEq] at ha
  subst ha
  obtain rfl : j = 0 := by simpa using hj
  rw [add_off]
  exact cell_alloc_one _ _ rfl _ _

theorem natBits4 : natBits 4 = [false, false, true, false, true] := by decide +kernel
theorem packed4 : packed (natBits 4) = [40] := by decide +kernel
theorem ahd4 : ahd 4 = 2 := by decide +kernel
theorem ahd1 : ahd 1 = 1 := by decide +kernel
theorem natErr40 : natErr [40] 0 = 0 := by decide +kernel
theorem natVal40 : natVal [40] 0 = 4 := by decide +kernel
theorem natNext40 : natNext [40] 0 = 5 := by decide +kernel
theorem endErr40 : endErr [40] 5 = 0 := by decide +kernel

set_option maxRecDepth 100000 in
set_option maxHeartbeats 400000 in
theorem live_any (w : World) :
    Calls Try.prog 9 #[] w fun e w' => e = .returned (.bool true) ∧ Below w.heap.size w w' := by
  go_enter Try.func9, Try.ntmps9
  go_wp2_with fail
  refine (newSink_any w).mono ?_
  rintro e w1 ⟨rfl, hs1, k1⟩
  go_wp2_with fail
  refine (kNat_fits _ _ 4 [] w1 (by decide) hs1 (by rw [ahd4]; simp)).mono ?_
  rintro e w2 ⟨rfl, hs2, k2⟩
  rw [List.nil_append] at hs2
  go_wp2_with fail
  have C := kLen_any _ _ w2 hs2.made hs2.count
  rw [show (natBits 4).length = 5 by decide +kernel] at C
  refine C.mono ?_
  rintro e w' ⟨rfl, rfl⟩
  clear C
  go_wp2_with fail
  have C := kOut_any _ _ _ w2 hs2
  rw [packed4] at C
  refine C.mono ?_
  clear C
  rintro e w3 ⟨v, rfl, ho3, b3⟩
  obtain ⟨ao, cap, rfl, hb3⟩ := bytesIn_own (bytes := [40]) ho3
  have hb4 : Lib.BytesIn (w3.alloc (.cells #[.int .u8 40] 5)) ao 1 [40] := by
    obtain ⟨ao', cap', e, hb⟩ := bytesIn_own (bytes := [40]) (ho3.alloc (.cells #[.int .u8 40] 5))
    simp only [Value.slice.injEq] at e
    rw [e.1]; exact hb
  have HB3 := hide hb4; clear hb3 ho3 hb4
  go_wp2_with fail
  refine (Try.bytes_Equal_all ao (some ⟨w3.heap.size, 0, none⟩) 1 cap 1 1 [40] [40] _ rfl rfl HB3.out (bytesIn_lit w3 40 _)).mono ?_
  rintro e w4 ⟨rfl, hw4⟩
  have hbel4 : Below w.heap.size w w4 := by
    rw [hw4]
    exact (((k1.below.trans k2.below).trans (b3.mono (Nat.le_trans k1.below.size k2.below.size))).alloc (Nat.le_trans (Nat.le_trans k1.below.size k2.below.size) b3.size) _)
  have HBel := hide hbel4
  clear hbel4 hw4 HB3 b3 k1 k2 hs1 hs2
  have e40 : (Lib.bytesOf [40] == Lib.bytesOf [40]) = true := by decide +kernel
  rw [e40]
  go_wp2_with fail
  refine (newSource_any (some ⟨w4.heap.size, 0, none⟩) 1 [40] _ (by simp) (by simp) (bytesAt_lit w4 40 _)).mono ?_
  rintro e w5 ⟨q, rfl, hs5, b5⟩
  have hbel5 : Below w.heap.size w w5 := (HBel.out.alloc HBel.out.size (.cells #[.int .u8 40] 5)).trans (b5.mono (by have := HBel.out.size; simp; omega))
  have HBel5 := hide hbel5
  clear hbel5 b5
  go_wp2_with fail
  have C := sNat_any _ _ _ _ _ hs5
  rw [natErr40, natVal40, natNext40] at C
  refine C.mono ?_
  clear C
  rintro e w6 ⟨rfl, hs6, k6⟩
  go_wp2_with fail
  have C := sEnd_any _ _ _ _ _ hs6
  rw [endErr40] at C
  refine C.mono ?_
  clear C
  rintro e w7 ⟨rfl, hs7, k7⟩
  go_wp2_with fail
  have C := Size_any 1 (by decide) w7
  rw [ahd1] at C
  refine C.mono ?_
  clear C
  rintro e w' ⟨rfl, rfl⟩
  go_wp2
  go_ret
  refine ⟨rfl, (HBel5.out.trans (k6.below.mono ?_)).trans (k7.below.mono ?_)⟩
  · have := HBel.out.size; simp; omega
  · have := HBel.out.size; simp; omega
end Go.Proofs.Ytlibfbfhleijlaa
