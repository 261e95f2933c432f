/- Contracts of the document's own answers on bits: Low, long, Nat. -/
import Derived.Test.YtiljekpfkkocnaaSnew
namespace Go.Proofs.Ytiljekpfkkocnaa
open Go Go.RowKit

theorem bytesIn_own {w : World} {B : Nat} {v : Value} {bytes : List Nat} (h : w.ownsRow B 5 1 v bytes.length (byteVs bytes)) :
    ∃ ao cap, v = .slice ao bytes.length cap ∧ Lib.BytesIn w ao bytes.length (bytes.map fun x : Nat => (x : Int)) := by
  rcases h.2 with ⟨hv, hn0⟩ | ⟨g, cap, cur, hv, hg, hgg, hgn, hcapm, hcsz, htake⟩
  · refine ⟨none, 0, by rw [hv, hn0], ?_⟩
    intro h; omega
  · refine ⟨some ⟨g, 0, none⟩, cap, hv, ?_⟩
    subst hv
    refine fun _ => ⟨g, 0, rfl, fun i hi => ?_⟩
    have := h.cells (g := g) rfl i (.int .u8 ((bytes.getD i 0 : Nat) : Int)) (by simp [byteVs, hi])
    rw [add_off] at this
    rw [Nat.zero_add, this]
    simp [List.getD, hi]
theorem bytesIn_lit (w : World) (c : Nat) (t : Nat) : Lib.BytesIn (w.alloc (.cells #[.int .u8 (c : Int)] t)) (some ⟨w.heap.size, 0, none⟩) 1 [(c : Int)] :=
  fun _ => ⟨w.heap.size, 0, rfl, fun i hi => by
    obtain rfl : i = 0 := by omega
    exact cell_alloc_one _ _ rfl _ _⟩
theorem bytesAt_lit (w : World) (c : Nat) (t : Nat) : BytesAt (w.alloc (.cells #[.int .u8 (c : Int)] t)) (some ⟨w.heap.size, 0, none⟩) [c] := by
  refine ⟨fun h => (by cases h), fun a ha j hj => ?_⟩
  simp only [Option.some.injEq] at ha
  subst ha
  obtain rfl : j = 0 := by simpa using hj
  rw [add_off]
  exact cell_alloc_one _ _ rfl _ _

theorem natBits4 : natBits 4 = [false, false, true, false, true] := by decide +kernel
theorem packed4 : packed (natBits 4) = [40] := by decide +kernel
theorem ahd4 : ahd 4 = 2 := by decide +kernel
theorem ahd1 : ahd 1 = 1 := by decide +kernel
theorem natErr40 : natErr [40] 0 = 0 := by decide +kernel
theorem natVal40 : natVal [40] 0 = 4 := by decide +kernel
theorem natNext40 : natNext [40] 0 = 5 := by decide +kernel
theorem endErr40 : endErr [40] 5 = 0 := by decide +kernel

end Go.Proofs.Ytiljekpfkkocnaa
namespace Go.Proofs.Ytiljekpfkkocnaa
open Go Go.RowKit

theorem Try.info4 : (Try.prog.info? 4).map (fun i => (i.zero, i.size, i.bytes)) = some (some (.bool false), 1, 1) := by kernel_rfl

def boolVs (l : List Bool) : List Value := l.map Value.bool
theorem boolVs_length (l : List Bool) : (boolVs l).length = l.length := by simp [boolVs]
theorem boolVs_one (l : List Bool) : ∀ u ∈ boolVs l, u.oneCell' = true := by
  intro u hu; simp [boolVs] at hu; rcases hu with ⟨_, rfl⟩ | ⟨_, rfl⟩ <;> rfl
theorem boolVs_append (l m : List Bool) : boolVs (l ++ m) = boolVs l ++ boolVs m := by simp [boolVs]

/-- The value v is a slice of just these flags, in a row from block B on. -/
def Flags (w : World) (B : Nat) (v : Value) (bs : List Bool) : Prop := w.ownsRow B 4 1 v bs.length (boolVs bs)

set_option maxRecDepth 100000 in
set_option maxHeartbeats 400000 in
theorem rLow_any (u n : Nat) (w : World) (hu : u < 2 ^ 64) (hn : n ≤ 64) :
    Calls Try.prog 24 #[.int .u64 (u : Int), .int .i64 (n : Int)] w fun e w' => ∃ v, e = .returned v ∧ Flags w' w.heap.size v (bitsOf u n) ∧ Below w.heap.size w w' := by
  obtain ⟨i0, hi, hz0, hz1, hz2⟩ := info_parts Try.info4
  have hu' : (u : Int) ≤ 18446744073709551615 := by omega
  have HU := hide hu; clear hu
  go_enter Try.func24, Try.ntmps24
  go_wp2
  go_loopw [5, 6] (fun v i wr => ∃ k : Nat, k ≤ n ∧ i = .int .i64 ((n : Int) - 1 - k) ∧ wr.ownsRow w.heap.size 4 1 v k (boolVs ((bitsOf u n).take k)) ∧ Below w.heap.size w wr) (fun _ i _ => (intOf i + 1).toNat)
  case atStart => exact ⟨0, Nat.zero_le _, by simp, World.ownsRow_nil _ _ _ _, Below.refl _ _⟩
  case round =>
    obtain ⟨k, hk, rfl, hown, hbel⟩ := hrel
    have HO := hide hown; have HB := hide hbel; clear hown hbel
    by_cases hlt : k < n
    · have HT := hide (bitsOf_take_succ u n k hlt)
      obtain ⟨j, hj⟩ : ∃ j, j = n - 1 - k := ⟨_, rfl⟩
      have hji : (n : Int) - 1 - k = (j : Int) := by omega
      obtain ⟨b, hb⟩ : ∃ b, b = u.testBit j := ⟨_, rfl⟩
      have hj64 : j ≤ 63 := by omega
      have hbt : (((u : Int) / 2 ^ j).tmod 2 == 1) = b := by
        rw [Int.tmod_eq_emod_of_nonneg (Int.ediv_nonneg (by omega) (by exact_mod_cast Nat.zero_le _)), hb, Nat.testBit_eq_decide_div_mod_eq]
        have e : ((u : Int) / 2 ^ j) % 2 = ((u / 2 ^ j % 2 : Nat) : Int) := by push_cast; rfl
        rw [e]
        rcases Nat.mod_two_eq_zero_or_one (u / 2 ^ j) with h | h <;> simp [h]
      rw [hji]
      have HJ := hide hj; have HBt := hide hb; clear hj hb hji
      go_wp2_with (at_builtin; refine wpList_append_own _ rfl (.tmp 13) (.tmp 23) 41 rfl w.heap.size 4 i0 (.bool false) 1 1 Try.underlying41 hi hz0 hz1 hz2 rfl (by decide) _ k _ rfl (HO.out.alloc _) ⟨wr.heap.size, 0, none⟩ 1 1 [.bool b] rfl rfl (by intro j' u hj; match j', hj with | 0, hj => simp at hj; subst hj; simp only [Addr.add]; exact cell_alloc_one _ _ rfl _ _) (by intro u hu; simp at hu; subst hu; rfl) (by unfold maxLen; omega) (by omega) (by have := HB.out.size; simp; omega) ?_; intro v3 w3 hown3 hgrow3 hnil3; clear hnil3; have HO3 := hide hown3; have HG3 := hide hgrow3; clear hown3 hgrow3)
      go_roundw
      case rel =>
        refine ⟨k + 1, by omega, ?_, ?_, (HB.out.alloc HB.out.size _).grown HG3.out (by have := HB.out.size; simp; omega) (fun k h => (HO.out.lt k h).1)⟩
        · have := HJ.out
          rw [show (n : Int) - 1 - ((k + 1 : Nat) : Int) = (j : Int) - 1 by omega]
        · rw [HT.out, boolVs_append, ← HJ.out, ← HBt.out]; exact HO3.out
      case measure => simp [intOf]
    · go_wp2
      go_ret
      obtain rfl : k = n := by omega
      refine ⟨_, rfl, ?_, HB.out⟩
      have := HO.out
      rw [List.take_of_length_le (by simp [bitsOf_length])] at this
      unfold Flags
      rw [bitsOf_length]; exact this

set_option maxRecDepth 100000 in
theorem rLong_any (u : Nat) (w : World) (hu : u < 2 ^ 64) (h0 : u ≠ 0) :
    Calls Try.prog 105 #[.int .u64 (u : Int)] w fun e w' => e = .returned (.int .i64 ((u.log2 + 1 : Nat) : Int)) ∧ w = w' := by
  have hl : Lib.bitLen u = u.log2 + 1 := bitLen_log2 u h0 hu
  rw [← hl]
  have HU := hide hu
  have hle : Lib.bitLen u ≤ 64 := by rw [hl]; have := (Nat.log2_lt (n := u) (k := 64) h0).2 hu; omega
  have hu' : (u : Int) ≤ 18446744073709551615 := by omega
  clear hl hu h0
  go_enter Try.func105, Try.ntmps105
  go_wp2
  go_loop [0, 3] (fun x i => ∃ a k : Nat, a < 2 ^ 64 ∧ x = .int .u64 a ∧ i = .int .i64 k ∧ k + Lib.bitLen a = Lib.bitLen u) (fun x _ => (intOf x).toNat)
  case atStart => exact ⟨u, 0, HU.out, rfl, rfl, by omega⟩
  case round =>
    obtain ⟨a, k, ha, rfl, rfl, hsum⟩ := hrel
    have hk64 : k ≤ 64 := by omega
    have ha' : (a : Int) ≤ 18446744073709551615 := by omega
    have HS := hide hsum; have HA := hide ha; clear hsum ha
    by_cases h0 : 0 < a
    · go_wp2
      go_round
      case rel =>
        refine ⟨a / 2, k + 1, by have := HA.out; omega, by go_num, by go_num, ?_⟩
        have := Lib.bitLen_half a (by omega) HA.out
        have := HS.out
        omega
      case measure => simp [intOf]; omega
    · go_wp2
      go_ret
      obtain rfl : a = 0 := by omega
      have := HS.out
      rw [show Lib.bitLen 0 = 0 by decide] at this
      refine ⟨?_, rfl⟩
      rw [← this]; rfl
end Go.Proofs.Ytiljekpfkkocnaa
