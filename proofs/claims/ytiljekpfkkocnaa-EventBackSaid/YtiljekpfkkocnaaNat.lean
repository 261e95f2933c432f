/- Contracts: how many bits a natural number has; a sink takes its code. -/
import Derived.Test.YtiljekpfkkocnaaNatm
import Derived.Test.YtiljekpfkkocnaaPut
import Derived.Test.YtiljekpfkkocnaaShelf
namespace Go.Proofs.Ytiljekpfkkocnaa
open Go Go.RowKit

set_option maxRecDepth 100000 in
theorem ahead_any (u : Nat) (hu : u < 2 ^ 64) (w : World) :
    Calls Try.prog 127 #[.int .u64 (u : Int)] w fun e w' => e = .returned (.int .i64 ((ahd u : Nat) : Int)) ∧ w = w' := by
  by_cases hm : u = 18446744073709551615
  · subst hm
    go_enter Try.func127, Try.ntmps127
    go_wp2
    go_ret
    exact ⟨by rw [ahd_max]; rfl, rfl⟩
  · have hl := bitLen_log2 (u + 1) (by omega) (by omega)
    have hlt : (u : Int) + 1 ≤ 18446744073709551615 := by omega
    have hle : (Lib.bitLen (u + 1)) ≤ 64 := by rw [hl]; have := (Nat.log2_lt (n := u + 1) (k := 64) (by omega)).2 (by omega); omega
    have h1 : 1 ≤ Lib.bitLen (u + 1) := by rw [hl]; omega
    have hm' : ((u : Int) == 18446744073709551615) = false := by simp; omega
    obtain ⟨L, hL⟩ : ∃ L, L = Lib.bitLen (u + 1) := ⟨_, rfl⟩
    have C : ∀ w : World, Calls Try.prog 131 #[.int .u64 ((u : Int) + 1)] w fun e w' => e = .returned (.int .i64 (L : Int)) ∧ w = w' := by
      intro w
      refine (Try.bits_Len64 _ w (by omega) (by omega)).mono fun e w' ⟨he, hw⟩ => ?_
      rw [he, hw, hL]
      exact ⟨rfl, rfl⟩
    have HE : Hid (L = (u + 1).log2 + 1) := by rw [hL, hl]; rfl
    rw [← hL] at hle h1
    clear hL hl hm
    have hu' := hide hu; clear hu
    have hw : IntKind.u64.wrap ((u : Int) + 1) = (u : Int) + 1 := by rw [IntKind.wrap_u64]; omega
    have hlt' := hide hlt; clear hlt
    go_enter Try.func127, Try.ntmps127
    go_wp2_with fail
    refine (C _).mono ?_
    rintro e w' ⟨rfl, rfl⟩
    go_wp2
    go_ret
    refine ⟨?_, rfl⟩
    have := HE.out
    rw [show ((ahd u : Nat) : Int) = (L : Int) - 1 by unfold ahd; omega]
    rfl

theorem Size_any (u : Nat) (hu : u < 2 ^ 64) (w : World) :
    Calls Try.prog 119 #[.int .u64 (u : Int)] w fun e w' => e = .returned (.int .i64 (2 * (ahd u : Int) + 1)) ∧ w = w' := by
  have h := ahd_le u hu
  go_enter Try.func119, Try.ntmps119
  go_wp2_with (go_at_call 127; refine (ahead_any _ hu _).mono ?_; rintro e w' ⟨rfl, rfl⟩)
  go_ret
  exact ⟨rfl, rfl⟩

set_option maxRecDepth 100000 in
theorem kPutNat_any (B q : Nat) (u : Nat) (bs : List Bool) (w : World) (hu : u < 2 ^ 64) (hs : SinkIs w B q bs) (hl : bs.length + (2 * ahd u + 1) ≤ 1048576) :
    Calls Try.prog 120 #[.pointer (some ⟨q, 0, none⟩), .int .u64 (u : Int)] w fun e w' => e = .returned (.tuple #[]) ∧ SinkIs w' B q (bs ++ natBits u) ∧ Kept B sinkT w w' := by
  have h := ahd_le u hu
  have hw64 : IntKind.u64.wrap ((u : Int) + 1) = (((u + 1) % 2 ^ 64 : Nat) : Int) := by
    rw [IntKind.wrap_u64]; omega
  have HP := hide (natBits_parts u hu)
  have h0 : (0 : Nat) < 2 ^ 64 := by decide
  have h1 : (1 : Nat) < 2 ^ 64 := by decide
  have h2 : (u + 1) % 2 ^ 64 < 2 ^ 64 := Nat.mod_lt _ (by decide)
  go_enter Try.func120, Try.ntmps120
  go_wp2_with (go_at_call 127; refine (ahead_any _ hu _).mono ?_; rintro e w' ⟨rfl, rfl⟩)
  refine (kPut_any B q 0 (ahd u) bs _ h0 h hs (by omega)).mono ?_
  rintro e w1 ⟨rfl, hs1, hk1⟩
  go_wp2_with fail
  refine (kPut_any B q 1 1 _ _ h1 (by decide) hs1 (by simp [bitsOf_length]; omega)).mono ?_
  rintro e w2 ⟨rfl, hs2, hk2⟩
  go_wp2_with fail
  rw [show ((u : Int) + 1) % 18446744073709551616 = (((u + 1) % 2 ^ 64 : Nat) : Int) by omega]
  refine (kPut_any B q ((u + 1) % 2 ^ 64) (ahd u) _ _ h2 h hs2 (by simp [bitsOf_length]; omega)).mono ?_
  rintro e w3 ⟨rfl, hs3, hk3⟩
  go_wp2
  go_end0
  refine ⟨rfl, ?_, (hk1.trans hk2).trans hk3⟩
  rw [HP.out, ← List.append_assoc, ← List.append_assoc]
  exact hs3
set_option maxRecDepth 100000 in
theorem kNat_fits (B q : Nat) (u : Nat) (bs : List Bool) (w : World) (hu : u < 2 ^ 64) (hs : SinkIs w B q bs) (hl : bs.length + (2 * ahd u + 1) ≤ 1048576) :
    Calls Try.prog 102 #[.pointer (some ⟨q, 0, none⟩), .int .u64 (u : Int)] w fun e w' => e = .returned (.int .i64 0) ∧ SinkIs w' B q (bs ++ natBits u) ∧ Kept B sinkT w w' := by
  have h := ahd_le u hu
  have hd : decide (2 * (ahd u : Int) + 1 ≤ 1048576 - ((bs.length : Nat) : Int)) = true := by simp; omega
  have hsl := hs.len
  go_enter Try.func102, Try.ntmps102
  go_wp2_with fail
  refine (isMade_any q _ hs.made).mono ?_
  rintro e w' ⟨rfl, rfl⟩
  go_wp2_with fail
  refine (Size_any u hu _).mono ?_
  rintro e w' ⟨rfl, rfl⟩
  go_wp2_with fail
  refine (hasRoom_any q _ _ _ (by omega) (by omega) hs.count).mono ?_
  rw [hd]
  rintro e w' ⟨rfl, rfl⟩
  go_wp2_with fail
  refine (kPutNat_any B q u bs _ hu hs hl).mono ?_
  rintro e w' ⟨rfl, hs', hk'⟩
  go_wp2
  go_ret
  exact ⟨rfl, hs', hk'⟩

set_option maxRecDepth 100000 in
theorem kNat_long (B q : Nat) (u : Nat) (bs : List Bool) (w : World) (hu : u < 2 ^ 64) (hs : SinkIs w B q bs) (hl : 1048576 < bs.length + (2 * ahd u + 1)) :
    Calls Try.prog 102 #[.pointer (some ⟨q, 0, none⟩), .int .u64 (u : Int)] w fun e w' => e = .returned (.int .i64 3) ∧ w = w' := by
  have h := ahd_le u hu
  have hd : decide (2 * (ahd u : Int) + 1 ≤ 1048576 - ((bs.length : Nat) : Int)) = false := by simp; omega
  have hsl := hs.len
  go_enter Try.func102, Try.ntmps102
  go_wp2_with fail
  refine (isMade_any q _ hs.made).mono ?_
  rintro e w' ⟨rfl, rfl⟩
  go_wp2_with fail
  refine (Size_any u hu _).mono ?_
  rintro e w' ⟨rfl, rfl⟩
  go_wp2_with fail
  refine (hasRoom_any q _ _ _ (by omega) (by omega) hs.count).mono ?_
  rw [hd]
  rintro e w' ⟨rfl, rfl⟩
  go_wp2
  go_ret
  exact ⟨rfl, rfl⟩

/-- A new sink: no bits. -/
theorem newSink_any (w : World) :
    Calls Try.prog 21 #[] w fun e w' => e = .returned (.pointer (some ⟨w.heap.size, 0, none⟩)) ∧ SinkIs w' w.heap.size w.heap.size [] ∧ Kept w.heap.size sinkT w w' := by
  go_enter Try.func21, Try.ntmps21
  go_wp2
  go_ret
  refine ⟨rfl, ⟨Nat.le_refl _, by simp, .slice none 0 0, heap_alloc_new _ _, World.ownsRow_nil _ _ _ _⟩, (Kept.refl _ _ _).alloc (Nat.le_refl _) _⟩
end Go.Proofs.Ytiljekpfkkocnaa
