/- Contracts: from when to when the events of a partial match are. -/
import Derived.Test.YtiinljljbjjaeaaGreatDoorBd0
import Derived.BigQuiet
import Derived.Deep.QuietTactic
import Derived.Deep.RegionHeld3
namespace Go.Proofs.YtiinljljbjjaeaaGreatDoor
open Go Go.RowKit

theorem take_ne {bs : List Bd} {k : Nat} (hk : k < bs.length) (h0 : ¬ k = 0) : bs.take k ≠ [] := fun e => by
  have h1 : (bs.take k).length = 0 := by rw [e]; rfl
  rw [List.length_take] at h1; omega
theorem begT_step {bs : List Bd} {k : Nat} (hk : k < bs.length) : begT (bs.take (k + 1)) = if k = 0 then bs[k]!.ev.time else min (begT (bs.take k)) bs[k]!.ev.time := by
  rw [take_one hk]
  by_cases h0 : k = 0
  · subst h0; rfl
  · rw [if_neg h0, begT_snoc _ _ (take_ne hk h0)]
theorem endT_step {bs : List Bd} {k : Nat} (hk : k < bs.length) : endT (bs.take (k + 1)) = if k = 0 then bs[k]!.ev.time else max (endT (bs.take k)) bs[k]!.ev.time := by
  rw [take_one hk]
  by_cases h0 : k = 0
  · subst h0; rfl
  · rw [if_neg h0, endT_snoc _ _ (take_ne hk h0)]
set_option maxRecDepth 100000 in
set_option maxHeartbeats 3200000 in
theorem mSpan_any (B : Nat) (ao : Option Addr) (n cap : Nat) (bs : List Bd) (w : World) (h : BsV w B (.slice ao n cap) bs) (hB : B ≤ w.heap.size) :
    Calls Tryz.prog 56 #[.agg #[.slice ao n cap]] w fun e w' => e = .returned (.tuple #[.int .i64 (begT bs), .int .i64 (endT bs)]) ∧ Below w.heap.size w w' := by
  obtain ⟨hn, hn63, _⟩ := h.num
  have HN := Lib.hid hn
  have HH := Lib.hid h
  clear h hn
  obtain ⟨P, hP⟩ : ∃ P, P = w.heap.size := ⟨_, rfl⟩
  have HP := Lib.hid hP
  have HB0 : Hid (Below P w (w.alloc (.cells #[.slice ao n cap] 38))) := by rw [hP]; exact (Below.refl _ _).alloc (Nat.le_refl _) _
  rw [← hP] at hB ⊢
  clear hP
  go_enter Tryz.func56, Tryz.ntmps56
  go_wp2_with fail
  rw [← HP.out]
  go_loopw [2, 3, 9] (fun bv ev iv wr => ∃ k : Nat, k ≤ n ∧ iv = .int .i64 k ∧ bv = .int .i64 (begT (bs.take k)) ∧ ev = .int .i64 (endT (bs.take k)) ∧ Below P w wr) (fun _ _ iv _ => n - (intOf iv).toNat)
  case atStart => exact ⟨0, Nat.zero_le _, rfl, rfl, rfl, HB0.out⟩
  case round =>
    obtain ⟨k, hk, rfl, rfl, rfl, hb⟩ := hrel
    have HB := Lib.hid hb; clear hb
    by_cases hlt : k < n
    · obtain ⟨b, o, aa, ac, rfl, hbB, hkl, _, _, _, _, hc⟩ := HH.out.at hlt
      obtain ⟨a0, a1, a2, a3, a4, a5⟩ := six_cells (hc _ (HB.out.mono hB))
      have hbw : b ≠ wr.heap.size := by have := HB.out.size; have := HP.out; omega
      have hb0 := begT_step hkl
      have he0 := endT_step hkl
      obtain ⟨x, hx⟩ : ∃ x, x = bs[k]! := ⟨_, rfl⟩
      rw [← hx] at a0 a1 a2 a3 a4 a5 hb0 he0
      have HA : Hid (Below P w (wr.alloc (.cells #[.string x.var, .int .i64 x.ev.src, .int .i64 x.ev.seq, .int .i64 x.ev.time, .string x.ev.ty, .slice aa x.ev.ats.length ac] 54))) := by
        have := HB.out.size; have := HP.out
        exact HB.out.alloc (by omega) _
      have HBT := Lib.hid hb0; have HET := Lib.hid he0
      have e1 : IntKind.i64.wrap ((k : Int) + 1) = (k : Int) + 1 := IntWalk.i64_in _ (by omega)
      clear hb0 he0 hc hx hkl
      by_cases h0 : k = 0
      · subst h0
        simp only [Nat.zero_mul, Nat.add_zero] at a0 a1 a2 a3 a4 a5
        go_wp2_with fail
        go_quiet (fail)
        go_wp2_with fail
        go_quiet (fail)
        go_wp2
        go_roundw
        case rel => exact ⟨1, by omega, rfl, by rw [HBT.out]; simp, by rw [HET.out]; simp, Below.drewN' HA.out _⟩
        case measure => simp [intOf]; omega
      · rw [if_neg h0] at HBT HET
        have h1 : ((k : Int) == 0) = false := by simp; omega
        go_wp2_with fail
        go_quiet (fail)
        go_wp2
        go_roundw
        case rel => exact ⟨k + 1, by omega, by go_num, by rw [HBT.out], by rw [HET.out], Below.drewN' HA.out _⟩
        case measure => simp [intOf]; omega
    · have HT : Hid (bs.take k = bs) := List.take_of_length_le (by have := HN.out; omega)
      rw [HT.out]
      go_wp2
      go_ret2
      exact ⟨rfl, HB.out⟩

set_option maxRecDepth 100000 in
set_option maxHeartbeats 1600000 in
theorem mBegin_any (B : Nat) (ao : Option Addr) (n cap : Nat) (bs : List Bd) (w : World) (h : BsV w B (.slice ao n cap) bs) (hB : B ≤ w.heap.size) :
    Calls Tryz.prog 27 #[.agg #[.slice ao n cap]] w fun e w' => e = .returned (.int .i64 (begT bs)) ∧ Below w.heap.size w w' := by
  have HB0 : Hid (Below w.heap.size w (w.alloc (.cells #[.slice ao n cap] 38))) := (Below.refl _ _).alloc (Nat.le_refl _) _
  have HC := Lib.hid (mSpan_any B ao n cap bs _ (h.below HB0.out hB) (Nat.le_trans hB HB0.out.size))
  clear h hB
  go_enter Tryz.func27, Tryz.ntmps27
  go_wp2_with (go_at_call 56; (with_reducible refine (HC.out).mono ?_); rintro e w1 ⟨rfl, hb⟩; have HB1 := Lib.hid hb; clear hb)
  go_ret
  exact ⟨rfl, HB0.out.trans (HB1.out.mono HB0.out.size)⟩

set_option maxRecDepth 100000 in
set_option maxHeartbeats 1600000 in
theorem mEnd_any (B : Nat) (ao : Option Addr) (n cap : Nat) (bs : List Bd) (w : World) (h : BsV w B (.slice ao n cap) bs) (hB : B ≤ w.heap.size) :
    Calls Tryz.prog 28 #[.agg #[.slice ao n cap]] w fun e w' => e = .returned (.int .i64 (endT bs)) ∧ Below w.heap.size w w' := by
  have HB0 : Hid (Below w.heap.size w (w.alloc (.cells #[.slice ao n cap] 38))) := (Below.refl _ _).alloc (Nat.le_refl _) _
  have HC := Lib.hid (mSpan_any B ao n cap bs _ (h.below HB0.out hB) (Nat.le_trans hB HB0.out.size))
  clear h hB
  go_enter Tryz.func28, Tryz.ntmps28
  go_wp2_with (go_at_call 56; (with_reducible refine (HC.out).mono ?_); rintro e w1 ⟨rfl, hb⟩; have HB1 := Lib.hid hb; clear hb)
  go_ret
  exact ⟨rfl, HB0.out.trans (HB1.out.mono HB0.out.size)⟩

def wnB (bs : List Bd) (win : Int) : Bool := decide (0 ≤ win) && decide (IntKind.u64.wrap (IntKind.u64.wrap (endT bs) - IntKind.u64.wrap (begT bs)) ≤ IntKind.u64.wrap win)
end Go.Proofs.YtiinljljbjjaeaaGreatDoor
