/- Contracts: from when to when the events of a partial match are. -/
import Derived.Test.YtppacelaeaaodaaBd0
import Derived.BigQuiet
import Derived.Deep.QuietTactic
import Derived.Deep.RegionHeld3
namespace Go.Proofs.Ytppacelaeaaodaa
open Go Go.RowKit

theorem take_ne {bs : List Bd} {k : Nat} (hk : k < bs.length) (h0 : ¬ k = 0) : bs.take k ≠ [] := fun e => by
  have h1 : (bs.take k).length = 0 := by rw [e]; rfl
  rw [List.length_take] at h1; omega
theorem begT_step {bs : List Bd} {k : Nat} (hk : k < bs.length) : begT (bs.take (k + 1)) = if k = 0 then bs[k]!.ev.time else min (begT (bs.take k)) bs[k]!.ev.time := by
  rw [take_one hk]
  by_cases h0 : k = 0
  · subst h0; rfl
  · rw [if_neg h0, begT_snoc _ _ (take_ne hk h0)]
theorem endT_step {bs : List Bd} {k : Nat} (hk : k < bs.length) : endT (bs.take (k + 1)) = if k = 0 then bs[k]!.ev.time else max (endT (bs.take k)) bs[k]!.ev.time := by
  rw [take_one hk]
  by_cases h0 : k = 0
  · subst h0; rfl
  · rw [if_neg h0, endT_snoc _ _ (take_ne hk h0)]
set_option maxRecDepth 100000 in
set_option maxHeartbeats 3200000 in
theorem mSpan_any (B : Nat) (ao : Option Addr) (n cap : Nat) (bs : List Bd) (w : World) (h : BsV w B (.slice ao n cap) bs) (hB : B ≤ w.heap.size) :
    Calls Try.prog 55 #[.agg #[.slice ao n cap]] w fun e w' => e = .returned (.tuple #[.int .i64 (begT bs), .int .i64 (endT bs)]) ∧ Below w.heap.size w w' := by
  obtain ⟨hn, hn63, _⟩ := h.num
  have HN := Lib.hid hn
  have HH := Lib.hid h
  clear h hn
  obtain ⟨P, hP⟩ : ∃ P, P = w.heap.size := ⟨_, rfl⟩
  have HP := Lib.hid hP
  have HB0 : Hid (Below P w (w.alloc (.cells #[.slice ao n cap] 24))) := by rw [hP]; exact (Below.refl _ _).alloc (Nat.le_refl _) _
  rw [← hP] at hB ⊢
  clear hP
  go_enter Try.func55, Try.ntmps55
  go_wp2_with fail
  rw [← HP.out]
  go_loopw [2, 3, 9] (fun bv ev iv wr => ∃ k : Nat, k ≤ n ∧ iv = .int .i64 k ∧ bv = .int .i64 (begT (bs.take k)) ∧ ev = .int .i64 (endT (bs.take k)) ∧ Below P w wr) (fun _ _ iv _ => n - (intOf iv).toNat)
  case atStart => exact ⟨0, Nat.zero_le _, rfl, rfl, rfl, HB0.out⟩
  case round =>
    obtain ⟨k, hk, rfl, rfl, rfl, hb⟩ := hrel
    have HB := Lib.hid hb; clear hb
    by_cases hlt : k < n
    · obtain ⟨b, o, aa, ac, rfl, hbB, hkl, _, _, _, _, hc⟩ := HH.out.at hlt
      obtain ⟨a0, a1, a2, a3, a4, a5⟩ := six_cells (hc _ (HB.out.mono hB))
      have hbw : b ≠ wr.heap.size := by have := HB.out.size; have := HP.out; omega
      have hb0 := begT_step hkl
      have he0 := endT_step hkl
      obtain ⟨x, hx⟩ : ∃ x, x = bs[k]! := ⟨_, rfl⟩
      rw [← hx] at a0 a1 a2 a3 a4 a5 hb0 he0
      have HA : Hid (Below P w (wr.alloc (.cells #[.string x.var, .int .i64 x.ev.src, .int .i64 x.ev.seq, .int .i64 x.ev.time, .string x.ev.ty, .slice aa x.ev.ats.length ac] 39))) := by
        have := HB.out.size; have := HP.out
        exact HB.out.alloc (by omega) _
      have HBT := Lib.hid hb0; have HET := Lib.hid he0
      have e1 : IntKind.i64.wrap ((k : Int) + 1) = (k : Int) + 1 := IntWalk.i64_in _ (by omega)
      clear hb0 he0 hc hx hkl
      by_cases h0 : k = 0
      · subst h0
        simp only [Nat.zero_mul, Nat.add_zero] at a0 a1 a2 a3 a4 a5
        go_wp2_with fail
        go_quiet (fail)
        go_wp2_with fail
        go_quiet (fail)
        go_wp2
        go_roundw
        case rel => exact ⟨1, by omega, rfl, by rw [HBT.out]; simp, by rw [HET.out]; simp, Below.drewN' HA.out _⟩
        case measure => simp [intOf]; omega
      · rw [if_neg h0] at HBT HET
        have h1 : ((k : Int) == 0) = false := by simp; omega
        go_wp2_with fail
        go_quiet (fail)
        go_wp2
        go_roundw
        case rel => exact ⟨k + 1, by omega, by go_num, by rw [HBT.out], by rw [HET.out], Below.drewN' HA.out _⟩
        case measure => simp [intOf]; omega
    · have HT : Hid (bs.take k = bs) := List.take_of_length_le (by have := HN.out; omega)
      rw [HT.out]
      go_wp2
      go_ret2
      exact ⟨rfl, HB.out⟩

set_option maxRecDepth 100000 in
set_option maxHeartbeats 1600000 in
theorem mBegin_any (B : Nat) (ao : Option Addr) (n cap : Nat) (bs : List Bd) (w : World) (h : BsV w B (.slice ao n cap) bs) (hB : B ≤ w.heap.size) :
    Calls Try.prog 17 #[.agg #[.slice ao n cap]] w fun e w' => e = .returned (.int .i64 (begT bs)) ∧ Below w.heap.size w w' := by
  have HB0 : Hid (Below w.heap.size w (w.alloc (.cells #[.slice ao n cap] 24))) := (Below.refl _ _).alloc (Nat.le_refl _) _
  have HC := Lib.hid (mSpan_any B ao n cap bs _ (h.below HB0.out hB) (Nat.le_trans hB HB0.out.size))
  clear h hB
  go_enter Try.func17, Try.ntmps17
  go_wp2_with (go_at_call 55; (with_reducible refine (HC.out).mono ?_); rintro e w1 ⟨rfl, hb⟩; have HB1 := Lib.hid hb; clear hb)
  go_ret
  exact ⟨rfl, HB0.out.trans (HB1.out.mono HB0.out.size)⟩

set_option maxRecDepth 100000 in
set_option maxHeartbeats 1600000 in
theorem mEnd_any (B : Nat) (ao : Option Addr) (n cap : Nat) (bs : List Bd) (w : World) (h : BsV w B (.slice ao n cap) bs) (hB : B ≤ w.heap.size) :
    Calls Try.prog 19 #[.agg #[.slice ao n cap]] w fun e w' => e = .returned (.int .i64 (endT bs)) ∧ Below w.heap.size w w' := by
  have HB0 : Hid (Below w.heap.size w (w.alloc (.cells #[.slice ao n cap] 24))) := (Below.refl _ _).alloc (Nat.le_refl _) _
  have HC := Lib.hid (mSpan_any B ao n cap bs _ (h.below HB0.out hB) (Nat.le_trans hB HB0.out.size))
  clear h hB
  go_enter Try.func19, Try.ntmps19
  go_wp2_with (go_at_call 55; (with_reducible refine (HC.out).mono ?_); rintro e w1 ⟨rfl, hb⟩; have HB1 := Lib.hid hb; clear hb)
  go_ret
  exact ⟨rfl, HB0.out.trans (HB1.out.mono HB0.out.size)⟩

set_option maxRecDepth 100000 in
set_option maxHeartbeats 3200000 in
theorem r10Begin_any (B : Nat) (ao : Option Addr) (n cap : Nat) (bs : List Bd) (w : World) (h : BsV w B (.slice ao n cap) bs) (hB : B ≤ w.heap.size) :
    Calls Try.prog 18 #[.agg #[.slice ao n cap]] w fun e w' => e = .returned (.int .i64 (begT bs)) ∧ Below w.heap.size w w' := by
  obtain ⟨hn, hn63, _⟩ := h.num
  have HN := Lib.hid hn
  have HH := Lib.hid h
  clear h hn
  obtain ⟨P, hP⟩ : ∃ P, P = w.heap.size := ⟨_, rfl⟩
  have HP := Lib.hid hP
  obtain ⟨W, hW⟩ : ∃ W, W = w.alloc (.cells #[.slice ao n cap] 24) := ⟨_, rfl⟩
  have HW := Lib.hid hW
  have HB0 : Hid (Below P w W) := by rw [hP, hW]; exact (Below.refl _ _).alloc (Nat.le_refl _) _
  have hpb : W.heap[P]? = some (.cells #[.slice ao n cap] 24 (0, 0)) := by rw [hP, hW]; exact heap_alloc_new w _
  have c0 := cells_one0 hpb
  rw [← hP] at hB ⊢
  clear hP hW hpb
  go_enter Try.func18, Try.ntmps18
  go_wp2_with fail
  rw [← HW.out, ← HP.out]
  go_loop [3, 4] (fun tv iv => ∃ k : Nat, k ≤ n ∧ iv = .int .i64 k ∧ tv = .int .i64 (begT (bs.take k))) (fun _ iv => n - (intOf iv).toNat)
  case atStart => exact ⟨0, Nat.zero_le _, rfl, rfl⟩
  case round =>
    obtain ⟨k, hk, rfl, rfl⟩ := hrel
    by_cases hlt : k < n
    · obtain ⟨b, o, aa, ac, rfl, hbB, hkl, _, _, _, _, hc⟩ := HH.out.at hlt
      obtain ⟨a0, a1, a2, a3, a4, a5⟩ := six_cells (hc _ (HB0.out.mono hB))
      have he0 := begT_step hkl
      obtain ⟨x, hx⟩ : ∃ x, x = bs[k]! := ⟨_, rfl⟩
      rw [← hx] at a0 a1 a2 a3 a4 a5 he0
      have HET := Lib.hid he0
      have e1 : IntKind.i64.wrap ((k : Int) + 1) = (k : Int) + 1 := IntWalk.i64_in _ (by omega)
      clear he0 hc hx hkl
      by_cases h0 : k = 0
      · subst h0
        simp only [Nat.zero_mul, Nat.add_zero] at a0 a1 a2 a3 a4 a5
        go_wp2
        go_round
        case rel => exact ⟨1, by omega, rfl, by rw [HET.out]; rfl⟩
        case measure => simp [intOf]; omega
      · rw [if_neg h0] at HET
        have h1 : ((k : Int) == 0) = false := by simp; omega
        generalize hT : begT (bs.take k) = t at HET ⊢
        have HTT := Lib.hid hT
        clear hT
        by_cases hc2 : x.ev.time < t
        · have HE2 : Hid (min t x.ev.time = x.ev.time) := by unfold Hid; omega
          go_wp2
          go_round
          case rel => exact ⟨k + 1, by omega, by go_num, by rw [HET.out, HE2.out]⟩
          case measure => simp [intOf]; omega
        · have HE2 : Hid (min t x.ev.time = t) := by unfold Hid; omega
          go_wp2
          go_round
          case rel => exact ⟨k + 1, by omega, by go_num, by rw [HET.out, HE2.out]⟩
          case measure => simp [intOf]; omega
    · have HT : Hid (bs.take k = bs) := List.take_of_length_le (by have := HN.out; omega)
      rw [HT.out]
      go_wp2
      go_ret
      exact ⟨rfl, HB0.out⟩

set_option maxRecDepth 100000 in
set_option maxHeartbeats 3200000 in
theorem r10End_any (B : Nat) (ao : Option Addr) (n cap : Nat) (bs : List Bd) (w : World) (h : BsV w B (.slice ao n cap) bs) (hB : B ≤ w.heap.size) :
    Calls Try.prog 20 #[.agg #[.slice ao n cap]] w fun e w' => e = .returned (.int .i64 (endT bs)) ∧ Below w.heap.size w w' := by
  obtain ⟨hn, hn63, _⟩ := h.num
  have HN := Lib.hid hn
  have HH := Lib.hid h
  clear h hn
  obtain ⟨P, hP⟩ : ∃ P, P = w.heap.size := ⟨_, rfl⟩
  have HP := Lib.hid hP
  obtain ⟨W, hW⟩ : ∃ W, W = w.alloc (.cells #[.slice ao n cap] 24) := ⟨_, rfl⟩
  have HW := Lib.hid hW
  have HB0 : Hid (Below P w W) := by rw [hP, hW]; exact (Below.refl _ _).alloc (Nat.le_refl _) _
  have hpb : W.heap[P]? = some (.cells #[.slice ao n cap] 24 (0, 0)) := by rw [hP, hW]; exact heap_alloc_new w _
  have c0 := cells_one0 hpb
  rw [← hP] at hB ⊢
  clear hP hW hpb
  go_enter Try.func20, Try.ntmps20
  go_wp2_with fail
  rw [← HW.out, ← HP.out]
  go_loop [3, 4] (fun tv iv => ∃ k : Nat, k ≤ n ∧ iv = .int .i64 k ∧ tv = .int .i64 (endT (bs.take k))) (fun _ iv => n - (intOf iv).toNat)
  case atStart => exact ⟨0, Nat.zero_le _, rfl, rfl⟩
  case round =>
    obtain ⟨k, hk, rfl, rfl⟩ := hrel
    by_cases hlt : k < n
    · obtain ⟨b, o, aa, ac, rfl, hbB, hkl, _, _, _, _, hc⟩ := HH.out.at hlt
      obtain ⟨a0, a1, a2, a3, a4, a5⟩ := six_cells (hc _ (HB0.out.mono hB))
      have he0 := endT_step hkl
      obtain ⟨x, hx⟩ : ∃ x, x = bs[k]! := ⟨_, rfl⟩
      rw [← hx] at a0 a1 a2 a3 a4 a5 he0
      have HET := Lib.hid he0
      have e1 : IntKind.i64.wrap ((k : Int) + 1) = (k : Int) + 1 := IntWalk.i64_in _ (by omega)
      clear he0 hc hx hkl
      by_cases h0 : k = 0
      · subst h0
        simp only [Nat.zero_mul, Nat.add_zero] at a0 a1 a2 a3 a4 a5
        go_wp2
        go_round
        case rel => exact ⟨1, by omega, rfl, by rw [HET.out]; rfl⟩
        case measure => simp [intOf]; omega
      · rw [if_neg h0] at HET
        have h1 : ((k : Int) == 0) = false := by simp; omega
        generalize hT : endT (bs.take k) = t at HET ⊢
        have HTT := Lib.hid hT
        clear hT
        by_cases hc2 : t < x.ev.time
        · have HE2 : Hid (max t x.ev.time = x.ev.time) := by unfold Hid; omega
          go_wp2
          go_round
          case rel => exact ⟨k + 1, by omega, by go_num, by rw [HET.out, HE2.out]⟩
          case measure => simp [intOf]; omega
        · have HE2 : Hid (max t x.ev.time = t) := by unfold Hid; omega
          go_wp2
          go_round
          case rel => exact ⟨k + 1, by omega, by go_num, by rw [HET.out, HE2.out]⟩
          case measure => simp [intOf]; omega
    · have HT : Hid (bs.take k = bs) := List.take_of_length_le (by have := HN.out; omega)
      rw [HT.out]
      go_wp2
      go_ret
      exact ⟨rfl, HB0.out⟩

def wnB (bs : List Bd) (win : Int) : Bool := decide (0 ≤ win) && decide (IntKind.u64.wrap (IntKind.u64.wrap (endT bs) - IntKind.u64.wrap (begT bs)) ≤ IntKind.u64.wrap win)
set_option maxRecDepth 100000 in
set_option maxHeartbeats 1600000 in
theorem mWithin_any (win : Int) (B : Nat) (ao : Option Addr) (n cap : Nat) (bs : List Bd) (w : World) (h : BsV w B (.slice ao n cap) bs) (hB : B ≤ w.heap.size) :
    Calls Try.prog 21 #[.agg #[.slice ao n cap], .int .i64 win] w fun e w' => e = .returned (.bool (wnB bs win)) ∧ Below w.heap.size w w' := by
  have HB0 : Hid (Below w.heap.size w (w.alloc (.cells #[.slice ao n cap] 24))) := (Below.refl _ _).alloc (Nat.le_refl _) _
  have HC := Lib.hid (mSpan_any B ao n cap bs _ (h.below HB0.out hB) (Nat.le_trans hB HB0.out.size))
  clear h hB
  unfold wnB
  by_cases h0 : 0 ≤ win
  · rw [decide_eq_true h0, Bool.true_and]
    generalize begT bs = b at HC ⊢
    generalize endT bs = e at HC ⊢
    go_enter Try.func21, Try.ntmps21
    go_wp2_with (go_at_call 55; (with_reducible refine (HC.out).mono ?_); rintro e w1 ⟨rfl, hb⟩; have HB1 := Lib.hid hb; clear hb)
    go_ret
    exact ⟨rfl, HB0.out.trans (HB1.out.mono HB0.out.size)⟩
  · rw [decide_eq_false h0, Bool.false_and]
    go_enter Try.func21, Try.ntmps21
    go_wp2_with (go_at_call 55; (with_reducible refine (HC.out).mono ?_); rintro e w1 ⟨rfl, hb⟩; have HB1 := Lib.hid hb; clear hb)
    go_ret
    exact ⟨rfl, HB0.out.trans (HB1.out.mono HB0.out.size)⟩
set_option maxRecDepth 100000 in
set_option maxHeartbeats 1600000 in
theorem r10Within_any (win : Int) (B : Nat) (ao : Option Addr) (n cap : Nat) (bs : List Bd) (w : World) (h : BsV w B (.slice ao n cap) bs) (hB : B ≤ w.heap.size) :
    Calls Try.prog 22 #[.agg #[.slice ao n cap], .int .i64 win] w fun e w' => e = .returned (.bool (wnB bs win)) ∧ Below w.heap.size w w' := by
  obtain ⟨W, hW⟩ : ∃ W, W = w.alloc (.cells #[.slice ao n cap] 24) := ⟨_, rfl⟩
  have HW := Lib.hid hW
  have HB0 : Hid (Below w.heap.size w W) := by rw [hW]; exact (Below.refl _ _).alloc (Nat.le_refl _) _
  have hpb : W.heap[w.heap.size]? = some (.cells #[.slice ao n cap] 24 (0, 0)) := by rw [hW]; exact heap_alloc_new w _
  have c0 := cells_one0 hpb
  have hlt := lt_of_block hpb
  have hs := h.below HB0.out hB
  have hBW := Nat.le_trans hB HB0.out.size
  have HC1 := Lib.hid (fun u (hu : Below W.heap.size W u) => r10Begin_any B ao n cap bs u (hs.below hu hBW) (Nat.le_trans hBW hu.size))
  have HC2 := Lib.hid (fun u (hu : Below W.heap.size W u) => r10End_any B ao n cap bs u (hs.below hu hBW) (Nat.le_trans hBW hu.size))
  clear h hB hs hpb hW hBW
  unfold wnB
  by_cases h0 : 0 ≤ win
  · rw [decide_eq_true h0, Bool.true_and]
    generalize begT bs = b at HC1 HC2 ⊢
    generalize endT bs = e at HC1 HC2 ⊢
    have h0' := decide_eq_true h0
    have D0 := cell_regrown c0
    have C1 := rg HC1.out
    have C2 := rg HC2.out
    go_enter Try.func22, Try.ntmps22
    go_wp2_with fail
    rw [← HW.out]
    refine wp_region_quiet_below (by kernel_rfl) (by kernel_rfl) ?_
    repeat (quiet_step (first | (with_reducible exact C1 _ _) | (with_reducible exact C2 _ _)))
    refine wpQuiet_nil ?_
    intro _ hw'
    obtain ⟨⟨dq, osq⟩, hw''⟩ := hw'
    subst hw''
    go_wp2
    go_ret
    exact ⟨rfl, HB0.out.trans ((below_regrown W dq osq).mono HB0.out.size)⟩
  · rw [decide_eq_false h0, Bool.false_and]
    have h0' := decide_eq_false h0
    go_enter Try.func22, Try.ntmps22
    go_wp2_with fail
    rw [← HW.out]
    go_quiet (fail)
    go_wp2
    go_ret
    exact ⟨rfl, Below.drewN' HB0.out _⟩
end Go.Proofs.Ytppacelaeaaodaa
