/- The walk of WaterRises. -/
import Derived.Test.YtclbfmjmamcjjaaWl12
namespace Go.Proofs.Ytclbfmjmamcjjaa
open Go Go.RowKit

/-- In w the block g begins with these numbers. -/
structure RowAt (w : World) (g : Nat) (l : List Int) : Prop where
  lt : g < w.heap.size
  at' : ∀ j, j < l.length → w.cell? ⟨g, j, none⟩ = some (.int .i64 l[j]!)
theorem RowAt.call {w w' : World} {g : Nat} {l : List Int} (h : RowAt w g l) (hb : Below w.heap.size w w') : RowAt w' g l :=
  ⟨Nat.lt_of_lt_of_le h.lt hb.size, fun j hj => (World.cell?_of_block (a := ⟨g, j, none⟩) (hb.block g h.lt)).trans (h.at' j hj)⟩
theorem RowAt.turn {w w' : World} {g B : Nat} {l : List Int} (h : RowAt w g l) (hc : Chg (fun b => b = B) w w') (hg : g ≠ B) : RowAt w' g l :=
  ⟨Nat.lt_of_lt_of_le h.lt hc.size, fun j hj => (World.cell?_of_block (a := ⟨g, j, none⟩) (hc.block g h.lt hg)).trans (h.at' j hj)⟩
theorem RowAt.drewN {w : World} {g : Nat} {l : List Int} (h : RowAt w g l) (n : Nat) : RowAt (w.drewN n) g l := ⟨h.lt, h.at'⟩
theorem RowAt.of_own {w : World} {C g cap : Nat} {l : List Int} (h : w.ownsRow C 2 1 (.slice (some ⟨g, 0, none⟩) l.length cap) l.length (rowI l)) : RowAt w g l ∧ C ≤ g := by
  have h1 : C ≤ g ∧ g < w.heap.size := by
    rcases h.2 with ⟨h', _⟩ | ⟨g', cap', cur, h', hb, hg, _⟩
    · cases h'
    · simp only [Value.slice.injEq, Option.some.injEq, Addr.mk.injEq, and_true, true_and] at h'
      obtain ⟨rfl, rfl⟩ := h'
      exact ⟨hb, lt_of_block hg⟩
  exact ⟨⟨h1.2, fun j hj => by rw [h.cellAt j (by omega), rowI_at hj]⟩, h1.1⟩
/-- The box of a script's mark. -/
def BoxAt (w : World) (P : Nat) (x : Op12) : Prop := w.heap[P]? = some (.cells #[.int .i64 x.inp, .int .i64 x.t, .bool x.cl] 35 (0, 0))
theorem BoxAt.call {w w' : World} {P : Nat} {x : Op12} (h : BoxAt w P x) (hb : Below w.heap.size w w') : BoxAt w' P x := (hb.block P (lt_of_block h)).trans h
theorem BoxAt.turn {w w' : World} {P B : Nat} {x : Op12} (h : BoxAt w P x) (hc : Chg (fun b => b = B) w w') (hP : P ≠ B) : BoxAt w' P x := (hc.block P (lt_of_block h) hP).trans h
theorem BoxAt.cells {w : World} {P : Nat} {x : Op12} (h : BoxAt w P x) : w.cell? ⟨P, 0, none⟩ = some (.int .i64 x.inp) ∧ w.cell? ⟨P, 1, none⟩ = some (.int .i64 x.t) ∧ w.cell? ⟨P, 2, none⟩ = some (.bool x.cl) := by
  unfold BoxAt at h
  refine ⟨?_, ?_, ?_⟩ <;> simp [World.cell?, h]

theorem horI_rise {m m' window : Int} (h0 : 0 ≤ m) (h : m ≤ m') (hF : m' ≤ 1099511627777) : horI m window ≤ horI m' window := by
  unfold horI
  by_cases h1 : m = 1099511627777
  · rw [if_pos h1, if_pos (by omega)]; exact Int.le_refl _
  · rw [if_neg h1]
    by_cases h2 : window < 0 ∨ m < window
    · rw [if_pos h2]
      split
      · omega
      · split
        · exact Int.le_refl _
        · omega
    · rw [if_neg h2]
      split
      · omega
      · rw [if_neg (by omega)]; omega

set_option maxRecDepth 100000 in
set_option maxHeartbeats 3200000 in
theorem rises12_walk (xs : List Op12) (v : Value) (window : Int) (W : World) (hx : Pv W W.heap.size v xs) :
    Calls Try.prog 4 #[v, .int .i64 window] W fun e w' => e = .returned (.bool true) ∧ Below W.heap.size W w' := by
  obtain ⟨ao, cap, rfl, hcap, hcap2, hrow⟩ := hx.row
  have CN := wNew_ok 3 (by decide) (by decide) W
  obtain ⟨B, hB⟩ : ∃ B, B = W.heap.size := ⟨_, rfl⟩
  obtain ⟨N, hN⟩ : ∃ N, N = xs.length := ⟨_, rfl⟩
  have hlen := hx.len
  rw [← hN] at hlen hcap ⊢
  have HCN := Lib.hid CN; have HB := Lib.hid hB; have HN := Lib.hid hN; have HROW := Lib.hid hrow
  have HL63 : Hid (N ≤ 9223372036854775807) := Lib.hid (by omega)
  clear hx hrow CN hB hN hcap hcap2 hlen
  go_enter Try.func4, Try.ntmps4
  go_wp2_with fail
  refine HCN.out.mono ?_
  rw [← HB.out]
  rintro e w1 ⟨rfl, hs1, hb1⟩
  have H1 : Hid (W3 W B [0, 0, 0] w1) := Lib.hid ⟨hb1, hs1, rfl⟩
  clear hs1 hb1 HCN
  go_wp2_with (go_at_call 11; (with_reducible refine (begun12_any _).mono ?_); rintro e w2 ⟨rfl, hb⟩; have H2 := Lib.hid (H1.out.call hb); clear hb)
  go_loopw [32] (fun iv wr => ∃ (k : Nat) (ms : List Int), k ≤ N ∧ iv = .int .i64 (k : Int) ∧ Hid (W3 W B ms wr)) (fun iv _ => N - (intOf iv).toNat)
  case atStart => exact ⟨0, _, Nat.zero_le _, rfl, H2⟩
  case round =>
    obtain ⟨k, ms, hk, rfl, HR⟩ := hrel
    by_cases hlt : k < N
    · obtain ⟨b, o, rfl, hb, hcell⟩ := HROW.out (by have := HN.out; omega)
      obtain ⟨x, hx⟩ : ∃ x, x = xs[k]! := ⟨_, rfl⟩
      obtain ⟨a0, a1, a2⟩ := three_cells (w := wr) (b := b) (o := o) (k := k) (x := x) (fun i u hu => (HR.out.below.cell (by rw [HB.out]; exact hb)).trans (hcell k (by have := HN.out; omega) i u (by rw [← hx]; exact hu)))
      obtain ⟨ns, hns⟩ : ∃ ns, ns = mkL ms x.inp x.t := ⟨_, rfl⟩
      obtain ⟨er, her⟩ : ∃ er, er = mkErr ms x.inp x.t := ⟨_, rfl⟩
      obtain ⟨m1, hm1⟩ : ∃ m, m = minI ms := ⟨_, rfl⟩
      obtain ⟨m2, hm2⟩ : ∃ m, m = minI ns := ⟨_, rfl⟩
      have hm12 : m1 ≤ m2 := by rw [hm1, hm2, hns]; exact mkL_min _ _ _
      have hm0 : 0 ≤ m1 := by rw [hm1]; exact minI_nonneg HR.out.is.may
      have hmF : m2 ≤ 1099511627777 := by rw [hm2]; exact minI_le _
      have hho := horI_rise (window := window) hm0 hm12 hmF
      obtain ⟨o1, ho1⟩ : ∃ o, o = horI m1 window := ⟨_, rfl⟩
      obtain ⟨o2, ho2⟩ : ∃ o, o = horI m2 window := ⟨_, rfl⟩
      have HM := Lib.hid (fun u (h : WtIs u B ms) => wMark_any B ms x.inp x.t u h)
      have HG1 := Lib.hid (fun u (h : WtIs u B ms) => wMerged_any B ms u h)
      have HG2 := Lib.hid (fun u (h : WtIs u B ns) => wMerged_any B ns u h)
      rw [← hm1] at HG1
      rw [← hm2] at HG2
      have HO1 := Lib.hid (fun u (h : WtIs u B ms) => wHorizon_any (.pointer (some ⟨B, 0, none⟩)) m1 window u hm0 (by omega) (HG1.out u h))
      have HO2 := Lib.hid (fun u (h : WtIs u B ns) => wHorizon_any (.pointer (some ⟨B, 0, none⟩)) m2 window u (by omega) hmF (HG2.out u h))
      rw [← ho1] at HO1 hho
      rw [← ho2] at HO2 hho
      have HK1 := Lib.hid (fun u (h : WtIs u B ms) => wMarks_any B ms u h)
      have HK2 := Lib.hid (fun u (h : WtIs u B ns) => wMarks_any B ns u h)
      have hnl : ns.length = 3 := by rw [hns, mkL_len]; exact HR.out.len
      rw [HR.out.len] at HK1
      rw [hnl] at HK2
      rw [← hns, ← her, ← hm1, ← hm2] at HM
      have HRI : Hid (∀ j, ms[j]! ≤ ns[j]!) := Lib.hid (fun j => by rw [hns]; exact mkL_rise _ _ _ _)
      have HNL := Lib.hid hnl; have HML := Lib.hid HR.out.len
      have d2 : decide (m2 < m1) = false := decide_eq_false (by omega)
      have d3 : decide (o2 < o1) = false := decide_eq_false (by omega)
      have e1 : IntKind.i64.wrap ((k : Int) + 1) = (k : Int) + 1 := IntWalk.i64_in _ (by have := HL63.out; omega)
      obtain ⟨P, hP⟩ : ∃ P, P = wr.heap.size := ⟨_, rfl⟩
      obtain ⟨u0, hu0⟩ : ∃ u, u = wr.alloc (.cells #[.int .i64 x.inp, .int .i64 x.t, .bool x.cl] 35) := ⟨_, rfl⟩
      have HA : Hid (W3 W B ms u0) := by rw [hu0]; exact Lib.hid (HR.out.alloc _)
      have HX : Hid (BoxAt u0 P x) := by rw [hu0, hP]; exact heap_alloc_new wr _
      have HPB : Hid (P ≠ B) := by have := HR.out.is.lt; unfold Hid; omega
      have hbw : b ≠ wr.heap.size := by have := HR.out.below.size; have := HB.out; omega
      have hkz : (0 : Int) ≤ (k : Int) := by omega
      clear hcell hx hb hm12 hm0 hmF hho hnl hns her hm1 hm2 ho1 ho2
      go_wp2_with fail
      rw [← hu0, ← hP]
      clear hu0 hP hbw a0 a1 a2
      (with_reducible refine (HK1.out _ HA.out.is).mono ?_)
      rintro e w3 ⟨g1, c1, rfl, ho, hb⟩
      have HR1 := Lib.hid (RowAt.of_own (l := ms) (by rw [HML.out]; exact ho)).1
      have HGB : Hid (g1 ≠ B) := by have := (RowAt.of_own (l := ms) (by rw [HML.out]; exact ho)).2; have := HA.out.is.lt; unfold Hid; omega
      have H3 := Lib.hid (HA.out.call hb)
      have HX3 := Lib.hid (HX.out.call hb)
      obtain ⟨b0, b1, b2⟩ := HX3.out.cells
      clear ho hb
      go_wp2_with (first
        | (go_at_call 18; (with_reducible refine (QC.one (HG1.out _ H3.out.is)).mono ?_); rintro e w4 ⟨rfl, n1, rfl⟩)
        | (go_at_call 19; (with_reducible refine (QC.one (HO1.out _ (H3.out.is.drewN _))).mono ?_); rintro e w4 ⟨rfl, n2, rfl⟩))
      (with_reducible refine (HM.out _ (H3.out.is.drewN _)).mono ?_)
      rintro e w4 ⟨rfl, hi, hc⟩
      have HR14 := Lib.hid ((HR1.out.drewN _).turn hc HGB.out)
      have H4 := Lib.hid ((H3.out.drewN _).turn hc hi (by rw [HNL.out, HML.out]))
      clear hi hc b0 b1 b2
      go_wp2_with fail
      (with_reducible refine (HK2.out _ H4.out.is).mono ?_)
      rintro e w5 ⟨g2, c2, rfl, ho, hb⟩
      have HR2 := Lib.hid (RowAt.of_own (l := ns) (by rw [HNL.out]; exact ho)).1
      have H5 := Lib.hid (H4.out.call hb)
      have HR15 := Lib.hid (HR14.out.call hb)
      clear ho hb
      by_cases hr : m1 < m2
      · have dr := decide_eq_true hr
        clear hr HM HK1 HK2 HO1 HG1 HX HX3 HR1 HR14 HA H3 H4
        go_wp2_with (first
          | (go_at_call 18; (with_reducible refine (QC.one (HG2.out _ H5.out.is)).mono ?_); rintro e w6 ⟨rfl, n3, rfl⟩)
          | (go_at_call 18; (with_reducible refine (QC.one (HG2.out _ (H5.out.is.drewN _))).mono ?_); rintro e w6 ⟨rfl, n4, rfl⟩)
          | (go_at_call 19; (with_reducible refine (QC.one (HO2.out _ (H5.out.is.drewN _))).mono ?_); rintro e w6 ⟨rfl, n5, rfl⟩))
        go_loopw [85] (fun iv wr => ∃ k : Nat, k ≤ 3 ∧ iv = .int .i64 (k : Int) ∧ Hid (W3 W B ns wr) ∧ Hid (RowAt wr g1 ms) ∧ Hid (RowAt wr g2 ns)) (fun iv _ => 3 - (intOf iv).toNat)
        case atStart => exact ⟨0, Nat.zero_le _, rfl, H5.out.drewN _, HR15.out.drewN _, HR2.out.drewN _⟩
        case round =>
          obtain ⟨j, hj, rfl, HR, HA1, HA2⟩ := hrel
          by_cases hlt3 : j < 3
          · have c1 := HA1.out.at' j (by rw [HML.out]; exact hlt3)
            have c2 := HA2.out.at' j (by rw [HNL.out]; exact hlt3)
            have hge := HRI.out j
            generalize ms[j]! = y1 at c1 hge
            generalize ns[j]! = y2 at c2 hge
            have dd : decide (y2 < y1) = false := decide_eq_false (by omega)
            have hj0 : (0 : Int) ≤ (j : Int) := by omega
            have hj3 : (j : Int) < 3 := by omega
            have e2 : IntKind.i64.wrap ((j : Int) + 1) = (j : Int) + 1 := IntWalk.i64_in _ (by omega)
            clear hge
            go_wp2_with fail
            go_quiet (fail)
            go_wp2
            go_roundw
            case rel => exact ⟨j + 1, by omega, by go_num, HR.out.drewN _, HA1.out.drewN _, HA2.out.drewN _⟩
            case measure => simp [intOf]; omega
          · go_wp2
            go_roundw
            case rel => exact ⟨k + 1, _, by omega, by go_num, HR⟩
            case measure => simp [intOf]; omega
      · have dr := decide_eq_false hr
        clear hr HM HK1 HK2 HO1 HG1 HX HX3 HR1 HR14 HA H3 H4
        go_wp2_with (first
          | (go_at_call 18; (with_reducible refine (QC.one (HG2.out _ H5.out.is)).mono ?_); rintro e w6 ⟨rfl, n3, rfl⟩)
          | (go_at_call 18; (with_reducible refine (QC.one (HG2.out _ (H5.out.is.drewN _))).mono ?_); rintro e w6 ⟨rfl, n4, rfl⟩)
          | (go_at_call 19; (with_reducible refine (QC.one (HO2.out _ (H5.out.is.drewN _))).mono ?_); rintro e w6 ⟨rfl, n5, rfl⟩))
        go_loopw [85] (fun iv wr => ∃ k : Nat, k ≤ 3 ∧ iv = .int .i64 (k : Int) ∧ Hid (W3 W B ns wr) ∧ Hid (RowAt wr g1 ms) ∧ Hid (RowAt wr g2 ns)) (fun iv _ => 3 - (intOf iv).toNat)
        case atStart => exact ⟨0, Nat.zero_le _, rfl, H5.out.drewN _, HR15.out.drewN _, HR2.out.drewN _⟩
        case round =>
          obtain ⟨j, hj, rfl, HR, HA1, HA2⟩ := hrel
          by_cases hlt3 : j < 3
          · have c1 := HA1.out.at' j (by rw [HML.out]; exact hlt3)
            have c2 := HA2.out.at' j (by rw [HNL.out]; exact hlt3)
            have hge := HRI.out j
            generalize ms[j]! = y1 at c1 hge
            generalize ns[j]! = y2 at c2 hge
            have dd : decide (y2 < y1) = false := decide_eq_false (by omega)
            have hj0 : (0 : Int) ≤ (j : Int) := by omega
            have hj3 : (j : Int) < 3 := by omega
            have e2 : IntKind.i64.wrap ((j : Int) + 1) = (j : Int) + 1 := IntWalk.i64_in _ (by omega)
            clear hge
            go_wp2_with fail
            go_quiet (fail)
            go_wp2
            go_roundw
            case rel => exact ⟨j + 1, by omega, by go_num, HR.out.drewN _, HA1.out.drewN _, HA2.out.drewN _⟩
            case measure => simp [intOf]; omega
          · go_wp2
            go_roundw
            case rel => exact ⟨k + 1, _, by omega, by go_num, HR⟩
            case measure => simp [intOf]; omega
    · go_wp2
      go_ret
      exact ⟨rfl, by rw [← HB.out]; exact HR.out.below⟩
end Go.Proofs.Ytclbfmjmamcjjaa
