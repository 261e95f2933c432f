/- The walk of WaterLets. Written by wip/genwl12.py. -/
import Derived.Test.YtclbfmjmamcjjaaBg12
namespace Go.Proofs.Ytclbfmjmamcjjaa
open Go Go.RowKit

/-- How things stand between two marks of a script: three marks in the block B. -/
structure W3 (W : World) (B : Nat) (ms : List Int) (w : World) : Prop where
  below : Below B W w
  is : WtIs w B ms
  len : ms.length = 3
theorem W3.call {W : World} {B : Nat} {ms : List Int} {w w' : World} (h : W3 W B ms w) (hb : Below w.heap.size w w') : W3 W B ms w' :=
  ⟨h.below.trans (hb.mono (Nat.le_of_lt h.is.lt)), h.is.below hb, h.len⟩
theorem W3.turn {W : World} {B : Nat} {ms ns : List Int} {w w' : World} (h : W3 W B ms w) (hc : Chg (fun b => b = B) w w') (hi : WtIs w' B ns) (hl : ns.length = ms.length) : W3 W B ns w' :=
  ⟨h.below.trans (hc.below (Nat.le_of_lt h.is.lt) (fun k hk => by rw [hk]; exact Nat.le_refl _)), hi, hl.trans h.len⟩
theorem W3.drewN {W : World} {B : Nat} {ms : List Int} {w : World} (h : W3 W B ms w) (n : Nat) : W3 W B ms (w.drewN n) := ⟨Below.drewN' h.below n, h.is.drewN n, h.len⟩
theorem W3.alloc {W : World} {B : Nat} {ms : List Int} {w : World} (h : W3 W B ms w) (o : Obj) : W3 W B ms (w.alloc o) := h.call ((Below.refl _ _).alloc (Nat.le_refl _) _)
theorem three_cells {w : World} {b o k : Nat} {x : Op12} (h : ∀ i u, (encP x)[i]? = some u → w.cell? ⟨b, o + k * 3 + i, none⟩ = some u) :
    w.cell? ⟨b, o + k * 3, none⟩ = some (.int .i64 x.inp) ∧ w.cell? ⟨b, o + k * 3 + 1, none⟩ = some (.int .i64 x.t) ∧ w.cell? ⟨b, o + k * 3 + 2, none⟩ = some (.bool x.cl) := ⟨h 0 _ rfl, h 1 _ rfl, h 2 _ rfl⟩
theorem lets_num {ms : List Int} {window begin_ end_ i : Int} (hm : ∀ t ∈ ms, 0 ≤ t ∧ t ≤ 1099511627777) (hl : ms.length = 3) (hw : 0 ≤ window) (hb : 0 ≤ begin_) (he0 : 0 ≤ end_) (he : end_ ≤ 1099511627776) (hi0 : 0 ≤ i) (hi : i < 3)
    (h1 : ¬ horI (minI ms) window ≤ begin_) (h2 : ¬ end_ < atI ms i) (h3 : ¬ minI ms = 1099511627777) : IntKind.i64.wrap (end_ - begin_) = end_ - begin_ ∧ decide (end_ - begin_ > window) = true := by
  obtain ⟨j, rfl⟩ : ∃ j : Nat, i = (j : Int) := ⟨i.toNat, by omega⟩
  have hj : j < ms.length := by omega
  rw [atI_nat ms j hj] at h2
  have hmem : ms[j]! ∈ ms := by rw [getElem!_pos ms j hj]; exact List.getElem_mem _
  have h4 := minI_mem hmem
  have h5 := minI_le ms
  have h6 := minI_nonneg hm
  unfold horI at h1
  rw [if_neg h3] at h1
  by_cases hc : window < 0 ∨ minI ms < window
  · rw [if_pos hc] at h1; omega
  · rw [if_neg hc] at h1
    exact ⟨IntWalk.i64_in _ (by omega), decide_eq_true (by omega)⟩

set_option maxRecDepth 100000 in
set_option maxHeartbeats 3200000 in
theorem lets_walk (xs : List Op12) (v : Value) (window begin_ end_ n : Int) (W : World) (hx : Pv W W.heap.size v xs) (hn0 : 0 ≤ n) (hn : n < 256) :
    Calls Try.prog 5 #[v, .int .i64 window, .int .i64 begin_, .int .i64 end_, .int .u8 n] W fun e w' => e = .returned (.bool true) ∧ Below W.heap.size W w' := by
  obtain ⟨ao, cap, rfl, hcap, hcap2, hrow⟩ := hx.row
  have CN := wNew_ok 3 (by decide) (by decide) W
  obtain ⟨B, hB⟩ : ∃ B, B = W.heap.size := ⟨_, rfl⟩
  obtain ⟨N, hN⟩ : ∃ N, N = xs.length := ⟨_, rfl⟩
  have hlen := hx.len
  rw [← hN] at hlen hcap ⊢
  have HCN := Lib.hid CN; have HB := Lib.hid hB; have HN := Lib.hid hN; have HROW := Lib.hid hrow
  have HL63 : Hid (N ≤ 9223372036854775807) := Lib.hid (by omega)
  clear hx hrow CN hB hN hcap hcap2 hlen
  go_enter Try.func5, Try.ntmps5
  go_wp2_with fail
  refine HCN.out.mono ?_
  rw [← HB.out]
  rintro e w1 ⟨rfl, hs1, hb1⟩
  have H1 : Hid (W3 W B [0, 0, 0] w1) := Lib.hid ⟨hb1, hs1, rfl⟩
  clear hs1 hb1 HCN
  by_cases hc0 : window < 0
  · have d0 : decide (window < 0) = true := by simpa using hc0
    clear hc0
    go_wp2_with (first | (go_at_call 11; (with_reducible refine (begun12_any _).mono ?_); rintro e w2 ⟨rfl, hb⟩; have H2 := Lib.hid (H1.out.call hb); clear hb) | (go_at_call 11; (with_reducible refine (begun12_any _).mono ?_); rintro e w3 ⟨rfl, hb⟩; have H3 := Lib.hid (H2.out.call hb); clear hb))
    go_ret
    exact ⟨rfl, by rw [← HB.out]; exact H3.out.below⟩
  have d0 : decide (window < 0) = false := by simpa using hc0
  by_cases hc1 : begin_ < 0
  · have d1 : decide (begin_ < 0) = true := by simpa using hc1
    clear hc0 hc1
    go_wp2_with (first | (go_at_call 11; (with_reducible refine (begun12_any _).mono ?_); rintro e w2 ⟨rfl, hb⟩; have H2 := Lib.hid (H1.out.call hb); clear hb) | (go_at_call 11; (with_reducible refine (begun12_any _).mono ?_); rintro e w3 ⟨rfl, hb⟩; have H3 := Lib.hid (H2.out.call hb); clear hb))
    go_ret
    exact ⟨rfl, by rw [← HB.out]; exact H3.out.below⟩
  have d1 : decide (begin_ < 0) = false := by simpa using hc1
  by_cases hc2 : end_ < 0
  · have d2 : decide (end_ < 0) = true := by simpa using hc2
    clear hc0 hc1 hc2
    go_wp2_with (first | (go_at_call 11; (with_reducible refine (begun12_any _).mono ?_); rintro e w2 ⟨rfl, hb⟩; have H2 := Lib.hid (H1.out.call hb); clear hb) | (go_at_call 11; (with_reducible refine (begun12_any _).mono ?_); rintro e w3 ⟨rfl, hb⟩; have H3 := Lib.hid (H2.out.call hb); clear hb))
    go_ret
    exact ⟨rfl, by rw [← HB.out]; exact H3.out.below⟩
  have d2 : decide (end_ < 0) = false := by simpa using hc2
  by_cases hc3 : end_ > 1099511627776
  · have d3 : decide (end_ > 1099511627776) = true := by simpa using hc3
    clear hc0 hc1 hc2 hc3
    go_wp2_with (first | (go_at_call 11; (with_reducible refine (begun12_any _).mono ?_); rintro e w2 ⟨rfl, hb⟩; have H2 := Lib.hid (H1.out.call hb); clear hb) | (go_at_call 11; (with_reducible refine (begun12_any _).mono ?_); rintro e w3 ⟨rfl, hb⟩; have H3 := Lib.hid (H2.out.call hb); clear hb))
    go_ret
    exact ⟨rfl, by rw [← HB.out]; exact H3.out.below⟩
  have d3 : decide (end_ > 1099511627776) = false := by simpa using hc3
  have HC0 := Lib.hid hc0; have HC1 := Lib.hid hc1; have HC2 := Lib.hid hc2; have HC3 := Lib.hid hc3; have HN0 := Lib.hid hn0; have HN1 := Lib.hid hn
  clear hc0 hc1 hc2 hc3
  go_wp2_with (go_at_call 11; (with_reducible refine (begun12_any _).mono ?_); rintro e w2 ⟨rfl, hb⟩; have H2 := Lib.hid (H1.out.call hb); clear hb)
  clear d0 d1 d2 d3
  go_loopw [48] (fun iv wr => ∃ (k : Nat) (ms : List Int), k ≤ N ∧ iv = .int .i64 (k : Int) ∧ Hid (W3 W B ms wr)) (fun iv _ => N - (intOf iv).toNat)
  case atStart => exact ⟨0, _, Nat.zero_le _, rfl, H2⟩
  case round =>
    obtain ⟨k, ms, hk, rfl, HR⟩ := hrel
    by_cases hlt : k < N
    · obtain ⟨b, o, rfl, hb, hcell⟩ := HROW.out (by have := HN.out; omega)
      obtain ⟨x, hx⟩ : ∃ x, x = xs[k]! := ⟨_, rfl⟩
      obtain ⟨a0, a1, a2⟩ := three_cells (w := wr) (b := b) (o := o) (k := k) (x := x) (fun i u hu => (HR.out.below.cell (by rw [HB.out]; exact hb)).trans (hcell k (by have := HN.out; omega) i u (by rw [← hx]; exact hu)))
      have HM := Lib.hid (fun u (h : WtIs u B ms) => wMark_any B ms x.inp x.t u h)
      have e1 : IntKind.i64.wrap ((k : Int) + 1) = (k : Int) + 1 := IntWalk.i64_in _ (by have := HL63.out; omega)
      have HA := Lib.hid (HR.out.alloc (.cells #[.int .i64 x.inp, .int .i64 x.t, .bool x.cl] 35))
      have hbw : b ≠ wr.heap.size := by have := HR.out.below.size; have := HB.out; omega
      have hkz : (0 : Int) ≤ (k : Int) := by omega
      clear hcell hx hb
      go_wp2_with fail
      (with_reducible refine (HM.out _ HA.out.is).mono ?_)
      rintro e w3 ⟨rfl, hi, hc⟩
      have H3 := Lib.hid (HA.out.turn hc hi (mkL_len _ _ _))
      clear hi hc
      go_wp2
      go_roundw
      case rel => exact ⟨k + 1, _, by omega, by go_num, H3⟩
      case measure => simp [intOf]; omega
    · have HMR := Lib.hid (fun n => wMerged_any B ms (wr.drewN n) (HR.out.is.drewN n))
      have HHO := Lib.hid (wHorizon_any (.pointer (some ⟨B, 0, none⟩)) (minI ms) window wr (minI_nonneg HR.out.is.may) (minI_le ms) (wMerged_any B ms wr HR.out.is))
      have HLA := Lib.hid (fun m => wLate_any B ms (n % 3) end_ (wr.drewN m) (HR.out.is.drewN m))
      have HDO := Lib.hid (fun n => wDone_any (.pointer (some ⟨B, 0, none⟩)) (minI ms) (wr.drewN n) (wMerged_any B ms (wr.drewN n) (HR.out.is.drewN n)))
      by_cases h1 : horI (minI ms) window ≤ begin_
      · have d1 : decide (begin_ ≥ horI (minI ms) window) = true := by simpa using h1
        generalize horI (minI ms) window = ho at HHO d1
        clear h1
        go_wp2_with (go_at_call 19; (with_reducible refine (QC.one HHO.out).mono ?_); rintro e w3 ⟨rfl, n1, rfl⟩)
        go_ret
        exact ⟨rfl, by rw [← HB.out]; exact (HR.out.drewN _).below⟩
      · have d1 : decide (begin_ ≥ horI (minI ms) window) = false := by simpa using h1
        have HH1 := Lib.hid h1
        obtain ⟨ho, hho⟩ : ∃ ho, ho = horI (minI ms) window := ⟨_, rfl⟩
        rw [← hho] at HHO d1
        clear h1 hho
        by_cases h2 : end_ < atI ms (n % 3)
        · rw [decide_eq_true h2] at HLA
          clear h2
          go_wp2_with (first
            | (go_at_call 19; (with_reducible refine (QC.one HHO.out).mono ?_); rintro e w3 ⟨rfl, n1, rfl⟩)
            | (go_at_call 20; (with_reducible refine (HLA.out _).mono ?_); rintro e w3 ⟨rfl, rfl⟩))
          go_ret
          exact ⟨rfl, by rw [← HB.out]; exact (HR.out.drewN _).below⟩
        · rw [decide_eq_false h2] at HLA
          by_cases h3 : minI ms = 1099511627777
          · rw [decide_eq_true h3] at HDO
            clear h2 h3
            go_wp2_with (first
              | (go_at_call 19; (with_reducible refine (QC.one HHO.out).mono ?_); rintro e w3 ⟨rfl, n1, rfl⟩)
              | (go_at_call 20; (with_reducible refine (HLA.out _).mono ?_); rintro e w3 ⟨rfl, rfl⟩)
              | (go_at_call 21; (with_reducible refine (QC.one (HDO.out _)).mono ?_); rintro e w3 ⟨rfl, n2, rfl⟩))
            go_ret
            exact ⟨rfl, by rw [← HB.out]; exact (HR.out.drewN _).below⟩
          · rw [decide_eq_false h3] at HDO
            obtain ⟨e2, d2⟩ := lets_num HR.out.is.may HR.out.len HC0.out HC1.out HC2.out HC3.out (by have := HN0.out; omega) (by omega) HH1.out h2 h3
            clear h2 h3
            go_wp2_with (first
              | (go_at_call 19; (with_reducible refine (QC.one HHO.out).mono ?_); rintro e w3 ⟨rfl, n1, rfl⟩)
              | (go_at_call 20; (with_reducible refine (HLA.out _).mono ?_); rintro e w3 ⟨rfl, rfl⟩)
              | (go_at_call 21; (with_reducible refine (QC.one (HDO.out _)).mono ?_); rintro e w3 ⟨rfl, n2, rfl⟩))
            go_ret
            exact ⟨rfl, by rw [← HB.out]; exact (HR.out.drewN _).below⟩
end Go.Proofs.Ytclbfmjmamcjjaa
