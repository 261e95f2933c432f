/- Contract of CheckAttrs, the program's. -/
import Derived.Test.YtcnecokamckfaaaGreatDoorAv
import Derived.Test.YtcnecokamckfaaaGreatDoorVn
import Derived.Test.YtcnecokamckfaaaGreatDoorK1
import Derived.BigQuiet
import Derived.Deep.QuietTactic
namespace Go.Proofs.YtcnecokamckfaaaGreatDoor
open Go Go.RowKit

theorem Below.drewN' {B : Nat} {a w : World} (h : Below B a w) (n : Nat) : Below B a (w.drewN n) := ⟨h.os, h.tape, h.output, h.size, h.block⟩
theorem leq_at {a b : ByteArray} {c : Int} (h : Lib.compareBytes a.data.toList b.data.toList = c) : Op.bytesLess a.toList b.toList = decide (c < 0) ∧ (a.toList == b.toList) = decide (c = 0) := by
  rw [less_cb, eq_cb, Lib.toList_data, Lib.toList_data, h]; exact ⟨rfl, rfl⟩

set_option maxRecDepth 100000 in
set_option maxHeartbeats 3200000 in
theorem vCheckAttrs_any (B : Nat) (ao : Option Addr) (n cap : Nat) (xs : List At) (w : World) (h : Av w B (.slice ao n cap) xs) (hB : B ≤ w.heap.size) :
    Calls Tryz.prog 95 #[.slice ao n cap] w fun e w' => e = .returned (.int .i64 (ckAll xs)) ∧ Below w.heap.size w w' := by
  obtain ⟨hn, hn63⟩ := h.num
  have HH := Lib.hid h; have HN := Lib.hid hn; have HWD := Lib.hid h.wide
  by_cases h8 : 8 < n
  · rw [show ckAll xs = 3 by unfold ckAll; rw [if_pos (by omega)]]
    clear h hn
    go_enter Tryz.func95, Tryz.ntmps95
    go_wp2
    go_ret
    exact ⟨rfl, Below.refl _ _⟩
  · rw [show ckAll xs = ckGo xs 0 by unfold ckAll; rw [if_neg (by omega)]]
    clear h hn
    go_enter Tryz.func95, Tryz.ntmps95
    go_wp2_with fail
    go_loopw [11] (fun i wr => ∃ k : Nat, k ≤ n ∧ i = .int .i64 k ∧ Hid (ckGo xs 0 = ckGo xs k) ∧ Below w.heap.size w wr) (fun i _ => n - (intOf i).toNat)
    case atStart => exact ⟨0, Nat.zero_le _, rfl, rfl, Below.refl _ _⟩
    case round =>
      obtain ⟨k, hk, rfl, HK, hb⟩ := hrel
      have HB := Lib.hid hb; clear hb
      by_cases hlt : k < n
      · obtain ⟨b, o, rfl, hbB, hnx, hnc, hcap, hc⟩ := HH.out.at (by omega)
        have hkx : k < xs.length := by rw [← hnx]; exact hlt
        have hkz : (0 : Int) ≤ (k : Int) := by omega
        obtain ⟨x0, hx0⟩ : ∃ x, x = xs[k]! := ⟨_, rfl⟩
        have hcr : ∀ q, q < w.heap.size → ∀ j, wr.cell? ⟨q, j, none⟩ = w.cell? ⟨q, j, none⟩ := fun q hq j => HB.out.cell (p := ⟨q, j, none⟩) hq
        obtain ⟨a0, a1, a2, a3⟩ := four_cells (w := wr) (b := b) (a := o + k * 4) (x := x0) (fun i u hu => (hcr b (by omega) _).trans (hc k hkx i u (by rw [← hx0]; exact hu)))
        have hwd := HWD.out x0 (by rw [hx0, getElem!_pos xs k hkx]; exact List.getElem_mem _)
        have C1 := fun w => vName_any x0.name w hwd.1
        have C2 := fun w => vCheck_any x0.k x0.n x0.s w hwd.2
        have hbw : b < wr.heap.size := by have := HB.out.size; omega
        have HX := Lib.hid hx0; have HC := Lib.hid hc; have HKX := Lib.hid hkx
        clear hx0 hc hcr hnx hkx hwd
        have hne : b ≠ wr.heap.size := by omega
        cases hnm : nameB x0.name.data.toList with
        | false =>
          have HR : Hid (ckGo xs k = 31) := ckGo_name HKX.out (by rw [← HX.out]; exact hnm)
          rw [hnm] at C1
          have HC1 := Lib.hid C1
          clear hnm C1 C2
          go_wp2_with (go_at_call 90; (with_reducible refine (HC1.out _).mono ?_); rintro e w' ⟨rfl, rfl⟩)
          go_ret
          exact ⟨by rw [HK.out, HR.out]; rfl, HB.out.alloc HB.out.size _⟩
        | true =>
          rw [hnm] at C1
          cases hcv : ckB x0.k x0.n x0.s.data.toList with
          | false =>
            have HR : Hid (ckGo xs k = 30) := ckGo_val HKX.out (by rw [← HX.out]; exact hnm) (by rw [← HX.out]; exact hcv)
            rw [ckI_no hcv] at C2
            have HC1 := Lib.hid C1; have HC2 := Lib.hid C2
            clear hnm hcv C1 C2
            go_wp2_with (first | (go_at_call 90; (with_reducible refine (HC1.out _).mono ?_); rintro e w' ⟨rfl, rfl⟩) | (go_at_call 131; (with_reducible refine (HC2.out _).mono ?_); rintro e w2 ⟨rfl, hb2⟩; have HB2 := Lib.hid hb2; clear hb2))
            go_ret
            exact ⟨by rw [HK.out, HR.out]; rfl, (HB.out.alloc HB.out.size _).trans (HB2.out.mono (by have := HB.out.size; simp; omega))⟩
          | true =>
            rw [ckI_ok hcv] at C2
            have HC1 := Lib.hid C1; have HC2 := Lib.hid C2
            by_cases hk0 : k = 0
            · subst hk0
              have HR : Hid (ckGo xs 0 = ckGo xs 1) := ckGo_go HKX.out (by rw [← HX.out]; exact hnm) (by rw [← HX.out]; exact hcv) (by omega)
              simp only [Nat.zero_mul, Nat.add_zero] at a0 a1 a2 a3
              clear hnm hcv C1 C2
              go_wp2_with (first | (go_at_call 90; (with_reducible refine (HC1.out _).mono ?_); rintro e w' ⟨rfl, rfl⟩) | (go_at_call 131; (with_reducible refine (HC2.out _).mono ?_); rintro e w2 ⟨rfl, hb2⟩; have HB2 := Lib.hid hb2; obtain ⟨hc2, hf2⟩ := bcell hb2; have hz2 : wr.heap.size < w2.heap.size := (by have := hb2.size; simp at this; omega); clear hb2))
              go_quiet (fail)
              go_wp2
              go_roundw
              case rel => exact ⟨1, by omega, rfl, HR.out, Below.drewN' ((HB.out.alloc HB.out.size _).trans (HB2.out.mono (by have := HB.out.size; simp; omega))) _⟩
              case measure => simp [intOf]; omega
            · obtain ⟨p, rfl⟩ : ∃ p, k = p + 1 := ⟨k - 1, by omega⟩
              obtain ⟨y, hy⟩ : ∃ y, y = xs[p]! := ⟨_, rfl⟩
              have hcr : ∀ q, q < w.heap.size → ∀ j, wr.cell? ⟨q, j, none⟩ = w.cell? ⟨q, j, none⟩ := fun q hq j => HB.out.cell (p := ⟨q, j, none⟩) hq
              have p0 : wr.cell? ⟨b, o + p * 4, none⟩ = some (.string y.name) := (hcr b (by omega) _).trans (HC.out p (by have := HKX.out; omega) 0 _ (by rw [← hy]; rfl))
              clear hcr
              have hle := leq_at (a := x0.name) (b := y.name) rfl
              by_cases hlec : Lib.compareBytes x0.name.data.toList y.name.data.toList ≤ 0
              · have HR : Hid (ckGo xs (p + 1) = 32) := ckGo_ord HKX.out (by rw [← HX.out]; exact hnm) (by rw [← HX.out]; exact hcv) ⟨by omega, by rw [← HX.out]; simp only [Nat.add_sub_cancel]; rw [← hy]; exact hlec⟩
                have hr := cb_range x0.name.data.toList y.name.data.toList
                obtain ⟨hl1, hl2⟩ := hle
                generalize Lib.compareBytes x0.name.data.toList y.name.data.toList = c at hl1 hl2 hlec hr
                have hc3 : c = -1 ∨ c = 0 := by omega
                clear hnm hcv C1 C2 hy hlec hr hk0
                rcases hc3 with rfl | rfl
                all_goals
                  simp only [show decide ((-1 : Int) < 0) = true from rfl, show decide ((0 : Int) < 0) = false from rfl, show decide ((-1 : Int) = 0) = false from rfl] at hl1 hl2
                  go_wp2_with (first | (go_at_call 90; (with_reducible refine (HC1.out _).mono ?_); rintro e w' ⟨rfl, rfl⟩) | (go_at_call 131; (with_reducible refine (HC2.out _).mono ?_); rintro e w2 ⟨rfl, hb2⟩; have HB2 := Lib.hid hb2; obtain ⟨hc2, hf2⟩ := bcell hb2; have hz2 : wr.heap.size < w2.heap.size := (by have := hb2.size; simp at this; omega); clear hb2))
                  go_quiet (fail)
                  go_wp2
                  go_ret
                  exact ⟨by rw [HK.out, HR.out]; rfl, Below.drewN' ((HB.out.alloc HB.out.size _).trans (HB2.out.mono (by have := HB.out.size; simp; omega))) _⟩
              · have HR : Hid (ckGo xs (p + 1) = ckGo xs (p + 1 + 1)) := ckGo_go HKX.out (by rw [← HX.out]; exact hnm) (by rw [← HX.out]; exact hcv) (fun hh => hlec (by have := hh.2; rw [← HX.out] at this; simp only [Nat.add_sub_cancel] at this; rw [← hy] at this; exact this))
                obtain ⟨hl1, hl2⟩ := hle
                rw [decide_eq_false (by omega)] at hl1 hl2
                clear hnm hcv C1 C2 hy hlec hk0
                go_wp2_with (first | (go_at_call 90; (with_reducible refine (HC1.out _).mono ?_); rintro e w' ⟨rfl, rfl⟩) | (go_at_call 131; (with_reducible refine (HC2.out _).mono ?_); rintro e w2 ⟨rfl, hb2⟩; have HB2 := Lib.hid hb2; obtain ⟨hc2, hf2⟩ := bcell hb2; have hz2 : wr.heap.size < w2.heap.size := (by have := hb2.size; simp at this; omega); clear hb2))
                go_quiet (fail)
                go_wp2
                go_roundw
                case rel => exact ⟨p + 1 + 1, by omega, by go_num, HK.out.trans HR.out, Below.drewN' ((HB.out.alloc HB.out.size _).trans (HB2.out.mono (by have := HB.out.size; simp; omega))) _⟩
                case measure => simp [intOf]; omega
      · have HR : Hid (ckGo xs k = 0) := ckGo_end (by rw [← HN.out]; exact hlt)
        go_wp2
        go_ret
        exact ⟨by rw [HK.out, HR.out]; rfl, HB.out⟩
end Go.Proofs.YtcnecokamckfaaaGreatDoor
