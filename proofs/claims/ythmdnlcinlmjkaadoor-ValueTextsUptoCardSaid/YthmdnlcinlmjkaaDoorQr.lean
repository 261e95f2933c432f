/- Contract of the document's own Text of a string. -/
import Derived.Test.YthmdnlcinlmjkaaDoorQu
namespace Go.Proofs.YthmdnlcinlmjkaaDoor
open Go Go.RowKit
attribute [local go_sem ↓] Go.wp_at_zero Go.wp_at_succ

set_option maxRecDepth 100000 in
set_option maxHeartbeats 1600000 in
theorem r3TextS_any (n : Int) (s : ByteArray) (w : World) (hs : 4 * s.size + 2 ≤ 140737488355328) :
    Calls Tryd.prog 9 #[.agg #[.int .i64 2, .int .i64 n, .string s]] w fun e w' => e = .returned (.string ⟨(quoL s.data.toList).toArray⟩) ∧ Below w.heap.size w w' := by
  obtain ⟨i0, hi, hz0, hz1, hz2⟩ := info_parts infoByte
  obtain ⟨W, hW⟩ : ∃ W, W = w.alloc (.cells #[.int .i64 2, .int .i64 n, .string s] 23) := ⟨_, rfl⟩
  obtain ⟨B, hB⟩ : ∃ B, B = w.heap.size + 1 := ⟨_, rfl⟩
  have hWs : W.heap.size = B := by rw [hW, hB]; simp
  have hWc : W.cell? ⟨w.heap.size, 2, none⟩ = some (.string s) := by rw [hW]; exact (cell_of_three (heap_alloc_new _ _)).2.2
  have hWb : Below w.heap.size w W := by rw [hW]; exact (Below.refl _ _).alloc (Nat.le_refl _) _
  have HW := hide hW; have HB0 := hide hB; have HWs := hide hWs; have HWc := hide hWc; have HWb := hide hWb; clear hW hB hWs hWc hWb
  go_enter Tryd.func9, Tryd.ntmps9
  go_wp2_with fail
  rw [← HW.out]
  go_loopw [3, 4] (fun v i wr => ∃ k : Nat, k ≤ s.size ∧ i = .int .i64 k ∧ wr.ownsRow B 5 1 v (accL (s.data.toList.take k)).length (Lib.byteCells (accL (s.data.toList.take k))) ∧ Below B W wr) (fun _ i _ => s.size - (intOf i).toNat)
  case atStart => exact ⟨0, Nat.zero_le _, rfl, by have h := own_start W 34; rw [HWs.out] at h; rw [← HB0.out]; simpa [accL] using h, (Below.refl _ _).alloc (by rw [HWs.out]; exact Nat.le_refl _) _⟩
  case round =>
    obtain ⟨k, hk, rfl, hown, hb⟩ := hrel
    have hc2 : wr.cell? ⟨w.heap.size, 2, none⟩ = some (.string s) := (hb.cell (p := ⟨w.heap.size, 2, none⟩) (by have := HB0.out; show w.heap.size < B; omega)).trans HWc.out
    have hsz : B ≤ wr.heap.size := by have := hb.size; have := HWs.out; omega
    have HO := hide hown; have HB := hide hb; have HR := hide (acc_room hk hs); clear hown hb
    obtain ⟨L, hL⟩ : ∃ L, L = (accL (s.data.toList.take k)).length := ⟨_, rfl⟩
    obtain ⟨X, hX⟩ : ∃ X, X = Lib.byteCells (accL (s.data.toList.take k)) := ⟨_, rfl⟩
    have HO := HO.out; rw [← hL, ← hX] at HO; have HO := hide HO
    have HR := HR.out; rw [← hL] at HR; have HR := hide HR
    have HL := hide hL; have HX := hide hX; clear hL hX
    by_cases hlt : k < s.size
    · rcases byte_ways s[k] with ⟨hc, he⟩ | ⟨hc, he⟩ | ⟨h1, h2, h3, he⟩ | ⟨h1, h2, h3, h4, he⟩ | ⟨h1, h2, h3, h4, he⟩
      · have HE := hide he; clear he
        go_wp2_with (at_builtin; refine wpList_append_own _ rfl (.tmp 38) (.tmp 40) 40 rfl B 5 i0 (.int .u8 0) 1 1 Tryd.underlying40 hi hz0 hz1 hz2 rfl (by decide) _ L X rfl (HO.out.alloc _) ⟨wr.heap.size, 0, none⟩ 2 2 (Lib.byteCells [92, 34]) rfl rfl (World.news_of_block (heap_alloc_new _ _)) (byteCells_one _) (by have := HR.out; unfold maxLen; omega) (by have := HR.out; omega) (by simp; omega) ?_; intro v2 w2 hown2 hgrow2 hnil2; clear hnil2; have HO2 := hide hown2; have HB2 := hide ((HB.out.alloc hsz _).grown hgrow2 (by simp; omega) (fun k h => (HO.out.lt k h).1)); clear hown2 hgrow2)
        go_roundw
        case rel => exact ⟨k + 1, by omega, by go_num, acc_stepB hlt HE.out (by rw [← HL.out, ← HX.out]; exact HO2.out), HB2.out⟩
        case measure => simp [intOf]; omega
      · have HE := hide he; clear he
        go_wp2_with (at_builtin; refine wpList_append_own _ rfl (.tmp 38) (.tmp 40) 40 rfl B 5 i0 (.int .u8 0) 1 1 Tryd.underlying40 hi hz0 hz1 hz2 rfl (by decide) _ L X rfl (HO.out.alloc _) ⟨wr.heap.size, 0, none⟩ 2 2 (Lib.byteCells [92, 92]) rfl rfl (World.news_of_block (heap_alloc_new _ _)) (byteCells_one _) (by have := HR.out; unfold maxLen; omega) (by have := HR.out; omega) (by simp; omega) ?_; intro v2 w2 hown2 hgrow2 hnil2; clear hnil2; have HO2 := hide hown2; have HB2 := hide ((HB.out.alloc hsz _).grown hgrow2 (by simp; omega) (fun k h => (HO.out.lt k h).1)); clear hown2 hgrow2)
        go_roundw
        case rel => exact ⟨k + 1, by omega, by go_num, acc_stepB hlt HE.out (by rw [← HL.out, ← HX.out]; exact HO2.out), HB2.out⟩
        case measure => simp [intOf]; omega
      · have HE := hide he; clear he
        go_wp2_with fail
        have x1 : ∀ w : World, (Instr.index 9 (.string ⟨#[48, 49, 50, 51, 52, 53, 54, 55, 56, 57, 97, 98, 99, 100, 101, 102]⟩) (.int .u8 ((s[k].toNat : Int) / 16))).run Tryd.prog w = .ok (.int .u8 ((hxD (s[k].toNat / 16)).toNat : Int)) w := hex_index _ (by have := s[k].toNat_lt; omega) _ (by omega)
        have x2 : ∀ w : World, (Instr.index 9 (.string ⟨#[48, 49, 50, 51, 52, 53, 54, 55, 56, 57, 97, 98, 99, 100, 101, 102]⟩) (.int .u8 ((s[k].toNat : Int) % 16))).run Tryd.prog w = .ok (.int .u8 ((hxD (s[k].toNat % 16)).toNat : Int)) w := hex_index _ (by have := s[k].toNat_lt; omega) _ (by omega)
        have xw : IntKind.u8.wrap ((s[k].toNat : Int) / 16) = (s[k].toNat : Int) / 16 := by have := s[k].toNat_lt; rw [IntKind.wrap_u8]; omega
        have xm : ((s[k].toNat : Int)).tmod 16 = (s[k].toNat : Int) % 16 := Int.tmod_eq_emod_of_nonneg (by omega)
        have xv : IntKind.u8.wrap ((s[k].toNat : Int) % 16) = (s[k].toNat : Int) % 16 := by rw [IntKind.wrap_u8]; omega
        go_region_held3 (fun w' => True) (trivial) ((refine step_append_own (by rfl) (.tmp 49) (.tmp 56) 40 (by rfl) B 5 i0 (.int .u8 0) 1 1 Tryd.underlying40 hi hz0 hz1 hz2 rfl (by decide) _ L X (by rfl) (HO.out.alloc _) ⟨wr.heap.size, 0, none⟩ 4 4 (Lib.byteCells [92, 120, hxD (s[k].toNat / 16), hxD (s[k].toNat % 16)]) (by rfl) rfl (World.news_of_block (heap_alloc_new _ _)) (byteCells_one _) (by have := HR.out; unfold maxLen; omega) (by have := HR.out; omega) (by simp; omega) ?_; intro v2 w2 hown2 hgrow2; have HO2 := hide hown2; have HB2 := hide ((HB.out.drew.alloc hsz _).grown hgrow2 (by simp; omega) (fun k h => (HO.out.lt k h).1)); clear hown2 hgrow2))
        clear x1 x2 xw xm xv
        all_goals go_wp2
        all_goals go_roundw
        all_goals first | exact ⟨⟨k + 1, by omega, by go_num, acc_stepB hlt HE.out (by rw [← HL.out, ← HX.out]; exact HO2.out), HB2.out⟩, by simp [intOf]; omega⟩ | exact ⟨k + 1, by omega, by go_num, acc_stepB hlt HE.out (by rw [← HL.out, ← HX.out]; exact HO2.out), HB2.out⟩ | (simp [intOf]; omega)
      · have HE := hide he; clear he
        go_wp2_with fail
        have x1 : ∀ w : World, (Instr.index 9 (.string ⟨#[48, 49, 50, 51, 52, 53, 54, 55, 56, 57, 97, 98, 99, 100, 101, 102]⟩) (.int .u8 ((s[k].toNat : Int) / 16))).run Tryd.prog w = .ok (.int .u8 ((hxD (s[k].toNat / 16)).toNat : Int)) w := hex_index _ (by have := s[k].toNat_lt; omega) _ (by omega)
        have x2 : ∀ w : World, (Instr.index 9 (.string ⟨#[48, 49, 50, 51, 52, 53, 54, 55, 56, 57, 97, 98, 99, 100, 101, 102]⟩) (.int .u8 ((s[k].toNat : Int) % 16))).run Tryd.prog w = .ok (.int .u8 ((hxD (s[k].toNat % 16)).toNat : Int)) w := hex_index _ (by have := s[k].toNat_lt; omega) _ (by omega)
        have xw : IntKind.u8.wrap ((s[k].toNat : Int) / 16) = (s[k].toNat : Int) / 16 := by have := s[k].toNat_lt; rw [IntKind.wrap_u8]; omega
        have xm : ((s[k].toNat : Int)).tmod 16 = (s[k].toNat : Int) % 16 := Int.tmod_eq_emod_of_nonneg (by omega)
        have xv : IntKind.u8.wrap ((s[k].toNat : Int) % 16) = (s[k].toNat : Int) % 16 := by rw [IntKind.wrap_u8]; omega
        go_region_held3 (fun w' => True) (trivial) ((refine step_append_own (by rfl) (.tmp 49) (.tmp 56) 40 (by rfl) B 5 i0 (.int .u8 0) 1 1 Tryd.underlying40 hi hz0 hz1 hz2 rfl (by decide) _ L X (by rfl) (HO.out.alloc _) ⟨wr.heap.size, 0, none⟩ 4 4 (Lib.byteCells [92, 120, hxD (s[k].toNat / 16), hxD (s[k].toNat % 16)]) (by rfl) rfl (World.news_of_block (heap_alloc_new _ _)) (byteCells_one _) (by have := HR.out; unfold maxLen; omega) (by have := HR.out; omega) (by simp; omega) ?_; intro v2 w2 hown2 hgrow2; have HO2 := hide hown2; have HB2 := hide ((HB.out.drew.alloc hsz _).grown hgrow2 (by simp; omega) (fun k h => (HO.out.lt k h).1)); clear hown2 hgrow2))
        clear x1 x2 xw xm xv
        all_goals go_wp2
        all_goals go_roundw
        all_goals first | exact ⟨⟨k + 1, by omega, by go_num, acc_stepB hlt HE.out (by rw [← HL.out, ← HX.out]; exact HO2.out), HB2.out⟩, by simp [intOf]; omega⟩ | exact ⟨k + 1, by omega, by go_num, acc_stepB hlt HE.out (by rw [← HL.out, ← HX.out]; exact HO2.out), HB2.out⟩ | (simp [intOf]; omega)
      · have HE := hide he; clear he
        go_wp2_with (at_builtin; refine wpList_append_own _ rfl (.tmp 27) (.tmp 29) 40 rfl B 5 i0 (.int .u8 0) 1 1 Tryd.underlying40 hi hz0 hz1 hz2 rfl (by decide) _ L X rfl (HO.out.alloc _) ⟨wr.heap.size, 0, none⟩ 1 1 (Lib.byteCells [s[k]]) rfl rfl (World.news_of_block (heap_alloc_new _ _)) (byteCells_one _) (by have := HR.out; unfold maxLen; omega) (by have := HR.out; omega) (by simp; omega) ?_; intro v2 w2 hown2 hgrow2 hnil2; clear hnil2; have HO2 := hide hown2; have HB2 := hide ((HB.out.alloc hsz _).grown hgrow2 (by simp; omega) (fun k h => (HO.out.lt k h).1)); clear hown2 hgrow2)
        go_roundw
        case rel => exact ⟨k + 1, by omega, by go_num, acc_stepB hlt HE.out (by rw [← HL.out, ← HX.out]; exact HO2.out), HB2.out⟩
        case measure => simp [intOf]; omega
    · have he : k = s.size := by omega
      have HE := hide he; clear he
      go_wp2_with (at_builtin; refine wpList_append_own _ rfl (.tmp 58) (.tmp 59) 40 rfl B 5 i0 (.int .u8 0) 1 1 Tryd.underlying40 hi hz0 hz1 hz2 rfl (by decide) _ L X rfl (HO.out.alloc _) ⟨wr.heap.size, 0, none⟩ 1 1 (Lib.byteCells [34]) rfl rfl (World.news_of_block (heap_alloc_new _ _)) (byteCells_one _) (by have := HR.out; unfold maxLen; omega) (by have := HR.out; omega) (by simp; omega) ?_; intro v2 w2 hown2 hgrow2 hnil2; clear hnil2; have HB2 := hide ((HB.out.alloc hsz _).grown hgrow2 (by simp; omega) (fun k h => (HO.out.lt k h).1)); rw [HX.out, ← byteCells_append] at hown2; have hcv := conv_cells hown2 (by rw [HL.out]; simp); clear hown2 hgrow2)
      go_ret
      refine ⟨?_, HWb.out.trans (HB2.out.mono (by have := HB0.out; omega))⟩
      rw [HE.out, List.take_of_length_le (by simp)]
      rfl
end Go.Proofs.YthmdnlcinlmjkaaDoor
