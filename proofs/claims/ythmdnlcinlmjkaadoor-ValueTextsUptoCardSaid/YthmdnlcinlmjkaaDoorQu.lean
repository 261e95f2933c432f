/- Contract of quote: a string's text. -/
import Derived.Test.YthmdnlcinlmjkaaDoorTm
import Derived.Test.YthmdnlcinlmjkaaDoorLaw
import Derived.Test.YthmdnlcinlmjkaaDoorVc
import Derived.Laws.IdiomStrings
import Derived.Laws.BytesArg
import Derived.Laws.BitsLemmas
import Derived.Deep.RegionHeld3
import Derived.Deep.DrawnRows
import Derived.Deep.AppendLies
namespace Go.Proofs.YthmdnlcinlmjkaaDoor
open Go Go.RowKit
attribute [local go_sem ↓] Go.wp_at_zero Go.wp_at_succ

theorem cell_of_three {w : World} {q : Nat} {c0 c1 c2 : Value} {t : Nat} (h : w.heap[q]? = some (.cells #[c0, c1, c2] t (0, 0))) :
    w.cell? ⟨q, 0, none⟩ = some c0 ∧ w.cell? ⟨q, 1, none⟩ = some c1 ∧ w.cell? ⟨q, 2, none⟩ = some c2 := by
  refine ⟨?_, ?_, ?_⟩ <;> simp [World.cell?, h]
theorem free_of_three {w : World} {q : Nat} {c0 c1 c2 : Value} {t : Nat} (h : w.heap[q]? = some (.cells #[c0, c1, c2] t (0, 0))) :
    w.frozen? ⟨q, 0, none⟩ = false ∧ w.frozen? ⟨q, 1, none⟩ = false ∧ w.frozen? ⟨q, 2, none⟩ = false := by
  refine ⟨?_, ?_, ?_⟩ <;> simp [World.frozen?, h]
theorem own_start (w : World) (c : UInt8) : (w.alloc (.cells #[.int .u8 (c.toNat : Int)] 5)).ownsRow w.heap.size 5 1 (.slice (some ⟨w.heap.size, 0, none⟩) 1 1) 1 (Lib.byteCells [c]) := by
  refine ⟨by simp [Lib.byteCells], .inr ⟨w.heap.size, 1, #[.int .u8 (c.toNat : Int)], rfl, Nat.le_refl _, heap_alloc_new w _, ?_⟩⟩
  simp [Lib.byteCells, maxLen]
theorem byteCells_one (l : List UInt8) : ∀ u ∈ Lib.byteCells l, u.oneCell' = true := by
  intro u hu; simp [Lib.byteCells] at hu; obtain ⟨b, _, rfl⟩ := hu; rfl

theorem conv_cells {w : World} {B n : Nat} {v : Value} {bytes : List UInt8} (h : w.ownsRow B 5 1 v n (Lib.byteCells bytes)) (hn : bytes.length = n) :
    (convert 40 9 v).run Tryd.prog w = .ok (.string ⟨bytes.toArray⟩) w := by
  subst hn
  rcases h.2 with ⟨hv, hn0⟩ | ⟨g, cap, cur, hv, hg, hgg, hgn, hcapm, hcsz, htake⟩
  · subst hv
    obtain rfl : bytes = [] := List.length_eq_zero_iff.1 hn0
    exact run_convert_bytes_nil w 40 5 Tryd.underlying40 Tryd.underlying5 0 0 9 Tryd.underlying9
  · subst hv
    exact run_convert_bytes_back w 40 9 5 ⟨g, 0, none⟩ cap bytes Tryd.underlying40 Tryd.underlying5 Tryd.underlying9 (fun j hj => h.cells (g := g) rfl j _ (by simp [Lib.byteCells, hj]))
/-- A digit out of the text of the sixteen. -/
theorem hex_index (n : Nat) (hn : n < 16) (z : Int) (hz : z = (n : Int)) (w : World) :
    (Instr.index 9 (.string ⟨#[48, 49, 50, 51, 52, 53, 54, 55, 56, 57, 97, 98, 99, 100, 101, 102]⟩) (.int .u8 z)).run Tryd.prog w = .ok (.int .u8 ((hxD n).toNat : Int)) w := by
  subst hz
  rw [run_index_string w 9 _ .u8 _ Tryd.underlying9]
  have h : (0 : Int) ≤ (n : Int) ∧ (n : Int) < ((⟨#[48, 49, 50, 51, 52, 53, 54, 55, 56, 57, 97, 98, 99, 100, 101, 102]⟩ : ByteArray).size : Int) := ⟨by omega, by show (n : Int) < 16; omega⟩
  rw [dif_pos h]
  have := hxD_fin ⟨n, hn⟩
  rw [← this]
  rfl
theorem infoByte : (Tryd.prog.info? 5).map (fun i => (i.zero, i.size, i.bytes)) = some (some (.int .u8 0), 1, 1) := by kernel_rfl

theorem acc_stepB {B : Nat} {w2 : World} {s : ByteArray} {k : Nat} (hlt : k < s.size) {v2 : Value} {news : List UInt8} (he : escL s[k] = news)
    (hown2 : w2.ownsRow B 5 1 v2 ((accL (s.data.toList.take k)).length + news.length) (Lib.byteCells (accL (s.data.toList.take k)) ++ Lib.byteCells news)) :
    w2.ownsRow B 5 1 v2 (accL (s.data.toList.take (k + 1))).length (Lib.byteCells (accL (s.data.toList.take (k + 1)))) := by
  rw [take_snoc s k hlt, accL_snoc, he, byteCells_append, List.length_append]; exact hown2
theorem acc_room {s : ByteArray} {k : Nat} (hlt : k ≤ s.size) (hs : 4 * s.size + 2 ≤ 140737488355328) : (accL (s.data.toList.take k)).length ≤ 4 * k + 1 ∧ 4 * k + 2 ≤ 140737488355328 := by
  have h := accL_len (s.data.toList.take k)
  have : (s.data.toList.take k).length ≤ k := List.length_take_le _ _
  omega

set_option maxRecDepth 100000 in
set_option maxHeartbeats 1600000 in
theorem vQuote_any (s : ByteArray) (w : World) (hs : 4 * s.size + 2 ≤ 140737488355328) :
    Calls Tryd.prog 19 #[.string s] w fun e w' => e = .returned (.string ⟨(quoL s.data.toList).toArray⟩) ∧ Below w.heap.size w w' := by
  obtain ⟨i0, hi, hz0, hz1, hz2⟩ := info_parts infoByte
  go_enter Tryd.func19, Tryd.ntmps19
  go_wp2_with fail
  go_loopw [3, 9] (fun v i wr => ∃ k : Nat, k ≤ s.size ∧ i = .int .i64 k ∧ wr.ownsRow w.heap.size 5 1 v (accL (s.data.toList.take k)).length (Lib.byteCells (accL (s.data.toList.take k))) ∧ Below w.heap.size w wr) (fun _ i _ => s.size - (intOf i).toNat)
  case atStart => exact ⟨0, Nat.zero_le _, rfl, by simpa [accL] using own_start w 34, (Below.refl _ _).alloc (Nat.le_refl _) _⟩
  case round =>
    obtain ⟨k, hk, rfl, hown, hb⟩ := hrel
    have HO := hide hown; have HB := hide hb; have HR := hide (acc_room hk hs); clear hown hb
    obtain ⟨L, hL⟩ : ∃ L, L = (accL (s.data.toList.take k)).length := ⟨_, rfl⟩
    obtain ⟨X, hX⟩ : ∃ X, X = Lib.byteCells (accL (s.data.toList.take k)) := ⟨_, rfl⟩
    have HO := HO.out; rw [← hL, ← hX] at HO; have HO := hide HO
    have HR := HR.out; rw [← hL] at HR; have HR := hide HR
    have HL := hide hL; have HX := hide hX; clear hL hX
    by_cases hlt : k < s.size
    · rcases byte_ways s[k] with ⟨hc, he⟩ | ⟨hc, he⟩ | ⟨h1, h2, h3, he⟩ | ⟨h1, h2, h3, h4, he⟩ | ⟨h1, h2, h3, h4, he⟩
      · have HE := hide he; clear he
        go_wp2_with (at_builtin; refine wpList_append_own _ rfl (.tmp 26) (.tmp 28) 40 rfl w.heap.size 5 i0 (.int .u8 0) 1 1 Tryd.underlying40 hi hz0 hz1 hz2 rfl (by decide) _ L X rfl (HO.out.alloc _) ⟨wr.heap.size, 0, none⟩ 2 2 (Lib.byteCells [92, 34]) rfl rfl (World.news_of_block (heap_alloc_new _ _)) (byteCells_one _) (by have := HR.out; unfold maxLen; omega) (by have := HR.out; omega) (by have := HB.out.size; simp; omega) ?_; intro v2 w2 hown2 hgrow2 hnil2; clear hnil2; have HO2 := hide hown2; have HB2 := hide ((HB.out.alloc HB.out.size _).grown hgrow2 (by have := HB.out.size; simp; omega) (fun k h => (HO.out.lt k h).1)); clear hown2 hgrow2)
        go_roundw
        case rel => exact ⟨k + 1, by omega, by go_num, acc_stepB hlt HE.out (by rw [← HL.out, ← HX.out]; exact HO2.out), HB2.out⟩
        case measure => simp [intOf]; omega
      · have HE := hide he; clear he
        go_wp2_with (at_builtin; refine wpList_append_own _ rfl (.tmp 26) (.tmp 28) 40 rfl w.heap.size 5 i0 (.int .u8 0) 1 1 Tryd.underlying40 hi hz0 hz1 hz2 rfl (by decide) _ L X rfl (HO.out.alloc _) ⟨wr.heap.size, 0, none⟩ 2 2 (Lib.byteCells [92, 92]) rfl rfl (World.news_of_block (heap_alloc_new _ _)) (byteCells_one _) (by have := HR.out; unfold maxLen; omega) (by have := HR.out; omega) (by have := HB.out.size; simp; omega) ?_; intro v2 w2 hown2 hgrow2 hnil2; clear hnil2; have HO2 := hide hown2; have HB2 := hide ((HB.out.alloc HB.out.size _).grown hgrow2 (by have := HB.out.size; simp; omega) (fun k h => (HO.out.lt k h).1)); clear hown2 hgrow2)
        go_roundw
        case rel => exact ⟨k + 1, by omega, by go_num, acc_stepB hlt HE.out (by rw [← HL.out, ← HX.out]; exact HO2.out), HB2.out⟩
        case measure => simp [intOf]; omega
      · have HE := hide he; clear he
        go_wp2_with fail
        have x1 : ∀ w : World, (Instr.index 9 (.string ⟨#[48, 49, 50, 51, 52, 53, 54, 55, 56, 57, 97, 98, 99, 100, 101, 102]⟩) (.int .u8 ((s[k].toNat : Int) / 16))).run Tryd.prog w = .ok (.int .u8 ((hxD (s[k].toNat / 16)).toNat : Int)) w := hex_index _ (by have := s[k].toNat_lt; omega) _ (by omega)
        have x2 : ∀ w : World, (Instr.index 9 (.string ⟨#[48, 49, 50, 51, 52, 53, 54, 55, 56, 57, 97, 98, 99, 100, 101, 102]⟩) (.int .u8 ((s[k].toNat : Int) % 16))).run Tryd.prog w = .ok (.int .u8 ((hxD (s[k].toNat % 16)).toNat : Int)) w := hex_index _ (by have := s[k].toNat_lt; omega) _ (by omega)
        have xa : bits .and .u8 (s[k].toNat : Int) 15 = (s[k].toNat : Int) % 16 := u8_and15 _ (by omega) (by have := s[k].toNat_lt; omega)
        go_region_held3 (fun w' => True) (trivial) ((refine step_append_own (by rfl) (.tmp 37) (.tmp 44) 40 (by rfl) w.heap.size 5 i0 (.int .u8 0) 1 1 Tryd.underlying40 hi hz0 hz1 hz2 rfl (by decide) _ L X (by rfl) (HO.out.alloc _) ⟨wr.heap.size, 0, none⟩ 4 4 (Lib.byteCells [92, 120, hxD (s[k].toNat / 16), hxD (s[k].toNat % 16)]) (by rfl) rfl (World.news_of_block (heap_alloc_new _ _)) (byteCells_one _) (by have := HR.out; unfold maxLen; omega) (by have := HR.out; omega) (by have := HB.out.size; simp; omega) ?_; intro v2 w2 hown2 hgrow2; have HO2 := hide hown2; have HB2 := hide ((HB.out.drew.alloc HB.out.size _).grown hgrow2 (by have := HB.out.size; simp; omega) (fun k h => (HO.out.lt k h).1)); clear hown2 hgrow2))
        clear x1 x2 xa
        all_goals go_wp2
        all_goals go_roundw
        all_goals first | exact ⟨⟨k + 1, by omega, by go_num, acc_stepB hlt HE.out (by rw [← HL.out, ← HX.out]; exact HO2.out), HB2.out⟩, by simp [intOf]; omega⟩ | exact ⟨k + 1, by omega, by go_num, acc_stepB hlt HE.out (by rw [← HL.out, ← HX.out]; exact HO2.out), HB2.out⟩ | (simp [intOf]; omega)
      · have HE := hide he; clear he
        go_wp2_with fail
        have x1 : ∀ w : World, (Instr.index 9 (.string ⟨#[48, 49, 50, 51, 52, 53, 54, 55, 56, 57, 97, 98, 99, 100, 101, 102]⟩) (.int .u8 ((s[k].toNat : Int) / 16))).run Tryd.prog w = .ok (.int .u8 ((hxD (s[k].toNat / 16)).toNat : Int)) w := hex_index _ (by have := s[k].toNat_lt; omega) _ (by omega)
        have x2 : ∀ w : World, (Instr.index 9 (.string ⟨#[48, 49, 50, 51, 52, 53, 54, 55, 56, 57, 97, 98, 99, 100, 101, 102]⟩) (.int .u8 ((s[k].toNat : Int) % 16))).run Tryd.prog w = .ok (.int .u8 ((hxD (s[k].toNat % 16)).toNat : Int)) w := hex_index _ (by have := s[k].toNat_lt; omega) _ (by omega)
        have xa : bits .and .u8 (s[k].toNat : Int) 15 = (s[k].toNat : Int) % 16 := u8_and15 _ (by omega) (by have := s[k].toNat_lt; omega)
        go_region_held3 (fun w' => True) (trivial) ((refine step_append_own (by rfl) (.tmp 37) (.tmp 44) 40 (by rfl) w.heap.size 5 i0 (.int .u8 0) 1 1 Tryd.underlying40 hi hz0 hz1 hz2 rfl (by decide) _ L X (by rfl) (HO.out.alloc _) ⟨wr.heap.size, 0, none⟩ 4 4 (Lib.byteCells [92, 120, hxD (s[k].toNat / 16), hxD (s[k].toNat % 16)]) (by rfl) rfl (World.news_of_block (heap_alloc_new _ _)) (byteCells_one _) (by have := HR.out; unfold maxLen; omega) (by have := HR.out; omega) (by have := HB.out.size; simp; omega) ?_; intro v2 w2 hown2 hgrow2; have HO2 := hide hown2; have HB2 := hide ((HB.out.drew.alloc HB.out.size _).grown hgrow2 (by have := HB.out.size; simp; omega) (fun k h => (HO.out.lt k h).1)); clear hown2 hgrow2))
        clear x1 x2 xa
        all_goals go_wp2
        all_goals go_roundw
        all_goals first | exact ⟨⟨k + 1, by omega, by go_num, acc_stepB hlt HE.out (by rw [← HL.out, ← HX.out]; exact HO2.out), HB2.out⟩, by simp [intOf]; omega⟩ | exact ⟨k + 1, by omega, by go_num, acc_stepB hlt HE.out (by rw [← HL.out, ← HX.out]; exact HO2.out), HB2.out⟩ | (simp [intOf]; omega)
      · have HE := hide he; clear he
        go_wp2_with (at_builtin; refine wpList_append_own _ rfl (.tmp 15) (.tmp 17) 40 rfl w.heap.size 5 i0 (.int .u8 0) 1 1 Tryd.underlying40 hi hz0 hz1 hz2 rfl (by decide) _ L X rfl (HO.out.alloc _) ⟨wr.heap.size, 0, none⟩ 1 1 (Lib.byteCells [s[k]]) rfl rfl (World.news_of_block (heap_alloc_new _ _)) (byteCells_one _) (by have := HR.out; unfold maxLen; omega) (by have := HR.out; omega) (by have := HB.out.size; simp; omega) ?_; intro v2 w2 hown2 hgrow2 hnil2; clear hnil2; have HO2 := hide hown2; have HB2 := hide ((HB.out.alloc HB.out.size _).grown hgrow2 (by have := HB.out.size; simp; omega) (fun k h => (HO.out.lt k h).1)); clear hown2 hgrow2)
        go_roundw
        case rel => exact ⟨k + 1, by omega, by go_num, acc_stepB hlt HE.out (by rw [← HL.out, ← HX.out]; exact HO2.out), HB2.out⟩
        case measure => simp [intOf]; omega
    · have he : k = s.size := by omega
      have HE := hide he; clear he
      go_wp2_with (at_builtin; refine wpList_append_own _ rfl (.tmp 47) (.tmp 48) 40 rfl w.heap.size 5 i0 (.int .u8 0) 1 1 Tryd.underlying40 hi hz0 hz1 hz2 rfl (by decide) _ L X rfl (HO.out.alloc _) ⟨wr.heap.size, 0, none⟩ 1 1 (Lib.byteCells [34]) rfl rfl (World.news_of_block (heap_alloc_new _ _)) (byteCells_one _) (by have := HR.out; unfold maxLen; omega) (by have := HR.out; omega) (by have := HB.out.size; simp; omega) ?_; intro v2 w2 hown2 hgrow2 hnil2; clear hnil2; have HB2 := hide ((HB.out.alloc HB.out.size _).grown hgrow2 (by have := HB.out.size; simp; omega) (fun k h => (HO.out.lt k h).1)); rw [HX.out, ← byteCells_append] at hown2; have hcv := conv_cells hown2 (by rw [HL.out]; simp); clear hown2 hgrow2)
      go_ret
      refine ⟨?_, HB2.out⟩
      rw [HE.out, List.take_of_length_le (by simp)]
      rfl
end Go.Proofs.YthmdnlcinlmjkaaDoor
