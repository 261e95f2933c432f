/- Contract of the document's own quoted: the string of a text in quotes. -/
import Derived.Test.YthmdnlcinlmjkaaDoorRh
import Derived.Deep.QuietTactic
import Derived.BigQuiet
import Derived.Deep.RegionHeld3
namespace Go.Proofs.YthmdnlcinlmjkaaDoor
open Go Go.RowKit

/-- How a reading of quotes stands: what was taken, where it goes on. -/
def Quo (l acc : List UInt8) (k : Nat) : Prop := ∀ t' : List UInt8, l = 34 :: (t'.flatMap escL ++ [34]) → ∃ t2, t' = acc ++ t2 ∧ l.drop k = t2.flatMap escL ++ [34]
theorem Quo.start (l : List UInt8) : Quo l [] 1 := fun t' h => ⟨t', rfl, by rw [h]; rfl⟩
theorem Quo.step {l acc : List UInt8} {k m : Nat} {b : UInt8} (h : Quo l acc k) (hk : k + 1 < l.length) (hq : quoStep (l.drop k) = (b, m)) : Quo l (acc ++ [b]) (k + m) := by
  intro t' hl
  obtain ⟨t2, h1, h2⟩ := h t' hl
  cases t2 with
  | nil =>
    have := congrArg List.length h2
    simp at this; omega
  | cons c t3 =>
    rw [List.flatMap_cons, List.append_assoc] at h2
    rw [h2, quoStep_esc] at hq
    obtain ⟨rfl, rfl⟩ := Prod.mk.inj hq
    refine ⟨t3, by rw [h1]; simp, ?_⟩
    rw [← List.drop_drop, h2]; simp
theorem Quo.done {l acc : List UInt8} {k : Nat} (h : Quo l acc k) (hk : l.length ≤ k + 1) (t' : List UInt8) (hl : l = 34 :: (t'.flatMap escL ++ [34])) : acc = t' := by
  obtain ⟨t2, h1, h2⟩ := h t' hl
  have := congrArg List.length h2
  have h3 := (flat_len t2).1
  simp only [List.length_drop, List.length_append, List.length_cons, List.length_nil] at this
  have : t2 = [] := List.eq_nil_of_length_eq_zero (by omega)
  rw [h1, this, List.append_nil]
theorem quoStep_1 (s : ByteArray) (k : Nat) (h0 : k < s.size) (h : ¬ s[k].toNat = 92) : quoStep (s.data.toList.drop k) = (s[k], 1) := by
  rw [list_at s k h0]; simp only [quoStep, if_neg h]
theorem quoStep_2 (s : ByteArray) (k : Nat) (h0 : k < s.size) (h1 : k + 1 < s.size) (h2 : k + 2 < s.size) (h : s[k].toNat = 92) (hx : s[k + 1].toNat = 34 ∨ s[k + 1].toNat = 92) : quoStep (s.data.toList.drop k) = (s[k + 1], 2) := by
  rw [list_at s k h0, list_at s (k + 1) h1]; simp only [quoStep, if_pos h]
  rw [if_pos ⟨hx, by rw [list_at s (k + 1 + 1) h2]; simp⟩]
theorem quoStep_3 (s : ByteArray) (k : Nat) (h0 : k < s.size) (h1 : k + 1 < s.size) (h : s[k].toNat = 92) (hx : ¬ (s[k + 1].toNat = 34 ∨ s[k + 1].toNat = 92)) (hy : ¬ s[k + 1].toNat = 120) : quoStep (s.data.toList.drop k) = (s[k], 1) := by
  rw [list_at s k h0, list_at s (k + 1) h1]; simp only [quoStep, if_pos h]
  rw [if_neg (fun h => hx h.1), if_neg hy]
theorem quoStep_4 (s : ByteArray) (k : Nat) (h0 : k < s.size) (h1 : k + 1 < s.size) (h2 : k + 2 < s.size) (h3 : k + 3 < s.size) (h4 : k + 4 < s.size) (h : s[k].toNat = 92) (hy : s[k + 1].toNat = 120) :
    quoStep (s.data.toList.drop k) = (UInt8.ofNat (16 * hexR s[k + 2] + hexR s[k + 3]), 4) := by
  rw [list_at s k h0, list_at s (k + 1) h1, list_at s (k + 1 + 1) h2, list_at s (k + 1 + 1 + 1) h3, list_at s (k + 1 + 1 + 1 + 1) h4]; simp only [quoStep, if_pos h]
  rw [if_neg (by omega), if_pos hy]
theorem quoStep_5 (s : ByteArray) (k : Nat) (h0 : k < s.size) (h1 : k + 1 < s.size) (h4 : ¬ k + 4 < s.size) (h : s[k].toNat = 92) (hy : s[k + 1].toNat = 120) : quoStep (s.data.toList.drop k) = (s[k], 1) := by
  have hl : (s.data.toList.drop (k + 1 + 1)).length < 3 := by
    rw [List.length_drop, ← Lib.size_eq]; omega
  rw [list_at s k h0, list_at s (k + 1) h1]; simp only [quoStep, if_pos h]
  rw [if_neg (by omega), if_pos hy]
  split
  · rename_i e; rw [e] at hl; simp at hl; omega
  · rfl
theorem quoStep_6 (s : ByteArray) (k : Nat) (h0 : k < s.size) (h2 : ¬ k + 2 < s.size) (h : s[k].toNat = 92) : quoStep (s.data.toList.drop k) = (s[k], 1) := by
  have e2 : s.data.toList.drop (k + 1 + 1) = [] := list_end s _ (by omega)
  rw [list_at s k h0]; simp only [quoStep, if_pos h]
  by_cases h1 : k + 1 < s.size
  · rw [list_at s (k + 1) h1, e2]; simp only [ne_eq, not_true_eq_false, and_false, if_false]
    split <;> rfl
  · rw [list_end s (k + 1) (by omega)]

theorem below_drewN {B : Nat} {a w : World} (h : Below B a w) (n : Nat) : Below B a (w.drewN n) := ⟨h.os, h.tape, h.output, h.size, h.block⟩
theorem r3hex_quiet (c : UInt8) (w : World) (n : Nat) : Calls Tryd.prog 24 #[.int .u8 (c.toNat : Int)] (w.drewN n) fun e w' => e = .returned (.int .u8 (hexR c : Int)) ∧ ∃ m, w' = w.drewN m :=
  (r3hex_any c _).mono fun _ _ ⟨he, hw⟩ => ⟨he, n, hw.symm⟩
set_option maxHeartbeats 1600000 in
set_option maxRecDepth 100000 in
theorem r3quoted_any (s : ByteArray) (h2 : 2 ≤ s.size) (hmax : s.size ≤ 140737488355328) (w : World) :
    Calls Tryd.prog 13 #[.string s] w fun e w' => (∃ t : ByteArray, e = .returned (.string t) ∧ t.size ≤ s.size ∧ ∀ t' : List UInt8, s.data.toList = 34 :: (t'.flatMap escL ++ [34]) → t.data.toList = t') ∧ Below w.heap.size w w' := by
  obtain ⟨i0, hi, hz0, hz1, hz2⟩ := info_parts infoByte
  have hln : s.data.toList.length = s.size := (Lib.size_eq s).symm
  have HLN := Lib.hid hln
  have HQ0 := Lib.hid (Quo.start s.data.toList)
  clear hln
  go_enter Tryd.func13, Tryd.ntmps13
  go_wp2_with fail
  go_loopw [3, 4] (fun v i wr => ∃ (k : Nat) (acc : List UInt8), i = .int .i64 k ∧ wr.ownsRow w.heap.size 5 1 v acc.length (Lib.byteCells acc) ∧ Below w.heap.size w wr ∧ 1 ≤ k ∧ k + 1 ≤ s.size ∧ acc.length < k ∧ Hid (Quo s.data.toList acc k)) (fun _ i _ => s.size - (intOf i).toNat)
  case atStart => exact ⟨1, [], rfl, World.ownsRow_nil _ _ _ _, Below.refl _ _, by omega, by omega, by simp, HQ0⟩
  case round =>
    obtain ⟨k, acc, rfl, hown, hb, hk1, hk2, hac, hq⟩ := hrel
    have HO := hide hown; have HB := hide hb
    clear hown hb HQ0
    by_cases hlt : k + 1 < s.size
    · have h0 : k < s.size := by omega
      have hklen : k + 1 < s.data.toList.length := by rw [HLN.out]; exact hlt
      have HKL := Lib.hid hklen
      clear hklen
      by_cases hc : s[k].toNat = 92
      · have bc : ((s[k].toNat : Int) == 92) = true := by simp; omega
        by_cases h2 : k + 2 < s.size
        · by_cases x34 : (s[k + 1]'hlt).toNat = 34
          · have hst := quoStep_2 s k h0 hlt h2 hc (.inl x34)
            have bx : (((s[k + 1]'hlt).toNat : Int) == 34) = true := by simp; omega
            have HST := Lib.hid hst
            clear hst x34
            have HQ := Lib.hid (show Quo s.data.toList (acc ++ [(s[k + 1]'hlt)]) (k + 2) from hq.out.step HKL.out (HST.out))
            clear hc hq
            go_wp2_with (at_builtin; refine wpList_append_own _ rfl (.tmp 76) (.tmp 78) 40 rfl w.heap.size 5 i0 (.int .u8 0) 1 1 Tryd.underlying40 hi hz0 hz1 hz2 rfl (by decide) _ acc.length (Lib.byteCells acc) rfl (HO.out.alloc _) ⟨wr.heap.size, 0, none⟩ 1 1 (Lib.byteCells [(s[k + 1]'hlt)]) rfl rfl (World.news_of_block (heap_alloc_new _ _)) (byteCells_one _) (by unfold maxLen; omega) (by omega) (by have := HB.out.size; simp; omega) ?_; intro v2 w2 hown2 hgrow2 hnil2; clear hnil2; have HO2 := hide hown2; have HB2 := hide ((HB.out.alloc HB.out.size _).grown hgrow2 (by have := HB.out.size; simp; omega) (fun k h => (HO.out.lt k h).1)); clear hown2 hgrow2)
            go_roundw
            case rel => exact ⟨k + 2, acc ++ [(s[k + 1]'hlt)], by go_num, by rw [byteCells_append, List.length_append]; exact HO2.out, HB2.out, by omega, by omega, by simp; omega, HQ⟩
            case measure => simp [intOf]; omega
          · have b34 : (((s[k + 1]'hlt).toNat : Int) == 34) = false := by simp; omega
            by_cases x92 : (s[k + 1]'hlt).toNat = 92
            · have hst := quoStep_2 s k h0 hlt h2 hc (.inr x92)
              have bx : (((s[k + 1]'hlt).toNat : Int) == 92) = true := by simp; omega
              have HST := Lib.hid hst
              clear hst x34 x92
              have HQ := Lib.hid (show Quo s.data.toList (acc ++ [(s[k + 1]'hlt)]) (k + 2) from hq.out.step HKL.out (HST.out))
              clear hc hq
              go_wp2_with (at_builtin; refine wpList_append_own _ rfl (.tmp 76) (.tmp 78) 40 rfl w.heap.size 5 i0 (.int .u8 0) 1 1 Tryd.underlying40 hi hz0 hz1 hz2 rfl (by decide) _ acc.length (Lib.byteCells acc) rfl (HO.out.alloc _) ⟨wr.heap.size, 0, none⟩ 1 1 (Lib.byteCells [(s[k + 1]'hlt)]) rfl rfl (World.news_of_block (heap_alloc_new _ _)) (byteCells_one _) (by unfold maxLen; omega) (by omega) (by have := HB.out.size; simp; omega) ?_; intro v2 w2 hown2 hgrow2 hnil2; clear hnil2; have HO2 := hide hown2; have HB2 := hide ((HB.out.alloc HB.out.size _).grown hgrow2 (by have := HB.out.size; simp; omega) (fun k h => (HO.out.lt k h).1)); clear hown2 hgrow2)
              go_roundw
              case rel => exact ⟨k + 2, acc ++ [(s[k + 1]'hlt)], by go_num, by rw [byteCells_append, List.length_append]; exact HO2.out, HB2.out, by omega, by omega, by simp; omega, HQ⟩
              case measure => simp [intOf]; omega
            · have b92 : (((s[k + 1]'hlt).toNat : Int) == 92) = false := by simp; omega
              by_cases x120 : (s[k + 1]'hlt).toNat = 120
              · have bx : (((s[k + 1]'hlt).toNat : Int) == 120) = true := by simp; omega
                by_cases h4 : k + 4 < s.size
                · have hk2 : k + 2 < s.size := h2
                  have hk3 : k + 3 < s.size := by omega
                  have hst := quoStep_4 s k h0 hlt h2 hk3 h4 hc x120
                  have HST := Lib.hid hst
                  have hx1 := hexR_le (s[k + 2]'hk2); have hx2 := hexR_le (s[k + 3]'hk3)
                  have CH := fun c w => r3hex_any c w
                  have HQ := Lib.hid (show Quo s.data.toList (acc ++ [UInt8.ofNat (16 * hexR (s[k + 2]'hk2) + hexR (s[k + 3]'hk3))]) (k + 4) from hq.out.step HKL.out HST.out)
                  have hbv : Lib.byteCells [UInt8.ofNat (16 * hexR (s[k + 2]'hk2) + hexR (s[k + 3]'hk3))] = [.int .u8 ((16 * (hexR (s[k + 2]'hk2) : Int) + (hexR (s[k + 3]'hk3) : Int)) % 256)] := by
                    simp only [Lib.byteCells, List.map_cons, List.map_nil, List.cons.injEq, Value.int.injEq, true_and, and_true]
                    simp
                  have HBV := Lib.hid hbv
                  clear hst hc hq x34 x92 x120 hbv
                  have i20 : (0 : Int) ≤ (k : Int) + 2 := by omega
                  have i21 : (k : Int) + 2 < (s.size : Int) := by omega
                  have i30 : (0 : Int) ≤ (k : Int) + 3 := by omega
                  have i31 : (k : Int) + 3 < (s.size : Int) := by omega
                  go_wp2_with fail
                  go_quiet (exact r3hex_quiet _ _ _)
                  go_wp2_with (at_builtin; refine wpList_append_own _ rfl (.tmp 76) (.tmp 78) 40 rfl w.heap.size 5 i0 (.int .u8 0) 1 1 Tryd.underlying40 hi hz0 hz1 hz2 rfl (by decide) _ acc.length (Lib.byteCells acc) rfl ((ownsRow_drewN HO.out nq).alloc _) ⟨wr.heap.size, 0, none⟩ 1 1 [.int .u8 ((16 * (hexR (s[k + 2]'hk2) : Int) + (hexR (s[k + 3]'hk3) : Int)) % 256)] rfl rfl (World.news_of_block (heap_alloc_new _ _)) (by intro u hu; simp at hu; subst hu; rfl) (by unfold maxLen; omega) (by omega) (by have := HB.out.size; simp; omega) ?_; intro v2 w2 hown2 hgrow2 hnil2; clear hnil2; have HO2 := hide hown2; (have HB2 := hide (((below_drewN HB.out nq).alloc HB.out.size _).grown hgrow2 (Nat.le_trans HB.out.size (by show wr.heap.size ≤ (wr.heap.push _).size; simp)) (fun k h => (HO.out.lt k h).1))); clear hown2 hgrow2)
                  go_roundw
                  case rel => exact ⟨k + 4, acc ++ [UInt8.ofNat (16 * hexR (s[k + 2]'hk2) + hexR (s[k + 3]'hk3))], by go_num, by rw [byteCells_append, List.length_append, HBV.out]; exact HO2.out, HB2.out, by omega, by omega, by simp; omega, HQ⟩
                  case measure => simp [intOf]; omega
                · have hst := quoStep_5 s k h0 hlt h4 hc x120
                  have HST := Lib.hid hst
                  clear hst x34 x92 x120
                  have HQ := Lib.hid (show Quo s.data.toList (acc ++ [s[k]]) (k + 1) from hq.out.step HKL.out (HST.out))
                  clear hc hq
                  go_wp2_with (at_builtin; refine wpList_append_own _ rfl (.tmp 76) (.tmp 78) 40 rfl w.heap.size 5 i0 (.int .u8 0) 1 1 Tryd.underlying40 hi hz0 hz1 hz2 rfl (by decide) _ acc.length (Lib.byteCells acc) rfl (HO.out.alloc _) ⟨wr.heap.size, 0, none⟩ 1 1 (Lib.byteCells [s[k]]) rfl rfl (World.news_of_block (heap_alloc_new _ _)) (byteCells_one _) (by unfold maxLen; omega) (by omega) (by have := HB.out.size; simp; omega) ?_; intro v2 w2 hown2 hgrow2 hnil2; clear hnil2; have HO2 := hide hown2; have HB2 := hide ((HB.out.alloc HB.out.size _).grown hgrow2 (by have := HB.out.size; simp; omega) (fun k h => (HO.out.lt k h).1)); clear hown2 hgrow2)
                  go_roundw
                  case rel => exact ⟨k + 1, acc ++ [s[k]], by go_num, by rw [byteCells_append, List.length_append]; exact HO2.out, HB2.out, by omega, by omega, by simp; omega, HQ⟩
                  case measure => simp [intOf]; omega
              · have bx : (((s[k + 1]'hlt).toNat : Int) == 120) = false := by simp; omega
                have hst := quoStep_3 s k h0 hlt hc (fun h => h.elim x34 x92) x120
                have HST := Lib.hid hst
                clear hst x34 x92 x120
                by_cases h4 : k + 4 < s.size
                · have HQ := Lib.hid (show Quo s.data.toList (acc ++ [s[k]]) (k + 1) from hq.out.step HKL.out (HST.out))
                  clear hc hq
                  go_wp2_with (at_builtin; refine wpList_append_own _ rfl (.tmp 76) (.tmp 78) 40 rfl w.heap.size 5 i0 (.int .u8 0) 1 1 Tryd.underlying40 hi hz0 hz1 hz2 rfl (by decide) _ acc.length (Lib.byteCells acc) rfl (HO.out.alloc _) ⟨wr.heap.size, 0, none⟩ 1 1 (Lib.byteCells [s[k]]) rfl rfl (World.news_of_block (heap_alloc_new _ _)) (byteCells_one _) (by unfold maxLen; omega) (by omega) (by have := HB.out.size; simp; omega) ?_; intro v2 w2 hown2 hgrow2 hnil2; clear hnil2; have HO2 := hide hown2; have HB2 := hide ((HB.out.alloc HB.out.size _).grown hgrow2 (by have := HB.out.size; simp; omega) (fun k h => (HO.out.lt k h).1)); clear hown2 hgrow2)
                  go_roundw
                  case rel => exact ⟨k + 1, acc ++ [s[k]], by go_num, by rw [byteCells_append, List.length_append]; exact HO2.out, HB2.out, by omega, by omega, by simp; omega, HQ⟩
                  case measure => simp [intOf]; omega
                · have HQ := Lib.hid (show Quo s.data.toList (acc ++ [s[k]]) (k + 1) from hq.out.step HKL.out (HST.out))
                  clear hc hq
                  go_wp2_with (at_builtin; refine wpList_append_own _ rfl (.tmp 76) (.tmp 78) 40 rfl w.heap.size 5 i0 (.int .u8 0) 1 1 Tryd.underlying40 hi hz0 hz1 hz2 rfl (by decide) _ acc.length (Lib.byteCells acc) rfl (HO.out.alloc _) ⟨wr.heap.size, 0, none⟩ 1 1 (Lib.byteCells [s[k]]) rfl rfl (World.news_of_block (heap_alloc_new _ _)) (byteCells_one _) (by unfold maxLen; omega) (by omega) (by have := HB.out.size; simp; omega) ?_; intro v2 w2 hown2 hgrow2 hnil2; clear hnil2; have HO2 := hide hown2; have HB2 := hide ((HB.out.alloc HB.out.size _).grown hgrow2 (by have := HB.out.size; simp; omega) (fun k h => (HO.out.lt k h).1)); clear hown2 hgrow2)
                  go_roundw
                  case rel => exact ⟨k + 1, acc ++ [s[k]], by go_num, by rw [byteCells_append, List.length_append]; exact HO2.out, HB2.out, by omega, by omega, by simp; omega, HQ⟩
                  case measure => simp [intOf]; omega
        · have hst := quoStep_6 s k h0 h2 hc
          have HST := Lib.hid hst
          clear hst
          have HQ := Lib.hid (show Quo s.data.toList (acc ++ [s[k]]) (k + 1) from hq.out.step HKL.out (HST.out))
          clear hc hq
          go_wp2_with (at_builtin; refine wpList_append_own _ rfl (.tmp 76) (.tmp 78) 40 rfl w.heap.size 5 i0 (.int .u8 0) 1 1 Tryd.underlying40 hi hz0 hz1 hz2 rfl (by decide) _ acc.length (Lib.byteCells acc) rfl (HO.out.alloc _) ⟨wr.heap.size, 0, none⟩ 1 1 (Lib.byteCells [s[k]]) rfl rfl (World.news_of_block (heap_alloc_new _ _)) (byteCells_one _) (by unfold maxLen; omega) (by omega) (by have := HB.out.size; simp; omega) ?_; intro v2 w2 hown2 hgrow2 hnil2; clear hnil2; have HO2 := hide hown2; have HB2 := hide ((HB.out.alloc HB.out.size _).grown hgrow2 (by have := HB.out.size; simp; omega) (fun k h => (HO.out.lt k h).1)); clear hown2 hgrow2)
          go_roundw
          case rel => exact ⟨k + 1, acc ++ [s[k]], by go_num, by rw [byteCells_append, List.length_append]; exact HO2.out, HB2.out, by omega, by omega, by simp; omega, HQ⟩
          case measure => simp [intOf]; omega
      · have HQ := Lib.hid (hq.out.step HKL.out (quoStep_1 s k h0 hc))
        have bc : ((s[k].toNat : Int) == 92) = false := by simp; omega
        clear hc hq
        go_wp2_with (first | (go_at_call 24; (with_reducible refine (r3hex_any _ _).mono ?_); rintro e w1 ⟨rfl, rfl⟩) | (at_builtin; refine wpList_append_own _ rfl (.tmp 76) (.tmp 78) 40 rfl w.heap.size 5 i0 (.int .u8 0) 1 1 Tryd.underlying40 hi hz0 hz1 hz2 rfl (by decide) _ acc.length (Lib.byteCells acc) rfl (HO.out.alloc _) ⟨wr.heap.size, 0, none⟩ 1 1 (Lib.byteCells [s[k]]) rfl rfl (World.news_of_block (heap_alloc_new _ _)) (byteCells_one _) (by unfold maxLen; omega) (by omega) (by have := HB.out.size; simp; omega) ?_; intro v2 w2 hown2 hgrow2 hnil2; clear hnil2; have HO2 := hide hown2; have HB2 := hide ((HB.out.alloc HB.out.size _).grown hgrow2 (by have := HB.out.size; simp; omega) (fun k h => (HO.out.lt k h).1)); clear hown2 hgrow2))
        go_roundw
        case rel => exact ⟨k + 1, acc ++ [s[k]], by go_num, by rw [byteCells_append, List.length_append]; exact HO2.out, HB2.out, by omega, by omega, by simp; omega, HQ⟩
        case measure => simp [intOf]; omega
    · have he : s.size = k + 1 := by omega
      have HD : Hid (∀ t' : List UInt8, s.data.toList = 34 :: (t'.flatMap escL ++ [34]) → acc = t') := Lib.hid (fun t' h => hq.out.done (by rw [HLN.out]; omega) t' h)
      have hcv := conv_cells HO.out rfl
      clear hq
      go_wp2
      go_ret
      refine ⟨⟨⟨acc.toArray⟩, rfl, ?_, fun t' h => HD.out t' h⟩, HB.out⟩
      show acc.toArray.size ≤ _
      simp only [List.size_toArray]; omega
end Go.Proofs.YthmdnlcinlmjkaaDoor
