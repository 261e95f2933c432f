/- The walk of LexPlaces. -/
import Derived.Test.YtdmdakkibgjffaaDoorLl
import Derived.Deep.RegionHeld3
namespace Go.Proofs.YtdmdakkibgjffaaDoor
open Go Go.RowKit

theorem wr_one {k N : Nat} (h : k + 1 ≤ N) (hN : N ≤ 140737488355328) : wrap64 ((k : Int) + 1) = ((k + 1 : Nat) : Int) := by unfold wrap64; omega
theorem pre_ext (s : ByteArray) (p : Nat) (t : Tok) (h : Wd p (s.data.toList.drop p) (some t)) : Lib.hasPrefix (s.extract p s.size).data.toList t.text.data.toList = true := by
  rw [ext_list, h.of.2.1, baL_list]
  unfold Lib.hasPrefix wtx
  rw [List.isPrefixOf_iff_prefix]
  exact List.take_prefix _ _
theorem row_six {w : World} {base : Nat} {e : TypeId} {g n cap : Nat} {pre rest : List Tok} {t : Tok} (h : w.ownsRow base e 6 (.slice (some ⟨g, 0, none⟩) n cap) n ((pre ++ t :: rest).flatMap encT)) :
    w.cell? ⟨g, pre.length * 6, none⟩ = some (.int .i64 t.kind) ∧ w.cell? ⟨g, pre.length * 6 + 1, none⟩ = some (.string t.text) ∧ w.cell? ⟨g, pre.length * 6 + 2, none⟩ = some (.int .i64 t.vk) ∧ w.cell? ⟨g, pre.length * 6 + 3, none⟩ = some (.int .i64 t.vn) ∧ w.cell? ⟨g, pre.length * 6 + 4, none⟩ = some (.string t.vs) ∧ w.cell? ⟨g, pre.length * 6 + 5, none⟩ = some (.int .i64 t.pl) := by
  have hx : ∀ (j : Nat) (u : Value), (encT t)[j]? = some u → ((pre ++ t :: rest).flatMap encT)[pre.length * 6 + j]? = some u := fun j u hu => by
    have hj : j < 6 := by have := (List.getElem?_eq_some_iff.1 hu).1; rwa [encT_len] at this
    rw [List.flatMap_append, List.flatMap_cons, List.getElem?_append_right (by rw [flatT_len]; omega), flatT_len, List.getElem?_append_left (by rw [encT_len]; omega), show pre.length * 6 + j - pre.length * 6 = j by omega]
    exact hu
  exact ⟨row_cell h _ _ (hx 0 _ rfl), row_cell h _ _ (hx 1 _ rfl), row_cell h _ _ (hx 2 _ rfl), row_cell h _ _ (hx 3 _ rfl), row_cell h _ _ (hx 4 _ rfl), row_cell h _ _ (hx 5 _ rfl)⟩

theorem row_later {w w' : World} {base : Nat} {e : TypeId} {size n : Nat} {v : Value} {xs : List Value} (h : w.ownsRow base e size v n xs) (hb : Below w.heap.size w w') : w'.ownsRow base e size v n xs :=
  h.kept (row := none) ⟨hb.os, hb.tape, hb.output, hb.size, fun k hk _ => hb.block k hk⟩ (by cases hv : v.ownBlock with | none => exact .inl rfl | some k => exact .inr (fun e => by cases e))

set_option maxRecDepth 100000 in
set_option maxHeartbeats 4000000 in
theorem places_walk (s : ByteArray) (hs : s.size ≤ 140737488355328) (w : World) (hE : ErrV w) :
    Calls Tryd.prog 6 #[.string s] w fun e w' => e = .returned (.bool true) ∧ Below w.heap.size w w' := by
  obtain ⟨ts, en, hw⟩ := Wds.all s.data.toList
  have hsl : s.data.toList.length = s.size := (Lib.size_eq s).symm
  have hen : en ≤ s.size := by rw [← hsl]; exact hw.le.2
  have hlen : ts.length ≤ s.size := by rw [← hsl]; exact Nat.le_trans (Nat.le_add_right _ _) hw.len
  have HBAD : ∀ (pl err : Int), (err == 0) = false → Calls Tryd.prog 7 #[.string s] w (fun e w' => e = .returned (.tuple #[.slice none 0 0, .int .i64 pl, .int .i64 err]) ∧ Below w.heap.size w w') → Calls Tryd.prog 6 #[.string s] w fun e w' => e = .returned (.bool true) ∧ Below w.heap.size w w' := fun pl err herr HS => by
    have HS := Lib.hid HS
    have hne : err ≠ 0 := by simpa using herr
    clear hsl
    go_enter Tryd.func6, Tryd.ntmps6
    go_wp2_with (first
      | (go_at_call 7; refine HS.out.mono ?_; rintro e w1 ⟨rfl, hb1⟩)
      | (go_at_call 9; with_reducible refine (live5_any _ (hE.keep hb1)).mono ?_; rintro e w2 ⟨rfl, hb2⟩))
    go_ret
    exact ⟨rfl, hb1.trans (hb2.mono hb1.size)⟩
  by_cases hlong : 4096 < s.size
  · exact HBAD 0 3 rfl ((lScan_any s hs ts en hw w hE).mono fun e w' h => ⟨h.1 hlong, h.2.2.2⟩)
  by_cases hfull : en < s.size
  · exact HBAD en 50 rfl ((lScan_any s hs ts en hw w hE).mono fun e w' h => ⟨h.2.1 (by omega) hfull, h.2.2.2⟩)
  clear HBAD
  obtain rfl : en = s.size := by omega
  have HS := Lib.hid ((lScan_any s hs ts _ hw w hE).mono (R' := fun e w' => ∃ ao cap, e = .returned (.tuple #[.slice ao ts.length cap, .int .i64 0, .int .i64 0]) ∧ w'.ownsRow w.heap.size 42 6 (.slice ao ts.length cap) ts.length (ts.flatMap encT) ∧ Below w.heap.size w w') (fun e w' h => by
    obtain ⟨v, he, hrow⟩ := h.2.2.1 (by omega) rfl
    rcases hrow.2 with ⟨rfl, h0⟩ | ⟨g, cap, cur, rfl, _⟩
    · have h1 : ts = [] := List.length_eq_zero_iff.1 h0
      subst h1
      exact ⟨none, 0, he, hrow, h.2.2.2⟩
    · exact ⟨_, _, he, hrow, h.2.2.2⟩))
  have hz := fun w => lBlank_any s hs 0 (by unfold inW; omega) w
  have hz0 : blkI s.data.toList 0 = ((nx s.data.toList 0 : Nat) : Int) := blk_nx (k := 0) (Nat.zero_le _)
  rw [hz0] at hz
  have hp0 : nx s.data.toList 0 ≤ s.size := by rw [← hsl]; exact nx_le (Nat.zero_le _)
  generalize nx s.data.toList 0 = p0 at hw hz hp0
  clear hz0 hlong hfull hen
  have HW := Lib.hid hw
  have HE := Lib.hid hE
  have HSL := Lib.hid hsl
  clear hw hE hsl
  go_enter Tryd.func6, Tryd.ntmps6
  go_wp2_with (first
      | (go_at_call 7; refine HS.out.mono ?_; rintro e w1 ⟨ao, cap, rfl, hrow, hb1⟩; have HR1 := Lib.hid hrow; have HB1 := Lib.hid hb1; clear hrow hb1)
      | (go_at_call 9; with_reducible refine (live5_any _ (HE.out.keep HB1.out)).mono ?_; rintro e w2 ⟨rfl, hb2⟩; have HB2 := Lib.hid (HB1.out.trans (hb2.mono HB1.out.size)); have HR2 := Lib.hid (row_later HR1.out hb2); clear hb2)
      | (go_at_call 14; with_reducible refine (hz _).mono ?_; rintro e w3 ⟨rfl, rfl⟩))
  go_loopw [6, 26] (fun av iv wr => ∃ (pre rest : List Tok) (p : Nat), iv = .int .i64 (pre.length : Nat) ∧ av = .int .i64 p ∧ p ≤ s.size ∧ Hid (ts = pre ++ rest) ∧ Hid (Wds s.data.toList p rest s.size) ∧ Hid (Below w.heap.size w wr) ∧ Hid (wr.ownsRow w.heap.size 42 6 (.slice ao ts.length cap) ts.length (ts.flatMap encT))) (fun _ iv _ => ts.length - (intOf iv).toNat)
  case atStart => exact ⟨[], ts, p0, rfl, rfl, hp0, Lib.hid rfl, HW, HB2, HR2⟩
  case round =>
    obtain ⟨pre, rest, p, rfl, rfl, hps, HTS, HWD, HB, HR⟩ := hrel
    rcases HWD.out.inv with ⟨hp, hr0, he0⟩ | ⟨hp, hr0, he, _⟩ | ⟨t, r, hr0, hp, hwt, hr⟩
    · clear he0
      subst hr0
      have hpe : p = s.size := by rw [hp]; exact HSL.out
      have hnl : ts.length = pre.length := by rw [HTS.out, List.append_nil]
      have hlt : ¬ (pre.length : Int) < (ts.length : Int) := by omega
      have hbe : ((p : Int) == (s.size : Int)) = true := by rw [hpe]; simp
      clear hp hnl hpe hps
      clear hz HWD HR HTS HR1 HR2 HB1 HB2 HS HE HW HSL hp0 hlen
      go_wp2
      go_ret
      exact ⟨rfl, HB.out⟩
    · exact absurd hp (by rw [HSL.out]; omega)
    · subst hr0
      have hln := pre_len HTS.out
      have hlt : (pre.length : Int) < (ts.length : Int) := by omega
      have hrow := HR.out
      rw [HTS.out] at hrow
      have hg : ∃ g, ao = some ⟨g, 0, none⟩ := by
        rcases hrow.2 with ⟨_, h0⟩ | ⟨g, cp, cur, h1, _⟩
        · simp at h0
        · cases h1; exact ⟨g, rfl⟩
      obtain ⟨g, rfl⟩ := hg
      obtain ⟨c0, c1, c2, c3, c4, c5⟩ := row_six (n := (pre ++ t :: r).length) (by simpa using hrow)
      have hfit := Wd.fits hp hwt
      have hpx := pre_ext s p t hwt
      have hat := hwt.of.1
      have hfs : p + t.text.size ≤ s.size := by rw [← HSL.out]; exact hfit.2
      have hadd := wr_nat hfs hs
      have hbl := fun w => lBlank_any s hs ((p : Int) + (t.text.size : Int)) (inW_nat hfs hs) w
      rw [show (p : Int) + (t.text.size : Int) = ((p + t.text.size : Nat) : Int) by omega, blk_nx hfit.2] at hbl
      rw [show ((p + t.text.size : Nat) : Int) = (p : Int) + (t.text.size : Int) by omega] at hbl
      have hnx := nx_le (L := s.data.toList) (b := p + t.text.size) hfit.2
      rw [HSL.out] at hnx
      have htx : (t.text.toList == []) = false := by
        rw [Lib.toList_data]
        cases h : t.text.data.toList with
        | nil => exact absurd hfit.1 (by rw [Lib.size_eq, h]; decide)
        | cons _ _ => rfl
      have HPX := Lib.hid hpx
      have HNX := Lib.hid (show Wds s.data.toList (nx s.data.toList (p + t.text.size)) r s.size from hr)
      have HAT := Lib.hid hat
      generalize nx s.data.toList (p + t.text.size) = p' at hbl hnx HNX
      have hls := wr_one (Nat.le_trans hln hlen) hs
      clear hrow hwt hr hpx hat hfit hp
      go_wp2_with fail
      have hb6 := heap_alloc_new wr (.cells #[.int .i64 t.kind, .string t.text, .int .i64 t.vk, .int .i64 t.vn, .string t.vs, .int .i64 t.pl] 42)
      obtain ⟨_, d1, _, _, _, d5⟩ := cell_of_six hb6
      have d5 := d5.trans (congrArg (fun z => some (Value.int .i64 z)) HAT.out)
      go_region_held3 (fun w' => w'.cell? ⟨wr.heap.size, 1, none⟩ = some (.string t.text) ∧ w'.cell? ⟨wr.heap.size, 5, none⟩ = some (.int .i64 (p : Int))) (first | exact ⟨d1, d5⟩ | go_keep)
        (first | (go_at_call 20; (with_reducible refine (Tryd.strings_HasPrefix _ _ _).mono ?_); rintro e w3 ⟨rfl, rfl⟩; rw [HPX.out]))
      have HB6 := Lib.hid (HB.out.alloc HB.out.size (.cells #[.int .i64 t.kind, .string t.text, .int .i64 t.vk, .int .i64 t.vn, .string t.vs, .int .i64 t.pl] 42))
      have HR6 := Lib.hid (HR.out.alloc (.cells #[.int .i64 t.kind, .string t.text, .int .i64 t.vk, .int .i64 t.vn, .string t.vs, .int .i64 t.pl] 42))
      all_goals go_wp2_with (go_at_call 14; with_reducible refine (hbl _).mono ?_; rintro e w4 ⟨rfl, rfl⟩)
      go_roundw
      case rel => exact ⟨pre ++ [t], r, p', by simp, rfl, hnx, by rw [HTS.out]; exact Lib.hid (by simp), HNX, Lib.hid HB6.out.drew, HR6⟩
      case measure => simp [intOf]; omega
end Go.Proofs.YtdmdakkibgjffaaDoor
