/- Contract: which partial matches may be: the program's. -/
import Derived.Test.YtiinljljbjjaeaaGreatDoorMq0
namespace Go.Proofs.YtiinljljbjjaeaaGreatDoor
open Go Go.RowKit

theorem ckP_long {l : List Bd} (h : 12 < l.length) : ckP l = 100 := if_pos h
theorem ckP_go {l : List Bd} (h : ¬ 12 < l.length) : ckP l = ckFr l 0 := if_neg h
theorem ckFr_at {l : List Bd} {k : Nat} (h : k < l.length) (h1 : stB l k = true) (h2 : ckE l[k]!.ev = 0) : ckFr l k = ckFr l (k + 1) := ckFr_go h (by rw [ckAt_ev h1, h2])
theorem ckFr_er {l : List Bd} {k : Nat} (h : k < l.length) (h1 : stB l k = true) (h2 : ckE l[k]!.ev ≠ 0) : ckFr l k = ckE l[k]!.ev := by rw [ckFr_bad h (by rw [ckAt_ev h1]; exact h2), ckAt_ev h1]
set_option maxRecDepth 100000 in
set_option maxHeartbeats 6400000 in
theorem mCheck_any (B : Nat) (ao : Option Addr) (n cap : Nat) (bs : List Bd) (w : World) (h : BsV w B (.slice ao n cap) bs) (hB : B ≤ w.heap.size) :
    Calls Tryz.prog 38 #[.agg #[.slice ao n cap]] w fun e w' => e = .returned (.int .i64 (ckP bs)) ∧ Below w.heap.size w w' := by
  obtain ⟨hn, hn63, hnc, hc63, _, hn80⟩ := h.num
  have HN := Lib.hid hn
  obtain ⟨P, hP⟩ : ∃ P, P = w.heap.size := ⟨_, rfl⟩
  obtain ⟨W, hW⟩ : ∃ W, W = w.alloc (.cells #[.slice ao n cap] 38) := ⟨_, rfl⟩
  have HB0 : Hid (Below P w W) := by rw [hW, hP]; exact (Below.refl _ _).alloc (Nat.le_refl _) _
  have hPW : W.heap[P]? = some (.cells #[.slice ao n cap] 38 (0, 0)) := by rw [hW, hP]; exact heap_alloc_new w _
  have HW := Lib.hid hW; have HP := Lib.hid hP
  have hPlt := lt_of_block hPW
  have HPX := Lib.hid (fun u (hu : Below W.heap.size W u) => cells_one0 ((hu.block P hPlt).trans hPW))
  have HH := Lib.hid (h.below HB0.out (by omega))
  have HBB : Hid (B ≤ W.heap.size) := Lib.hid (by have := HB0.out.size; omega)
  have HPS : Hid (P ≤ W.heap.size) := Lib.hid (by have := HB0.out.size; omega)
  have HBR : Hid (Below W.heap.size W W) := Lib.hid (Below.refl _ _)
  obtain c0 := HPX.out _ HBR.out
  rw [← hP]
  clear h hn hB hP hW hPW
  by_cases h12 : 12 < n
  · rw [ckP_long (by rw [← HN.out]; exact h12)]
    have h1 : (12 : Int) < (n : Int) := by omega
    go_enter Tryz.func38, Tryz.ntmps38
    go_wp2
    go_ret
    exact ⟨rfl, by rw [← HW.out]; exact HB0.out⟩
  · rw [ckP_go (by rw [← HN.out]; exact h12)]
    go_enter Tryz.func38, Tryz.ntmps38
    go_wp2_with fail
    rw [← HW.out, ← HP.out]
    go_loopw [13] (fun iv wr => ∃ k : Nat, k ≤ n ∧ iv = .int .i64 k ∧ Hid (ckFr bs 0 = ckFr bs k) ∧ Hid (Below W.heap.size W wr)) (fun iv _ => n - (intOf iv).toNat)
    case atStart => exact ⟨0, Nat.zero_le _, rfl, Lib.hid rfl, HBR⟩
    case round =>
      obtain ⟨k, hk, rfl, HK, HB⟩ := hrel
      clear c0
      by_cases hlt : k < n
      · have hav0 := HH.out.at hlt
        obtain ⟨b, o, aa, ac, hao, hbB, hkl, hvs, hts, hnil, hav, hc⟩ := hav0
        have hX0 := fun (Y : Obj) => HB.out.alloc HB.out.size Y
        have C1 := fun (Y : Obj) => mMayStand_any k B ao n cap bs (wr.alloc Y) (HH.out.below (hX0 Y) HBB.out) (Nat.le_trans HBB.out (hX0 Y).size) hlt
        have HER := Lib.hid (ckFr_er (l := bs) hkl); have HAT := Lib.hid (ckFr_at (l := bs) hkl); have HST := Lib.hid (ckFr_st (l := bs) hkl)
        subst hao
        obtain ⟨a0, a1, a2, a3, a4, a5⟩ := six_cells (hc wr (HB.out.mono HBB.out))
        obtain ⟨x, hx⟩ : ∃ x, x = bs[k]! := ⟨_, rfl⟩
        rw [← hx] at a0 a1 a2 a3 a4 a5 hav hts HER HAT
        have hbw : b ≠ wr.heap.size := by have := HB.out.size; have := HBB.out; omega
        have x0 := HPX.out _ (hX0 (.cells #[.string x.var, .int .i64 x.ev.src, .int .i64 x.ev.seq, .int .i64 x.ev.time, .string x.ev.ty, .slice aa x.ev.ats.length ac] 54))
        have HC1 := Lib.hid (C1 (.cells #[.string x.var, .int .i64 x.ev.src, .int .i64 x.ev.seq, .int .i64 x.ev.time, .string x.ev.ty, .slice aa x.ev.ats.length ac] 54))
        have HX := Lib.hid (hX0 (.cells #[.string x.var, .int .i64 x.ev.src, .int .i64 x.ev.seq, .int .i64 x.ev.time, .string x.ev.ty, .slice aa x.ev.ats.length ac] 54))
        have HXB : Hid ((wr.alloc (.cells #[.string x.var, .int .i64 x.ev.src, .int .i64 x.ev.seq, .int .i64 x.ev.time, .string x.ev.ty, .slice aa x.ev.ats.length ac] 54)).heap[wr.heap.size]? = some (.cells #[.string x.var, .int .i64 x.ev.src, .int .i64 x.ev.seq, .int .i64 x.ev.time, .string x.ev.ty, .slice aa x.ev.ats.length ac] 54 (0, 0))) := Lib.hid (heap_alloc_new wr _)
        have HXS : Hid (wr.heap.size < (wr.alloc (.cells #[.string x.var, .int .i64 x.ev.src, .int .i64 x.ev.seq, .int .i64 x.ev.time, .string x.ev.ty, .slice aa x.ev.ats.length ac] 54)).heap.size) := Lib.hid (by simp)
        have HC2 := Lib.hid (fun u (hu : Below W.heap.size W u) => eCheck_any x.ev B aa _ ac u (hav.below hu HBB.out) (Nat.le_trans HBB.out hu.size) hts)
        unfold evV at HC2
        have e1 : IntKind.i64.wrap ((k : Int) + 1) = (k : Int) + 1 := IntWalk.i64_in _ (by omega)
        clear hc hx hkl hav hX0 C1 hts hvs hnil
        cases hst : stB bs k with
        | false =>
          rw [hst] at HC1
          have HR := Lib.hid (HST.out hst)
          clear hst
          go_wp2_with (go_at_call 65; (with_reducible refine (HC1.out).mono ?_); rintro e w1 ⟨rfl, hb⟩; have HB1 := Lib.hid hb; clear hb)
          go_ret
          exact ⟨ret_int0 (HK.out.trans HR.out).symm, HB0.out.trans ((HX.out.trans (HB1.out.mono HX.out.size)).mono HPS.out)⟩
        | true =>
          rw [hst] at HC1
          generalize ckE x.ev = ce at HC2 HER HAT
          by_cases hz : ce = 0
          · subst hz
            have HR := Lib.hid (HAT.out hst rfl)
            clear hst
            go_wp2_with (first
              | (go_at_call 65; (with_reducible refine (HC1.out).mono ?_); rintro e w1 ⟨rfl, hb⟩; obtain ⟨f0, f1, f2, f3, f4, f5⟩ := cells_six ((hb.block wr.heap.size HXS.out).trans HXB.out); have HB1 := Lib.hid (HX.out.trans (hb.mono HX.out.size)); clear hb)
              | (go_at_call 66; (with_reducible refine (HC2.out _ HB1.out).mono ?_); rintro e w2 ⟨rfl, hb⟩; have HB2 := Lib.hid (HB1.out.trans (hb.mono HB1.out.size)); clear hb))
            go_roundw
            case rel => exact ⟨k + 1, by omega, by go_num, Lib.hid (HK.out.trans HR.out), HB2⟩
            case measure => simp [intOf]; omega
          · have HR := Lib.hid (HER.out hst hz)
            have hz1 : (ce == 0) = false := beq_eq_false_iff_ne.2 hz
            have hz2 : (ce != 0) = true := by simp [hz]
            clear hst
            go_wp2_with (first
              | (go_at_call 65; (with_reducible refine (HC1.out).mono ?_); rintro e w1 ⟨rfl, hb⟩; obtain ⟨f0, f1, f2, f3, f4, f5⟩ := cells_six ((hb.block wr.heap.size HXS.out).trans HXB.out); have HB1 := Lib.hid (HX.out.trans (hb.mono HX.out.size)); clear hb)
              | (go_at_call 66; (with_reducible refine (HC2.out _ HB1.out).mono ?_); rintro e w2 ⟨rfl, hb⟩; have HB2 := Lib.hid (HB1.out.trans (hb.mono HB1.out.size)); clear hb))
            go_ret
            exact ⟨ret_int0 (HK.out.trans HR.out).symm, HB0.out.trans (HB2.out.mono HPS.out)⟩
      · have HR := Lib.hid (ckFr_end (l := bs) (k := k) (by rw [← HN.out]; exact hlt))
        go_wp2
        go_ret
        exact ⟨ret_int0 (HK.out.trans HR.out).symm, HB0.out.trans (HB.out.mono HPS.out)⟩
end Go.Proofs.YtiinljljbjjaeaaGreatDoor
