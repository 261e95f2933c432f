/- Joined: Mq0, Cp0, Rw0. -/
import Derived.Test.YtcnecokamckfaaaGreatDoorK3
import Derived.Laws.OwnMore
import Derived.Maps.AppendAt
set_option linter.unusedVariables false
set_option linter.unusedSimpArgs false
/- Contract: whether a bound may stand where it does. -/
namespace Go.Proofs.YtcnecokamckfaaaGreatDoor
open Go Go.RowKit

theorem nm_no {n : Nat} {x : Bd} (h : nameB x.var.data.toList = false) (h1 : ¬ (n = 1 ∧ x.var.data.toList = [])) : nmB n x = false := by
  unfold nmB
  rw [h, Bool.false_or, Bool.and_eq_false_iff, decide_eq_false_iff_not, decide_eq_false_iff_not]
  by_cases he : x.var.data.toList = []
  · exact .inr fun e => h1 ⟨e, he⟩
  · exact .inl he
theorem nm_yes {n : Nat} {x : Bd} (h : nameB x.var.data.toList = true) : nmB n x = true := by unfold nmB; rw [h]; rfl
theorem nm_one {n : Nat} {x : Bd} (h1 : n = 1) (h2 : x.var.data.toList = []) : nmB n x = true := by
  unfold nmB; rw [decide_eq_true h1, decide_eq_true h2, Bool.and_self, Bool.or_true]
theorem st_nm {l : List Bd} {k : Nat} (h : nmB l.length l[k]! = false) : stB l k = false := by unfold stB; rw [h]; rfl
theorem st_ris {l : List Bd} {k : Nat} (h : risB l k = false) : stB l k = false := by unfold stB; rw [h, Bool.false_and, Bool.and_false]
theorem st_frs {l : List Bd} {k : Nat} (h : nmB l.length l[k]! = true) (h1 : risB l k = true) : stB l k = !((l.take k).any fun o => idE o l[k]!) := by unfold stB frsB; rw [h, h1]; rfl
theorem ris_zero (l : List Bd) : risB l 0 = true := rfl
theorem ris_no {l : List Bd} {p : Nat} (h : cbV l[p + 1]! l[p]! ≤ 0) : risB l (p + 1) = false := by unfold risB; rw [Nat.add_sub_cancel, decide_eq_true h]; simp
theorem ris_yes {l : List Bd} {p : Nat} (h : ¬ cbV l[p + 1]! l[p]! ≤ 0) : risB l (p + 1) = true := by unfold risB; rw [Nat.add_sub_cancel, decide_eq_false h]; simp

set_option maxRecDepth 100000 in
set_option maxHeartbeats 6400000 in
theorem mMayStand_any (k B : Nat) (ao : Option Addr) (n cap : Nat) (bs : List Bd) (w : World) (h : BsV w B (.slice ao n cap) bs) (hB : B ≤ w.heap.size) (hk : k < n) :
    Calls Tryz.prog 65 #[.slice ao n cap, .int .i64 (k : Int)] w fun e w' => e = .returned (.bool (stB bs k)) ∧ Below w.heap.size w w' := by
  obtain ⟨hn, hn63, hnc, hc63, _, hn80⟩ := h.num
  have HT := Lib.hid (h.take (k := k) (Nat.le_of_lt hk))
  have HS := Lib.hid (fun p (hp : p < n) => h.at hp)
  obtain ⟨b, o, aa, ac, rfl, hbB, hkl, hvs, _, _, _, hc⟩ := h.at hk
  obtain ⟨a0, a1, a2, a3, a4, a5⟩ := six_cells (hc w (Below.refl _ _))
  have SN := Lib.hid (st_nm (l := bs) (k := k)); have SF := Lib.hid (st_frs (l := bs) (k := k)); have SR := Lib.hid (st_ris (l := bs) (k := k))
  have RN := Lib.hid (fun p (hp : k = p + 1) => show cbV bs[k]! bs[p]! ≤ 0 → risB bs k = false from by subst hp; exact ris_no)
  have RY := Lib.hid (fun p (hp : k = p + 1) => show ¬ cbV bs[k]! bs[p]! ≤ 0 → risB bs k = true from by subst hp; exact ris_yes)
  obtain ⟨x, hx⟩ : ∃ x, x = bs[k]! := ⟨_, rfl⟩
  rw [← hx] at a0 a1 a2 a3 a4 a5 hvs SN SF RN RY
  rw [← hn] at SN SF
  have hbw : b < w.heap.size := Nat.lt_of_lt_of_le hbB hB
  have hbne : b ≠ w.heap.size := by omega
  have CN := fun w => vName_any x.var w hvs
  obtain ⟨P, hP⟩ : ∃ P, P = w.heap.size := ⟨_, rfl⟩
  have HBO : Hid (Below P w (w.alloc (.cells #[.string x.var, .int .i64 x.ev.src, .int .i64 x.ev.seq, .int .i64 x.ev.time, .string x.ev.ty, .slice aa x.ev.ats.length ac] 54))) := by rw [hP]; exact (Below.refl _ _).alloc (Nat.le_refl _) _
  have HPX : Hid ((w.alloc (.cells #[.string x.var, .int .i64 x.ev.src, .int .i64 x.ev.seq, .int .i64 x.ev.time, .string x.ev.ty, .slice aa x.ev.ats.length ac] 54)).heap[P]? = some (.cells #[.string x.var, .int .i64 x.ev.src, .int .i64 x.ev.seq, .int .i64 x.ev.time, .string x.ev.ty, .slice aa x.ev.ats.length ac] 54 (0, 0))) := by rw [hP]; exact heap_alloc_new w _
  have HBB := Lib.hid hB; have HX := Lib.hid hx
  have hk0 : (0 : Int) ≤ (k : Int) := by omega
  have hkn : (k : Int) ≤ (cap : Int) := by omega
  have hkn' : (k : Int) < (n : Int) := by omega
  have nn0 := World.new_ne w ⟨b, o + k * 6, none⟩ a0; have nn1 := World.new_ne w ⟨b, o + k * 6 + 1, none⟩ a1; have nn2 := World.new_ne w ⟨b, o + k * 6 + 2, none⟩ a2
  have nn3 := World.new_ne w ⟨b, o + k * 6 + 3, none⟩ a3; have nn4 := World.new_ne w ⟨b, o + k * 6 + 4, none⟩ a4; have nn5 := World.new_ne w ⟨b, o + k * 6 + 5, none⟩ a5
  have HP := Lib.hid hP
  rw [← hP]
  clear hc h hx hB hn hkl hvs hP
  go_enter Tryz.func65, Tryz.ntmps65
  go_wp2_with fail
  go_region_held3 (fun w' => w'.cell? ⟨b, o + k * 6, none⟩ = some (.string x.var) ∧ w'.cell? ⟨b, o + k * 6 + 1, none⟩ = some (.int .i64 x.ev.src) ∧ w'.cell? ⟨b, o + k * 6 + 2, none⟩ = some (.int .i64 x.ev.seq) ∧ w'.cell? ⟨b, o + k * 6 + 3, none⟩ = some (.int .i64 x.ev.time) ∧ w'.cell? ⟨b, o + k * 6 + 4, none⟩ = some (.string x.ev.ty) ∧ w'.cell? ⟨b, o + k * 6 + 5, none⟩ = some (.slice aa x.ev.ats.length ac)) (first | exact ⟨a0, a1, a2, a3, a4, a5⟩ | go_keep) (fail)
  obtain ⟨W, hW⟩ : ∃ W, W = (w.alloc (.cells #[.string x.var, .int .i64 x.ev.src, .int .i64 x.ev.seq, .int .i64 x.ev.time, .string x.ev.ty, .slice aa x.ev.ats.length ac] 54)).drew := ⟨_, rfl⟩
  rw [← hW, ← HP.out]
  have hPW : W.heap[P]? = some (.cells #[.string x.var, .int .i64 x.ev.src, .int .i64 x.ev.seq, .int .i64 x.ev.time, .string x.ev.ty, .slice aa x.ev.ats.length ac] 54 (0, 0)) := by rw [hW]; exact HPX.out
  have HBW : Hid (Below P w W) := by rw [hW]; exact HBO.out.drew
  have HW := Lib.hid hW
  have HCC := Lib.hid (fun q => ContainsBd_any P x (.slice aa x.ev.ats.length ac) B _ k cap (bs.take k) (W.drewN q) (HT.out.below (Below.drewN' HBW.out q) (by have := HBB.out; have := HP.out; omega)) (show B ≤ W.heap.size by have := HBB.out; have := HP.out; have := HBW.out.size; omega) hPW)
  have HPS : Hid (P ≤ W.heap.size) := Lib.hid (by have := HBW.out.size; have := HP.out; omega)
  have hPlt := lt_of_block hPW
  obtain ⟨c0, c1, c2, c3, c4, c5⟩ := cells_six hPW
  clear hW hPW a0 a1 a2 a3 a4 a5 nn0 nn1 nn2 nn3 nn4 nn5 hbne
  generalize hany : ((bs.take k).any fun o => idE o x) = r at HCC SF
  clear hany
  cases hnm : nameB x.var.data.toList with
  | false =>
    rw [hnm] at CN
    have HCN := Lib.hid CN
    by_cases h1 : n = 1
    · by_cases h2 : x.var.data.toList = []
      · have HNM := Lib.hid (nm_one (x := x) h1 h2)
        subst h1
        obtain rfl : k = 0 := by omega
        have HST := Lib.hid (SF.out HNM.out (ris_zero _))
        have g1 : x.var.toList = [] := by rw [Lib.toList_data]; exact h2
        have g2 : (x.var.toList == []) = true := by rw [g1]; rfl
        have g3 : x.var.toList.isEmpty = true := by rw [g1]; rfl
        clear CN hnm h2
        go_wp2_with (go_at_call 90; (with_reducible refine (HCN.out _).mono ?_); rintro e w1 ⟨rfl, rfl⟩)
        go_quiet (fail)
        go_wp2_with (go_at_call 91; (with_reducible refine (HCC.out _).mono ?_); rintro e w1 ⟨rfl, hb⟩; have HB1 := Lib.hid hb; clear hb)
        go_ret
        exact ⟨ret_bool0 HST.out.symm, (Below.drewN' HBW.out _).trans (HB1.out.mono HPS.out)⟩
      · have HST := Lib.hid (SN.out (nm_no hnm (fun h => h2 h.2)))
        have g1 : ¬ x.var.toList = [] := by rw [Lib.toList_data]; exact h2
        have g2 : (x.var.toList == []) = false := by simp [g1]
        have g3 : x.var.toList.isEmpty = false := by simp [g1]
        subst h1
        clear CN hnm h2
        go_wp2_with (go_at_call 90; (with_reducible refine (HCN.out _).mono ?_); rintro e w1 ⟨rfl, rfl⟩)
        go_ret
        exact ⟨ret_bool0 HST.out.symm, HBW.out⟩
    · have HST := Lib.hid (SN.out (nm_no hnm (fun h => h1 h.1)))
      have g1 : ((n : Int) == 1) = false := by simp; omega
      clear CN hnm
      go_wp2_with (go_at_call 90; (with_reducible refine (HCN.out _).mono ?_); rintro e w1 ⟨rfl, rfl⟩)
      go_ret
      exact ⟨ret_bool0 HST.out.symm, HBW.out⟩
  | true =>
    rw [hnm] at CN
    have HCN := Lib.hid CN
    have HNM := Lib.hid (nm_yes (n := n) hnm)
    clear CN hnm
    by_cases hk00 : k = 0
    · subst hk00
      have HST := Lib.hid (SF.out HNM.out (ris_zero _))
      go_wp2_with (go_at_call 90; (with_reducible refine (HCN.out _).mono ?_); rintro e w1 ⟨rfl, rfl⟩)
      go_quiet (fail)
      go_wp2_with (go_at_call 91; (with_reducible refine (HCC.out _).mono ?_); rintro e w1 ⟨rfl, hb⟩; have HB1 := Lib.hid hb; clear hb)
      go_ret
      exact ⟨ret_bool0 HST.out.symm, (Below.drewN' HBW.out _).trans (HB1.out.mono HPS.out)⟩
    · obtain ⟨p, rfl⟩ : ∃ p, k = p + 1 := ⟨k - 1, by omega⟩
      obtain ⟨b', o', _, _, he, _, _, _, _, _, _, hcy⟩ := HS.out p (by omega)
      simp only [Option.some.injEq, Addr.mk.injEq, and_true] at he
      obtain ⟨rfl, rfl⟩ := he
      have p0 : W.cell? ⟨b, o + p * 6, none⟩ = some (.string bs[p]!.var) := hcy W (HBW.out.mono (by have := HBB.out; have := HP.out; omega)) 0 _ rfl
      have hle := leq_at (a := x.var) (b := bs[p]!.var) rfl
      have hcv : cbV x bs[p]! = Lib.compareBytes x.var.data.toList bs[p]!.var.data.toList := rfl
      have RN1 := Lib.hid (RN.out p rfl); have RY1 := Lib.hid (RY.out p rfl)
      generalize bs[p]! = y at p0 hle hcv RN1 RY1
      by_cases hlec : cbV x y ≤ 0
      · have HST := Lib.hid (SR.out (RN1.out hlec))
        have hr := cb_range x.var.data.toList y.var.data.toList
        rw [hcv] at hlec
        obtain ⟨hl1, hl2⟩ := hle
        generalize Lib.compareBytes x.var.data.toList y.var.data.toList = c at hl1 hl2 hlec hr
        have hc3 : c = -1 ∨ c = 0 := by omega
        clear hlec hr hk00 hcy hcv
        rcases hc3 with rfl | rfl
        all_goals
          simp only [show decide ((-1 : Int) < 0) = true from rfl, show decide ((0 : Int) < 0) = false from rfl, show decide ((-1 : Int) = 0) = false from rfl] at hl1 hl2
          go_wp2_with (go_at_call 90; (with_reducible refine (HCN.out _).mono ?_); rintro e w1 ⟨rfl, rfl⟩)
          go_quiet (fail)
          go_wp2
          go_ret
          exact ⟨ret_bool0 HST.out.symm, Below.drewN' HBW.out _⟩
      · have HST := Lib.hid (SF.out HNM.out (RY1.out (by first | exact hlec | omega)))
        rw [hcv] at hlec
        obtain ⟨hl1, hl2⟩ := hle
        rw [decide_eq_false (by omega)] at hl1 hl2
        clear hlec hk00 hcy hcv
        go_wp2_with (go_at_call 90; (with_reducible refine (HCN.out _).mono ?_); rintro e w1 ⟨rfl, rfl⟩)
        go_quiet (fail)
        go_wp2_with (go_at_call 91; (with_reducible refine (HCC.out _).mono ?_); rintro e w1 ⟨rfl, hb⟩; have HB1 := Lib.hid hb; clear hb)
        go_ret
        exact ⟨ret_bool0 HST.out.symm, (Below.drewN' HBW.out _).trans (HB1.out.mono HPS.out)⟩
end Go.Proofs.YtcnecokamckfaaaGreatDoor

/- Contract: which partial matches may be: the program's. -/
namespace Go.Proofs.YtcnecokamckfaaaGreatDoor
open Go Go.RowKit

theorem ckP_long {l : List Bd} (h : 12 < l.length) : ckP l = 100 := if_pos h
theorem ckP_go {l : List Bd} (h : ¬ 12 < l.length) : ckP l = ckFr l 0 := if_neg h
theorem ckFr_at {l : List Bd} {k : Nat} (h : k < l.length) (h1 : stB l k = true) (h2 : ckE l[k]!.ev = 0) : ckFr l k = ckFr l (k + 1) := ckFr_go h (by rw [ckAt_ev h1, h2])
theorem ckFr_er {l : List Bd} {k : Nat} (h : k < l.length) (h1 : stB l k = true) (h2 : ckE l[k]!.ev ≠ 0) : ckFr l k = ckE l[k]!.ev := by rw [ckFr_bad h (by rw [ckAt_ev h1]; exact h2), ckAt_ev h1]
set_option maxRecDepth 100000 in
set_option maxHeartbeats 6400000 in
theorem mCheck_any (B : Nat) (ao : Option Addr) (n cap : Nat) (bs : List Bd) (w : World) (h : BsV w B (.slice ao n cap) bs) (hB : B ≤ w.heap.size) :
    Calls Tryz.prog 38 #[.agg #[.slice ao n cap]] w fun e w' => e = .returned (.int .i64 (ckP bs)) ∧ Below w.heap.size w w' := by
  obtain ⟨hn, hn63, hnc, hc63, _, hn80⟩ := h.num
  have HN := Lib.hid hn
  obtain ⟨P, hP⟩ : ∃ P, P = w.heap.size := ⟨_, rfl⟩
  obtain ⟨W, hW⟩ : ∃ W, W = w.alloc (.cells #[.slice ao n cap] 38) := ⟨_, rfl⟩
  have HB0 : Hid (Below P w W) := by rw [hW, hP]; exact (Below.refl _ _).alloc (Nat.le_refl _) _
  have hPW : W.heap[P]? = some (.cells #[.slice ao n cap] 38 (0, 0)) := by rw [hW, hP]; exact heap_alloc_new w _
  have HW := Lib.hid hW; have HP := Lib.hid hP
  have hPlt := lt_of_block hPW
  have HPX := Lib.hid (fun u (hu : Below W.heap.size W u) => cells_one0 ((hu.block P hPlt).trans hPW))
  have HH := Lib.hid (h.below HB0.out (by omega))
  have HBB : Hid (B ≤ W.heap.size) := Lib.hid (by have := HB0.out.size; omega)
  have HPS : Hid (P ≤ W.heap.size) := Lib.hid (by have := HB0.out.size; omega)
  have HBR : Hid (Below W.heap.size W W) := Lib.hid (Below.refl _ _)
  obtain c0 := HPX.out _ HBR.out
  rw [← hP]
  clear h hn hB hP hW hPW
  by_cases h12 : 12 < n
  · rw [ckP_long (by rw [← HN.out]; exact h12)]
    have h1 : (12 : Int) < (n : Int) := by omega
    go_enter Tryz.func38, Tryz.ntmps38
    go_wp2
    go_ret
    exact ⟨rfl, by rw [← HW.out]; exact HB0.out⟩
  · rw [ckP_go (by rw [← HN.out]; exact h12)]
    go_enter Tryz.func38, Tryz.ntmps38
    go_wp2_with fail
    rw [← HW.out, ← HP.out]
    go_loopw [13] (fun iv wr => ∃ k : Nat, k ≤ n ∧ iv = .int .i64 k ∧ Hid (ckFr bs 0 = ckFr bs k) ∧ Hid (Below W.heap.size W wr)) (fun iv _ => n - (intOf iv).toNat)
    case atStart => exact ⟨0, Nat.zero_le _, rfl, Lib.hid rfl, HBR⟩
    case round =>
      obtain ⟨k, hk, rfl, HK, HB⟩ := hrel
      clear c0
      by_cases hlt : k < n
      · have hav0 := HH.out.at hlt
        obtain ⟨b, o, aa, ac, hao, hbB, hkl, hvs, hts, hnil, hav, hc⟩ := hav0
        have hX0 := fun (Y : Obj) => HB.out.alloc HB.out.size Y
        have C1 := fun (Y : Obj) => mMayStand_any k B ao n cap bs (wr.alloc Y) (HH.out.below (hX0 Y) HBB.out) (Nat.le_trans HBB.out (hX0 Y).size) hlt
        have HER := Lib.hid (ckFr_er (l := bs) hkl); have HAT := Lib.hid (ckFr_at (l := bs) hkl); have HST := Lib.hid (ckFr_st (l := bs) hkl)
        subst hao
        obtain ⟨a0, a1, a2, a3, a4, a5⟩ := six_cells (hc wr (HB.out.mono HBB.out))
        obtain ⟨x, hx⟩ : ∃ x, x = bs[k]! := ⟨_, rfl⟩
        rw [← hx] at a0 a1 a2 a3 a4 a5 hav hts HER HAT
        have hbw : b ≠ wr.heap.size := by have := HB.out.size; have := HBB.out; omega
        have x0 := HPX.out _ (hX0 (.cells #[.string x.var, .int .i64 x.ev.src, .int .i64 x.ev.seq, .int .i64 x.ev.time, .string x.ev.ty, .slice aa x.ev.ats.length ac] 54))
        have HC1 := Lib.hid (C1 (.cells #[.string x.var, .int .i64 x.ev.src, .int .i64 x.ev.seq, .int .i64 x.ev.time, .string x.ev.ty, .slice aa x.ev.ats.length ac] 54))
        have HX := Lib.hid (hX0 (.cells #[.string x.var, .int .i64 x.ev.src, .int .i64 x.ev.seq, .int .i64 x.ev.time, .string x.ev.ty, .slice aa x.ev.ats.length ac] 54))
        have HXB : Hid ((wr.alloc (.cells #[.string x.var, .int .i64 x.ev.src, .int .i64 x.ev.seq, .int .i64 x.ev.time, .string x.ev.ty, .slice aa x.ev.ats.length ac] 54)).heap[wr.heap.size]? = some (.cells #[.string x.var, .int .i64 x.ev.src, .int .i64 x.ev.seq, .int .i64 x.ev.time, .string x.ev.ty, .slice aa x.ev.ats.length ac] 54 (0, 0))) := Lib.hid (heap_alloc_new wr _)
        have HXS : Hid (wr.heap.size < (wr.alloc (.cells #[.string x.var, .int .i64 x.ev.src, .int .i64 x.ev.seq, .int .i64 x.ev.time, .string x.ev.ty, .slice aa x.ev.ats.length ac] 54)).heap.size) := Lib.hid (by simp)
        have HC2 := Lib.hid (fun u (hu : Below W.heap.size W u) => eCheck_any x.ev B aa _ ac u (hav.below hu HBB.out) (Nat.le_trans HBB.out hu.size) hts)
        unfold evV at HC2
        have e1 : IntKind.i64.wrap ((k : Int) + 1) = (k : Int) + 1 := IntWalk.i64_in _ (by omega)
        clear hc hx hkl hav hX0 C1 hts hvs hnil
        cases hst : stB bs k with
        | false =>
          rw [hst] at HC1
          have HR := Lib.hid (HST.out hst)
          clear hst
          go_wp2_with (go_at_call 65; (with_reducible refine (HC1.out).mono ?_); rintro e w1 ⟨rfl, hb⟩; have HB1 := Lib.hid hb; clear hb)
          go_ret
          exact ⟨ret_int0 (HK.out.trans HR.out).symm, HB0.out.trans ((HX.out.trans (HB1.out.mono HX.out.size)).mono HPS.out)⟩
        | true =>
          rw [hst] at HC1
          generalize ckE x.ev = ce at HC2 HER HAT
          by_cases hz : ce = 0
          · subst hz
            have HR := Lib.hid (HAT.out hst rfl)
            clear hst
            go_wp2_with (first
              | (go_at_call 65; (with_reducible refine (HC1.out).mono ?_); rintro e w1 ⟨rfl, hb⟩; obtain ⟨f0, f1, f2, f3, f4, f5⟩ := cells_six ((hb.block wr.heap.size HXS.out).trans HXB.out); have HB1 := Lib.hid (HX.out.trans (hb.mono HX.out.size)); clear hb)
              | (go_at_call 66; (with_reducible refine (HC2.out _ HB1.out).mono ?_); rintro e w2 ⟨rfl, hb⟩; have HB2 := Lib.hid (HB1.out.trans (hb.mono HB1.out.size)); clear hb))
            go_roundw
            case rel => exact ⟨k + 1, by omega, by go_num, Lib.hid (HK.out.trans HR.out), HB2⟩
            case measure => simp [intOf]; omega
          · have HR := Lib.hid (HER.out hst hz)
            have hz1 : (ce == 0) = false := beq_eq_false_iff_ne.2 hz
            have hz2 : (ce != 0) = true := by simp [hz]
            clear hst
            go_wp2_with (first
              | (go_at_call 65; (with_reducible refine (HC1.out).mono ?_); rintro e w1 ⟨rfl, hb⟩; obtain ⟨f0, f1, f2, f3, f4, f5⟩ := cells_six ((hb.block wr.heap.size HXS.out).trans HXB.out); have HB1 := Lib.hid (HX.out.trans (hb.mono HX.out.size)); clear hb)
              | (go_at_call 66; (with_reducible refine (HC2.out _ HB1.out).mono ?_); rintro e w2 ⟨rfl, hb⟩; have HB2 := Lib.hid (HB1.out.trans (hb.mono HB1.out.size)); clear hb))
            go_ret
            exact ⟨ret_int0 (HK.out.trans HR.out).symm, HB0.out.trans (HB2.out.mono HPS.out)⟩
      · have HR := Lib.hid (ckFr_end (l := bs) (k := k) (by rw [← HN.out]; exact hlt))
        go_wp2
        go_ret
        exact ⟨ret_int0 (HK.out.trans HR.out).symm, HB0.out.trans (HB.out.mono HPS.out)⟩
end Go.Proofs.YtcnecokamckfaaaGreatDoor

/- Rows of bounds as lists of cells; rows of the call's own. -/
namespace Go.Proofs.YtcnecokamckfaaaGreatDoor
open Go Go.RowKit

theorem infoBd : (Tryz.prog.info? 54).map (fun i => (i.zero, i.size, i.bytes)) = some (some (.agg #[.string ⟨#[]⟩, .int .i64 0, .int .i64 0, .int .i64 0, .string ⟨#[]⟩, .slice none 0 0]), 6, 80) := by kernel_rfl
theorem add_off0 (b o j : Nat) : (⟨b, o, none⟩ : Addr).add j = ⟨b, o + j, none⟩ := by unfold Addr.add; split <;> simp_all
/-- The cells of a row of bounds; of each slice of attributes A is said. -/
def RwL (A : Value → List At → Prop) : List Bd → List Value → Prop
  | [], xs => xs = []
  | x :: r, xs => ∃ aa ac ys, xs = encB x (.slice aa x.ev.ats.length ac) ++ ys ∧ A (.slice aa x.ev.ats.length ac) x.ev.ats ∧ RwL A r ys
/-- What is said of a slice of attributes that lies below block B. -/
def AvN (w : World) (B : Nat) (v : Value) (ats : List At) : Prop := Av w B v ats ∧ ∀ n c, v = .slice none n c → c = 0
theorem AvN.below {w w' : World} {B B' : Nat} {v : Value} {ats : List At} (h : AvN w B v ats) (hb : Below B' w w') (hB : B ≤ B') : AvN w' B v ats := ⟨h.1.below hb hB, h.2⟩
theorem AvN.mono {w : World} {B B' : Nat} {v : Value} {ats : List At} (h : AvN w B v ats) (hB : B ≤ B') : AvN w B' v ats := ⟨h.1.mono hB, h.2⟩
theorem RwL.imp {A A' : Value → List At → Prop} : ∀ {bs : List Bd} {xs : List Value}, (∀ v, ∀ x ∈ bs, A v x.ev.ats → A' v x.ev.ats) → RwL A bs xs → RwL A' bs xs
  | [], _, _, h => h
  | x :: r, _, hA, ⟨aa, ac, ys, e, h1, h2⟩ => ⟨aa, ac, ys, e, hA _ x (List.mem_cons_self ..) h1, h2.imp fun v y hy => hA v y (List.mem_cons_of_mem _ hy)⟩
theorem RwL.len {A : Value → List At → Prop} : ∀ {bs : List Bd} {xs : List Value}, RwL A bs xs → xs.length = bs.length * 6
  | [], _, h => by rw [h]; rfl
  | x :: r, _, ⟨aa, ac, ys, e, _, h2⟩ => by rw [e, List.length_append, encB_len, h2.len, List.length_cons]; omega
theorem RwL.one {A : Value → List At → Prop} : ∀ {bs : List Bd} {xs : List Value}, RwL A bs xs → ∀ u ∈ xs, u.oneCell' = true
  | [], _, h => by rw [h]; exact fun u h => by cases h
  | x :: r, _, ⟨aa, ac, ys, e, _, h2⟩ => by
    rw [e]
    intro u hu
    rcases List.mem_append.1 hu with hu | hu
    · exact encB_one _ _ _ _ u hu
    · exact h2.one u hu
theorem RwL.app {A : Value → List At → Prop} : ∀ {bs cs : List Bd} {xs ys : List Value}, RwL A bs xs → RwL A cs ys → RwL A (bs ++ cs) (xs ++ ys)
  | [], _, _, _, h, k => by rw [h]; exact k
  | x :: r, _, _, _, ⟨aa, ac, zs, e, h1, h2⟩, k => ⟨aa, ac, _, by rw [e, List.append_assoc], h1, h2.app k⟩
theorem RwL.single {A : Value → List At → Prop} {x : Bd} {aa : Option Addr} {ac : Nat} (h : A (.slice aa x.ev.ats.length ac) x.ev.ats) : RwL A [x] (encB x (.slice aa x.ev.ats.length ac)) := ⟨aa, ac, [], (List.append_nil _).symm, h, rfl⟩
/-- The k-th of them. -/
theorem RwL.nth {A : Value → List At → Prop} : ∀ {bs : List Bd} {xs : List Value} {k : Nat}, RwL A bs xs → k < bs.length →
    ∃ ys aa ac zs, xs = ys ++ (encB bs[k]! (.slice aa bs[k]!.ev.ats.length ac) ++ zs) ∧ RwL A (bs.take k) ys ∧ A (.slice aa bs[k]!.ev.ats.length ac) bs[k]!.ev.ats ∧ RwL A (bs.drop (k + 1)) zs
  | [], _, k, _, hk => absurd hk (Nat.not_lt_zero _)
  | x :: r, _, 0, ⟨aa, ac, ys, e, h1, h2⟩, _ => ⟨[], aa, ac, ys, e, rfl, h1, h2⟩
  | x :: r, _, k + 1, ⟨aa, ac, ys, e, h1, h2⟩, hk => by
    obtain ⟨ys', aa', ac', zs', e', g1, g2, g3⟩ := h2.nth (k := k) (by simpa using hk)
    have hx : (x :: r)[k + 1]! = r[k]! := by simp
    rw [hx]
    exact ⟨_, aa', ac', zs', by rw [e, e', List.append_assoc], ⟨aa, ac, ys', rfl, h1, g1⟩, g2, g3⟩
theorem BdAt.list {w : World} {B : Nat} : ∀ {bs : List Bd} {b o : Nat}, BdAt w B bs b o → ∃ xs, RwL (AvN w B) bs xs ∧ ∀ j u, xs[j]? = some u → w.cell? ⟨b, o + j, none⟩ = some u
  | [], _, _, _ => ⟨[], rfl, fun j u h => by simp at h⟩
  | x :: r, b, o, ⟨⟨aa, ac, hc, ha, hn⟩, hr⟩ => by
    obtain ⟨xs, h1, h2⟩ := hr.list
    refine ⟨_, ⟨aa, ac, xs, rfl, ⟨ha, fun n c e => by simp only [Value.slice.injEq] at e; rw [← e.2.2]; exact hn e.1⟩, h1⟩, fun j u hj => ?_⟩
    by_cases hlt : j < 6
    · rw [List.getElem?_append_left (by rw [encB_len]; exact hlt)] at hj
      exact hc j u hj
    · rw [List.getElem?_append_right (by rw [encB_len]; omega), encB_len] at hj
      have := h2 (j - 6) u hj
      rwa [show o + 6 + (j - 6) = o + j by omega] at this
theorem BdAt.of_list {w : World} {B : Nat} : ∀ {bs : List Bd} {xs : List Value} {b o : Nat}, RwL (AvN w B) bs xs → (∀ j u, xs[j]? = some u → w.cell? ⟨b, o + j, none⟩ = some u) → BdAt w B bs b o
  | [], _, _, _, _, _ => trivial
  | x :: r, _, b, o, ⟨aa, ac, ys, e, ha, hr⟩, h => by
    refine ⟨⟨aa, ac, fun j u hj => h j u (by rw [e, List.getElem?_append_left (List.getElem?_eq_some_iff.1 hj).1]; exact hj), ha.1, fun hn => ha.2 _ _ (by rw [hn])⟩, BdAt.of_list hr fun j u hj => ?_⟩
    have := h (6 + j) u (by rw [e, List.getElem?_append_right (by rw [encB_len]; omega), encB_len, show 6 + j - 6 = j by omega]; exact hj)
    rwa [show o + 6 + j = o + (6 + j) by omega]
/-- The cells of a slice of bounds. -/
theorem BsV.list {w : World} {B : Nat} {ao : Option Addr} {n cap : Nat} {bs : List Bd} (h : BsV w B (.slice ao n cap) bs) : ∃ xs, RwL (AvN w B) bs xs ∧ xs.length = n * 6 ∧ ∀ u : World, Below B w u → ∀ ad, ao = some ad → ∀ j v, xs[j]? = some v → u.cell? (ad.add j) = some v := by
  obtain ⟨ao', cap', he, h1, h2, h3, hh⟩ := h.row
  simp only [Value.slice.injEq] at he
  obtain ⟨rfl, rfl, rfl⟩ := he
  by_cases hb : bs = []
  · subst hb
    exact ⟨[], rfl, rfl, fun _ _ _ _ j v h => by simp at h⟩
  · obtain ⟨b, o, rfl, hlt, hat⟩ := hh hb
    obtain ⟨xs, q1, q2⟩ := hat.list
    refine ⟨xs, q1, q1.len, fun u hu ad e j v hj => ?_⟩
    cases e
    rw [add_off0, hu.cell (p := ⟨b, _, none⟩) hlt]
    exact q2 j v hj
/-- A row of bounds that the call made. -/
theorem BsV.of_own {w : World} {base : Nat} {v : Value} {bs : List Bd} {xs : List Value} (h : w.ownsRow base 54 6 v bs.length xs) (hr : RwL (AvN w w.heap.size) bs xs) (hw : ∀ x ∈ bs, x.var.size ≤ maxLen ∧ x.ev.ty.size ≤ maxLen) (hl : bs.length * 80 ≤ 140737488355328) : BsV w w.heap.size v bs := by
  rcases h.2 with ⟨rfl, h0⟩ | ⟨g, cap, cur, rfl, hb, hg, h1, h2, _, _⟩
  · exact ⟨hw, hl, none, 0, by rw [h0], by omega, by omega, fun _ => rfl, fun hne => absurd (List.eq_nil_of_length_eq_zero h0) hne⟩
  · refine ⟨hw, hl, _, cap, rfl, h1, by unfold maxLen at h2; omega, (fun e => by cases e), fun _ => ⟨g, 0, rfl, lt_of_block hg, BdAt.of_list hr fun j u hj => ?_⟩⟩
    have := h.cells (g := g) rfl j u hj
    rwa [add_off0] at this
theorem RwL.cells {w : World} {base g n cap k : Nat} {xs ys zs : List Value} {x : Bd} {v : Value} (h : w.ownsRow base 54 6 (.slice (some ⟨g, 0, none⟩) n cap) n xs) (e : xs = ys ++ (encB x v ++ zs)) (hl : ys.length = k * 6) :
    ∀ i u, (encB x v)[i]? = some u → w.cell? ⟨g, k * 6 + i, none⟩ = some u := fun i u hu => by
  have hi := (List.getElem?_eq_some_iff.1 hu).1
  have := h.cells (g := g) rfl (k * 6 + i) u (by rw [e, List.getElem?_append_right (by omega), hl, show k * 6 + i - k * 6 = i by omega, List.getElem?_append_left hi]; exact hu)
  rwa [add_off0, Nat.zero_add] at this
/-- The k-th bound's event, written. -/
theorem own_set5 {w : World} {base g n cap k : Nat} {xs ys zs : List Value} {x : Bd} {v v' : Value} (h : w.ownsRow base 54 6 (.slice (some ⟨g, 0, none⟩) n cap) n xs) (e : xs = ys ++ (encB x v ++ zs)) (hl : ys.length = k * 6) :
    (((((w.setCell ⟨g, k * 6 + 1, none⟩ (.int .i64 x.ev.src)).setCell ⟨g, k * 6 + 1 + 1, none⟩ (.int .i64 x.ev.seq)).setCell ⟨g, k * 6 + 1 + 2, none⟩ (.int .i64 x.ev.time)).setCell ⟨g, k * 6 + 1 + 3, none⟩ (.string x.ev.ty)).setCell ⟨g, k * 6 + 1 + 4, none⟩ v').ownsRow base 54 6 (.slice (some ⟨g, 0, none⟩) n cap) n (ys ++ (encB x v' ++ zs)) ∧
      w.grownBy (((((w.setCell ⟨g, k * 6 + 1, none⟩ (.int .i64 x.ev.src)).setCell ⟨g, k * 6 + 1 + 1, none⟩ (.int .i64 x.ev.seq)).setCell ⟨g, k * 6 + 1 + 2, none⟩ (.int .i64 x.ev.time)).setCell ⟨g, k * 6 + 1 + 3, none⟩ (.string x.ev.ty)).setCell ⟨g, k * 6 + 1 + 4, none⟩ v') (some g) := by
  have s1 := h.stored (k * 6 + 1) (.int .i64 x.ev.src)
  have s2 := s1.1.stored (k * 6 + 1 + 1) (.int .i64 x.ev.seq)
  have s3 := s2.1.stored (k * 6 + 1 + 2) (.int .i64 x.ev.time)
  have s4 := s3.1.stored (k * 6 + 1 + 3) (.string x.ev.ty)
  have s5 := s4.1.stored (k * 6 + 1 + 4) v'
  refine ⟨?_, (((s1.2.trans s2.2).trans s3.2).trans s4.2).trans s5.2⟩
  have := s5.1
  rw [e] at this
  have e1 : (((((ys ++ (encB x v ++ zs)).set (k * 6 + 1) (.int .i64 x.ev.src)).set (k * 6 + 1 + 1) (.int .i64 x.ev.seq)).set (k * 6 + 1 + 2) (.int .i64 x.ev.time)).set (k * 6 + 1 + 3) (.string x.ev.ty)).set (k * 6 + 1 + 4) v' = ys ++ (encB x v' ++ zs) := by
    simp only [List.set_append_right _ _ (show ys.length ≤ k * 6 + 1 by omega), List.set_append_right _ _ (show ys.length ≤ k * 6 + 1 + 1 by omega), List.set_append_right _ _ (show ys.length ≤ k * 6 + 1 + 2 by omega), List.set_append_right _ _ (show ys.length ≤ k * 6 + 1 + 3 by omega), List.set_append_right _ _ (show ys.length ≤ k * 6 + 1 + 4 by omega), hl]
    rw [show k * 6 + 1 - k * 6 = 1 by omega, show k * 6 + 1 + 1 - k * 6 = 2 by omega, show k * 6 + 1 + 2 - k * 6 = 3 by omega, show k * 6 + 1 + 3 - k * 6 = 4 by omega, show k * 6 + 1 + 4 - k * 6 = 5 by omega]
    rfl
  rw [e1] at this
  exact this
end Go.Proofs.YtcnecokamckfaaaGreatDoor
