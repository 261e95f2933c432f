/- Contract: which partial matches may be: the document's. -/
import Derived.Test.YtcnecokamckfaaaGreatDoorK4
set_option linter.unusedVariables false
set_option linter.unusedSimpArgs false
namespace Go.Proofs.YtcnecokamckfaaaGreatDoor
open Go Go.RowKit

theorem frs_at {l : List Bd} {k j : Nat} (hj : j < k) (hjl : j < l.length) (h : idE l[j]! l[k]! = true) : frsB l k = false := by
  unfold frsB
  rw [Bool.not_eq_false', List.any_eq_true]
  exact ⟨l[j]!, by rw [List.mem_take_iff_getElem]; exact ⟨j, by omega, (getElem!_pos l j hjl).symm⟩, h⟩
theorem frs_all {l : List Bd} {k : Nat} (h : ∀ o ∈ l.take k, idE o l[k]! = false) : frsB l k = true := by
  unfold frsB
  rw [Bool.not_eq_true', List.any_eq_false]
  exact fun o ho => by rw [h o ho]; exact Bool.false_ne_true
theorem ris_zero' {l : List Bd} {k : Nat} (h : k = 0) : risB l k = true := by subst h; rfl
theorem st_no {l : List Bd} {k : Nat} (h : frsB l k = false) : stB l k = false := by unfold stB; rw [h, Bool.and_false, Bool.and_false]
theorem st_yes {l : List Bd} {k : Nat} (h : nmB l.length l[k]! = true) (h1 : risB l k = true) (h2 : frsB l k = true) : stB l k = true := by unfold stB; rw [h, h1, h2]; rfl
set_option maxRecDepth 100000 in
set_option maxHeartbeats 12800000 in
theorem r10Check_any (B : Nat) (ao : Option Addr) (n cap : Nat) (bs : List Bd) (w : World) (h : BsV w B (.slice ao n cap) bs) (hB : B ≤ w.heap.size) :
    Calls Tryz.prog 39 #[.agg #[.slice ao n cap]] w fun e w' => e = .returned (.int .i64 (ckP bs)) ∧ Below w.heap.size w w' := by
  obtain ⟨hn, hn63, hnc, hc63, _, hn80⟩ := h.num
  have HN := Lib.hid hn; have HN63 := Lib.hid hn63
  clear hn63 hnc hc63 hn80
  obtain ⟨P, hP⟩ : ∃ P, P = w.heap.size := ⟨_, rfl⟩
  obtain ⟨W, hW⟩ : ∃ W, W = w.alloc (.cells #[.slice ao n cap] 38) := ⟨_, rfl⟩
  have HB0 : Hid (Below P w W) := by rw [hW, hP]; exact (Below.refl _ _).alloc (Nat.le_refl _) _
  have hPW : W.heap[P]? = some (.cells #[.slice ao n cap] 38 (0, 0)) := by rw [hW, hP]; exact heap_alloc_new w _
  have HW := Lib.hid hW; have HP := Lib.hid hP
  have hPlt := lt_of_block hPW
  have HPX := Lib.hid (fun u (hu : Below W.heap.size W u) => cells_one0 ((hu.block P hPlt).trans hPW))
  have HH := Lib.hid (h.below HB0.out (by omega))
  have HBB : Hid (B ≤ W.heap.size) := Lib.hid (by have := HB0.out.size; omega)
  have HPS : Hid (P ≤ W.heap.size) := Lib.hid (by have := HB0.out.size; omega)
  have HBR : Hid (Below W.heap.size W W) := Lib.hid (Below.refl _ _)
  obtain c0 := HPX.out _ HBR.out
  rw [← hP]
  clear h hn hB hP hW hPW
  by_cases h12 : 12 < n
  · rw [ckP_long (by rw [← HN.out]; exact h12)]
    have h1 : (12 : Int) < (n : Int) := by omega
    go_enter Tryz.func39, Tryz.ntmps39
    go_wp2
    go_ret
    exact ⟨rfl, by rw [← HW.out]; exact HB0.out⟩
  · rw [ckP_go (by rw [← HN.out]; exact h12)]
    go_enter Tryz.func39, Tryz.ntmps39
    go_wp2_with fail
    rw [← HW.out, ← HP.out]
    go_loopw [4] (fun iv wr => ∃ k : Nat, k ≤ n ∧ iv = .int .i64 k ∧ Hid (ckFr bs 0 = ckFr bs k) ∧ Hid (Below W.heap.size W wr)) (fun iv _ => n - (intOf iv).toNat)
    case atStart => exact ⟨0, Nat.zero_le _, rfl, Lib.hid rfl, HBR⟩
    case round =>
      obtain ⟨k, hk, rfl, HK, HB⟩ := hrel
      clear c0
      by_cases hlt : k < n
      · have hav0 := HH.out.at hlt
        obtain ⟨b, o, aa, ac, hao, hbB, hkl, hvs, hts, hnil, hav, hc⟩ := hav0
        have HER := Lib.hid (ckFr_er (l := bs) hkl); have HAT := Lib.hid (ckFr_at (l := bs) hkl); have HST0 := Lib.hid (ckFr_st (l := bs) hkl)
        subst hao
        obtain ⟨a0, a1, a2, a3, a4, a5⟩ := six_cells (hc wr (HB.out.mono HBB.out))
        have SN := Lib.hid (fun h => HST0.out (st_nm (l := bs) (k := k) h)); have SR := Lib.hid (fun h => HST0.out (st_ris (l := bs) (k := k) h))
        have HST1 := HST0
        have SY := Lib.hid (st_yes (l := bs) (k := k))
        have RN := Lib.hid (fun p (hp : k = p + 1) => show cbV bs[k]! bs[p]! ≤ 0 → risB bs k = false from by subst hp; exact ris_no)
        have RY := Lib.hid (fun p (hp : k = p + 1) => show ¬ cbV bs[k]! bs[p]! ≤ 0 → risB bs k = true from by subst hp; exact ris_yes)
        have hnl := HN.out
        obtain ⟨x, hx⟩ : ∃ x, x = bs[k]! := ⟨_, rfl⟩
        rw [← hx] at a0 a1 a2 a3 a4 a5 hav hts hvs hc HER HAT SN SY RN RY
        rw [← hnl] at SN SY
        have HX := Lib.hid hx
        have HCX := Lib.hid hc
        have HC2 := Lib.hid (fun u (hu : Below W.heap.size W u) => r4Check_any x.ev B aa _ ac u (hav.below hu HBB.out) (Nat.le_trans HBB.out hu.size) hts)
        unfold evV at HC2
        have e1 : IntKind.i64.wrap ((k : Int) + 1) = (k : Int) + 1 := IntWalk.i64_in _ (by have := HN63.out; omega)
        have hkn' : (k : Int) < (n : Int) := by omega
        have hk0 : (0 : Int) ≤ (k : Int) := by omega
        have C1 : ∀ u, Calls Tryz.prog 67 #[.string x.var] u fun e w' => e = .returned (.bool (nameB x.var.data.toList)) ∧ w' = u := fun u => (r3Name_any x.var u hvs).mono fun _ _ h => ⟨h.1, h.2.symm⟩
        clear hc hx hkl hav hts hvs hnil hnl
        cases hnm : nameB x.var.data.toList with
        | false =>
          rw [hnm] at C1
          by_cases h1 : n = 1
          · by_cases h2 : x.var.data.toList = []
            · have HNM := Lib.hid (nm_one (x := x) h1 h2)
              obtain rfl : k = 0 := by omega
              have g7 : ((n : Int) == 1) = true := by rw [h1]; rfl
              have g8 : ((n : Int) != 1) = false := by rw [h1]; rfl
              clear h1
              have HSY0 := Lib.hid (SY.out HNM.out (ris_zero _))
              have g1 : x.var.toList = [] := by rw [Lib.toList_data]; exact h2
              have g2 : (x.var.toList == []) = true := by rw [g1]; rfl
              have g3 : (x.var.toList != []) = false := by rw [g1]; rfl
              have g4 : x.var.toList.isEmpty = true := by rw [g1]; rfl
              clear hnm h2
              simp only [Nat.zero_mul, Nat.add_zero] at a0 a1 a2 a3 a4 a5
              go_wp2_with fail
              go_quiet ((go_at_call 67; exact Calls.quiet_of_same (C1 _)))
              clear C1
              go_wp2_with fail
              go_loopw [5] (fun jv wi => ∃ j : Nat, j ≤ 0 ∧ jv = .int .i64 j ∧ Hid (∀ o ∈ bs.take j, idE o x = false) ∧ Hid (Below W.heap.size W wi)) (fun jv _ => 0 - (intOf jv).toNat)
              case atStart => exact ⟨0, Nat.zero_le _, rfl, Lib.hid (fun o ho => by simp at ho), Lib.hid (Below.drewN' HB.out _)⟩
              case round =>
                obtain ⟨j, hj, rfl, HJ, HBI⟩ := hrel
                by_cases hjk : j < 0
                · exact absurd hjk (Nat.not_lt_zero _)
                · obtain rfl : j = 0 := by omega
                  have HSY := Lib.hid (HSY0.out (frs_all (l := bs) (k := 0) (fun o ho => by rw [← HX.out]; exact HJ.out o ho)))
                  obtain ⟨f0, f1, f2, f3, f4, f5⟩ := six_cells (HCX.out _ (HBI.out.mono HBB.out))
                  simp only [Nat.zero_mul, Nat.add_zero] at f0 f1 f2 f3 f4 f5
                  have HC2 := Lib.hid (HC2.out _ HBI.out)
                  generalize ckE x.ev = ce at HC2 HER HAT
                  by_cases hz : ce = 0
                  · subst hz
                    have HR := Lib.hid (HAT.out HSY.out rfl)
                    go_wp2_with (go_at_call 68; (with_reducible refine (HC2.out).mono ?_); rintro e w2 ⟨rfl, hb⟩; have HB2 := Lib.hid (HBI.out.trans (hb.mono HBI.out.size)); clear hb)
                    go_roundw
                    case rel => exact ⟨1, by omega, rfl, Lib.hid HR.out, HB2⟩
                    case measure => simp [intOf]; omega
                  · have HR := Lib.hid (HER.out HSY.out hz)
                    have hz1 : (ce == 0) = false := beq_eq_false_iff_ne.2 hz
                    have hz2 : (ce != 0) = true := by simp [hz]
                    go_wp2_with (go_at_call 68; (with_reducible refine (HC2.out).mono ?_); rintro e w2 ⟨rfl, hb⟩; have HB2 := Lib.hid (HBI.out.trans (hb.mono HBI.out.size)); clear hb)
                    go_ret
                    exact ⟨ret_int0 HR.out.symm, HB0.out.trans (HB2.out.mono HPS.out)⟩
            · have HST := Lib.hid (SN.out (nm_no hnm (fun h => h2 h.2)))
              have g1 : ¬ x.var.toList = [] := by rw [Lib.toList_data]; exact h2
              have g2 : (x.var.toList == []) = false := by simp [g1]
              have g3 : (x.var.toList != []) = true := by simp [g1]
              have g4 : x.var.toList.isEmpty = false := by simp [g1]
              have g7 : ((n : Int) == 1) = true := by rw [h1]; rfl
              have g8 : ((n : Int) != 1) = false := by rw [h1]; rfl
              clear h1
              clear hnm h2
              go_wp2_with fail
              go_quiet ((go_at_call 67; exact Calls.quiet_of_same (C1 _)))
              go_wp2
              go_ret
              exact ⟨ret_int0 (HK.out.trans HST.out).symm, HB0.out.trans ((Below.drewN' HB.out _).mono HPS.out)⟩
          · have HST := Lib.hid (SN.out (nm_no hnm (fun h => h1 h.1)))
            have g1 : ((n : Int) == 1) = false := by simp; omega
            have g2 : ((n : Int) != 1) = true := by simp; omega
            clear hnm
            cases h2 : x.var.toList.isEmpty with
            | true =>
              have g3 : x.var.toList = [] := by simpa using h2
              have g4 : (x.var.toList == []) = true := by rw [g3]; rfl
              have g5 : (x.var.toList != []) = false := by rw [g3]; rfl
              go_wp2_with fail
              go_quiet ((go_at_call 67; exact Calls.quiet_of_same (C1 _)))
              go_wp2
              go_ret
              exact ⟨ret_int0 (HK.out.trans HST.out).symm, HB0.out.trans ((Below.drewN' HB.out _).mono HPS.out)⟩
            | false =>
              have g3 : ¬ x.var.toList = [] := by simpa using h2
              have g4 : (x.var.toList == []) = false := by simp [g3]
              have g5 : (x.var.toList != []) = true := by simp [g3]
              go_wp2_with fail
              go_quiet ((go_at_call 67; exact Calls.quiet_of_same (C1 _)))
              go_wp2
              go_ret
              exact ⟨ret_int0 (HK.out.trans HST.out).symm, HB0.out.trans ((Below.drewN' HB.out _).mono HPS.out)⟩
        | true =>
          rw [hnm] at C1
          have HNM := Lib.hid (nm_yes (n := n) hnm)
          clear hnm
          by_cases hk00 : k = 0
          · subst hk00
            have HSY0 := Lib.hid (SY.out HNM.out (ris_zero _))
            simp only [Nat.zero_mul, Nat.add_zero] at a0 a1 a2 a3 a4 a5
            go_wp2_with fail
            go_quiet ((go_at_call 67; exact Calls.quiet_of_same (C1 _)))
            clear C1
            go_wp2_with fail
            go_loopw [5] (fun jv wi => ∃ j : Nat, j ≤ 0 ∧ jv = .int .i64 j ∧ Hid (∀ o ∈ bs.take j, idE o x = false) ∧ Hid (Below W.heap.size W wi)) (fun jv _ => 0 - (intOf jv).toNat)
            case atStart => exact ⟨0, Nat.zero_le _, rfl, Lib.hid (fun o ho => by simp at ho), Lib.hid (Below.drewN' HB.out _)⟩
            case round =>
              obtain ⟨j, hj, rfl, HJ, HBI⟩ := hrel
              by_cases hjk : j < 0
              · exact absurd hjk (Nat.not_lt_zero _)
              · obtain rfl : j = 0 := by omega
                have HSY := Lib.hid (HSY0.out (frs_all (l := bs) (k := 0) (fun o ho => by rw [← HX.out]; exact HJ.out o ho)))
                obtain ⟨f0, f1, f2, f3, f4, f5⟩ := six_cells (HCX.out _ (HBI.out.mono HBB.out))
                simp only [Nat.zero_mul, Nat.add_zero] at f0 f1 f2 f3 f4 f5
                have HC2 := Lib.hid (HC2.out _ HBI.out)
                generalize ckE x.ev = ce at HC2 HER HAT
                by_cases hz : ce = 0
                · subst hz
                  have HR := Lib.hid (HAT.out HSY.out rfl)
                  go_wp2_with (go_at_call 68; (with_reducible refine (HC2.out).mono ?_); rintro e w2 ⟨rfl, hb⟩; have HB2 := Lib.hid (HBI.out.trans (hb.mono HBI.out.size)); clear hb)
                  go_roundw
                  case rel => exact ⟨1, by omega, rfl, Lib.hid HR.out, HB2⟩
                  case measure => simp [intOf]; omega
                · have HR := Lib.hid (HER.out HSY.out hz)
                  have hz1 : (ce == 0) = false := beq_eq_false_iff_ne.2 hz
                  have hz2 : (ce != 0) = true := by simp [hz]
                  go_wp2_with (go_at_call 68; (with_reducible refine (HC2.out).mono ?_); rintro e w2 ⟨rfl, hb⟩; have HB2 := Lib.hid (HBI.out.trans (hb.mono HBI.out.size)); clear hb)
                  go_ret
                  exact ⟨ret_int0 HR.out.symm, HB0.out.trans (HB2.out.mono HPS.out)⟩
          · obtain ⟨p, rfl⟩ : ∃ p, k = p + 1 := ⟨k - 1, by omega⟩
            obtain ⟨b', o', _, _, he, _, _, _, _, _, _, hcy⟩ := HH.out.at (k := p) (by omega)
            simp only [Option.some.injEq, Addr.mk.injEq, and_true] at he
            obtain ⟨rfl, rfl⟩ := he
            have p0 : wr.cell? ⟨b, o + p * 6, none⟩ = some (.string bs[p]!.var) := hcy wr (HB.out.mono HBB.out) 0 _ rfl
            have hle := leq_at (a := x.var) (b := bs[p]!.var) rfl
            have hcv : cbV x bs[p]! = Lib.compareBytes x.var.data.toList bs[p]!.var.data.toList := rfl
            have RN1 := Lib.hid (RN.out p rfl); have RY1 := Lib.hid (RY.out p rfl)
            generalize bs[p]! = y at p0 hle hcv RN1 RY1
            have e2 : IntKind.i64.wrap (((p + 1 : Nat) : Int) - 1) = (p : Int) := by rw [show ((p + 1 : Nat) : Int) - 1 = (p : Int) by omega]; exact IntWalk.i64_in _ (by have := HN63.out; omega)
            have hp0 : (0 : Int) ≤ (p : Int) := by omega
            have hpn : (p : Int) < (n : Int) := by omega
            by_cases hlec : cbV x y ≤ 0
            · have HST := Lib.hid (SR.out (RN1.out hlec))
              have hr := cb_range x.var.data.toList y.var.data.toList
              rw [hcv] at hlec
              obtain ⟨hl1, hl2⟩ := hle
              generalize Lib.compareBytes x.var.data.toList y.var.data.toList = c at hl1 hl2 hlec hr
              have hc3 : c = -1 ∨ c = 0 := by omega
              clear hlec hr hk00 hcy hcv
              rcases hc3 with rfl | rfl
              all_goals
                simp only [show decide ((-1 : Int) < 0) = true from rfl, show decide ((0 : Int) < 0) = false from rfl, show decide ((-1 : Int) = 0) = false from rfl] at hl1 hl2
                go_wp2_with fail
                go_quiet ((go_at_call 67; exact Calls.quiet_of_same (C1 _)))
                go_wp2
                go_ret
                exact ⟨ret_int0 (HK.out.trans HST.out).symm, HB0.out.trans ((Below.drewN' HB.out _).mono HPS.out)⟩
            · have HSY0 := Lib.hid (SY.out HNM.out (RY1.out (by first | exact hlec | omega)))
              rw [hcv] at hlec
              obtain ⟨hl1, hl2⟩ := hle
              rw [decide_eq_false (by omega)] at hl1 hl2
              clear hlec hk00 hcy hcv
              go_wp2_with fail
              go_quiet ((go_at_call 67; exact Calls.quiet_of_same (C1 _)))
              clear C1
              go_wp2_with fail
              go_loopw [5] (fun jv wi => ∃ j : Nat, j ≤ (p + 1) ∧ jv = .int .i64 j ∧ Hid (∀ o ∈ bs.take j, idE o x = false) ∧ Hid (Below W.heap.size W wi)) (fun jv _ => (p + 1) - (intOf jv).toNat)
              case atStart => exact ⟨0, Nat.zero_le _, rfl, Lib.hid (fun o ho => by simp at ho), Lib.hid (Below.drewN' HB.out _)⟩
              case round =>
                obtain ⟨j, hj, rfl, HJ, HBI⟩ := hrel
                by_cases hjk : j < (p + 1)
                · obtain ⟨b', o', aa', ac', he, _, hjl, _, _, _, _, hcy⟩ := HH.out.at (k := j) (by omega)
                  simp only [Option.some.injEq, Addr.mk.injEq, and_true] at he
                  obtain ⟨rfl, rfl⟩ := he
                  obtain ⟨d0, d1, d2, d3, d4, d5⟩ := six_cells (hcy _ (HBI.out.mono HBB.out))
                  obtain ⟨f0, f1, f2, f3, f4, f5⟩ := six_cells (HCX.out _ (HBI.out.mono HBB.out))
                  have HFA := Lib.hid (fun h => HST1.out (st_no (frs_at (l := bs) (k := (p + 1)) hjk hjl (by rw [← HX.out]; exact h))))
                  have HTJ := Lib.hid (take_one hjl)
                  have hij : (j : Int) < (n : Int) := by omega
                  have hj0 : (0 : Int) ≤ (j : Int) := by omega
                  generalize bs[j]! = y at d0 d1 d2 d3 d4 d5 HFA HTJ
                  have e5 := idEq_run y.ev.src y.ev.seq x.ev.src x.ev.seq
                  have g5 := fun op a b => idGuard op a b y.ev.src y.ev.seq x.ev.src x.ev.seq
                  rw [show (decide (y.ev.src = x.ev.src) && decide (y.ev.seq = x.ev.seq)) = idE y x from rfl] at e5
                  have e6 : IntKind.i64.wrap ((j : Int) + 1) = (j : Int) + 1 := IntWalk.i64_in _ (by have := HN63.out; omega)
                  clear hcy hjl
                  cases hid : idE y x with
                  | true =>
                    rw [hid] at e5
                    have HR := Lib.hid (HFA.out hid)
                    clear hid
                    go_wp2_with fail
                    go_quiet (fail)
                    go_wp2
                    go_ret
                    exact ⟨ret_int0 (HK.out.trans HR.out).symm, HB0.out.trans ((Below.drewN' HBI.out _).mono HPS.out)⟩
                  | false =>
                    rw [hid] at e5
                    have HR := Lib.hid hid
                    clear hid
                    go_wp2_with fail
                    go_quiet (fail)
                    go_wp2
                    go_roundw
                    case rel => exact ⟨j + 1, by omega, by go_num, Lib.hid (fun o ho => by rw [HTJ.out] at ho; rcases List.mem_append.1 ho with ho | ho; exact HJ.out o ho; rw [List.mem_singleton.1 ho]; exact HR.out), Lib.hid (Below.drewN' HBI.out _)⟩
                    case measure => simp [intOf]; omega
                · obtain rfl : j = p + 1 := by omega
                  have HSY := Lib.hid (HSY0.out (frs_all (l := bs) (k := (p + 1)) (fun o ho => by rw [← HX.out]; exact HJ.out o ho)))
                  obtain ⟨f0, f1, f2, f3, f4, f5⟩ := six_cells (HCX.out _ (HBI.out.mono HBB.out))
                  try simp only [Nat.zero_mul, Nat.add_zero] at f0 f1 f2 f3 f4 f5
                  have HC2 := Lib.hid (HC2.out _ HBI.out)
                  generalize ckE x.ev = ce at HC2 HER HAT
                  by_cases hz : ce = 0
                  · subst hz
                    have HR := Lib.hid (HAT.out HSY.out rfl)
                    go_wp2_with (go_at_call 68; (with_reducible refine (HC2.out).mono ?_); rintro e w2 ⟨rfl, hb⟩; have HB2 := Lib.hid (HBI.out.trans (hb.mono HBI.out.size)); clear hb)
                    go_roundw
                    case rel => exact ⟨(p + 1) + 1, by omega, by go_num, Lib.hid (HK.out.trans HR.out), HB2⟩
                    case measure => simp [intOf]; omega
                  · have HR := Lib.hid (HER.out HSY.out hz)
                    have hz1 : (ce == 0) = false := beq_eq_false_iff_ne.2 hz
                    have hz2 : (ce != 0) = true := by simp [hz]
                    go_wp2_with (go_at_call 68; (with_reducible refine (HC2.out).mono ?_); rintro e w2 ⟨rfl, hb⟩; have HB2 := Lib.hid (HBI.out.trans (hb.mono HBI.out.size)); clear hb)
                    go_ret
                    exact ⟨ret_int0 (HK.out.trans HR.out).symm, HB0.out.trans (HB2.out.mono HPS.out)⟩
      · have HR := Lib.hid (ckFr_end (l := bs) (k := k) (by rw [← HN.out]; exact hlt))
        go_wp2
        go_ret
        exact ⟨ret_int0 (HK.out.trans HR.out).symm, HB0.out.trans (HB.out.mono HPS.out)⟩
end Go.Proofs.YtcnecokamckfaaaGreatDoor
