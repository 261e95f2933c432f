/- Contract: whether a bound may stand where it does. -/
import Derived.Test.YtiinljljbjjaeaaGreatDoorMs0
namespace Go.Proofs.YtiinljljbjjaeaaGreatDoor
open Go Go.RowKit

theorem nm_no {n : Nat} {x : Bd} (h : nameB x.var.data.toList = false) (h1 : ¬ (n = 1 ∧ x.var.data.toList = [])) : nmB n x = false := by
  unfold nmB
  rw [h, Bool.false_or, Bool.and_eq_false_iff, decide_eq_false_iff_not, decide_eq_false_iff_not]
  by_cases he : x.var.data.toList = []
  · exact .inr fun e => h1 ⟨e, he⟩
  · exact .inl he
theorem nm_yes {n : Nat} {x : Bd} (h : nameB x.var.data.toList = true) : nmB n x = true := by unfold nmB; rw [h]; rfl
theorem nm_one {n : Nat} {x : Bd} (h1 : n = 1) (h2 : x.var.data.toList = []) : nmB n x = true := by
  unfold nmB; rw [decide_eq_true h1, decide_eq_true h2, Bool.and_self, Bool.or_true]
theorem st_nm {l : List Bd} {k : Nat} (h : nmB l.length l[k]! = false) : stB l k = false := by unfold stB; rw [h]; rfl
theorem st_ris {l : List Bd} {k : Nat} (h : risB l k = false) : stB l k = false := by unfold stB; rw [h, Bool.false_and, Bool.and_false]
theorem st_frs {l : List Bd} {k : Nat} (h : nmB l.length l[k]! = true) (h1 : risB l k = true) : stB l k = !((l.take k).any fun o => idE o l[k]!) := by unfold stB frsB; rw [h, h1]; rfl
theorem ris_zero (l : List Bd) : risB l 0 = true := rfl
theorem ris_no {l : List Bd} {p : Nat} (h : cbV l[p + 1]! l[p]! ≤ 0) : risB l (p + 1) = false := by unfold risB; rw [Nat.add_sub_cancel, decide_eq_true h]; simp
theorem ris_yes {l : List Bd} {p : Nat} (h : ¬ cbV l[p + 1]! l[p]! ≤ 0) : risB l (p + 1) = true := by unfold risB; rw [Nat.add_sub_cancel, decide_eq_false h]; simp

set_option maxRecDepth 100000 in
set_option maxHeartbeats 6400000 in
theorem mMayStand_any (k B : Nat) (ao : Option Addr) (n cap : Nat) (bs : List Bd) (w : World) (h : BsV w B (.slice ao n cap) bs) (hB : B ≤ w.heap.size) (hk : k < n) :
    Calls Tryz.prog 65 #[.slice ao n cap, .int .i64 (k : Int)] w fun e w' => e = .returned (.bool (stB bs k)) ∧ Below w.heap.size w w' := by
  obtain ⟨hn, hn63, hnc, hc63, _, hn80⟩ := h.num
  have HT := Lib.hid (h.take (k := k) (Nat.le_of_lt hk))
  have HS := Lib.hid (fun p (hp : p < n) => h.at hp)
  obtain ⟨b, o, aa, ac, rfl, hbB, hkl, hvs, _, _, _, hc⟩ := h.at hk
  obtain ⟨a0, a1, a2, a3, a4, a5⟩ := six_cells (hc w (Below.refl _ _))
  have SN := Lib.hid (st_nm (l := bs) (k := k)); have SF := Lib.hid (st_frs (l := bs) (k := k)); have SR := Lib.hid (st_ris (l := bs) (k := k))
  have RN := Lib.hid (fun p (hp : k = p + 1) => show cbV bs[k]! bs[p]! ≤ 0 → risB bs k = false from by subst hp; exact ris_no)
  have RY := Lib.hid (fun p (hp : k = p + 1) => show ¬ cbV bs[k]! bs[p]! ≤ 0 → risB bs k = true from by subst hp; exact ris_yes)
  obtain ⟨x, hx⟩ : ∃ x, x = bs[k]! := ⟨_, rfl⟩
  rw [← hx] at a0 a1 a2 a3 a4 a5 hvs SN SF RN RY
  rw [← hn] at SN SF
  have hbw : b < w.heap.size := Nat.lt_of_lt_of_le hbB hB
  have hbne : b ≠ w.heap.size := by omega
  have CN := fun w => vName_any x.var w hvs
  obtain ⟨P, hP⟩ : ∃ P, P = w.heap.size := ⟨_, rfl⟩
  have HBO : Hid (Below P w (w.alloc (.cells #[.string x.var, .int .i64 x.ev.src, .int .i64 x.ev.seq, .int .i64 x.ev.time, .string x.ev.ty, .slice aa x.ev.ats.length ac] 54))) := by rw [hP]; exact (Below.refl _ _).alloc (Nat.le_refl _) _
  have HPX : Hid ((w.alloc (.cells #[.string x.var, .int .i64 x.ev.src, .int .i64 x.ev.seq, .int .i64 x.ev.time, .string x.ev.ty, .slice aa x.ev.ats.length ac] 54)).heap[P]? = some (.cells #[.string x.var, .int .i64 x.ev.src, .int .i64 x.ev.seq, .int .i64 x.ev.time, .string x.ev.ty, .slice aa x.ev.ats.length ac] 54 (0, 0))) := by rw [hP]; exact heap_alloc_new w _
  have HBB := Lib.hid hB; have HX := Lib.hid hx
  have hk0 : (0 : Int) ≤ (k : Int) := by omega
  have hkn : (k : Int) ≤ (cap : Int) := by omega
  have hkn' : (k : Int) < (n : Int) := by omega
  have nn0 := World.new_ne w ⟨b, o + k * 6, none⟩ a0; have nn1 := World.new_ne w ⟨b, o + k * 6 + 1, none⟩ a1; have nn2 := World.new_ne w ⟨b, o + k * 6 + 2, none⟩ a2
  have nn3 := World.new_ne w ⟨b, o + k * 6 + 3, none⟩ a3; have nn4 := World.new_ne w ⟨b, o + k * 6 + 4, none⟩ a4; have nn5 := World.new_ne w ⟨b, o + k * 6 + 5, none⟩ a5
  have HP := Lib.hid hP
  rw [← hP]
  clear hc h hx hB hn hkl hvs hP
  go_enter Tryz.func65, Tryz.ntmps65
  go_wp2_with fail
  go_region_held3 (fun w' => w'.cell? ⟨b, o + k * 6, none⟩ = some (.string x.var) ∧ w'.cell? ⟨b, o + k * 6 + 1, none⟩ = some (.int .i64 x.ev.src) ∧ w'.cell? ⟨b, o + k * 6 + 2, none⟩ = some (.int .i64 x.ev.seq) ∧ w'.cell? ⟨b, o + k * 6 + 3, none⟩ = some (.int .i64 x.ev.time) ∧ w'.cell? ⟨b, o + k * 6 + 4, none⟩ = some (.string x.ev.ty) ∧ w'.cell? ⟨b, o + k * 6 + 5, none⟩ = some (.slice aa x.ev.ats.length ac)) (first | exact ⟨a0, a1, a2, a3, a4, a5⟩ | go_keep) (fail)
  obtain ⟨W, hW⟩ : ∃ W, W = (w.alloc (.cells #[.string x.var, .int .i64 x.ev.src, .int .i64 x.ev.seq, .int .i64 x.ev.time, .string x.ev.ty, .slice aa x.ev.ats.length ac] 54)).drew := ⟨_, rfl⟩
  rw [← hW, ← HP.out]
  have hPW : W.heap[P]? = some (.cells #[.string x.var, .int .i64 x.ev.src, .int .i64 x.ev.seq, .int .i64 x.ev.time, .string x.ev.ty, .slice aa x.ev.ats.length ac] 54 (0, 0)) := by rw [hW]; exact HPX.out
  have HBW : Hid (Below P w W) := by rw [hW]; exact HBO.out.drew
  have HW := Lib.hid hW
  have HCC := Lib.hid (fun q => ContainsBd_any P x (.slice aa x.ev.ats.length ac) B _ k cap (bs.take k) (W.drewN q) (HT.out.below (Below.drewN' HBW.out q) (by have := HBB.out; have := HP.out; omega)) (show B ≤ W.heap.size by have := HBB.out; have := HP.out; have := HBW.out.size; omega) hPW)
  have HPS : Hid (P ≤ W.heap.size) := Lib.hid (by have := HBW.out.size; have := HP.out; omega)
  have hPlt := lt_of_block hPW
  obtain ⟨c0, c1, c2, c3, c4, c5⟩ := cells_six hPW
  clear hW hPW a0 a1 a2 a3 a4 a5 nn0 nn1 nn2 nn3 nn4 nn5 hbne
  generalize hany : ((bs.take k).any fun o => idE o x) = r at HCC SF
  clear hany
  cases hnm : nameB x.var.data.toList with
  | false =>
    rw [hnm] at CN
    have HCN := Lib.hid CN
    by_cases h1 : n = 1
    · by_cases h2 : x.var.data.toList = []
      · have HNM := Lib.hid (nm_one (x := x) h1 h2)
        subst h1
        obtain rfl : k = 0 := by omega
        have HST := Lib.hid (SF.out HNM.out (ris_zero _))
        have g1 : x.var.toList = [] := by rw [Lib.toList_data]; exact h2
        have g2 : (x.var.toList == []) = true := by rw [g1]; rfl
        have g3 : x.var.toList.isEmpty = true := by rw [g1]; rfl
        clear CN hnm h2
        go_wp2_with (go_at_call 90; (with_reducible refine (HCN.out _).mono ?_); rintro e w1 ⟨rfl, rfl⟩)
        go_quiet (fail)
        go_wp2_with (go_at_call 91; (with_reducible refine (HCC.out _).mono ?_); rintro e w1 ⟨rfl, hb⟩; have HB1 := Lib.hid hb; clear hb)
        go_ret
        exact ⟨ret_bool0 HST.out.symm, (Below.drewN' HBW.out _).trans (HB1.out.mono HPS.out)⟩
      · have HST := Lib.hid (SN.out (nm_no hnm (fun h => h2 h.2)))
        have g1 : ¬ x.var.toList = [] := by rw [Lib.toList_data]; exact h2
        have g2 : (x.var.toList == []) = false := by simp [g1]
        have g3 : x.var.toList.isEmpty = false := by simp [g1]
        subst h1
        clear CN hnm h2
        go_wp2_with (go_at_call 90; (with_reducible refine (HCN.out _).mono ?_); rintro e w1 ⟨rfl, rfl⟩)
        go_ret
        exact ⟨ret_bool0 HST.out.symm, HBW.out⟩
    · have HST := Lib.hid (SN.out (nm_no hnm (fun h => h1 h.1)))
      have g1 : ((n : Int) == 1) = false := by simp; omega
      clear CN hnm
      go_wp2_with (go_at_call 90; (with_reducible refine (HCN.out _).mono ?_); rintro e w1 ⟨rfl, rfl⟩)
      go_ret
      exact ⟨ret_bool0 HST.out.symm, HBW.out⟩
  | true =>
    rw [hnm] at CN
    have HCN := Lib.hid CN
    have HNM := Lib.hid (nm_yes (n := n) hnm)
    clear CN hnm
    by_cases hk00 : k = 0
    · subst hk00
      have HST := Lib.hid (SF.out HNM.out (ris_zero _))
      go_wp2_with (go_at_call 90; (with_reducible refine (HCN.out _).mono ?_); rintro e w1 ⟨rfl, rfl⟩)
      go_quiet (fail)
      go_wp2_with (go_at_call 91; (with_reducible refine (HCC.out _).mono ?_); rintro e w1 ⟨rfl, hb⟩; have HB1 := Lib.hid hb; clear hb)
      go_ret
      exact ⟨ret_bool0 HST.out.symm, (Below.drewN' HBW.out _).trans (HB1.out.mono HPS.out)⟩
    · obtain ⟨p, rfl⟩ : ∃ p, k = p + 1 := ⟨k - 1, by omega⟩
      obtain ⟨b', o', _, _, he, _, _, _, _, _, _, hcy⟩ := HS.out p (by omega)
      simp only [Option.some.injEq, Addr.mk.injEq, and_true] at he
      obtain ⟨rfl, rfl⟩ := he
      have p0 : W.cell? ⟨b, o + p * 6, none⟩ = some (.string bs[p]!.var) := hcy W (HBW.out.mono (by have := HBB.out; have := HP.out; omega)) 0 _ rfl
      have hle := leq_at (a := x.var) (b := bs[p]!.var) rfl
      have hcv : cbV x bs[p]! = Lib.compareBytes x.var.data.toList bs[p]!.var.data.toList := rfl
      have RN1 := Lib.hid (RN.out p rfl); have RY1 := Lib.hid (RY.out p rfl)
      generalize bs[p]! = y at p0 hle hcv RN1 RY1
      by_cases hlec : cbV x y ≤ 0
      · have HST := Lib.hid (SR.out (RN1.out hlec))
        have hr := cb_range x.var.data.toList y.var.data.toList
        rw [hcv] at hlec
        obtain ⟨hl1, hl2⟩ := hle
        generalize Lib.compareBytes x.var.data.toList y.var.data.toList = c at hl1 hl2 hlec hr
        have hc3 : c = -1 ∨ c = 0 := by omega
        clear hlec hr hk00 hcy hcv
        rcases hc3 with rfl | rfl
        all_goals
          simp only [show decide ((-1 : Int) < 0) = true from rfl, show decide ((0 : Int) < 0) = false from rfl, show decide ((-1 : Int) = 0) = false from rfl] at hl1 hl2
          go_wp2_with (go_at_call 90; (with_reducible refine (HCN.out _).mono ?_); rintro e w1 ⟨rfl, rfl⟩)
          go_quiet (fail)
          go_wp2
          go_ret
          exact ⟨ret_bool0 HST.out.symm, Below.drewN' HBW.out _⟩
      · have HST := Lib.hid (SF.out HNM.out (RY1.out (by first | exact hlec | omega)))
        rw [hcv] at hlec
        obtain ⟨hl1, hl2⟩ := hle
        rw [decide_eq_false (by omega)] at hl1 hl2
        clear hlec hk00 hcy hcv
        go_wp2_with (go_at_call 90; (with_reducible refine (HCN.out _).mono ?_); rintro e w1 ⟨rfl, rfl⟩)
        go_quiet (fail)
        go_wp2_with (go_at_call 91; (with_reducible refine (HCC.out _).mono ?_); rintro e w1 ⟨rfl, hb⟩; have HB1 := Lib.hid hb; clear hb)
        go_ret
        exact ⟨ret_bool0 HST.out.symm, (Below.drewN' HBW.out _).trans (HB1.out.mono HPS.out)⟩
end Go.Proofs.YtiinljljbjjaeaaGreatDoor
