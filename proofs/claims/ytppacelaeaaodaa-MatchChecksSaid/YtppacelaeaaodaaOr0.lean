/- Contracts: the document's Of and Compare. -/
import Derived.Test.YtppacelaeaaodaaOf0
import Derived.Test.YtppacelaeaaodaaCr0
import Derived.Test.YtppacelaeaaodaaRc0
import Derived.Test.YtppacelaeaaodaaCe0
namespace Go.Proofs.Ytppacelaeaaodaa
open Go Go.RowKit

/-- One bound as a row of the call's own. -/
theorem BsO.single {w : World} {g base : Nat} {x : Bd} {aa : Option Addr} {ac : Nat} (hg : w.heap[g]? = some (.cells #[.string x.var, .int .i64 x.ev.src, .int .i64 x.ev.seq, .int .i64 x.ev.time, .string x.ev.ty, .slice aa x.ev.ats.length ac] 39 (0, 0))) (hb : base ≤ g) (h : OwA w base (.slice aa x.ev.ats.length ac) x.ev.ats) (hv : x.var.size ≤ maxLen) (ht : x.ev.ty.size ≤ maxLen) : BsO w base (.slice (some ⟨g, 0, none⟩) 1 1) [x] :=
  ⟨fun y hy => by rw [List.mem_singleton] at hy; subst hy; exact ⟨hv, ht⟩, by simp, encB x (.slice aa x.ev.ats.length ac), ⟨rfl, .inr ⟨g, 1, _, rfl, hb, hg, Nat.le_refl _, by unfold maxLen; omega, rfl, rfl⟩⟩, RwL.single h⟩

set_option maxRecDepth 100000 in
set_option maxHeartbeats 3200000 in
theorem r10Of_any (x : Bd) (B : Nat) (aa : Option Addr) (n ac : Nat) (w : World) (h : Av w B (.slice aa n ac) x.ev.ats) (hnil : aa = none → ac = 0) (hB : B ≤ w.heap.size) (hv : x.var.size ≤ maxLen) (ht : x.ev.ty.size ≤ maxLen) :
    Calls Try.prog 12 #[.string x.var, evV x.ev (.slice aa n ac)] w fun e w' => ∃ v', e = .returned (.tuple #[.agg #[v'], .int .i64 (ckP [x])]) ∧ BsO w' w.heap.size v' (ofL x) ∧ Below w.heap.size w w' := by
  obtain ⟨rfl, _⟩ := h.num
  obtain ⟨P, hP⟩ : ∃ P, P = w.heap.size := ⟨_, rfl⟩
  obtain ⟨W, hW⟩ : ∃ W, W = (w.alloc (.cells #[.int .i64 x.ev.src, .int .i64 x.ev.seq, .int .i64 x.ev.time, .string x.ev.ty, .slice aa x.ev.ats.length ac] 29)).alloc (.cells #[.slice none 0 0] 24) := ⟨_, rfl⟩
  have HB0 : Hid (Below P w W) := by rw [hW, hP]; exact ((Below.refl _ _).alloc (Nat.le_refl _) _).alloc (by simp) _
  have h1 : W.heap[P + 1]? = some (.cells #[.slice none 0 0] 24 (0, 0)) := by rw [hW, hP]; exact heap_alloc_at (by simp) rfl
  have hWs := lt_of_block h1
  have HX1 := Lib.hid (fun u (hu : Below W.heap.size W u) => (hu.block (P + 1) hWs).trans h1)
  have HPS : Hid (P ≤ W.heap.size) := Lib.hid (by omega)
  have HCE := Lib.hid (r4Clone_any x.ev B aa _ ac W (h.below HB0.out (by omega)) hnil (by omega))
  have HWA := Lib.hid h.wide; have HLA := Lib.hid h.len; have HV := Lib.hid hv; have HT := Lib.hid ht
  have HY := Lib.hid (ofL_yes (x := x)); have HN := Lib.hid (ofL_no (x := x))
  have HCK := Lib.hid (fun (u : World) (base : Nat) (v : Value) ao c (h : v = .slice ao 1 c) (ho : BsO u base v [x]) => r10Check_any u.heap.size ao 1 c [x] u (by rw [← h]; exact ho.bsv) (Nat.le_refl _))
  have HW := Lib.hid hW; have HP := Lib.hid hP
  unfold evV at HCE ⊢
  rw [← hP]
  clear h1 hWs h hnil hB hv ht hW hP
  generalize ckP [x] = c at HCK HY HN ⊢
  go_enter Try.func12, Try.ntmps12
  go_wp2_with fail
  rw [← HP.out, ← HW.out]
  (with_reducible refine HCE.out.mono ?_)
  rintro e w1 ⟨v3, rfl, ho, hb1⟩
  obtain ⟨ao3, c3, rfl⟩ := own_slice ho
  have ha1 : OwA w1 P (.slice ao3 x.ev.ats.length c3) x.ev.ats := ⟨own_lower0 ho HPS.out, HWA.out, HLA.out⟩
  obtain ⟨W2, hW2⟩ : ∃ W2, W2 = (w1.alloc (.cells #[.string x.var, .int .i64 x.ev.src, .int .i64 x.ev.seq, .int .i64 x.ev.time, .string x.ev.ty, .slice ao3 x.ev.ats.length c3] 39)).alloc (.cells #[.slice (some ⟨w1.heap.size, 0, none⟩) 1 1] 24) := ⟨_, rfl⟩
  have hb2 : Below w1.heap.size w1 W2 := by rw [hW2]; exact ((Below.refl _ _).alloc (Nat.le_refl _) _).alloc (by simp) _
  have g1 : W2.heap[w1.heap.size]? = some (.cells #[.string x.var, .int .i64 x.ev.src, .int .i64 x.ev.seq, .int .i64 x.ev.time, .string x.ev.ty, .slice ao3 x.ev.ats.length c3] 39 (0, 0)) := by rw [hW2]; exact heap_alloc_keeps (heap_alloc_new _ _) _
  have g2 : W2.heap[w1.heap.size + 1]? = some (.cells #[.slice (some ⟨w1.heap.size, 0, none⟩) 1 1] 24 (0, 0)) := by rw [hW2]; exact heap_alloc_at (by simp) rfl
  have hs2 := lt_of_block g2
  have hP1 : P ≤ w1.heap.size := Nat.le_trans HPS.out hb1.size
  have ho2 : BsO W2 P (.slice (some ⟨w1.heap.size, 0, none⟩) 1 1) [x] := BsO.single g1 hP1 (ha1.call hb2) HV.out HT.out
  have HO2 := Lib.hid ho2
  have HB2 := Lib.hid (hb1.trans (hb2.mono hb1.size))
  have HG2 := Lib.hid (fun u (hu : Below W2.heap.size W2 u) => cells_one0 ((hu.block _ hs2).trans g2))
  have HCC := Lib.hid (HCK.out W2 P _ _ _ rfl ho2)
  have k2 := cells_one0 g2
  rw [hW2] at k2
  have HW2 := Lib.hid hW2
  clear ho hb1 hb2 g1 g2 hs2 hP1 ho2 hW2 ha1 HCK
  go_wp2_with fail
  rw [← HW2.out]
  clear k2
  by_cases hc : c = 0
  · subst hc
    have HR := Lib.hid (HY.out rfl)
    (with_reducible refine HCC.out.mono ?_)
    rintro e w3 ⟨rfl, hb3⟩
    have k3 := HG2.out _ hb3
    have hb13 := HB2.out.trans (hb3.mono HB2.out.size)
    have x1 := HX1.out _ hb13
    have d1 := cells_one0 x1
    have z1 : w3.frozen? ⟨P + 1, 0, none⟩ = false := by simp [World.frozen?, x1]
    have HS := Lib.hid (heap_setCell_same (k := 0) x1 (.slice (some ⟨w1.heap.size, 0, none⟩) 1 1))
    have HO := Lib.hid (BsO.setP (k := 0) (HO2.out.call hb3) x1 (.slice (some ⟨w1.heap.size, 0, none⟩) 1 1))
    have HBF := Lib.hid ((HB0.out.trans (hb13.mono HPS.out)).setCell (p := ⟨P + 1, 0, none⟩) (by show P ≤ P + 1; omega) (.slice (some ⟨w1.heap.size, 0, none⟩) 1 1))
    clear hb3 hb13 x1
    go_wp2
    have z := cells_one0 HS.out
    refine bodyPost_ret (v := .tuple #[.agg #[.slice (some ⟨w1.heap.size, 0, none⟩) 1 1], .int .i64 0]) (by simp [results, Try.results12, go_sem, z]) rfl ⟨_, rfl, ?_, HBF.out⟩
    rw [HR.out]; exact HO.out
  · have HR := Lib.hid (HN.out hc)
    have hz1 : (c == 0) = false := beq_eq_false_iff_ne.2 hc
    have hz2 : (c != 0) = true := by simp [hc]
    (with_reducible refine HCC.out.mono ?_)
    rintro e w3 ⟨rfl, hb3⟩
    have hb13 := HB2.out.trans (hb3.mono HB2.out.size)
    have x1 := HX1.out _ hb13
    have d1 := cells_one0 x1
    have z1 : w3.frozen? ⟨P + 1, 0, none⟩ = false := by simp [World.frozen?, x1]
    have HS := Lib.hid (heap_setCell_same (k := 0) x1 (.slice none 0 0))
    have HBF := Lib.hid ((HB0.out.trans (hb13.mono HPS.out)).setCell (p := ⟨P + 1, 0, none⟩) (by show P ≤ P + 1; omega) (.slice none 0 0))
    clear hb3 hb13 x1
    go_wp2
    have z := cells_one0 HS.out
    refine bodyPost_ret (v := .tuple #[.agg #[.slice none 0 0], .int .i64 c]) (by simp [results, Try.results12, go_sem, z]) rfl ⟨_, rfl, ?_, HBF.out⟩
    rw [HR.out]; exact BsO.nil _ _

theorem cmpBd_lt {x y : Bd} (h : cbV x y < 0) : cmpBd x y = -1 := by
  have := cb_range x.var.data.toList y.var.data.toList
  have e : cbV x y = -1 := by unfold cbV at h ⊢; omega
  unfold cmpBd; rw [e]; rfl
theorem cmpBd_gt {x y : Bd} (h : 0 < cbV x y) : cmpBd x y = 1 := by
  have := cb_range x.var.data.toList y.var.data.toList
  have e : cbV x y = 1 := by unfold cbV at h ⊢; omega
  unfold cmpBd; rw [e]; rfl
theorem cmpBd_eq {x y : Bd} (h : cbV x y = 0) : cmpBd x y = cmpID x.ev.src x.ev.seq y.ev.src y.ev.seq := by unfold cmpBd; rw [h]; rfl
set_option maxRecDepth 100000 in
set_option maxHeartbeats 6400000 in
theorem r10Compare_any (B C : Nat) (ao : Option Addr) (n cap : Nat) (ao2 : Option Addr) (n2 cap2 : Nat) (cs bs : List Bd) (w : World) (h1 : BsV w B (.slice ao n cap) cs) (h2 : BsV w C (.slice ao2 n2 cap2) bs) (hB : B ≤ w.heap.size) (hC : C ≤ w.heap.size) :
    Calls Try.prog 24 #[.agg #[.slice ao n cap], .agg #[.slice ao2 n2 cap2]] w fun e w' => e = .returned (.int .i64 (cmpL cs bs)) ∧ Below w.heap.size w w' := by
  have HN := Lib.hid h1.num.1; have HM := Lib.hid h2.num.1; have HN63 := Lib.hid h1.num.2.1
  obtain ⟨P, hP⟩ : ∃ P, P = w.heap.size := ⟨_, rfl⟩
  obtain ⟨W, hW⟩ : ∃ W, W = (w.alloc (.cells #[.slice ao n cap] 24)).alloc (.cells #[.slice ao2 n2 cap2] 24) := ⟨_, rfl⟩
  have HB0 : Hid (Below P w W) := by rw [hW, hP]; exact ((Below.refl _ _).alloc (Nat.le_refl _) _).alloc (by simp) _
  have hPW : W.heap[P]? = some (.cells #[.slice ao n cap] 24 (0, 0)) := by rw [hW, hP]; exact heap_alloc_keeps (heap_alloc_new w _) _
  have hQW : W.heap[P + 1]? = some (.cells #[.slice ao2 n2 cap2] 24 (0, 0)) := by rw [hW, hP]; exact heap_alloc_at (by simp) rfl
  have hWs : W.heap.size = P + 2 := by rw [hW, hP]; simp
  have HW := Lib.hid hW; have HP := Lib.hid hP
  have HPS : Hid (P ≤ W.heap.size) := Lib.hid (by omega)
  have HPX := Lib.hid (fun u (hu : Below W.heap.size W u) => And.intro (cells_one0 ((hu.block P (by omega)).trans hPW)) (cells_one0 ((hu.block (P + 1) (by omega)).trans hQW)))
  have H1 := Lib.hid (h1.below HB0.out (by omega)); have H2 := Lib.hid (h2.below HB0.out (by omega))
  have HBB : Hid (B ≤ W.heap.size) := Lib.hid (by omega); have HCC : Hid (C ≤ W.heap.size) := Lib.hid (by omega)
  have HBR : Hid (Below W.heap.size W W) := Lib.hid (Below.refl _ _)
  obtain ⟨c0, d0⟩ := HPX.out _ HBR.out
  rw [← hP]
  clear h1 h2 hB hC hP hW hPW hQW hWs
  go_enter Try.func24, Try.ntmps24
  go_wp2_with fail
  rw [← HW.out, ← HP.out]
  go_loopw [5] (fun iv wr => ∃ k : Nat, k ≤ n ∧ k ≤ n2 ∧ iv = .int .i64 k ∧ Hid (cmpL cs bs = cmpL (cs.drop k) (bs.drop k)) ∧ Hid (Below W.heap.size W wr)) (fun iv _ => n - (intOf iv).toNat)
  case atStart => exact ⟨0, Nat.zero_le _, Nat.zero_le _, rfl, Lib.hid rfl, HBR⟩
  case round =>
    obtain ⟨k, hk, hk2, rfl, HK, HB⟩ := hrel
    clear c0 d0
    obtain ⟨c0, d0⟩ := HPX.out _ HB.out
    have hk0 : (0 : Int) ≤ (k : Int) := by omega
    by_cases hlt : k < n
    · have hlt' : (k : Int) < (n : Int) := by omega
      have hlt2 := decide_eq_true hlt'
      by_cases hlm : k < n2
      · have hlm' : (k : Int) < (n2 : Int) := by omega
        have hlm2 := decide_eq_true hlm'
        obtain ⟨b, o, aa, ac, rfl, hbB, hkl, _, _, _, hav, hc⟩ := H1.out.at hlt
        obtain ⟨b2, o2, aa2, ac2, rfl, hbC, hkm, _, _, _, hav2, hc2⟩ := H2.out.at hlm
        obtain ⟨a0, a1, a2, a3, a4, a5⟩ := six_cells (hc _ (HB.out.mono HBB.out))
        have HGO := Lib.hid (cmpL_go (a := cs) (b := bs) hkl hkm); have HBAD := Lib.hid (cmpL_bad (a := cs) (b := bs) hkl hkm)
        obtain ⟨x, hx⟩ : ∃ x, x = cs[k]! := ⟨_, rfl⟩
        obtain ⟨y, hy⟩ : ∃ y, y = bs[k]! := ⟨_, rfl⟩
        rw [← hx] at a0 a1 a2 a3 a4 a5 HGO HBAD
        rw [← hy] at hc2 HGO HBAD
        have hBn := HB.out.alloc HB.out.size (.cells #[.string x.var, .int .i64 x.ev.src, .int .i64 x.ev.seq, .int .i64 x.ev.time, .string x.ev.ty, .slice aa x.ev.ats.length ac] 39)
        obtain ⟨y0, y1, y2, y3, y4, y5⟩ := six_cells (hc2 _ (hBn.mono HCC.out))
        obtain ⟨_, e0⟩ := HPX.out _ hBn
        have hBn2 := hBn.alloc hBn.size (.cells #[.string y.var, .int .i64 y.ev.src, .int .i64 y.ev.seq, .int .i64 y.ev.time, .string y.ev.ty, .slice aa2 y.ev.ats.length ac2] 39)
        obtain ⟨f0, f1, f2, f3, f4, f5⟩ := cells_six (heap_alloc_keeps (heap_alloc_new wr (.cells #[.string x.var, .int .i64 x.ev.src, .int .i64 x.ev.seq, .int .i64 x.ev.time, .string x.ev.ty, .slice aa x.ev.ats.length ac] 39)) (.cells #[.string y.var, .int .i64 y.ev.src, .int .i64 y.ev.seq, .int .i64 y.ev.time, .string y.ev.ty, .slice aa2 y.ev.ats.length ac2] 39))
        have hg := heap_alloc_new (wr.alloc (.cells #[.string x.var, .int .i64 x.ev.src, .int .i64 x.ev.seq, .int .i64 x.ev.time, .string x.ev.ty, .slice aa x.ev.ats.length ac] 39)) (.cells #[.string y.var, .int .i64 y.ev.src, .int .i64 y.ev.seq, .int .i64 y.ev.time, .string y.ev.ty, .slice aa2 y.ev.ats.length ac2] 39)
        rw [World.size_alloc] at hg
        obtain ⟨g0, g1, g2, g3, g4, g5⟩ := cells_six hg
        have HB2 := Lib.hid hBn2
        have e1 : IntKind.i64.wrap ((k : Int) + 1) = (k : Int) + 1 := IntWalk.i64_in _ (by have := HN63.out; omega)
        have hle := leq_at (a := x.var) (b := y.var) rfl
        have hlg := leq_at (a := y.var) (b := x.var) rfl
        have hcv : cbV x y = Lib.compareBytes x.var.data.toList y.var.data.toList := rfl
        have hsw : Lib.compareBytes y.var.data.toList x.var.data.toList = -Lib.compareBytes x.var.data.toList y.var.data.toList := cb_swap _ _
        have HC := Lib.hid (fun u => r4Compare_any x.ev.src x.ev.seq y.ev.src y.ev.seq u)
        have HQ := Lib.hid (cmpBd_eq (x := x) (y := y)); have HL := Lib.hid (cmpBd_lt (x := x) (y := y)); have HG := Lib.hid (cmpBd_gt (x := x) (y := y))
        rw [hcv] at HQ HL HG
        rw [hsw] at hlg
        clear hx hy hc hc2 hkl hkm hav hav2 hBn hBn2 hg hcv hsw
        generalize Lib.compareBytes x.var.data.toList y.var.data.toList = cc at hle hlg HQ HL HG
        obtain ⟨hl1, hl2⟩ := hle
        obtain ⟨hl3, _⟩ := hlg
        rcases Int.lt_trichotomy cc 0 with hcc | hcc | hcc
        · have HV := Lib.hid (HL.out hcc)
          have HR := Lib.hid (HBAD.out (by rw [HV.out]; decide))
          rw [decide_eq_true hcc] at hl1
          rw [decide_eq_false (by omega)] at hl2 hl3
          clear hcc
          go_wp2_with fail
          go_ret
          exact ⟨ret_int0 ((HK.out.trans HR.out).trans HV.out).symm, HB0.out.trans (HB2.out.mono HPS.out)⟩
        · have HV := Lib.hid (HQ.out hcc)
          subst hcc
          rw [show decide ((0 : Int) < 0) = false from rfl] at hl1
          rw [show decide (-(0 : Int) < 0) = false from rfl] at hl3
          generalize cmpID x.ev.src x.ev.seq y.ev.src y.ev.seq = cv at HC HV
          by_cases hz : cv = 0
          · subst hz
            have HR := Lib.hid (HGO.out HV.out)
            go_wp2_with (go_at_call 58; (with_reducible refine (HC.out _).mono ?_); rintro e w1 ⟨rfl, hb⟩; have HB1 := Lib.hid (HB2.out.trans (hb.mono HB2.out.size)); clear hb)
            go_roundw
            case rel => exact ⟨k + 1, by omega, by omega, by go_num, Lib.hid (HK.out.trans HR.out), HB1⟩
            case measure => simp [intOf]; omega
          · have HR := Lib.hid (HBAD.out (by rw [HV.out]; exact hz))
            have hz1 : (cv == 0) = false := beq_eq_false_iff_ne.2 hz
            have hz2 : (cv != 0) = true := by simp [hz]
            go_wp2_with (go_at_call 58; (with_reducible refine (HC.out _).mono ?_); rintro e w1 ⟨rfl, hb⟩; have HB1 := Lib.hid (HB2.out.trans (hb.mono HB2.out.size)); clear hb)
            go_ret
            exact ⟨ret_int0 ((HK.out.trans HR.out).trans HV.out).symm, HB0.out.trans (HB1.out.mono HPS.out)⟩
        · have HV := Lib.hid (HG.out hcc)
          have HR := Lib.hid (HBAD.out (by rw [HV.out]; decide))
          rw [decide_eq_false (by omega)] at hl1 hl2
          rw [decide_eq_true (by omega)] at hl3
          clear hcc
          go_wp2_with fail
          go_ret
          exact ⟨ret_int0 ((HK.out.trans HR.out).trans HV.out).symm, HB0.out.trans (HB2.out.mono HPS.out)⟩
      · have hlm' : ¬ (k : Int) < (n2 : Int) := by omega
        have hlm2 := decide_eq_false hlm'
        have hkl : k < cs.length := by rw [← HN.out]; exact hlt
        have HR := Lib.hid (cmpL_gt (a := cs) (b := bs) hkl (by rw [← HM.out]; exact hlm))
        have g1 : ¬ (n : Int) < (n2 : Int) := by omega
        have g2 := decide_eq_false g1
        have g3 : (n2 : Int) < (n : Int) := by omega
        have g4 := decide_eq_true g3
        clear hkl
        go_wp2
        go_ret
        exact ⟨ret_int0 (HK.out.trans HR.out).symm, HB0.out.trans (HB.out.mono HPS.out)⟩
    · have hlt' : ¬ (k : Int) < (n : Int) := by omega
      have hlt2 := decide_eq_false hlt'
      by_cases hlm : k < n2
      · have HR := Lib.hid (cmpL_lt (a := cs) (b := bs) (by rw [← HN.out]; exact hlt) (by rw [← HM.out]; exact hlm))
        have g1 : (n : Int) < (n2 : Int) := by omega
        have g2 := decide_eq_true g1
        go_wp2
        go_ret
        exact ⟨ret_int0 (HK.out.trans HR.out).symm, HB0.out.trans (HB.out.mono HPS.out)⟩
      · have HR := Lib.hid (cmpL_end (a := cs) (b := bs) (by rw [← HN.out]; exact hlt) (by rw [← HM.out]; exact hlm))
        have g1 : ¬ (n : Int) < (n2 : Int) := by omega
        have g2 := decide_eq_false g1
        have g3 : ¬ (n2 : Int) < (n : Int) := by omega
        have g4 := decide_eq_false g3
        go_wp2
        go_ret
        exact ⟨ret_int0 (HK.out.trans HR.out).symm, HB0.out.trans (HB.out.mono HPS.out)⟩
end Go.Proofs.Ytppacelaeaaodaa
