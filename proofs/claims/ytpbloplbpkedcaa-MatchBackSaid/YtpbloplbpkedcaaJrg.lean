/- Joined: Mt1, Mr1, Ms0, Mq0, Cp0, Mt2, Rc0. -/
import Derived.Test.YtpbloplbpkedcaaJrf
import Derived.Test.YtpbloplbpkedcaaJre
import Derived.BigQuiet
import Derived.Deep.QuietTactic
import Derived.Deep.RegionHeld3
/- Contract: bounds taken off a source. -/
namespace Go.Proofs.Ytpbloplbpkedcaa
open Go Go.RowKit

theorem bd_head (x : Bd) (a : Value) : bdV x a = .agg #[.string x.var, .int .i64 x.ev.src, .int .i64 x.ev.seq, .int .i64 x.ev.time, .string x.ev.ty, a] := rfl
theorem MtS.to {w0 u : World} {B q P P6 : Nat} {bytes : List Nat} {l : List Bool} {v : Value} {bs : List Bd} {r : Int × List Bd × List Bool} (h : MtS w0 B q P P6 bytes l v bs u) (e : r = (0, bs, l)) : MtS w0 B q P P6 bytes r.2.2 v r.2.1 u := by subst e; exact h
theorem rd_len {k : Nat} {bs : List Bd} {x : Bd} {l : List Bool} {r : Int × List Bd × List Bool} (e : r = (0, bs ++ [x], l)) (h : bs.length = k) : r.1 = 0 ∧ r.2.1.length = k + 1 := by subst e; exact ⟨rfl, by rw [List.length_append, h]; rfl⟩
theorem numsT {k N : Nat} (h : k < N) (hN : N ≤ 12) : k + 1 ≤ maxLen ∧ (k + 1) * 80 ≤ 140737488355328 := by unfold maxLen; omega
set_option maxRecDepth 100000 in
set_option maxHeartbeats 6400000 in
theorem mtake_any (B q : Nat) (bytes : List Nat) (l : List Bool) (w : World) (h : SrcL w B q bytes l) (hB : B ≤ w.heap.size) :
    Calls Try.prog 63 #[.pointer (some ⟨q, 0, none⟩)] w fun e w' => ∃ v, e = .returned (.tuple #[.agg #[v], .int .i64 (rdP l).1]) ∧ ((rdP l).1 = 0 → BsO w' w.heap.size v (rdP l).2.1) ∧ ((rdP l).1 ≠ 0 → v = .slice none 0 0) ∧
      (∃ l', SrcL w' B q bytes l' ∧ ((rdP l).1 = 0 → l' = (rdP l).2.2)) ∧ Kept B tkT w w' ∧ KeptQ q w w' := by
  obtain ⟨i0, hi0, hz0, hz1, hz2⟩ := info_parts infoBd
  have hl2 : l.length ≤ 1125899906842624 := by
    obtain ⟨p, hs, hl⟩ := h
    have := hs.len
    rw [← hl, leftL_length]; omega
  obtain ⟨P, hP⟩ : ∃ P, P = w.heap.size := ⟨_, rfl⟩
  obtain ⟨W, hW⟩ : ∃ W, W = w.alloc (.cells #[.slice none 0 0] 43) := ⟨_, rfl⟩
  have hrW : W.heap[P]? = some (.cells #[.slice none 0 0] 43 (0, 0)) := by rw [hW, hP]; exact heap_alloc_new _ _
  have hqW : KeptQ q w W := by rw [hW]; exact (KeptQ.refl _ _).alloc _
  have HQW := Lib.hid hqW
  have hkW : Kept B tkT w W := by rw [hW]; exact (Kept.refl _ _ _).alloc hB _
  obtain ⟨p, hs, hl⟩ := h
  have hsW : SrcIs W B q bytes p := by rw [hW]; exact hs.below ((Below.refl w.heap.size w).alloc (Nat.le_refl _) _) (Nat.le_refl _)
  have CB := sBits_any B q 4 bytes p W hsW (by decide)
  rw [hl] at CB
  have HRS := Lib.hid (rdP_short (l := l)); have HRM := Lib.hid (rdP_many (l := l)); have HRG := Lib.hid (rdP_go (l := l))
  have hM : bitsVal l 4 < 2 ^ 4 := bitsVal_lt l 4
  obtain ⟨M, hMM⟩ : ∃ M, M = bitsVal l 4 := ⟨_, rfl⟩
  obtain ⟨lr, hlr⟩ : ∃ lr, lr = bitsRest l 4 := ⟨_, rfl⟩
  rw [← hMM, ← hlr] at CB HRG
  rw [← hMM] at HRM hM
  have HCB := Lib.hid CB; have HRW := Lib.hid hrW; have HKW := Lib.hid hkW; have HB := Lib.hid hB; have HW := Lib.hid hW; have HP := Lib.hid hP
  have HM : Hid (M ≤ 15) := Lib.hid (by omega)
  have hM0 : (0 : Int) ≤ (M : Int) := by omega
  have hM3 : (M : Int) ≤ 15 := by omega
  rw [← hP]
  clear CB hrW hkW hqW hB hW hP hs hsW hl hM hMM hlr hl2
  by_cases h0 : bitsErr 4 l.length = 0
  case neg =>
    obtain ⟨te, hte⟩ : ∃ te : Int, te = ((bitsErr 4 l.length : Nat) : Int) := ⟨_, rfl⟩
    have hne : te ≠ 0 := by rw [hte]; omega
    have HR := Lib.hid (HRS.out h0)
    rw [← hte] at HCB HR
    have HC0 := Lib.hid hne
    have b1 : (te != 0) = true := by simp [hne]
    clear h0 hte hne
    go_enter Try.func63, Try.ntmps63
    go_wp2_with fail
    rw [← HW.out, ← HP.out]
    refine HCB.out.mono ?_
    rintro e w1 ⟨rfl, ⟨p1, hs1, hl1⟩, k1⟩
    have HR1 := Lib.hid (k1.typed _ _ _ _ HRW.out (by decide))
    have HQ1x := Lib.hid (HQW.out.trans k1.keptQ); have HK1 := Lib.hid (HKW.out.trans (k1.mono (Nat.le_refl _) tkT_src))
    have HS1 := Lib.hid (show SrcL w1 B q bytes _ from ⟨p1, hs1, hl1⟩)
    clear hs1 hl1 k1
    have r0 := cells_one0 HR1.out
    have g0 := free_cells_of HR1.out 0
    go_wp2
    have hz := cells_one0 (heap_setCell_same (k := 0) HR1.out (.slice none 0 0))
    have ks : Kept 0 (fun e => e == 43) w1 (w1.setCell ⟨P, 0, none⟩ (.slice none 0 0)) := (Kept.refl _ _ _).setCell (p := ⟨P, 0, none⟩) (Nat.zero_le _) HR1.out (by decide) _
    refine bodyPost_ret (v := .tuple #[.agg #[.slice none 0 0], .int .i64 te]) (by simp [results, Try.results63, go_sem, hz]) rfl ?_
    rw [HR.out]
    exact ⟨.slice none 0 0, rfl, fun h => absurd h HC0.out, fun _ => rfl, ⟨_, HS1.out.kept ks (by decide) (by decide), fun h => absurd h HC0.out⟩, HK1.out.setCell_fresh (p := ⟨P, 0, none⟩) (by show B ≤ P; rw [HP.out]; exact HB.out) (by show w.heap.size ≤ P; rw [HP.out]; exact Nat.le_refl _) _, HQ1x.out.trans (ks.keptQ (by decide))⟩
  case pos =>
    rw [h0] at HCB
    by_cases h12 : 12 < M
    case pos =>
      have HR := Lib.hid (HRM.out h0 h12)
      have b2 : ((12 : Int) < (M : Int)) := by omega
      clear h0 h12
      go_enter Try.func63, Try.ntmps63
      go_wp2_with fail
      rw [← HW.out, ← HP.out]
      refine HCB.out.mono ?_
      rintro e w1 ⟨rfl, ⟨p1, hs1, hl1⟩, k1⟩
      have HR1 := Lib.hid (k1.typed _ _ _ _ HRW.out (by decide))
      have HQ1x := Lib.hid (HQW.out.trans k1.keptQ); have HK1 := Lib.hid (HKW.out.trans (k1.mono (Nat.le_refl _) tkT_src))
      have HS1 := Lib.hid (show SrcL w1 B q bytes _ from ⟨p1, hs1, hl1⟩)
      clear hs1 hl1 k1
      have r0 := cells_one0 HR1.out
      have g0 := free_cells_of HR1.out 0
      go_wp2
      have hz := cells_one0 (heap_setCell_same (k := 0) HR1.out (.slice none 0 0))
      have ks : Kept 0 (fun e => e == 43) w1 (w1.setCell ⟨P, 0, none⟩ (.slice none 0 0)) := (Kept.refl _ _ _).setCell (p := ⟨P, 0, none⟩) (Nat.zero_le _) HR1.out (by decide) _
      refine bodyPost_ret (v := .tuple #[.agg #[.slice none 0 0], .int .i64 100]) (by simp [results, Try.results63, go_sem, hz]) rfl ?_
      rw [HR.out]
      exact ⟨.slice none 0 0, rfl, fun h => absurd h (show (100 : Int) ≠ 0 by decide), fun _ => rfl, ⟨_, HS1.out.kept ks (by decide) (by decide), fun h => absurd h (show (100 : Int) ≠ 0 by decide)⟩, HK1.out.setCell_fresh (p := ⟨P, 0, none⟩) (by show B ≤ P; rw [HP.out]; exact HB.out) (by show w.heap.size ≤ P; rw [HP.out]; exact Nat.le_refl _) _, HQ1x.out.trans (ks.keptQ (by decide))⟩
    case neg =>
      have HR := Lib.hid (HRG.out h0 h12)
      have HM12 : Hid (M ≤ 12) := Lib.hid (by omega)
      have b2 : ¬ ((12 : Int) < (M : Int)) := by omega
      clear h0 h12
      go_enter Try.func63, Try.ntmps63
      go_wp2_with fail
      rw [← HW.out, ← HP.out]
      refine HCB.out.mono ?_
      rintro e w1 ⟨rfl, ⟨p1, hs1, hl1⟩, k1⟩
      have HR1 := Lib.hid (k1.typed _ _ _ _ HRW.out (by decide))
      have HQ1x := Lib.hid (HQW.out.trans k1.keptQ); have HK1 := Lib.hid (HKW.out.trans (k1.mono (Nat.le_refl _) tkT_src))
      have hB1 : B ≤ w1.heap.size := Nat.le_trans HB.out HK1.out.below.size
      have HMT : Hid (MtS w B q P w1.heap.size bytes lr (.slice none 0 0) [] (w1.alloc (.cells #[.slice none 0 0] 43))) := Lib.hid ⟨HK1.out.alloc hB1 _, HB.out, by rw [HP.out]; exact Nat.le_refl _, lt_of_block HR1.out, heap_alloc_keeps HR1.out _, heap_alloc_new _ _, (show SrcL w1 B q bytes lr from ⟨p1, hs1, hl1⟩).below ((Below.refl w1.heap.size w1).alloc (Nat.le_refl _) _) (Nat.le_refl _), HQ1x.out.alloc _, (fun x hx => by cases hx), [], World.ownsRow_nil _ _ _ _, rfl⟩
      obtain ⟨P6, hP6⟩ : ∃ P6, P6 = w1.heap.size := ⟨_, rfl⟩
      obtain ⟨W6, hW6⟩ : ∃ W6, W6 = w1.alloc (.cells #[.slice none 0 0] 43) := ⟨_, rfl⟩
      rw [← hP6, ← hW6] at HMT
      have HW6 := Lib.hid hW6; have HP6 := Lib.hid hP6
      clear hs1 hl1 k1 hB1 hP6 hW6 HCB
      go_wp2_with fail
      rw [← HW6.out, ← HP6.out]
      go_loopw [22] (fun i wr => ∃ (k : Nat) (lo : Option Addr) (d : Nat), k ≤ M ∧ i = .int .u64 (k : Int) ∧ Hid (MtS w B q P P6 bytes (rdGo k lr).2.2 (.slice lo k d) (rdGo k lr).2.1 wr) ∧ Hid ((rdGo k lr).1 = 0 ∧ (rdGo k lr).2.1.length = k)) (fun i _ => M - (intOf i).toNat)
      case atStart => exact ⟨0, none, 0, Nat.zero_le _, rfl, HMT, Lib.hid ⟨rfl, rfl⟩⟩
      case round =>
        obtain ⟨k, lo, d, hk, rfl, HS, HZ⟩ := hrel
        have hP6 := cells_one0 HS.out.box
        by_cases hlt : k < M
        · have HCT := Lib.hid (mTakeBound_any B q bytes (rdGo k lr).2.2 wr HS.out.src (Nat.le_trans HS.out.hB HS.out.kept.below.size))
          have HWD := Lib.hid (rbBd_wide (l := (rdGo k lr).2.2) HS.out.len)
          have HGO := Lib.hid (rdGo_go (n := k) (l := lr) HZ.out.1); have HBD := Lib.hid (rdGo_bad (n := k) (l := lr) HZ.out.1)
          have HST := Lib.hid (fun (h : (rdGo (k + 1) lr).1 ≠ 0) => rdGo_stays h M (by omega))
          have HLN := Lib.hid HZ.out.2
          have HNU := Lib.hid (numsT hlt HM12.out)
          have hro : rbErr (rdGo k lr).2.2 = 0 → rbOut (rdGo k lr).2.2 = rbBd (rdGo k lr).2.2 := fun h => by unfold rbOut; rw [if_pos h]
          have HRO := Lib.hid hro
          have hkM : (k : Int) < (M : Int) := by omega
          have hk0 : (0 : Int) ≤ (k : Int) := by omega
          have HLT := Lib.hid hlt
          generalize (rdGo k lr).2.1 = bs at HS HGO HLN
          generalize (rdGo k lr).2.2 = l0 at HS HCT HGO HBD HRO HWD
          generalize rbErr l0 = re at HCT HGO HBD HRO
          generalize rbRest l0 = l3 at HCT HGO
          generalize hx : rbOut l0 = x at HCT HRO
          have hct := HCT.out
          unfold bdV at hct
          have HCT := Lib.hid hct
          clear hct hro hlt hx hk HZ
          by_cases hre : re = 0
          case neg =>
            have b1 : (re != 0) = true := by simp [hre]
            have HRE := Lib.hid hre
            have HB1 := Lib.hid (HBD.out hre)
            clear hre
            go_wp2_with fail
            (with_reducible refine HCT.out.mono ?_)
            rintro e w2 ⟨v2, rfl, ho2, ⟨l2, hs2, hl2⟩, k2, kq2⟩
            obtain ⟨aa, ac, rfl⟩ := own_slice ho2
            have HS2 := Lib.hid (HS.out.call k2 hs2 kq2)
            have hsz2 : P ≤ wr.heap.size := by have := HS.out.size; have := HS.out.hP6; omega
            have HO2 := Lib.hid (own_lower0 ho2 hsz2)
            have HL2 := Lib.hid hl2
            clear ho2 hs2 hl2 k2 kq2 hsz2 hP6
            have HS3 : Hid (MtS w B q P P6 bytes l2 (.slice lo k d) bs (w2.alloc (.cells #[.string x.var, .int .i64 x.ev.src, .int .i64 x.ev.seq, .int .i64 x.ev.time, .string x.ev.ty, .slice aa x.ev.ats.length ac] 91))) := Lib.hid (HS2.out.alloc _)
            have HX3 : Hid ((w2.alloc (.cells #[.string x.var, .int .i64 x.ev.src, .int .i64 x.ev.seq, .int .i64 x.ev.time, .string x.ev.ty, .slice aa x.ev.ats.length ac] 91)).heap[w2.heap.size]? = some (.cells #[.string x.var, .int .i64 x.ev.src, .int .i64 x.ev.seq, .int .i64 x.ev.time, .string x.ev.ty, .slice aa x.ev.ats.length ac] 91 (0, 0))) := Lib.hid (heap_alloc_new _ _)
            have HO3 : Hid ((w2.alloc (.cells #[.string x.var, .int .i64 x.ev.src, .int .i64 x.ev.seq, .int .i64 x.ev.time, .string x.ev.ty, .slice aa x.ev.ats.length ac] 91)).ownsRow P 78 4 (.slice aa x.ev.ats.length ac) x.ev.ats.length (x.ev.ats.flatMap enc4)) := Lib.hid (HO2.out.alloc _)
            have hP6 := cells_one0 HS3.out.box
            have r0 := cells_one0 HS3.out.res
            have g0 := free_cells_of HS3.out.res 0
            clear hP6
            go_wp2
            have hz := cells_one0 (heap_setCell_same (k := 0) HS3.out.res (.slice none 0 0))
            have HF := HS3.out.kept.setCell_fresh (p := ⟨P, 0, none⟩) (by show B ≤ P; have := HS3.out.hB; have := HS3.out.hP; omega) (by show w.heap.size ≤ P; exact HS3.out.hP) (.slice none 0 0)
            have ks : Kept 0 (fun e => e == 43) (w2.alloc (.cells #[.string x.var, .int .i64 x.ev.src, .int .i64 x.ev.seq, .int .i64 x.ev.time, .string x.ev.ty, .slice aa x.ev.ats.length ac] 91)) ((w2.alloc (.cells #[.string x.var, .int .i64 x.ev.src, .int .i64 x.ev.seq, .int .i64 x.ev.time, .string x.ev.ty, .slice aa x.ev.ats.length ac] 91)).setCell ⟨P, 0, none⟩ (.slice none 0 0)) := (Kept.refl _ _ _).setCell (p := ⟨P, 0, none⟩) (Nat.zero_le _) HS3.out.res (by decide) _
            refine bodyPost_ret (v := .tuple #[.agg #[.slice none 0 0], .int .i64 re]) (by simp [results, Try.results63, go_sem, hz]) rfl ?_
            have hre2 : (rdP l).1 = re := by rw [HR.out, HST.out (by rw [HB1.out]; exact HRE.out), HB1.out]
            rw [hre2]
            exact ⟨.slice none 0 0, rfl, fun h => absurd h HRE.out, fun _ => rfl, ⟨_, HS3.out.src.kept ks (by decide) (by decide), fun h => absurd h HRE.out⟩, HF, HS3.out.only.trans (ks.keptQ (by decide))⟩
          case pos =>
            subst hre
            go_wp2_with fail
            (with_reducible refine HCT.out.mono ?_)
            rintro e w2 ⟨v2, rfl, ho2, ⟨l2, hs2, hl2⟩, k2, kq2⟩
            obtain ⟨aa, ac, rfl⟩ := own_slice ho2
            have HS2 := Lib.hid (HS.out.call k2 hs2 kq2)
            have hsz2 : P ≤ wr.heap.size := by have := HS.out.size; have := HS.out.hP6; omega
            have HO2 := Lib.hid (own_lower0 ho2 hsz2)
            have HL2 := Lib.hid hl2
            clear ho2 hs2 hl2 k2 kq2 hsz2 hP6
            have HS3 : Hid (MtS w B q P P6 bytes l2 (.slice lo k d) bs (w2.alloc (.cells #[.string x.var, .int .i64 x.ev.src, .int .i64 x.ev.seq, .int .i64 x.ev.time, .string x.ev.ty, .slice aa x.ev.ats.length ac] 91))) := Lib.hid (HS2.out.alloc _)
            have HX3 : Hid ((w2.alloc (.cells #[.string x.var, .int .i64 x.ev.src, .int .i64 x.ev.seq, .int .i64 x.ev.time, .string x.ev.ty, .slice aa x.ev.ats.length ac] 91)).heap[w2.heap.size]? = some (.cells #[.string x.var, .int .i64 x.ev.src, .int .i64 x.ev.seq, .int .i64 x.ev.time, .string x.ev.ty, .slice aa x.ev.ats.length ac] 91 (0, 0))) := Lib.hid (heap_alloc_new _ _)
            have HO3 : Hid ((w2.alloc (.cells #[.string x.var, .int .i64 x.ev.src, .int .i64 x.ev.seq, .int .i64 x.ev.time, .string x.ev.ty, .slice aa x.ev.ats.length ac] 91)).ownsRow P 78 4 (.slice aa x.ev.ats.length ac) x.ev.ats.length (x.ev.ats.flatMap enc4)) := Lib.hid (HO2.out.alloc _)
            have hP6 := cells_one0 HS3.out.box
            have HG1 := Lib.hid (HGO.out (by simp))
            have hl2e := HL2.out (by simp)
            subst hl2e
            have hxe : x = rbBd l0 := HRO.out (by simp)
            rw [← hxe] at HG1
            have hwd := HWD.out
            rw [← hxe] at hwd
            have HWX := Lib.hid hwd
            obtain ⟨c0, c1, c2, c3, c4, c5⟩ := cells_six HX3.out
            obtain ⟨ys, hy1, hy2⟩ := HS3.out.row
            rw [HLN.out] at hy1
            have HY1 := Lib.hid hy1; have HY2 := Lib.hid hy2
            have HSP := Lib.hid (fun (w4 : World) (v4 : Value) (hown : w4.ownsRow (P6 + 1) 91 6 v4 (k + 1) (ys ++ encB x (.slice aa x.ev.ats.length ac))) (hg : ((w2.alloc (.cells #[.string x.var, .int .i64 x.ev.src, .int .i64 x.ev.seq, .int .i64 x.ev.time, .string x.ev.ty, .slice aa x.ev.ats.length ac] 91)).alloc (.cells #[.string x.var, .int .i64 x.ev.src, .int .i64 x.ev.seq, .int .i64 x.ev.time, .string x.ev.ty, .slice aa x.ev.ats.length ac] 91)).grownBy w4 (Value.slice lo k d).ownBlock) =>
              And.intro ((HS3.out.alloc (.cells #[.string x.var, .int .i64 x.ev.src, .int .i64 x.ev.seq, .int .i64 x.ev.time, .string x.ev.ty, .slice aa x.ev.ats.length ac] 91)).step (by rw [HLN.out]; exact HY1.out.alloc _) (HY2.out.imp fun v y _ hy => (⟨hy.1.alloc _, hy.2⟩ : OwA _ P v y.ev.ats)) rfl (⟨HO3.out.alloc _, HWX.out.2.2⟩ : OwA _ P _ _) ⟨HWX.out.1, HWX.out.2.1⟩ (by rw [HLN.out]; exact hown) hg)
                (show w4.heap[P6]? = some (.cells #[.slice lo k d] 43 (0, 0)) from (hg.block P6 (by have := HS3.out.size; simp at this ⊢; omega) (fun e => by have := (HY1.out.lt P6 e.symm).1; omega)).trans (heap_alloc_keeps HS3.out.box _)))
            have HLE : Hid (P6 + 1 ≤ (w2.alloc (.cells #[.string x.var, .int .i64 x.ev.src, .int .i64 x.ev.seq, .int .i64 x.ev.time, .string x.ev.ty, .slice aa x.ev.ats.length ac] 91)).heap.size) := Lib.hid HS3.out.size
            have HXL := Lib.hid hxe
            have HNW := Lib.hid (RwL.news (w2.alloc (.cells #[.string x.var, .int .i64 x.ev.src, .int .i64 x.ev.seq, .int .i64 x.ev.time, .string x.ev.ty, .slice aa x.ev.ats.length ac] 91)) x aa ac)
            rw [show (w2.alloc (.cells #[.string x.var, .int .i64 x.ev.src, .int .i64 x.ev.seq, .int .i64 x.ev.time, .string x.ev.ty, .slice aa x.ev.ats.length ac] 91)).heap.size = w2.heap.size + 1 by simp] at HNW
            clear hxe hwd hy1 hy2
            go_wp2_with (at_builtin; refine wpList_append_own _ rfl _ _ 41 rfl (P6 + 1) 91 i0 (.agg #[.string ⟨#[]⟩, .int .i64 0, .int .i64 0, .int .i64 0, .string ⟨#[]⟩, .slice none 0 0]) 6 80 Try.underlying41 hi0 hz0 hz1 hz2 rfl (by decide) _ k ys rfl (HY1.out.alloc _) ⟨w2.heap.size + 1, 0, none⟩ 1 1 (encB x (.slice aa x.ev.ats.length ac)) rfl rfl HNW.out (encB_one _ _ _ _) HNU.out.1 HNU.out.2 (by have := HLE.out; simp at this ⊢; omega) ?_; intro v4 w4 hown4 hg4 hn4; clear hn4; obtain ⟨lo4, d4, rfl⟩ := own_slice hown4; have HF := Lib.hid (HSP.out w4 _ hown4 hg4); clear hown4 hg4; have z0 := cells_one0 HF.out.2; have zf := free_cells_of HF.out.2 0)
            go_roundw
            case rel =>
              refine ⟨k + 1, lo4, d4, HLT.out, by go_num, ?_, ?_⟩
              · exact Lib.hid (MtS.to HF.out.1 HG1.out)
              · exact Lib.hid (rd_len HG1.out HLN.out)
            case measure => have := HLT.out; simp [intOf]; omega
        · have hkM : M = k := Nat.le_antisymm (Nat.le_of_not_lt hlt) hk
          subst hkM
          have hnl : ¬ ((M : Int) < (M : Int)) := by omega
          have HZ2 := Lib.hid (show (rdP l) = (0, (rdGo M lr).2.1, (rdGo M lr).2.2) by rw [HR.out]; have := HZ.out.1; generalize rdGo M lr = r at *; obtain ⟨r1, r2, r3⟩ := r; simp only at this; rw [this])
          have r0 := cells_one0 HS.out.res
          have g0 := free_cells_of HS.out.res 0
          have HL12 : Hid ((rdGo M lr).2.1.length ≤ 12) := Lib.hid (by rw [HZ.out.2]; exact HM12.out)
          have HF := Lib.hid (HS.out.fin HP.out HL12.out (.slice lo M d))
          have HRS := Lib.hid (heap_setCell_same (k := 0) HS.out.res (.slice lo M d))
          clear hlt hk
          go_wp2
          have z := cells_one0 HRS.out
          refine bodyPost_ret (v := .tuple #[.agg #[.slice lo M d], .int .i64 0]) (by simp [results, Try.results63, go_sem, z]) rfl ?_
          rw [HZ2.out]
          exact ⟨_, rfl, fun _ => by have hf := HF.out.1; rw [← HP.out] at hf; exact hf, fun h => absurd rfl h, ⟨_, HF.out.2.1, fun _ => rfl⟩, HF.out.2.2⟩
end Go.Proofs.Ytpbloplbpkedcaa

/- Contract: bounds taken off the document's source. -/
namespace Go.Proofs.Ytpbloplbpkedcaa
open Go Go.RowKit

/-- The boxes at P (the result) and P6 (what is filled), the document's source, and a row of the call's own. -/
structure MrS (w0 : World) (B q P P6 : Nat) (l : List Bool) (v : Value) (bs : List Bd) (u : World) : Prop where
  kept : KeptR B q w0 u
  hB : B ≤ w0.heap.size
  hP : w0.heap.size ≤ P
  hP6 : P < P6
  res : u.heap[P]? = some (.cells #[.slice none 0 0] 43 (0, 0))
  box : u.heap[P6]? = some (.cells #[v] 43 (0, 0))
  src : RefIs u B q l
  wide : ∀ x ∈ bs, x.var.size ≤ maxLen ∧ x.ev.ty.size ≤ maxLen
  row : ∃ ys, u.ownsRow (P6 + 1) 91 6 v bs.length ys ∧ RwL (OwA u P) bs ys
theorem MrS.call {w0 u u' : World} {B q P P6 : Nat} {l l' : List Bool} {v : Value} {bs : List Bd} (h : MrS w0 B q P P6 l v bs u) (hk : KeptR B q u u') (hs : RefIs u' B q l') : MrS w0 B q P P6 l' v bs u' := by
  obtain ⟨h1, h2, h3, h4, h5, h6, h7, h8, ys, h9, h10⟩ := h
  exact ⟨h1.trans hk, h2, h3, h4, hk.typed _ _ _ _ h5 (by decide), hk.typed _ _ _ _ h6 (by decide), hs, h8, ys, hk.ownsRow h9 (by decide), h10.imp fun v x _ hx => hx.typed hk.kept (by decide)⟩
theorem MrS.size {w0 u : World} {B q P P6 : Nat} {l : List Bool} {v : Value} {bs : List Bd} (h : MrS w0 B q P P6 l v bs u) : P6 < u.heap.size := lt_of_block h.box
theorem MrS.alloc {w0 u : World} {B q P P6 : Nat} {l : List Bool} {v : Value} {bs : List Bd} (h : MrS w0 B q P P6 l v bs u) (o : Obj) : MrS w0 B q P P6 l v bs (u.alloc o) :=
  h.call ((KeptR.refl _ _ _).alloc (Nat.le_trans h.hB h.kept.below.size) o) (h.src.alloc o)
theorem RefIs.keptN {w w' : World} {B B' q : Nat} {l : List Bool} {T : Nat → Bool} (h : RefIs w B q l) (hk : Kept B' T w w') (h1 : T 67 = false) (h2 : T 4 = false) : RefIs w' B q l := h.kept hk h1 h2
/-- A bound more. -/
theorem MrS.step {w0 u u' : World} {B q P P6 : Nat} {l : List Bool} {v v' va : Value} {bs : List Bd} {x : Bd} {ys : List Value} (h : MrS w0 B q P P6 l v bs u) (hrow : u.ownsRow (P6 + 1) 91 6 v bs.length ys) (hrw : RwL (OwA u P) bs ys)
    {aa : Option Addr} {ac : Nat} (hva : va = .slice aa x.ev.ats.length ac) (hav : OwA u P va x.ev.ats) (hw : x.var.size ≤ maxLen ∧ x.ev.ty.size ≤ maxLen)
    (hown : u'.ownsRow (P6 + 1) 91 6 v' (bs.length + 1) (ys ++ encB x va)) (hg : u.grownBy u' v.ownBlock) : MrS w0 B q P P6 l v' (bs ++ [x]) (u'.setCell ⟨P6, 0, none⟩ v') := by
  subst hva
  have hsz := h.size
  obtain ⟨h1, h2, h3, h4, h5, h6, h7, h8, _⟩ := h
  have hne : ∀ k, k < P6 + 1 → some k ≠ v.ownBlock := fun k hk e => by have := (hrow.lt k e.symm).1; omega
  have hr : u'.heap[P]? = some (.cells #[.slice none 0 0] 43 (0, 0)) := (hg.block P (lt_of_block h5) (hne P (by omega))).trans h5
  have hb : u'.heap[P6]? = some (.cells #[v] 43 (0, 0)) := (hg.block P6 hsz (hne P6 (by omega))).trans h6
  have kg : Kept 0 (fun e => e == 91) u u' := (Kept.refl _ _ _).grown hrow (by decide) hg (Nat.zero_le _) (Nat.zero_le _)
  have ks : Kept 0 (fun e => e == 43) u' (u'.setCell ⟨P6, 0, none⟩ v') := (Kept.refl _ _ _).setCell (p := ⟨P6, 0, none⟩) (Nat.zero_le _) hb (by decide) v'
  refine ⟨(h1.grown_fresh hrow hg (Nat.le_trans h2 h1.below.size) (by omega) (by omega)).setCell_fresh (p := ⟨P6, 0, none⟩) (by show B ≤ P6; omega) (by show w0.heap.size ≤ P6; omega) v', h2, h3, h4, ?_, ?_, ?_, ?_, ys ++ encB x (.slice aa x.ev.ats.length ac), ?_, ?_⟩
  · exact heap_setCell_far (p := ⟨P6, 0, none⟩) hr (by show P ≠ P6; omega) v'
  · rw [heap_setCell_same hb]; simp
  · exact (h7.kept kg (by decide) (by decide)).kept ks (by decide) (by decide)
  · intro y hy
    rcases List.mem_append.1 hy with hy | hy
    · exact h8 y hy
    · rw [List.mem_singleton.1 hy]; exact hw
  · rw [List.length_append, List.length_singleton]
    exact ks.ownsRow hown (by decide)
  · refine RwL.app (hrw.imp fun v y _ hy => (hy.typed kg (by decide)).typed ks (by decide)) (RwL.single ((hav.typed kg (by decide)).typed ks (by decide)))
/-- Behind it: the result. -/
theorem MrS.fin {w0 u : World} {B q P P6 : Nat} {l : List Bool} {v : Value} {bs : List Bd} (h : MrS w0 B q P P6 l v bs u) (hl : bs.length ≤ 12) (d : Value) :
    BsO (u.setCell ⟨P, 0, none⟩ d) P v bs ∧ RefIs (u.setCell ⟨P, 0, none⟩ d) B q l ∧ KeptR B q w0 (u.setCell ⟨P, 0, none⟩ d) := by
  obtain ⟨h1, h2, h3, h4, h5, h6, h7, h8, ys, h9, h10⟩ := h
  have ks : Kept 0 (fun e => e == 43) u (u.setCell ⟨P, 0, none⟩ d) := (Kept.refl _ _ _).setCell (p := ⟨P, 0, none⟩) (Nat.zero_le _) h5 (by decide) d
  exact ⟨⟨h8, by omega, ys, own_lower0 (ks.ownsRow h9 (by decide)) (by omega), h10.imp fun v y _ hy => hy.typed ks (by decide)⟩, h7.kept ks (by decide) (by decide), h1.setCell_fresh (p := ⟨P, 0, none⟩) (by show B ≤ P; omega) (by show w0.heap.size ≤ P; omega) d⟩
theorem MrS.to {w0 u : World} {B q P P6 : Nat} {l : List Bool} {v : Value} {bs : List Bd} {r : Int × List Bd × List Bool} (h : MrS w0 B q P P6 l v bs u) (e : r = (0, bs, l)) : MrS w0 B q P P6 r.2.2 v r.2.1 u := by subst e; exact h
/-- What is wrong with a bound, in two steps. -/
theorem rb_parts {l : List Bool} (hl : l.length ≤ 1125899906842624) : ∃ (te : Nat) (nm : ByteArray) (l1 : List Bool) (ke : Int) (ev : Ev) (l2 : List Bool), textErrL l = te ∧ textStr l = nm ∧ textRestL l = l1 ∧ tkErr l1 = ke ∧ tkEv l1 = ev ∧ tkRest l1 = l2 ∧
    (te ≠ 0 → rbErr l = (te : Int)) ∧ (te = 0 → rbErr l = ke) ∧ rbBd l = ⟨nm, ev⟩ ∧ rbRest l = l2 ∧ (nm.size ≤ maxLen ∧ ev.ty.size ≤ maxLen ∧ (∀ x ∈ ev.ats, x.name.size ≤ maxLen ∧ x.s.size ≤ maxLen) ∧ ev.ats.length * 48 ≤ 140737488355328) :=
  ⟨_, _, _, _, _, _, rfl, rfl, rfl, rfl, rfl, rfl, rbErr_text, rbErr_take, rfl, rfl, rbBd_wide hl⟩

set_option maxRecDepth 100000 in
set_option maxHeartbeats 6400000 in
theorem r10take_any (B q : Nat) (l : List Bool) (w : World) (h : RefIs w B q l) (hB : B ≤ w.heap.size) :
    Calls Try.prog 64 #[.pointer (some ⟨q, 0, none⟩)] w fun e w' => ∃ ao n c, e = .returned (.tuple #[.agg #[.slice ao n c], .int .i64 (rdP l).1]) ∧ ((rdP l).1 = 0 → BsO w' w.heap.size (.slice ao n c) (rdP l).2.1) ∧
      (∃ l', RefIs w' B q l' ∧ ((rdP l).1 = 0 → l' = (rdP l).2.2)) ∧ KeptR B q w w' := by
  obtain ⟨i0, hi0, hz0, hz1, hz2⟩ := info_parts infoBd
  have hl2 : l.length ≤ 1125899906842624 := h.len
  obtain ⟨P, hP⟩ : ∃ P, P = w.heap.size := ⟨_, rfl⟩
  obtain ⟨W, hW⟩ : ∃ W, W = (w.alloc (.cells #[.slice none 0 0] 43)).alloc (.cells #[.slice none 0 0] 43) := ⟨_, rfl⟩
  have hrW : W.heap[P]? = some (.cells #[.slice none 0 0] 43 (0, 0)) := by rw [hW, hP]; exact heap_alloc_keeps (heap_alloc_new _ _) _
  have hxW : W.heap[P + 1]? = some (.cells #[.slice none 0 0] 43 (0, 0)) := by rw [hW, hP]; exact heap_alloc_at (by simp) rfl
  have hkW : KeptR B q w W := by rw [hW]; exact ((KeptR.refl _ _ _).alloc hB _).alloc (by simp; omega) _
  have hsW : RefIs W B q l := by rw [hW]; exact (h.alloc _).alloc _
  have HM0 : Hid (MrS w B q P (P + 1) l (.slice none 0 0) [] W) := Lib.hid ⟨hkW, hB, by rw [hP]; exact Nat.le_refl _, Nat.lt_succ_self _, hrW, hxW, hsW, (fun x hx => by cases hx), [], World.ownsRow_nil _ _ _ _, rfl⟩
  have CB := rsBits_any B q 4 l W hsW (by decide)
  have HRS := Lib.hid (rdP_short (l := l)); have HRM := Lib.hid (rdP_many (l := l)); have HRG := Lib.hid (rdP_go (l := l))
  have hM : bitsVal l 4 < 2 ^ 4 := bitsVal_lt l 4
  obtain ⟨M, hMM⟩ : ∃ M, M = bitsVal l 4 := ⟨_, rfl⟩
  obtain ⟨lr, hlr⟩ : ∃ lr, lr = bitsRest l 4 := ⟨_, rfl⟩
  rw [← hMM, ← hlr] at CB HRG
  rw [← hMM] at HRM hM
  have HCB := Lib.hid CB; have HB := Lib.hid hB; have HW := Lib.hid hW; have HP := Lib.hid hP
  have HM : Hid (M ≤ 15) := Lib.hid (by omega)
  have hM0 : (0 : Int) ≤ (M : Int) := by omega
  have hM3 : (M : Int) ≤ 15 := by omega
  rw [← hP]
  clear CB hrW hxW hkW hB hW hP hsW hM hMM hlr hl2 h
  by_cases h0 : bitsErr 4 l.length = 0
  case neg =>
    obtain ⟨te, hte⟩ : ∃ te : Int, te = ((bitsErr 4 l.length : Nat) : Int) := ⟨_, rfl⟩
    have hne : te ≠ 0 := by rw [hte]; omega
    have HR := Lib.hid (HRS.out h0)
    rw [← hte] at HCB HR
    have HC0 := Lib.hid hne
    have b1 : (te != 0) = true := by simp [hne]
    clear h0 hte hne
    go_enter Try.func64, Try.ntmps64
    go_wp2_with fail
    rw [← HW.out, ← HP.out]
    refine HCB.out.mono ?_
    rintro e w1 ⟨rfl, hs1, k1⟩
    have HS := Lib.hid (HM0.out.call k1 hs1)
    clear hs1 k1
    have r0 := cells_one0 HS.out.res
    have g0 := free_cells_of HS.out.res 0
    have x0 := cells_one0 HS.out.box
    have HF := Lib.hid (HS.out.fin (Nat.zero_le _) (.slice none 0 0))
    have HRS2 := Lib.hid (heap_setCell_same (k := 0) HS.out.res (.slice none 0 0))
    go_wp2
    have z := cells_one0 HRS2.out
    refine bodyPost_ret (v := .tuple #[.agg #[.slice none 0 0], .int .i64 te]) (by simp [results, Try.results64, go_sem, z]) rfl ?_
    rw [HR.out]
    exact ⟨_, _, _, rfl, fun h => absurd h HC0.out, ⟨_, HF.out.2.1, fun h => absurd h HC0.out⟩, HF.out.2.2⟩
  case pos =>
    rw [h0] at HCB
    by_cases h12 : 12 < M
    case pos =>
      have HR := Lib.hid (HRM.out h0 h12)
      have b2 : ((12 : Int) < (M : Int)) := by omega
      clear h0 h12
      go_enter Try.func64, Try.ntmps64
      go_wp2_with fail
      rw [← HW.out, ← HP.out]
      refine HCB.out.mono ?_
      rintro e w1 ⟨rfl, hs1, k1⟩
      have HS := Lib.hid (HM0.out.call k1 hs1)
      clear hs1 k1
      have r0 := cells_one0 HS.out.res
      have g0 := free_cells_of HS.out.res 0
      have x0 := cells_one0 HS.out.box
      have HF := Lib.hid (HS.out.fin (Nat.zero_le _) (.slice none 0 0))
      have HRS2 := Lib.hid (heap_setCell_same (k := 0) HS.out.res (.slice none 0 0))
      go_wp2
      have z := cells_one0 HRS2.out
      refine bodyPost_ret (v := .tuple #[.agg #[.slice none 0 0], .int .i64 100]) (by simp [results, Try.results64, go_sem, z]) rfl ?_
      rw [HR.out]
      exact ⟨_, _, _, rfl, fun h => absurd h (show (100 : Int) ≠ 0 by decide), ⟨_, HF.out.2.1, fun h => absurd h (show (100 : Int) ≠ 0 by decide)⟩, HF.out.2.2⟩
    case neg =>
      have HR := Lib.hid (HRG.out h0 h12)
      have HM12 : Hid (M ≤ 12) := Lib.hid (by omega)
      have b2 : ¬ ((12 : Int) < (M : Int)) := by omega
      clear h0 h12
      go_enter Try.func64, Try.ntmps64
      go_wp2_with fail
      rw [← HW.out, ← HP.out]
      refine HCB.out.mono ?_
      rintro e w1 ⟨rfl, hs1, k1⟩
      have HMT := Lib.hid (HM0.out.call k1 hs1)
      clear hs1 k1 HCB HM0
      go_wp2_with fail
      go_loopw [7] (fun i wr => ∃ (k : Nat) (lo : Option Addr) (d : Nat), k ≤ M ∧ i = .int .u64 (k : Int) ∧ Hid (MrS w B q P (P + 1) (rdGo k lr).2.2 (.slice lo k d) (rdGo k lr).2.1 wr) ∧ Hid ((rdGo k lr).1 = 0 ∧ (rdGo k lr).2.1.length = k)) (fun i _ => M - (intOf i).toNat)
      case atStart => exact ⟨0, none, 0, Nat.zero_le _, rfl, HMT, Lib.hid ⟨rfl, rfl⟩⟩
      case round =>
        obtain ⟨k, lo, d, hk, rfl, HS, HZ⟩ := hrel
        by_cases hlt : k < M
        · have HGO := Lib.hid (rdGo_go (n := k) (l := lr) HZ.out.1); have HBD := Lib.hid (rdGo_bad (n := k) (l := lr) HZ.out.1)
          have HST := Lib.hid (fun (h : (rdGo (k + 1) lr).1 ≠ 0) => rdGo_stays h M (by omega))
          have HLN := Lib.hid HZ.out.2
          have HNU := Lib.hid (numsT hlt HM12.out)
          have hkM : (k : Int) < (M : Int) := by omega
          have hk0 : (0 : Int) ≤ (k : Int) := by omega
          have HLT := Lib.hid hlt
          have HKL : Hid (k ≤ 12) := Lib.hid (by have := HM12.out; omega)
          generalize (rdGo k lr).2.1 = bs at HS HGO HLN
          generalize (rdGo k lr).2.2 = l0 at HS HGO HBD
          have CX := rsText_any B q l0 wr HS.out.src
          obtain ⟨te, nm, l1, ke, ev, l2, e1, e2, e3, e4, e5, e6, e7, e8, e9, e10, hwd⟩ := rb_parts HS.out.src.len
          rw [e1, e2, e3] at CX
          have HTK := Lib.hid (fun (u : World) (hu : RefIs u B q l1) (hb : B ≤ u.heap.size) => r4Take_any B q l1 u hu hb)
          rw [e4, e5, e6] at HTK
          rw [e9, e10] at HGO
          have HE7 := Lib.hid e7; have HE8 := Lib.hid e8; have HWD := Lib.hid hwd
          have hct := HTK.out
          unfold evV at hct
          have HTK := Lib.hid hct
          have HCX := Lib.hid CX
          generalize rbErr l0 = re at HGO HBD HE7 HE8
          clear hlt hk HZ e1 e2 e3 e4 e5 e6 e7 e8 e9 e10 hwd hct CX
          by_cases ht : te = 0
          case neg =>
            obtain ⟨tI, htI⟩ : ∃ tI : Int, tI = (te : Int) := ⟨_, rfl⟩
            have hti : tI ≠ 0 := by rw [htI]; omega
            have HRE := Lib.hid (HE7.out ht)
            rw [← htI] at HRE HCX
            have HTI := Lib.hid hti
            have b1 : (tI != 0) = true := by simp [hti]
            have HB1 := Lib.hid (HBD.out (by rw [HRE.out]; exact hti))
            clear ht htI hti
            go_wp2_with fail
            (with_reducible refine HCX.out.mono ?_)
            rintro e w2 ⟨rfl, hs2, k2⟩
            have HS := Lib.hid (HS.out.call k2 hs2)
            clear hs2 k2
            have r0 := cells_one0 HS.out.res
            have g0 := free_cells_of HS.out.res 0
            have x0 := cells_one0 HS.out.box
            have HF := Lib.hid (HS.out.fin (by rw [HLN.out]; exact HKL.out) (.slice lo k d))
            have HRS2 := Lib.hid (heap_setCell_same (k := 0) HS.out.res (.slice lo k d))
            go_wp2
            have z := cells_one0 HRS2.out
            refine bodyPost_ret (v := .tuple #[.agg #[.slice lo k d], .int .i64 tI]) (by simp [results, Try.results64, go_sem, z]) rfl ?_
            have hre2 : (rdP l).1 = tI := by rw [HR.out, HST.out (by rw [HB1.out, HRE.out]; exact HTI.out), HB1.out, HRE.out]
            rw [hre2]
            exact ⟨_, _, _, rfl, fun h => absurd h HTI.out, ⟨_, HF.out.2.1, fun h => absurd h HTI.out⟩, HF.out.2.2⟩
          case pos =>
            have HRE := Lib.hid (HE8.out ht)
            subst ht
            go_wp2_with fail
            (with_reducible refine HCX.out.mono ?_)
            rintro e w2 ⟨rfl, hs2, k2⟩
            have HS2 := Lib.hid (HS.out.call k2 hs2)
            clear hs2 k2
            have HT2 := Lib.hid (HTK.out w2 HS2.out.src (Nat.le_trans HS2.out.hB HS2.out.kept.below.size))
            by_cases hke : ke = 0
            case neg =>
              have b1 : (ke != 0) = true := by simp [hke]
              have HKE := Lib.hid hke
              have HB1 := Lib.hid (HBD.out (by rw [HRE.out]; exact hke))
              clear hke
              go_wp2_with fail
              (with_reducible refine HT2.out.mono ?_)
              rintro e w3 ⟨v3, rfl, ho3, hs3, k3⟩
              obtain ⟨aa, ac, rfl⟩ := own_slice ho3
              have HS := Lib.hid ((HS2.out.call k3 hs3).alloc (.cells #[.int .i64 ev.src, .int .i64 ev.seq, .int .i64 ev.time, .string ev.ty, .slice aa ev.ats.length ac] 36))
              clear ho3 hs3 k3
              have r0 := cells_one0 HS.out.res
              have g0 := free_cells_of HS.out.res 0
              have x0 := cells_one0 HS.out.box
              have HF := Lib.hid (HS.out.fin (by rw [HLN.out]; exact HKL.out) (.slice lo k d))
              have HRS2 := Lib.hid (heap_setCell_same (k := 0) HS.out.res (.slice lo k d))
              go_wp2
              have z := cells_one0 HRS2.out
              refine bodyPost_ret (v := .tuple #[.agg #[.slice lo k d], .int .i64 ke]) (by simp [results, Try.results64, go_sem, z]) rfl ?_
              have hre2 : (rdP l).1 = ke := by rw [HR.out, HST.out (by rw [HB1.out, HRE.out]; exact HKE.out), HB1.out, HRE.out]
              rw [hre2]
              exact ⟨_, _, _, rfl, fun h => absurd h HKE.out, ⟨_, HF.out.2.1, fun h => absurd h HKE.out⟩, HF.out.2.2⟩
            case pos =>
              have HG1 := Lib.hid (HGO.out (by rw [HRE.out]; exact hke))
              subst hke
              go_wp2_with fail
              (with_reducible refine HT2.out.mono ?_)
              rintro e w3 ⟨v3, rfl, ho3, hs3, k3⟩
              obtain ⟨aa, ac, rfl⟩ := own_slice ho3
              have HS3 := Lib.hid ((HS2.out.call k3 hs3).alloc (.cells #[.int .i64 ev.src, .int .i64 ev.seq, .int .i64 ev.time, .string ev.ty, .slice aa ev.ats.length ac] 36))
              have hsz3 : P ≤ w2.heap.size := by have := HS2.out.size; omega
              have HO3 := Lib.hid ((own_lower0 ho3 hsz3).alloc (.cells #[.int .i64 ev.src, .int .i64 ev.seq, .int .i64 ev.time, .string ev.ty, .slice aa ev.ats.length ac] 36))
              have HX3 := Lib.hid (heap_alloc_new w3 (.cells #[.int .i64 ev.src, .int .i64 ev.seq, .int .i64 ev.time, .string ev.ty, .slice aa ev.ats.length ac] 36))
              clear ho3 hs3 k3 hsz3
              have hP6 := cells_one0 HS3.out.box
              obtain ⟨c0, c1, c2, c3, c4⟩ := cell_of_five HX3.out
              obtain ⟨ys, hy1, hy2⟩ := HS3.out.row
              rw [HLN.out] at hy1
              have HY1 := Lib.hid hy1; have HY2 := Lib.hid hy2
              have HSP := Lib.hid (fun (w4 : World) (v4 : Value) (hown : w4.ownsRow (P + 1 + 1) 91 6 v4 (k + 1) (ys ++ encB ⟨nm, ev⟩ (.slice aa ev.ats.length ac))) (hg : ((w3.alloc (.cells #[.int .i64 ev.src, .int .i64 ev.seq, .int .i64 ev.time, .string ev.ty, .slice aa ev.ats.length ac] 36)).alloc (.cells #[.string nm, .int .i64 ev.src, .int .i64 ev.seq, .int .i64 ev.time, .string ev.ty, .slice aa ev.ats.length ac] 91)).grownBy w4 (Value.slice lo k d).ownBlock) =>
                And.intro ((HS3.out.alloc (.cells #[.string nm, .int .i64 ev.src, .int .i64 ev.seq, .int .i64 ev.time, .string ev.ty, .slice aa ev.ats.length ac] 91)).step (x := ⟨nm, ev⟩) (by rw [HLN.out]; exact HY1.out.alloc _) (HY2.out.imp fun v y _ hy => (⟨hy.1.alloc _, hy.2⟩ : OwA _ P v y.ev.ats)) rfl (⟨HO3.out.alloc _, HWD.out.2.2⟩ : OwA _ P _ _) ⟨HWD.out.1, HWD.out.2.1⟩ (by rw [HLN.out]; exact hown) hg)
                  (show w4.heap[P + 1]? = some (.cells #[.slice lo k d] 43 (0, 0)) from (hg.block (P + 1) (by have := HS3.out.size; simp at this ⊢; omega) (fun e => by have := (HY1.out.lt (P + 1) e.symm).1; omega)).trans (heap_alloc_keeps HS3.out.box _)))
              have HLE : Hid (P + 1 + 1 ≤ (w3.alloc (.cells #[.int .i64 ev.src, .int .i64 ev.seq, .int .i64 ev.time, .string ev.ty, .slice aa ev.ats.length ac] 36)).heap.size) := Lib.hid HS3.out.size
              have HNW := Lib.hid (RwL.news (w3.alloc (.cells #[.int .i64 ev.src, .int .i64 ev.seq, .int .i64 ev.time, .string ev.ty, .slice aa ev.ats.length ac] 36)) ⟨nm, ev⟩ aa ac)
              rw [show (w3.alloc (.cells #[.int .i64 ev.src, .int .i64 ev.seq, .int .i64 ev.time, .string ev.ty, .slice aa ev.ats.length ac] 36)).heap.size = w3.heap.size + 1 by simp] at HNW
              clear hy1 hy2
              go_wp2_with (at_builtin; refine wpList_append_own _ rfl _ _ 41 rfl (P + 1 + 1) 91 i0 (.agg #[.string ⟨#[]⟩, .int .i64 0, .int .i64 0, .int .i64 0, .string ⟨#[]⟩, .slice none 0 0]) 6 80 Try.underlying41 hi0 hz0 hz1 hz2 rfl (by decide) _ k ys rfl (HY1.out.alloc _) ⟨w3.heap.size + 1, 0, none⟩ 1 1 (encB ⟨nm, ev⟩ (.slice aa ev.ats.length ac)) rfl rfl HNW.out (encB_one _ _ _ _) HNU.out.1 HNU.out.2 (by have := HLE.out; simp at this ⊢; omega) ?_; intro v4 w4 hown4 hg4 hn4; clear hn4; obtain ⟨lo4, d4, rfl⟩ := own_slice hown4; have HF := Lib.hid (HSP.out w4 _ hown4 hg4); clear hown4 hg4; have z0 := cells_one0 HF.out.2; have zf := free_cells_of HF.out.2 0)
              go_roundw
              case rel =>
                refine ⟨k + 1, lo4, d4, HLT.out, by go_num, ?_, ?_⟩
                · exact Lib.hid (MrS.to HF.out.1 HG1.out)
                · exact Lib.hid (rd_len HG1.out HLN.out)
              case measure => have := HLT.out; simp [intOf]; omega
        · have hkM : M = k := Nat.le_antisymm (Nat.le_of_not_lt hlt) hk
          subst hkM
          have hnl : ¬ ((M : Int) < (M : Int)) := by omega
          have HZ2 := Lib.hid (show (rdP l) = (0, (rdGo M lr).2.1, (rdGo M lr).2.2) by rw [HR.out]; have := HZ.out.1; generalize rdGo M lr = r at *; obtain ⟨r1, r2, r3⟩ := r; simp only at this; rw [this])
          have HL12 : Hid ((rdGo M lr).2.1.length ≤ 12) := Lib.hid (by rw [HZ.out.2]; exact HM12.out)
          clear hlt hk
          have r0 := cells_one0 HS.out.res
          have g0 := free_cells_of HS.out.res 0
          have x0 := cells_one0 HS.out.box
          have HF := Lib.hid (HS.out.fin HL12.out (.slice lo M d))
          have HRS2 := Lib.hid (heap_setCell_same (k := 0) HS.out.res (.slice lo M d))
          go_wp2
          have z := cells_one0 HRS2.out
          refine bodyPost_ret (v := .tuple #[.agg #[.slice lo M d], .int .i64 0]) (by simp [results, Try.results64, go_sem, z]) rfl ?_
          rw [HZ2.out]
          exact ⟨_, _, _, rfl, fun _ => HF.out.1, ⟨_, HF.out.2.1, fun _ => rfl⟩, HF.out.2.2⟩
end Go.Proofs.Ytpbloplbpkedcaa

/- Contracts: whether a bound may stand where it does. -/
namespace Go.Proofs.Ytpbloplbpkedcaa
open Go Go.RowKit

set_option maxRecDepth 100000 in
set_option maxHeartbeats 1600000 in
theorem mMayStand1_any (P : Nat) (x y : Bd) (v u : Value) (w : World) (hP : w.heap[P]? = some (.cells #[.string x.var, .int .i64 x.ev.src, .int .i64 x.ev.seq, .int .i64 x.ev.time, .string x.ev.ty, v] 91 (0, 0))) :
    Calls Try.prog 106 #[bdV y u, .pointer (some ⟨P, 0, none⟩)] w fun e w' => e = .returned (.bool (idE y x)) ∧ Below w.heap.size w w' := by
  have e1 := idEq_run y.ev.src y.ev.seq x.ev.src x.ev.seq
  have g1 := fun op a b => idGuard op a b y.ev.src y.ev.seq x.ev.src x.ev.seq
  rw [show (decide (y.ev.src = x.ev.src) && decide (y.ev.seq = x.ev.seq)) = idE y x from rfl] at e1
  have hlt := lt_of_block hP
  obtain ⟨c0, c1, c2, c3, c4, c5⟩ := cells_six hP
  have hne : P ≠ w.heap.size := by omega
  generalize idE y x = r at e1 ⊢
  unfold bdV
  clear hP
  go_enter Try.func106, Try.ntmps106
  go_wp2
  go_ret
  exact ⟨rfl, (Below.refl _ _).alloc (Nat.le_refl _) _⟩

set_option maxRecDepth 100000 in
set_option maxHeartbeats 3200000 in
theorem IndexFuncBd_any (P : Nat) (x : Bd) (v : Value) (B : Nat) (ao : Option Addr) (n cap : Nat) (bs : List Bd) (w : World) (h : BsV w B (.slice ao n cap) bs) (hB : B ≤ w.heap.size)
    (hP : w.heap[P]? = some (.cells #[.string x.var, .int .i64 x.ev.src, .int .i64 x.ev.seq, .int .i64 x.ev.time, .string x.ev.ty, v] 91 (0, 0))) :
    Calls Try.prog 133 #[.slice ao n cap, .func (.func 106) #[] #[.pointer (some ⟨P, 0, none⟩)]] w fun e w' => ∃ i : Int, e = .returned (.int .i64 i) ∧ decide (0 ≤ i) = (bs.any fun o => idE o x) ∧ Below w.heap.size w w' := by
  obtain ⟨hn, hn63, _⟩ := h.num
  have HN := Lib.hid hn
  have HH := Lib.hid h
  have hlt := lt_of_block hP
  have HPP := Lib.hid (fun (u : World) (hu : Below w.heap.size w u) => (hu.block P hlt).trans hP)
  have HBB := Lib.hid hB
  have eg : ∀ args w, (callFunc 106 args).run Try.prog w = .ok (.enter 106 args) w := enters_of Try.func106 (by kernel_rfl) rfl
  clear h hn hP hB hlt
  go_enter Try.func133, Try.ntmps133
  go_wp2_with fail
  go_loopw [8] (fun iv wr => ∃ k : Nat, k ≤ n ∧ iv = .int .i64 k ∧ Hid (∀ o ∈ bs.take k, idE o x = false) ∧ Below w.heap.size w wr) (fun iv _ => n - (intOf iv).toNat)
  case atStart => exact ⟨0, Nat.zero_le _, rfl, Lib.hid (fun o ho => by simp at ho), Below.refl _ _⟩
  case round =>
    obtain ⟨k, hk, rfl, HK, hb⟩ := hrel
    have HB := Lib.hid hb; clear hb
    by_cases hlt : k < n
    · obtain ⟨b, o, aa, ac, rfl, hbB, hkl, _, _, _, _, hc⟩ := HH.out.at hlt
      obtain ⟨a0, a1, a2, a3, a4, a5⟩ := six_cells (hc _ (HB.out.mono HBB.out))
      have HT := Lib.hid (take_one hkl)
      obtain ⟨y, hy⟩ : ∃ x, x = bs[k]! := ⟨_, rfl⟩
      rw [← hy] at a0 a1 a2 a3 a4 a5 HT
      have HC := Lib.hid (fun u => mMayStand1_any P x y u v)
      have HC := Lib.hid (mMayStand1_any P x y v (.slice aa y.ev.ats.length ac) _ (HPP.out _ HB.out))
      have HM : Hid (y ∈ bs) := by rw [hy, getElem!_pos bs k hkl]; exact List.getElem_mem _
      unfold bdV at HC
      have e1 : IntKind.i64.wrap ((k : Int) + 1) = (k : Int) + 1 := IntWalk.i64_in _ (by omega)
      clear hy hc hkl
      cases hr : idE y x with
      | true =>
        rw [hr] at HC
        have HR := Lib.hid hr
        clear hr
        go_wp2_with (go_at_fn 106; (with_reducible refine HC.out.mono ?_); rintro e w1 ⟨rfl, hb⟩; have HB1 := Lib.hid hb; clear hb)
        go_ret
        refine ⟨_, rfl, ?_, HB.out.trans (HB1.out.mono HB.out.size)⟩
        rw [List.any_eq_true.2 ⟨y, HM.out, HR.out⟩]
        exact decide_eq_true (by omega)
      | false =>
        rw [hr] at HC
        have HR := Lib.hid hr
        clear hr
        go_wp2_with (go_at_fn 106; (with_reducible refine HC.out.mono ?_); rintro e w1 ⟨rfl, hb⟩; have HB1 := Lib.hid hb; clear hb)
        go_roundw
        case rel => exact ⟨k + 1, by omega, by go_num, Lib.hid (fun o ho => by rw [HT.out] at ho; rcases List.mem_append.1 ho with ho | ho; exact HK.out o ho; rw [List.mem_singleton.1 ho]; exact HR.out), HB.out.trans (HB1.out.mono HB.out.size)⟩
        case measure => simp [intOf]; omega
    · go_wp2
      go_ret
      refine ⟨_, rfl, ?_, HB.out⟩
      have : (bs.any fun o => idE o x) = false := by
        rw [List.any_eq_false]
        intro o ho
        rw [HK.out o (by rw [List.take_of_length_le (by have := HN.out; omega)]; exact ho)]
        exact Bool.false_ne_true
      rw [this]; rfl

set_option maxRecDepth 100000 in
set_option maxHeartbeats 1600000 in
theorem ContainsBd_any (P : Nat) (x : Bd) (v : Value) (B : Nat) (ao : Option Addr) (n cap : Nat) (bs : List Bd) (w : World) (h : BsV w B (.slice ao n cap) bs) (hB : B ≤ w.heap.size)
    (hP : w.heap[P]? = some (.cells #[.string x.var, .int .i64 x.ev.src, .int .i64 x.ev.seq, .int .i64 x.ev.time, .string x.ev.ty, v] 91 (0, 0))) :
    Calls Try.prog 105 #[.slice ao n cap, .func (.func 106) #[] #[.pointer (some ⟨P, 0, none⟩)]] w fun e w' => e = .returned (.bool (bs.any fun o => idE o x)) ∧ Below w.heap.size w w' := by
  have HC := Lib.hid (IndexFuncBd_any P x v B ao n cap bs w h hB hP)
  clear h hB hP
  go_enter Try.func105, Try.ntmps105
  go_wp2_with (go_at_call 133; (with_reducible refine HC.out.mono ?_); rintro e w1 ⟨i, rfl, hi, hb⟩; have HB1 := Lib.hid hb; have HI := Lib.hid hi; clear hb hi)
  go_ret
  exact ⟨ret_bool0 HI.out, HB1.out⟩
end Go.Proofs.Ytpbloplbpkedcaa

/- Contract: whether a bound may stand where it does. -/
namespace Go.Proofs.Ytpbloplbpkedcaa
open Go Go.RowKit

theorem nm_no {n : Nat} {x : Bd} (h : nameB x.var.data.toList = false) (h1 : ¬ (n = 1 ∧ x.var.data.toList = [])) : nmB n x = false := by
  unfold nmB
  rw [h, Bool.false_or, Bool.and_eq_false_iff, decide_eq_false_iff_not, decide_eq_false_iff_not]
  by_cases he : x.var.data.toList = []
  · exact .inr fun e => h1 ⟨e, he⟩
  · exact .inl he
theorem nm_yes {n : Nat} {x : Bd} (h : nameB x.var.data.toList = true) : nmB n x = true := by unfold nmB; rw [h]; rfl
theorem nm_one {n : Nat} {x : Bd} (h1 : n = 1) (h2 : x.var.data.toList = []) : nmB n x = true := by
  unfold nmB; rw [decide_eq_true h1, decide_eq_true h2, Bool.and_self, Bool.or_true]
theorem st_nm {l : List Bd} {k : Nat} (h : nmB l.length l[k]! = false) : stB l k = false := by unfold stB; rw [h]; rfl
theorem st_ris {l : List Bd} {k : Nat} (h : risB l k = false) : stB l k = false := by unfold stB; rw [h, Bool.false_and, Bool.and_false]
theorem st_frs {l : List Bd} {k : Nat} (h : nmB l.length l[k]! = true) (h1 : risB l k = true) : stB l k = !((l.take k).any fun o => idE o l[k]!) := by unfold stB frsB; rw [h, h1]; rfl
theorem ris_zero (l : List Bd) : risB l 0 = true := rfl
theorem ris_no {l : List Bd} {p : Nat} (h : cbV l[p + 1]! l[p]! ≤ 0) : risB l (p + 1) = false := by unfold risB; rw [Nat.add_sub_cancel, decide_eq_true h]; simp
theorem ris_yes {l : List Bd} {p : Nat} (h : ¬ cbV l[p + 1]! l[p]! ≤ 0) : risB l (p + 1) = true := by unfold risB; rw [Nat.add_sub_cancel, decide_eq_false h]; simp

set_option maxRecDepth 100000 in
set_option maxHeartbeats 6400000 in
theorem mMayStand_any (k B : Nat) (ao : Option Addr) (n cap : Nat) (bs : List Bd) (w : World) (h : BsV w B (.slice ao n cap) bs) (hB : B ≤ w.heap.size) (hk : k < n) :
    Calls Try.prog 69 #[.slice ao n cap, .int .i64 (k : Int)] w fun e w' => e = .returned (.bool (stB bs k)) ∧ Below w.heap.size w w' := by
  obtain ⟨hn, hn63, hnc, hc63, _, hn80⟩ := h.num
  have HT := Lib.hid (h.take (k := k) (Nat.le_of_lt hk))
  have HS := Lib.hid (fun p (hp : p < n) => h.at hp)
  obtain ⟨b, o, aa, ac, rfl, hbB, hkl, hvs, _, _, _, hc⟩ := h.at hk
  obtain ⟨a0, a1, a2, a3, a4, a5⟩ := six_cells (hc w (Below.refl _ _))
  have SN := Lib.hid (st_nm (l := bs) (k := k)); have SF := Lib.hid (st_frs (l := bs) (k := k)); have SR := Lib.hid (st_ris (l := bs) (k := k))
  have RN := Lib.hid (fun p (hp : k = p + 1) => show cbV bs[k]! bs[p]! ≤ 0 → risB bs k = false from by subst hp; exact ris_no)
  have RY := Lib.hid (fun p (hp : k = p + 1) => show ¬ cbV bs[k]! bs[p]! ≤ 0 → risB bs k = true from by subst hp; exact ris_yes)
  obtain ⟨x, hx⟩ : ∃ x, x = bs[k]! := ⟨_, rfl⟩
  rw [← hx] at a0 a1 a2 a3 a4 a5 hvs SN SF RN RY
  rw [← hn] at SN SF
  have hbw : b < w.heap.size := Nat.lt_of_lt_of_le hbB hB
  have hbne : b ≠ w.heap.size := by omega
  have CN := fun w => vName_any x.var w hvs
  obtain ⟨P, hP⟩ : ∃ P, P = w.heap.size := ⟨_, rfl⟩
  have HBO : Hid (Below P w (w.alloc (.cells #[.string x.var, .int .i64 x.ev.src, .int .i64 x.ev.seq, .int .i64 x.ev.time, .string x.ev.ty, .slice aa x.ev.ats.length ac] 91))) := by rw [hP]; exact (Below.refl _ _).alloc (Nat.le_refl _) _
  have HPX : Hid ((w.alloc (.cells #[.string x.var, .int .i64 x.ev.src, .int .i64 x.ev.seq, .int .i64 x.ev.time, .string x.ev.ty, .slice aa x.ev.ats.length ac] 91)).heap[P]? = some (.cells #[.string x.var, .int .i64 x.ev.src, .int .i64 x.ev.seq, .int .i64 x.ev.time, .string x.ev.ty, .slice aa x.ev.ats.length ac] 91 (0, 0))) := by rw [hP]; exact heap_alloc_new w _
  have HBB := Lib.hid hB; have HX := Lib.hid hx
  have hk0 : (0 : Int) ≤ (k : Int) := by omega
  have hkn : (k : Int) ≤ (cap : Int) := by omega
  have hkn' : (k : Int) < (n : Int) := by omega
  have nn0 := World.new_ne w ⟨b, o + k * 6, none⟩ a0; have nn1 := World.new_ne w ⟨b, o + k * 6 + 1, none⟩ a1; have nn2 := World.new_ne w ⟨b, o + k * 6 + 2, none⟩ a2
  have nn3 := World.new_ne w ⟨b, o + k * 6 + 3, none⟩ a3; have nn4 := World.new_ne w ⟨b, o + k * 6 + 4, none⟩ a4; have nn5 := World.new_ne w ⟨b, o + k * 6 + 5, none⟩ a5
  have HP := Lib.hid hP
  rw [← hP]
  clear hc h hx hB hn hkl hvs hP
  go_enter Try.func69, Try.ntmps69
  go_wp2_with fail
  go_region_held3 (fun w' => w'.cell? ⟨b, o + k * 6, none⟩ = some (.string x.var) ∧ w'.cell? ⟨b, o + k * 6 + 1, none⟩ = some (.int .i64 x.ev.src) ∧ w'.cell? ⟨b, o + k * 6 + 2, none⟩ = some (.int .i64 x.ev.seq) ∧ w'.cell? ⟨b, o + k * 6 + 3, none⟩ = some (.int .i64 x.ev.time) ∧ w'.cell? ⟨b, o + k * 6 + 4, none⟩ = some (.string x.ev.ty) ∧ w'.cell? ⟨b, o + k * 6 + 5, none⟩ = some (.slice aa x.ev.ats.length ac)) (first | exact ⟨a0, a1, a2, a3, a4, a5⟩ | go_keep) (fail)
  obtain ⟨W, hW⟩ : ∃ W, W = (w.alloc (.cells #[.string x.var, .int .i64 x.ev.src, .int .i64 x.ev.seq, .int .i64 x.ev.time, .string x.ev.ty, .slice aa x.ev.ats.length ac] 91)).drew := ⟨_, rfl⟩
  rw [← hW, ← HP.out]
  have hPW : W.heap[P]? = some (.cells #[.string x.var, .int .i64 x.ev.src, .int .i64 x.ev.seq, .int .i64 x.ev.time, .string x.ev.ty, .slice aa x.ev.ats.length ac] 91 (0, 0)) := by rw [hW]; exact HPX.out
  have HBW : Hid (Below P w W) := by rw [hW]; exact HBO.out.drew
  have HW := Lib.hid hW
  have HCC := Lib.hid (fun q => ContainsBd_any P x (.slice aa x.ev.ats.length ac) B _ k cap (bs.take k) (W.drewN q) (HT.out.below (Below.drewN' HBW.out q) (by have := HBB.out; have := HP.out; omega)) (show B ≤ W.heap.size by have := HBB.out; have := HP.out; have := HBW.out.size; omega) hPW)
  have HPS : Hid (P ≤ W.heap.size) := Lib.hid (by have := HBW.out.size; have := HP.out; omega)
  have hPlt := lt_of_block hPW
  obtain ⟨c0, c1, c2, c3, c4, c5⟩ := cells_six hPW
  clear hW hPW a0 a1 a2 a3 a4 a5 nn0 nn1 nn2 nn3 nn4 nn5 hbne
  generalize hany : ((bs.take k).any fun o => idE o x) = r at HCC SF
  clear hany
  cases hnm : nameB x.var.data.toList with
  | false =>
    rw [hnm] at CN
    have HCN := Lib.hid CN
    by_cases h1 : n = 1
    · by_cases h2 : x.var.data.toList = []
      · have HNM := Lib.hid (nm_one (x := x) h1 h2)
        subst h1
        obtain rfl : k = 0 := by omega
        have HST := Lib.hid (SF.out HNM.out (ris_zero _))
        have g1 : x.var.toList = [] := by rw [Lib.toList_data]; exact h2
        have g2 : (x.var.toList == []) = true := by rw [g1]; rfl
        have g3 : x.var.toList.isEmpty = true := by rw [g1]; rfl
        clear CN hnm h2
        go_wp2_with (go_at_call 104; (with_reducible refine (HCN.out _).mono ?_); rintro e w1 ⟨rfl, rfl⟩)
        go_quiet (fail)
        go_wp2_with (go_at_call 105; (with_reducible refine (HCC.out _).mono ?_); rintro e w1 ⟨rfl, hb⟩; have HB1 := Lib.hid hb; clear hb)
        go_ret
        exact ⟨ret_bool0 HST.out.symm, (Below.drewN' HBW.out _).trans (HB1.out.mono HPS.out)⟩
      · have HST := Lib.hid (SN.out (nm_no hnm (fun h => h2 h.2)))
        have g1 : ¬ x.var.toList = [] := by rw [Lib.toList_data]; exact h2
        have g2 : (x.var.toList == []) = false := by simp [g1]
        have g3 : x.var.toList.isEmpty = false := by simp [g1]
        subst h1
        clear CN hnm h2
        go_wp2_with (go_at_call 104; (with_reducible refine (HCN.out _).mono ?_); rintro e w1 ⟨rfl, rfl⟩)
        go_ret
        exact ⟨ret_bool0 HST.out.symm, HBW.out⟩
    · have HST := Lib.hid (SN.out (nm_no hnm (fun h => h1 h.1)))
      have g1 : ((n : Int) == 1) = false := by simp; omega
      clear CN hnm
      go_wp2_with (go_at_call 104; (with_reducible refine (HCN.out _).mono ?_); rintro e w1 ⟨rfl, rfl⟩)
      go_ret
      exact ⟨ret_bool0 HST.out.symm, HBW.out⟩
  | true =>
    rw [hnm] at CN
    have HCN := Lib.hid CN
    have HNM := Lib.hid (nm_yes (n := n) hnm)
    clear CN hnm
    by_cases hk00 : k = 0
    · subst hk00
      have HST := Lib.hid (SF.out HNM.out (ris_zero _))
      go_wp2_with (go_at_call 104; (with_reducible refine (HCN.out _).mono ?_); rintro e w1 ⟨rfl, rfl⟩)
      go_quiet (fail)
      go_wp2_with (go_at_call 105; (with_reducible refine (HCC.out _).mono ?_); rintro e w1 ⟨rfl, hb⟩; have HB1 := Lib.hid hb; clear hb)
      go_ret
      exact ⟨ret_bool0 HST.out.symm, (Below.drewN' HBW.out _).trans (HB1.out.mono HPS.out)⟩
    · obtain ⟨p, rfl⟩ : ∃ p, k = p + 1 := ⟨k - 1, by omega⟩
      obtain ⟨b', o', _, _, he, _, _, _, _, _, _, hcy⟩ := HS.out p (by omega)
      simp only [Option.some.injEq, Addr.mk.injEq, and_true] at he
      obtain ⟨rfl, rfl⟩ := he
      have p0 : W.cell? ⟨b, o + p * 6, none⟩ = some (.string bs[p]!.var) := hcy W (HBW.out.mono (by have := HBB.out; have := HP.out; omega)) 0 _ rfl
      have hle := leq_at (a := x.var) (b := bs[p]!.var) rfl
      have hcv : cbV x bs[p]! = Lib.compareBytes x.var.data.toList bs[p]!.var.data.toList := rfl
      have RN1 := Lib.hid (RN.out p rfl); have RY1 := Lib.hid (RY.out p rfl)
      generalize bs[p]! = y at p0 hle hcv RN1 RY1
      by_cases hlec : cbV x y ≤ 0
      · have HST := Lib.hid (SR.out (RN1.out hlec))
        have hr := cb_range x.var.data.toList y.var.data.toList
        rw [hcv] at hlec
        obtain ⟨hl1, hl2⟩ := hle
        generalize Lib.compareBytes x.var.data.toList y.var.data.toList = c at hl1 hl2 hlec hr
        have hc3 : c = -1 ∨ c = 0 := by omega
        clear hlec hr hk00 hcy hcv
        rcases hc3 with rfl | rfl
        all_goals
          simp only [show decide ((-1 : Int) < 0) = true from rfl, show decide ((0 : Int) < 0) = false from rfl, show decide ((-1 : Int) = 0) = false from rfl] at hl1 hl2
          go_wp2_with (go_at_call 104; (with_reducible refine (HCN.out _).mono ?_); rintro e w1 ⟨rfl, rfl⟩)
          go_quiet (fail)
          go_wp2
          go_ret
          exact ⟨ret_bool0 HST.out.symm, Below.drewN' HBW.out _⟩
      · have HST := Lib.hid (SF.out HNM.out (RY1.out (by first | exact hlec | omega)))
        rw [hcv] at hlec
        obtain ⟨hl1, hl2⟩ := hle
        rw [decide_eq_false (by omega)] at hl1 hl2
        clear hlec hk00 hcy hcv
        go_wp2_with (go_at_call 104; (with_reducible refine (HCN.out _).mono ?_); rintro e w1 ⟨rfl, rfl⟩)
        go_quiet (fail)
        go_wp2_with (go_at_call 105; (with_reducible refine (HCC.out _).mono ?_); rintro e w1 ⟨rfl, hb⟩; have HB1 := Lib.hid hb; clear hb)
        go_ret
        exact ⟨ret_bool0 HST.out.symm, (Below.drewN' HBW.out _).trans (HB1.out.mono HPS.out)⟩
end Go.Proofs.Ytpbloplbpkedcaa

/- Contract: which partial matches may be: the program's. -/
namespace Go.Proofs.Ytpbloplbpkedcaa
open Go Go.RowKit

theorem ckP_long {l : List Bd} (h : 12 < l.length) : ckP l = 100 := if_pos h
theorem ckP_go {l : List Bd} (h : ¬ 12 < l.length) : ckP l = ckFr l 0 := if_neg h
theorem ckFr_at {l : List Bd} {k : Nat} (h : k < l.length) (h1 : stB l k = true) (h2 : ckE l[k]!.ev = 0) : ckFr l k = ckFr l (k + 1) := ckFr_go h (by rw [ckAt_ev h1, h2])
theorem ckFr_er {l : List Bd} {k : Nat} (h : k < l.length) (h1 : stB l k = true) (h2 : ckE l[k]!.ev ≠ 0) : ckFr l k = ckE l[k]!.ev := by rw [ckFr_bad h (by rw [ckAt_ev h1]; exact h2), ckAt_ev h1]
set_option maxRecDepth 100000 in
set_option maxHeartbeats 6400000 in
theorem mCheck_any (B : Nat) (ao : Option Addr) (n cap : Nat) (bs : List Bd) (w : World) (h : BsV w B (.slice ao n cap) bs) (hB : B ≤ w.heap.size) :
    Calls Try.prog 31 #[.agg #[.slice ao n cap]] w fun e w' => e = .returned (.int .i64 (ckP bs)) ∧ Below w.heap.size w w' := by
  obtain ⟨hn, hn63, hnc, hc63, _, hn80⟩ := h.num
  have HN := Lib.hid hn
  obtain ⟨P, hP⟩ : ∃ P, P = w.heap.size := ⟨_, rfl⟩
  obtain ⟨W, hW⟩ : ∃ W, W = w.alloc (.cells #[.slice ao n cap] 43) := ⟨_, rfl⟩
  have HB0 : Hid (Below P w W) := by rw [hW, hP]; exact (Below.refl _ _).alloc (Nat.le_refl _) _
  have hPW : W.heap[P]? = some (.cells #[.slice ao n cap] 43 (0, 0)) := by rw [hW, hP]; exact heap_alloc_new w _
  have HW := Lib.hid hW; have HP := Lib.hid hP
  have hPlt := lt_of_block hPW
  have HPX := Lib.hid (fun u (hu : Below W.heap.size W u) => cells_one0 ((hu.block P hPlt).trans hPW))
  have HH := Lib.hid (h.below HB0.out (by omega))
  have HBB : Hid (B ≤ W.heap.size) := Lib.hid (by have := HB0.out.size; omega)
  have HPS : Hid (P ≤ W.heap.size) := Lib.hid (by have := HB0.out.size; omega)
  have HBR : Hid (Below W.heap.size W W) := Lib.hid (Below.refl _ _)
  obtain c0 := HPX.out _ HBR.out
  rw [← hP]
  clear h hn hB hP hW hPW
  by_cases h12 : 12 < n
  · rw [ckP_long (by rw [← HN.out]; exact h12)]
    have h1 : (12 : Int) < (n : Int) := by omega
    go_enter Try.func31, Try.ntmps31
    go_wp2
    go_ret
    exact ⟨rfl, by rw [← HW.out]; exact HB0.out⟩
  · rw [ckP_go (by rw [← HN.out]; exact h12)]
    go_enter Try.func31, Try.ntmps31
    go_wp2_with fail
    rw [← HW.out, ← HP.out]
    go_loopw [13] (fun iv wr => ∃ k : Nat, k ≤ n ∧ iv = .int .i64 k ∧ Hid (ckFr bs 0 = ckFr bs k) ∧ Hid (Below W.heap.size W wr)) (fun iv _ => n - (intOf iv).toNat)
    case atStart => exact ⟨0, Nat.zero_le _, rfl, Lib.hid rfl, HBR⟩
    case round =>
      obtain ⟨k, hk, rfl, HK, HB⟩ := hrel
      clear c0
      by_cases hlt : k < n
      · have hav0 := HH.out.at hlt
        obtain ⟨b, o, aa, ac, hao, hbB, hkl, hvs, hts, hnil, hav, hc⟩ := hav0
        have hX0 := fun (Y : Obj) => HB.out.alloc HB.out.size Y
        have C1 := fun (Y : Obj) => mMayStand_any k B ao n cap bs (wr.alloc Y) (HH.out.below (hX0 Y) HBB.out) (Nat.le_trans HBB.out (hX0 Y).size) hlt
        have HER := Lib.hid (ckFr_er (l := bs) hkl); have HAT := Lib.hid (ckFr_at (l := bs) hkl); have HST := Lib.hid (ckFr_st (l := bs) hkl)
        subst hao
        obtain ⟨a0, a1, a2, a3, a4, a5⟩ := six_cells (hc wr (HB.out.mono HBB.out))
        obtain ⟨x, hx⟩ : ∃ x, x = bs[k]! := ⟨_, rfl⟩
        rw [← hx] at a0 a1 a2 a3 a4 a5 hav hts HER HAT
        have hbw : b ≠ wr.heap.size := by have := HB.out.size; have := HBB.out; omega
        have x0 := HPX.out _ (hX0 (.cells #[.string x.var, .int .i64 x.ev.src, .int .i64 x.ev.seq, .int .i64 x.ev.time, .string x.ev.ty, .slice aa x.ev.ats.length ac] 91))
        have HC1 := Lib.hid (C1 (.cells #[.string x.var, .int .i64 x.ev.src, .int .i64 x.ev.seq, .int .i64 x.ev.time, .string x.ev.ty, .slice aa x.ev.ats.length ac] 91))
        have HX := Lib.hid (hX0 (.cells #[.string x.var, .int .i64 x.ev.src, .int .i64 x.ev.seq, .int .i64 x.ev.time, .string x.ev.ty, .slice aa x.ev.ats.length ac] 91))
        have HXB : Hid ((wr.alloc (.cells #[.string x.var, .int .i64 x.ev.src, .int .i64 x.ev.seq, .int .i64 x.ev.time, .string x.ev.ty, .slice aa x.ev.ats.length ac] 91)).heap[wr.heap.size]? = some (.cells #[.string x.var, .int .i64 x.ev.src, .int .i64 x.ev.seq, .int .i64 x.ev.time, .string x.ev.ty, .slice aa x.ev.ats.length ac] 91 (0, 0))) := Lib.hid (heap_alloc_new wr _)
        have HXS : Hid (wr.heap.size < (wr.alloc (.cells #[.string x.var, .int .i64 x.ev.src, .int .i64 x.ev.seq, .int .i64 x.ev.time, .string x.ev.ty, .slice aa x.ev.ats.length ac] 91)).heap.size) := Lib.hid (by simp)
        have HC2 := Lib.hid (fun u (hu : Below W.heap.size W u) => eCheck_any x.ev B aa _ ac u (hav.below hu HBB.out) (Nat.le_trans HBB.out hu.size) hts)
        unfold evV at HC2
        have e1 : IntKind.i64.wrap ((k : Int) + 1) = (k : Int) + 1 := IntWalk.i64_in _ (by omega)
        clear hc hx hkl hav hX0 C1 hts hvs hnil
        cases hst : stB bs k with
        | false =>
          rw [hst] at HC1
          have HR := Lib.hid (HST.out hst)
          clear hst
          go_wp2_with (go_at_call 69; (with_reducible refine (HC1.out).mono ?_); rintro e w1 ⟨rfl, hb⟩; have HB1 := Lib.hid hb; clear hb)
          go_ret
          exact ⟨ret_int0 (HK.out.trans HR.out).symm, HB0.out.trans ((HX.out.trans (HB1.out.mono HX.out.size)).mono HPS.out)⟩
        | true =>
          rw [hst] at HC1
          generalize ckE x.ev = ce at HC2 HER HAT
          by_cases hz : ce = 0
          · subst hz
            have HR := Lib.hid (HAT.out hst rfl)
            clear hst
            go_wp2_with (first
              | (go_at_call 69; (with_reducible refine (HC1.out).mono ?_); rintro e w1 ⟨rfl, hb⟩; obtain ⟨f0, f1, f2, f3, f4, f5⟩ := cells_six ((hb.block wr.heap.size HXS.out).trans HXB.out); have HB1 := Lib.hid (HX.out.trans (hb.mono HX.out.size)); clear hb)
              | (go_at_call 70; (with_reducible refine (HC2.out _ HB1.out).mono ?_); rintro e w2 ⟨rfl, hb⟩; have HB2 := Lib.hid (HB1.out.trans (hb.mono HB1.out.size)); clear hb))
            go_roundw
            case rel => exact ⟨k + 1, by omega, by go_num, Lib.hid (HK.out.trans HR.out), HB2⟩
            case measure => simp [intOf]; omega
          · have HR := Lib.hid (HER.out hst hz)
            have hz1 : (ce == 0) = false := beq_eq_false_iff_ne.2 hz
            have hz2 : (ce != 0) = true := by simp [hz]
            clear hst
            go_wp2_with (first
              | (go_at_call 69; (with_reducible refine (HC1.out).mono ?_); rintro e w1 ⟨rfl, hb⟩; obtain ⟨f0, f1, f2, f3, f4, f5⟩ := cells_six ((hb.block wr.heap.size HXS.out).trans HXB.out); have HB1 := Lib.hid (HX.out.trans (hb.mono HX.out.size)); clear hb)
              | (go_at_call 70; (with_reducible refine (HC2.out _ HB1.out).mono ?_); rintro e w2 ⟨rfl, hb⟩; have HB2 := Lib.hid (HB1.out.trans (hb.mono HB1.out.size)); clear hb))
            go_ret
            exact ⟨ret_int0 (HK.out.trans HR.out).symm, HB0.out.trans (HB2.out.mono HPS.out)⟩
      · have HR := Lib.hid (ckFr_end (l := bs) (k := k) (by rw [← HN.out]; exact hlt))
        go_wp2
        go_ret
        exact ⟨ret_int0 (HK.out.trans HR.out).symm, HB0.out.trans (HB.out.mono HPS.out)⟩
end Go.Proofs.Ytpbloplbpkedcaa

/- Contracts: Take and Parse of a partial match. -/
namespace Go.Proofs.Ytpbloplbpkedcaa
open Go Go.RowKit

theorem src_copy {w : World} {q : Nat} {bytes : List Nat} {B p : Nat} (h : SrcIs w B q bytes p) {v : Value} (h1 : w.heap[q]? = some (.cells #[.bool true, v, .int .i64 (p : Int)] 101 (0, 0))) (hB : B ≤ w.heap.size) :
    SrcIs (w.alloc (.cells #[.bool true, v, .int .i64 (p : Int)] 101)) B w.heap.size bytes p := by
  obtain ⟨v', hq, ho⟩ := h.row
  rw [h1] at hq
  simp only [Option.some.injEq, Obj.cells.injEq, and_true] at hq
  have hv : v = v' := by simpa using hq
  subst hv
  exact ⟨hB, h.len, h.at_, h.small, v, heap_alloc_new _ _, ho.alloc _⟩
theorem BsO.keptT {w w' : World} {B base : Nat} {T : Nat → Bool} {v : Value} {bs : List Bd} (h : BsO w base v bs) (hk : Kept B T w w') (h1 : T 91 = false) (h2 : T 78 = false) : BsO w' base v bs := by
  obtain ⟨hw, hl, ys, h3, h4⟩ := h
  exact ⟨hw, hl, ys, hk.ownsRow h3 h1, h4.imp fun v x _ hx => hx.typed hk h2⟩
theorem one_set {w : World} {P : Nat} {c0 : Value} (hq : w.heap[P]? = some (.cells #[c0] 43 (0, 0))) (d : Value) : Kept 0 (fun e => e == 43) w (w.setCell ⟨P, 0, none⟩ d) := (Kept.refl _ _ _).setCell (p := ⟨P, 0, none⟩) (Nat.zero_le _) hq (by decide) d

set_option maxRecDepth 100000 in
set_option maxHeartbeats 6400000 in
theorem mTake_any (B q : Nat) (bytes : List Nat) (l : List Bool) (w : World) (h : SrcL w B q bytes l) (hB : B ≤ w.heap.size) :
    Calls Try.prog 27 #[.pointer (some ⟨q, 0, none⟩)] w fun e w' => ∃ v, e = .returned (.tuple #[.agg #[v], .int .i64 (tpErr l)]) ∧ BsO w' w.heap.size v (tpL l) ∧ SrcL w' B q bytes (tpRest l) ∧ Kept B tkT w w' := by
  obtain ⟨p, hs, hl⟩ := h
  obtain ⟨P, hP⟩ : ∃ P, P = w.heap.size := ⟨_, rfl⟩
  obtain ⟨W, hW⟩ : ∃ W, W = w.alloc (.cells #[.slice none 0 0] 43) := ⟨_, rfl⟩
  have hsW : SrcIs W B q bytes p := by rw [hW]; exact hs.below ((Below.refl w.heap.size w).alloc (Nat.le_refl _) _) (Nat.le_refl _)
  have hrW : W.heap[P]? = some (.cells #[.slice none 0 0] 43 (0, 0)) := by rw [hW, hP]; exact heap_alloc_new _ _
  have hkW : Kept B tkT w W := by rw [hW]; exact (Kept.refl _ _ _).alloc hB _
  have CB := sBits_any B q 0 bytes p W hsW (by decide)
  rw [hl] at CB
  have he0 : bitsErr 0 l.length = 0 := bitsErr_ok (n := 0) (by omega) (by omega)
  have hr0 : bitsRest l 0 = l := by unfold bitsRest; rw [he0, if_pos rfl]; rfl
  rw [he0, hr0] at CB
  have HQL := Lib.hid hs.lt
  have T1 := Lib.hid (tpErr_read (l := l)); have T2 := Lib.hid (tpErr_ck (l := l)); have T3 := Lib.hid (tpL_no (l := l)); have T4 := Lib.hid (tpL_ok (l := l)); have T5 := Lib.hid (tpRest_no (l := l)); have T6 := Lib.hid (tpRest_ok (l := l))
  have HT := Lib.hid (fun (q' : Nat) (w1 : World) (h : SrcL w1 B q' bytes l) (hB : B ≤ w1.heap.size) => mtake_any B q' bytes l w1 h hB)
  generalize (rdP l).1 = re at HT T1 T2
  generalize (rdP l).2.1 = bs at HT T2 T4
  generalize (rdP l).2.2 = l3 at HT T6
  generalize tpErr l = te at *
  generalize tpL l = tl at *
  generalize tpRest l = tr at *
  have HCB := Lib.hid CB; have HRW := Lib.hid hrW; have HKW := Lib.hid hkW; have HB := Lib.hid hB; have HW := Lib.hid hW; have HP := Lib.hid hP
  rw [← hP]
  clear CB hrW hkW hB hW hP hs hsW he0 hr0 hl
  go_enter Try.func27, Try.ntmps27
  go_wp2_with fail
  rw [← HW.out, ← HP.out]
  refine HCB.out.mono ?_
  rintro e w1 ⟨rfl, ⟨p1, hs1, hl1⟩, k1⟩
  obtain ⟨v1, hq1, ho1⟩ := hs1.row
  obtain ⟨a1, d1, rfl⟩ := own_slice ho1
  obtain ⟨c0, c1, c2⟩ := cell_of_three hq1
  have HB1 := Lib.hid (Nat.le_trans HB.out (HKW.out.trans (k1.mono (Nat.le_refl _) tkT_src)).below.size)
  have hcp := src_copy hs1 hq1 HB1.out
  have HS1 := Lib.hid hs1; have HL1 := Lib.hid hl1; have HQ1 := Lib.hid hq1; have HK1 := Lib.hid (HKW.out.trans (k1.mono (Nat.le_refl _) tkT_src)); have HR1 := Lib.hid (k1.typed _ _ _ _ HRW.out (by decide))
  obtain ⟨nb, hnb⟩ : ∃ nb, nb = bytes.length := ⟨_, rfl⟩
  rw [← hnb] at c1 hcp HQ1
  have HNB := Lib.hid hnb
  obtain ⟨Q2, hQ2⟩ : ∃ Q2, Q2 = w1.heap.size := ⟨_, rfl⟩
  obtain ⟨W1, hW1⟩ : ∃ W1, W1 = w1.alloc (.cells #[.bool true, .slice a1 nb d1, .int .i64 (p1 : Int)] 101) := ⟨_, rfl⟩
  have HR2 : Hid (W1.heap[P]? = some (.cells #[.slice none 0 0] 43 (0, 0))) := by rw [hW1]; exact Lib.hid (heap_alloc_keeps HR1.out _)
  have HS2 : Hid (SrcIs W1 B q bytes p1) := by rw [hW1]; exact Lib.hid (HS1.out.below ((Below.refl w1.heap.size w1).alloc (Nat.le_refl _) _) (Nat.le_refl _))
  have HK2 : Hid (Kept B tkT w W1) := by rw [hW1]; exact Lib.hid (HK1.out.alloc HB1.out _)
  have HB2 : Hid (B ≤ W1.heap.size) := Lib.hid (Nat.le_trans HB.out HK2.out.below.size)
  rw [← hW1, ← hQ2] at hcp
  have HC := Lib.hid (HT.out Q2 W1 ⟨p1, hcp, hl1⟩ HB2.out)
  have HNE := Lib.hid (show q < Q2 ∧ P < Q2 by rw [hQ2]; exact ⟨HS1.out.lt, lt_of_block HR1.out⟩)
  have HE1 : Hid (P ≤ W1.heap.size) := Lib.hid (Nat.le_of_lt (lt_of_block HR2.out))
  have HW1 := Lib.hid hW1; have HQE := Lib.hid hQ2
  have HCE : Hid (B ≤ P) := Lib.hid (by rw [HP.out]; exact HB.out)
  have HPE : Hid (w.heap.size ≤ P) := Lib.hid (by rw [HP.out]; exact Nat.le_refl _)
  clear hs1 hl1 hq1 ho1 k1 hcp hQ2 hW1 hnb
  go_wp2_with fail
  rw [← HW1.out, ← HQE.out]
  clear c0 c1 c2
  refine HC.out.mono ?_
  rintro e w2 ⟨v2, rfl, ho2, hz2, ⟨l2, hs2, hl2⟩, k2, kq2⟩
  have HS3 : Hid (SrcL w2 B q bytes l) := Lib.hid (by
    obtain ⟨v, hq, ho⟩ := HS2.out.row
    exact ⟨p1, ⟨HS2.out.from_, HS2.out.len, HS2.out.at_, HS2.out.small, v, kq2 _ _ _ (Nat.ne_of_lt HNE.out.1) hq, k2.ownsRow ho (by decide)⟩, HL1.out⟩)
  have HR3 := Lib.hid (k2.typed _ _ _ _ HR2.out (by decide))
  have HK3 := Lib.hid (HK2.out.trans k2)
  have HE3 : Hid (P < w2.heap.size) := Lib.hid (lt_of_block HR3.out)
  have hpl : ∃ ao c, v2 = .slice ao bs.length c ∨ v2 = .slice none 0 0 := by
    by_cases h : re = 0
    · obtain ⟨ao, c, e⟩ := (ho2 h).shape; exact ⟨ao, c, .inl e⟩
    · exact ⟨none, 0, .inr (hz2 h)⟩
  by_cases h0 : re = 0
  case neg =>
    obtain rfl := hz2 h0
    have b1 : (re != 0) = true := by simp [h0]
    have HN := Lib.hid h0
    have HTE := Lib.hid (T1.out h0)
    have HR4 := Lib.hid (heap_alloc_keeps HR3.out (.cells #[.slice none 0 0] 43))
    have HS4 := Lib.hid (HS3.out.below ((Below.refl w2.heap.size w2).alloc (Nat.le_refl _) (.cells #[.slice none 0 0] 43)) (Nat.le_refl _))
    have HK4 := Lib.hid (HK3.out.alloc (Nat.le_trans HB.out HK3.out.below.size) (.cells #[.slice none 0 0] 43))
    have r0 := cells_one0 HR4.out
    have g0 := free_cells_of HR4.out 0
    clear h0 hpl ho2 hz2 hs2 hl2 k2 kq2
    go_wp2
    have ks := one_set HR4.out (.slice none 0 0)
    have hz := cells_one0 (heap_setCell_same (k := 0) HR4.out (.slice none 0 0))
    refine bodyPost_ret (v := .tuple #[.agg #[.slice none 0 0], .int .i64 re]) (by simp [results, Try.results27, go_sem, hz]) rfl ?_
    have hne : te ≠ 0 := by rw [HTE.out]; exact HN.out
    rw [T3.out hne, T5.out hne, HTE.out]
    exact ⟨.slice none 0 0, rfl, BsO.nil _ _, HS4.out.kept ks (by decide) (by decide), HK4.out.setCell_fresh (p := ⟨P, 0, none⟩) HCE.out HPE.out _⟩
  case pos =>
    subst h0
    have hbo := ho2 rfl
    obtain ⟨ao2, cap2, rfl⟩ := hbo.shape
    have hl3 := hl2 rfl
    subst hl3
    obtain ⟨p3, hs3, hl3⟩ := hs2
    obtain ⟨n2, hn2⟩ : ∃ n2, n2 = bs.length := ⟨_, rfl⟩
    rw [← hn2] at hbo ⊢
    have HT2 := Lib.hid (T2.out (by simp))
    obtain ⟨W3, hW3⟩ : ∃ W3, W3 = w2.alloc (.cells #[.slice ao2 n2 cap2] 43) := ⟨_, rfl⟩
    have hb3 : Below w2.heap.size w2 W3 := by rw [hW3]; exact (Below.refl _ _).alloc (Nat.le_refl _) _
    have hx3 : W3.heap[w2.heap.size]? = some (.cells #[.slice ao2 n2 cap2] 43 (0, 0)) := by rw [hW3]; exact heap_alloc_new _ _
    have HBO := Lib.hid (hbo.call hb3)
    have HR4 := Lib.hid ((hb3.block P HE3.out).trans HR3.out)
    have HS4 := Lib.hid (HS3.out.below hb3 (Nat.le_refl _))
    have HSA := Lib.hid (hs3.below hb3 (Nat.le_refl _))
    have HKB := Lib.hid (Nat.le_trans HB.out HK3.out.below.size)
    have HK4 : Hid (Kept B tkT w W3) := by rw [hW3]; exact Lib.hid (HK3.out.alloc HKB.out _)
    have HCK := Lib.hid (mCheck_any W3.heap.size ao2 n2 cap2 bs W3 HBO.out.bsv (Nat.le_refl _))
    have HX3 := Lib.hid hx3
    have x0 := cells_one0 hx3
    have HWE := Lib.hid hW3
    have HL3 := Lib.hid hl3
    rw [hW3] at x0
    have HX4 := Lib.hid (fun (u : World) (hu : Below W3.heap.size W3 u) => (hu.block _ (lt_of_block hx3)).trans hx3)
    have HNE2 := Lib.hid (show w2.heap.size ≠ P from Nat.ne_of_gt HE3.out)
    generalize ckP bs = ck at HCK HT2
    clear ho2 hz2 hl2 k2 kq2 hpl hbo hs3 hl3 hb3 hx3 hn2 hW3
    go_wp2_with fail
    rw [← HWE.out]
    clear x0
    refine HCK.out.mono ?_
    rintro e w4 ⟨rfl, hb4⟩
    have HB4 := Lib.hid hb4
    have HR5 := Lib.hid ((hb4.block P (lt_of_block HR4.out)).trans HR4.out)
    have HX5 := Lib.hid (HX4.out w4 hb4)
    have HS5 := Lib.hid (HS4.out.below hb4 (Nat.le_refl _))
    have HSA5 := Lib.hid (HSA.out.below hb4 (Nat.le_refl _))
    have HBO5 := Lib.hid (HBO.out.call hb4)
    have HK5 := Lib.hid (HK4.out.trans (keptT_of_below (T := tkT) (B := B) hb4 HK4.out.below.size HB.out))
    have r0 := cells_one0 HR5.out
    have g0 := free_cells_of HR5.out 0
    have x0 := cells_one0 HX5.out
    clear hb4
    by_cases hc : ck = 0
    case neg =>
      have b1 : (ck != 0) = true := by simp [hc]
      have HC0 := Lib.hid hc
      clear hc
      go_wp2
      have ks := one_set HR5.out (.slice none 0 0)
      have hz := cells_one0 (heap_setCell_same (k := 0) HR5.out (.slice none 0 0))
      refine bodyPost_ret (v := .tuple #[.agg #[.slice none 0 0], .int .i64 ck]) (by simp [results, Try.results27, go_sem, hz]) rfl ?_
      have hne : te ≠ 0 := by rw [HT2.out]; exact HC0.out
      rw [T3.out hne, T5.out hne, HT2.out]
      exact ⟨.slice none 0 0, rfl, BsO.nil _ _, HS5.out.kept ks (by decide) (by decide), HK5.out.setCell_fresh (p := ⟨P, 0, none⟩) HCE.out HPE.out _⟩
    case pos =>
      have HTZ : Hid (te = 0) := Lib.hid (by rw [HT2.out]; exact hc)
      have b1 : (ck != 0) = false := by simp [hc]
      clear hc
      obtain ⟨va, hqa, hoa⟩ := HSA5.out.row
      obtain ⟨aa, da, rfl⟩ := own_slice hoa
      obtain ⟨na, hna⟩ : ∃ na, na = bytes.length := ⟨_, rfl⟩
      have HQA := Lib.hid hqa
      have HOA := Lib.hid hoa
      rw [← hna] at hqa
      obtain ⟨q0, q1, q2⟩ := cell_of_three hqa
      obtain ⟨pq, hpq, hlq⟩ := HS5.out
      have HPQ := Lib.hid hpq
      obtain ⟨vq, hqq, _⟩ := hpq.row
      obtain ⟨s0, s1, s2⟩ := cell_of_three hqq
      have f0 := free_cells_of hqq 0; have f1 := free_cells_of hqq 1; have f2 := free_cells_of hqq 2
      have m1 : ¬ q = P := by have := HQL.out; have := HP.out; omega
      have m2 : ¬ P = q := fun e => m1 e.symm
      have m3 : ¬ q = Q2 := Nat.ne_of_lt HNE.out.1
      have m4 : ¬ Q2 = q := fun e => m3 e.symm
      have m5 : ¬ q = w2.heap.size := Nat.ne_of_lt (Nat.lt_trans (show q < P by have := HQL.out; have := HP.out; omega) HE3.out)
      have m6 : ¬ w2.heap.size = q := fun e => m5 e.symm
      have HFW := Lib.hid (HPQ.out.follow HOA.out HSA5.out.at_)
      have HNA := Lib.hid hna
      clear hqa hoa hna hpq hlq hqq
      go_wp2
      have hr6 := HFW.out.2.typed _ _ _ _ HR5.out (by decide)
      have ks := one_set hr6 (.slice ao2 n2 cap2)
      have hz := cells_one0 (heap_setCell_same (k := 0) hr6 (.slice ao2 n2 cap2))
      rw [← HNA.out] at hz hr6 ks HFW
      refine bodyPost_ret (v := .tuple #[.agg #[.slice ao2 n2 cap2], .int .i64 0]) (by simp [results, Try.results27, go_sem, hz]) rfl ?_
      rw [T4.out HTZ.out, T6.out HTZ.out, HTZ.out]
      refine ⟨.slice ao2 n2 cap2, rfl, ?_, ?_, ?_⟩
      · exact ((HBO5.out.keptT HFW.out.2.kept (by decide) (by decide)).keptT ks (by decide) (by decide)).lower HE1.out
      · exact SrcL.kept ⟨_, HFW.out.1, HL3.out⟩ ks (by decide) (by decide)
      · exact (HK5.out.trans (HFW.out.2.mono (Nat.le_refl _) tkT_src)).setCell_fresh (p := ⟨P, 0, none⟩) HCE.out HPE.out _

set_option maxRecDepth 100000 in
set_option maxHeartbeats 3200000 in
theorem mParse_any (ao : Option Addr) (cap : Nat) (bytes : List Nat) (w : World) (hbig : bytes.length ≤ 140737488355328) (hsm : ∀ c ∈ bytes, c < 256) (h : BytesAt w ao bytes) :
    Calls Try.prog 20 #[.slice ao bytes.length cap] w fun e w' => ∃ v, e = .returned (.tuple #[.agg #[v], .int .i64 (ppErr (bitsAll bytes))]) ∧ BsO w' w.heap.size v (ppL (bitsAll bytes)) ∧ Below w.heap.size w w' := by
  obtain ⟨P, hP⟩ : ∃ P, P = w.heap.size := ⟨_, rfl⟩
  obtain ⟨W, hW⟩ : ∃ W, W = w.alloc (.cells #[.slice none 0 0] 43) := ⟨_, rfl⟩
  have hbW : Below P w W := by rw [hW, hP]; exact (Below.refl _ _).alloc (Nat.le_refl _) _
  have hsz : P < W.heap.size := by rw [hW, hP]; simp
  have hrW : W.heap[P]? = some (.cells #[.slice none 0 0] 43 (0, 0)) := by rw [hW, hP]; exact heap_alloc_new _ _
  have hba : BytesAt W ao bytes := ⟨h.1, fun a ha j hj => by rw [hW]; exact Lib.cell?_alloc_some _ (h.2 a ha j hj)⟩
  have CN := newSource_any ao cap bytes W hbig hsm hba
  have C2 := fun (q : Nat) (w1 : World) (hs : SrcIs w1 W.heap.size q bytes 0) (hB : W.heap.size ≤ w1.heap.size) => mTake_any W.heap.size q bytes (bitsAll bytes) w1 ⟨0, hs, by simp [leftL]⟩ hB
  obtain ⟨l, hl⟩ : ∃ l, l = bitsAll bytes := ⟨_, rfl⟩
  rw [← hl] at C2 ⊢
  have T1 := Lib.hid (ppErr_take (l := l)); have T2 := Lib.hid (ppErr_end (l := l)); have T3 := Lib.hid (ppL_no (l := l)); have T4 := Lib.hid (ppL_ok (l := l))
  generalize tpErr l = te at *
  generalize tpL l = bs at *
  generalize tpRest l = tr at *
  generalize ppErr l = pe at *
  generalize ppL l = pl at *
  have HCN := Lib.hid CN; have HC2 := Lib.hid C2; have HBW := Lib.hid hbW; have HSZ := Lib.hid hsz; have HRW := Lib.hid hrW; have HW := Lib.hid hW; have HP := Lib.hid hP
  rw [← hP]
  clear hbig hsm h hP hW hbW hsz hrW hba CN C2 hl
  go_enter Try.func20, Try.ntmps20
  go_wp2_with fail
  rw [← HW.out, ← HP.out]
  refine HCN.out.mono ?_
  rintro e w1 ⟨q, rfl, hs1, b1⟩
  have HS1 := Lib.hid hs1; have HB1 := Lib.hid b1
  clear hs1 b1
  go_wp2_with fail
  refine (HC2.out q w1 HS1.out HB1.out.size).mono ?_
  rintro e w2 ⟨v2, rfl, ho2, hs2, k2⟩
  obtain ⟨ao2, cap2, rfl⟩ := ho2.shape
  obtain ⟨n2, hn2⟩ : ∃ n2, n2 = bs.length := ⟨_, rfl⟩
  rw [← hn2] at ho2 ⊢
  obtain ⟨W3, hW3⟩ : ∃ W3, W3 = w2.alloc (.cells #[.slice ao2 n2 cap2] 43) := ⟨_, rfl⟩
  have hb3 : Below w2.heap.size w2 W3 := by rw [hW3]; exact (Below.refl _ _).alloc (Nat.le_refl _) _
  have hbb : Below P w w2 := HBW.out.trans ((HB1.out.trans k2.below).mono (Nat.le_of_lt HSZ.out))
  have HO3 := Lib.hid (ho2.call hb3)
  have HS3 := Lib.hid (hs2.below hb3 (Nat.le_refl _))
  have HB3 := Lib.hid (hbb.trans (hb3.mono (by rw [HP.out]; exact hbb.size)))
  have hr2 := (k2.below.block P HSZ.out).trans ((HB1.out.block P HSZ.out).trans HRW.out)
  have HR3 := Lib.hid ((hb3.block P (lt_of_block hr2)).trans hr2)
  have HX3 : Hid (W3.heap[w2.heap.size]? = some (.cells #[.slice ao2 n2 cap2] 43 (0, 0))) := by rw [hW3]; exact Lib.hid (heap_alloc_new _ _)
  have HL2 := Lib.hid (show P ≤ w1.heap.size from Nat.le_trans (Nat.le_of_lt HSZ.out) HB1.out.size)
  have m1 : ¬ w2.heap.size = P := by have := lt_of_block hr2; omega
  have m2 : ¬ P = w2.heap.size := fun e => m1 e.symm
  have HWE := Lib.hid hW3
  clear ho2 hs2 k2 hbb hr2 hb3 hn2 hW3
  by_cases h0 : te = 0
  · have HTZ := Lib.hid (T2.out h0)
    subst h0
    obtain ⟨p3, hs3, hl3⟩ := HS3.out
    have CE := sEnd_left W.heap.size q bytes p3 W3 hs3
    rw [hl3] at CE
    generalize endErrL tr = en at CE HTZ
    have HCE := Lib.hid CE
    clear CE hs3 hl3
    go_wp2_with fail
    rw [← HWE.out]
    refine HCE.out.mono ?_
    rintro e w4 ⟨rfl, _, k4⟩
    have HR4 := Lib.hid (k4.typed _ _ _ _ HR3.out (by decide)); have HX4 := Lib.hid (k4.typed _ _ _ _ HX3.out (by decide)); have HO4 := Lib.hid (HO3.out.keptT k4.kept (by decide) (by decide)); have HB4 := Lib.hid (HB3.out.trans (k4.below.mono (Nat.le_of_lt HSZ.out)))
    have c0 := cells_one0 HX4.out
    have r0 := cells_one0 HR4.out
    have g0 := free_cells_of HR4.out 0
    clear k4
    by_cases hn0 : en = 0
    · subst hn0
      go_wp2
      have ks := one_set HR4.out (.slice ao2 n2 cap2)
      have hz := cells_one0 (heap_setCell_same (k := 0) HR4.out (.slice ao2 n2 cap2))
      refine bodyPost_ret (v := .tuple #[.agg #[.slice ao2 n2 cap2], .int .i64 0]) (by simp [results, Try.results20, go_sem, hz]) rfl ?_
      have hp0 : pe = 0 := HTZ.out
      rw [T4.out hp0, hp0]
      exact ⟨.slice ao2 n2 cap2, rfl, (HO4.out.keptT ks (by decide) (by decide)).lower HL2.out, HB4.out.setCell (p := ⟨P, 0, none⟩) (Nat.le_refl _) _⟩
    · have b1 : ((en : Int) != 0) = true := by simp; omega
      have HN0 : Hid ((en : Int) ≠ 0) := Lib.hid (by omega)
      clear hn0
      go_wp2
      have hz := cells_one0 (heap_setCell_same (k := 0) HR4.out (.slice none 0 0))
      refine bodyPost_ret (v := .tuple #[.agg #[.slice none 0 0], .int .i64 (en : Int)]) (by simp [results, Try.results20, go_sem, hz]) rfl ?_
      have hne : pe ≠ 0 := by rw [HTZ.out]; exact HN0.out
      rw [T3.out hne, HTZ.out]
      exact ⟨.slice none 0 0, rfl, BsO.nil _ _, HB4.out.setCell (p := ⟨P, 0, none⟩) (Nat.le_refl _) _⟩
  · have b1 : (te != 0) = true := by simp [h0]
    have HTE := Lib.hid (T1.out h0); have HTN := Lib.hid h0
    have r0 := cells_one0 HR3.out
    have g0 := free_cells_of HR3.out 0
    rw [HWE.out] at r0 g0
    clear h0
    go_wp2
    have hz := cells_one0 (heap_setCell_same (k := 0) HR3.out (.slice none 0 0))
    have hB := HB3.out.setCell (p := ⟨P, 0, none⟩) (Nat.le_refl _) (.slice none 0 0)
    rw [HWE.out] at hz hB
    refine bodyPost_ret (v := .tuple #[.agg #[.slice none 0 0], .int .i64 te]) (by simp [results, Try.results20, go_sem, hz]) rfl ?_
    have hne : pe ≠ 0 := by rw [HTE.out]; exact HTN.out
    rw [T3.out hne, HTE.out]
    exact ⟨.slice none 0 0, rfl, BsO.nil _ _, hB⟩
end Go.Proofs.Ytpbloplbpkedcaa

/- Contract: which partial matches may be: the document's. -/
namespace Go.Proofs.Ytpbloplbpkedcaa
open Go Go.RowKit

theorem frs_at {l : List Bd} {k j : Nat} (hj : j < k) (hjl : j < l.length) (h : idE l[j]! l[k]! = true) : frsB l k = false := by
  unfold frsB
  rw [Bool.not_eq_false', List.any_eq_true]
  exact ⟨l[j]!, by rw [List.mem_take_iff_getElem]; exact ⟨j, by omega, (getElem!_pos l j hjl).symm⟩, h⟩
theorem frs_all {l : List Bd} {k : Nat} (h : ∀ o ∈ l.take k, idE o l[k]! = false) : frsB l k = true := by
  unfold frsB
  rw [Bool.not_eq_true', List.any_eq_false]
  exact fun o ho => by rw [h o ho]; exact Bool.false_ne_true
theorem ris_zero' {l : List Bd} {k : Nat} (h : k = 0) : risB l k = true := by subst h; rfl
theorem st_no {l : List Bd} {k : Nat} (h : frsB l k = false) : stB l k = false := by unfold stB; rw [h, Bool.and_false, Bool.and_false]
theorem st_yes {l : List Bd} {k : Nat} (h : nmB l.length l[k]! = true) (h1 : risB l k = true) (h2 : frsB l k = true) : stB l k = true := by unfold stB; rw [h, h1, h2]; rfl
set_option maxRecDepth 100000 in
set_option maxHeartbeats 12800000 in
theorem r10Check_any (B : Nat) (ao : Option Addr) (n cap : Nat) (bs : List Bd) (w : World) (h : BsV w B (.slice ao n cap) bs) (hB : B ≤ w.heap.size) :
    Calls Try.prog 65 #[.agg #[.slice ao n cap]] w fun e w' => e = .returned (.int .i64 (ckP bs)) ∧ Below w.heap.size w w' := by
  obtain ⟨hn, hn63, hnc, hc63, _, hn80⟩ := h.num
  have HN := Lib.hid hn; have HN63 := Lib.hid hn63
  clear hn63 hnc hc63 hn80
  obtain ⟨P, hP⟩ : ∃ P, P = w.heap.size := ⟨_, rfl⟩
  obtain ⟨W, hW⟩ : ∃ W, W = w.alloc (.cells #[.slice ao n cap] 43) := ⟨_, rfl⟩
  have HB0 : Hid (Below P w W) := by rw [hW, hP]; exact (Below.refl _ _).alloc (Nat.le_refl _) _
  have hPW : W.heap[P]? = some (.cells #[.slice ao n cap] 43 (0, 0)) := by rw [hW, hP]; exact heap_alloc_new w _
  have HW := Lib.hid hW; have HP := Lib.hid hP
  have hPlt := lt_of_block hPW
  have HPX := Lib.hid (fun u (hu : Below W.heap.size W u) => cells_one0 ((hu.block P hPlt).trans hPW))
  have HH := Lib.hid (h.below HB0.out (by omega))
  have HBB : Hid (B ≤ W.heap.size) := Lib.hid (by have := HB0.out.size; omega)
  have HPS : Hid (P ≤ W.heap.size) := Lib.hid (by have := HB0.out.size; omega)
  have HBR : Hid (Below W.heap.size W W) := Lib.hid (Below.refl _ _)
  obtain c0 := HPX.out _ HBR.out
  rw [← hP]
  clear h hn hB hP hW hPW
  by_cases h12 : 12 < n
  · rw [ckP_long (by rw [← HN.out]; exact h12)]
    have h1 : (12 : Int) < (n : Int) := by omega
    go_enter Try.func65, Try.ntmps65
    go_wp2
    go_ret
    exact ⟨rfl, by rw [← HW.out]; exact HB0.out⟩
  · rw [ckP_go (by rw [← HN.out]; exact h12)]
    go_enter Try.func65, Try.ntmps65
    go_wp2_with fail
    rw [← HW.out, ← HP.out]
    go_loopw [4] (fun iv wr => ∃ k : Nat, k ≤ n ∧ iv = .int .i64 k ∧ Hid (ckFr bs 0 = ckFr bs k) ∧ Hid (Below W.heap.size W wr)) (fun iv _ => n - (intOf iv).toNat)
    case atStart => exact ⟨0, Nat.zero_le _, rfl, Lib.hid rfl, HBR⟩
    case round =>
      obtain ⟨k, hk, rfl, HK, HB⟩ := hrel
      clear c0
      by_cases hlt : k < n
      · have hav0 := HH.out.at hlt
        obtain ⟨b, o, aa, ac, hao, hbB, hkl, hvs, hts, hnil, hav, hc⟩ := hav0
        have HER := Lib.hid (ckFr_er (l := bs) hkl); have HAT := Lib.hid (ckFr_at (l := bs) hkl); have HST0 := Lib.hid (ckFr_st (l := bs) hkl)
        subst hao
        obtain ⟨a0, a1, a2, a3, a4, a5⟩ := six_cells (hc wr (HB.out.mono HBB.out))
        have SN := Lib.hid (fun h => HST0.out (st_nm (l := bs) (k := k) h)); have SR := Lib.hid (fun h => HST0.out (st_ris (l := bs) (k := k) h))
        have HST1 := HST0
        have SY := Lib.hid (st_yes (l := bs) (k := k))
        have RN := Lib.hid (fun p (hp : k = p + 1) => show cbV bs[k]! bs[p]! ≤ 0 → risB bs k = false from by subst hp; exact ris_no)
        have RY := Lib.hid (fun p (hp : k = p + 1) => show ¬ cbV bs[k]! bs[p]! ≤ 0 → risB bs k = true from by subst hp; exact ris_yes)
        have hnl := HN.out
        obtain ⟨x, hx⟩ : ∃ x, x = bs[k]! := ⟨_, rfl⟩
        rw [← hx] at a0 a1 a2 a3 a4 a5 hav hts hvs hc HER HAT SN SY RN RY
        rw [← hnl] at SN SY
        have HX := Lib.hid hx
        have HCX := Lib.hid hc
        have HC2 := Lib.hid (fun u (hu : Below W.heap.size W u) => r4Check_any x.ev B aa _ ac u (hav.below hu HBB.out) (Nat.le_trans HBB.out hu.size) hts)
        unfold evV at HC2
        have e1 : IntKind.i64.wrap ((k : Int) + 1) = (k : Int) + 1 := IntWalk.i64_in _ (by have := HN63.out; omega)
        have hkn' : (k : Int) < (n : Int) := by omega
        have hk0 : (0 : Int) ≤ (k : Int) := by omega
        have C1 : ∀ u, Calls Try.prog 97 #[.string x.var] u fun e w' => e = .returned (.bool (nameB x.var.data.toList)) ∧ w' = u := fun u => (r3Name_any x.var u hvs).mono fun _ _ h => ⟨h.1, h.2.symm⟩
        clear hc hx hkl hav hts hvs hnil hnl
        cases hnm : nameB x.var.data.toList with
        | false =>
          rw [hnm] at C1
          by_cases h1 : n = 1
          · by_cases h2 : x.var.data.toList = []
            · have HNM := Lib.hid (nm_one (x := x) h1 h2)
              obtain rfl : k = 0 := by omega
              have g7 : ((n : Int) == 1) = true := by rw [h1]; rfl
              have g8 : ((n : Int) != 1) = false := by rw [h1]; rfl
              clear h1
              have HSY0 := Lib.hid (SY.out HNM.out (ris_zero _))
              have g1 : x.var.toList = [] := by rw [Lib.toList_data]; exact h2
              have g2 : (x.var.toList == []) = true := by rw [g1]; rfl
              have g3 : (x.var.toList != []) = false := by rw [g1]; rfl
              have g4 : x.var.toList.isEmpty = true := by rw [g1]; rfl
              clear hnm h2
              simp only [Nat.zero_mul, Nat.add_zero] at a0 a1 a2 a3 a4 a5
              go_wp2_with fail
              go_quiet ((go_at_call 97; exact Calls.quiet_of_same (C1 _)))
              clear C1
              go_wp2_with fail
              go_loopw [5] (fun jv wi => ∃ j : Nat, j ≤ 0 ∧ jv = .int .i64 j ∧ Hid (∀ o ∈ bs.take j, idE o x = false) ∧ Hid (Below W.heap.size W wi)) (fun jv _ => 0 - (intOf jv).toNat)
              case atStart => exact ⟨0, Nat.zero_le _, rfl, Lib.hid (fun o ho => by simp at ho), Lib.hid (Below.drewN' HB.out _)⟩
              case round =>
                obtain ⟨j, hj, rfl, HJ, HBI⟩ := hrel
                by_cases hjk : j < 0
                · exact absurd hjk (Nat.not_lt_zero _)
                · obtain rfl : j = 0 := by omega
                  have HSY := Lib.hid (HSY0.out (frs_all (l := bs) (k := 0) (fun o ho => by rw [← HX.out]; exact HJ.out o ho)))
                  obtain ⟨f0, f1, f2, f3, f4, f5⟩ := six_cells (HCX.out _ (HBI.out.mono HBB.out))
                  simp only [Nat.zero_mul, Nat.add_zero] at f0 f1 f2 f3 f4 f5
                  have HC2 := Lib.hid (HC2.out _ HBI.out)
                  generalize ckE x.ev = ce at HC2 HER HAT
                  by_cases hz : ce = 0
                  · subst hz
                    have HR := Lib.hid (HAT.out HSY.out rfl)
                    go_wp2_with (go_at_call 98; (with_reducible refine (HC2.out).mono ?_); rintro e w2 ⟨rfl, hb⟩; have HB2 := Lib.hid (HBI.out.trans (hb.mono HBI.out.size)); clear hb)
                    go_roundw
                    case rel => exact ⟨1, by omega, rfl, Lib.hid HR.out, HB2⟩
                    case measure => simp [intOf]; omega
                  · have HR := Lib.hid (HER.out HSY.out hz)
                    have hz1 : (ce == 0) = false := beq_eq_false_iff_ne.2 hz
                    have hz2 : (ce != 0) = true := by simp [hz]
                    go_wp2_with (go_at_call 98; (with_reducible refine (HC2.out).mono ?_); rintro e w2 ⟨rfl, hb⟩; have HB2 := Lib.hid (HBI.out.trans (hb.mono HBI.out.size)); clear hb)
                    go_ret
                    exact ⟨ret_int0 HR.out.symm, HB0.out.trans (HB2.out.mono HPS.out)⟩
            · have HST := Lib.hid (SN.out (nm_no hnm (fun h => h2 h.2)))
              have g1 : ¬ x.var.toList = [] := by rw [Lib.toList_data]; exact h2
              have g2 : (x.var.toList == []) = false := by simp [g1]
              have g3 : (x.var.toList != []) = true := by simp [g1]
              have g4 : x.var.toList.isEmpty = false := by simp [g1]
              have g7 : ((n : Int) == 1) = true := by rw [h1]; rfl
              have g8 : ((n : Int) != 1) = false := by rw [h1]; rfl
              clear h1
              clear hnm h2
              go_wp2_with fail
              go_quiet ((go_at_call 97; exact Calls.quiet_of_same (C1 _)))
              go_wp2
              go_ret
              exact ⟨ret_int0 (HK.out.trans HST.out).symm, HB0.out.trans ((Below.drewN' HB.out _).mono HPS.out)⟩
          · have HST := Lib.hid (SN.out (nm_no hnm (fun h => h1 h.1)))
            have g1 : ((n : Int) == 1) = false := by simp; omega
            have g2 : ((n : Int) != 1) = true := by simp; omega
            clear hnm
            cases h2 : x.var.toList.isEmpty with
            | true =>
              have g3 : x.var.toList = [] := by simpa using h2
              have g4 : (x.var.toList == []) = true := by rw [g3]; rfl
              have g5 : (x.var.toList != []) = false := by rw [g3]; rfl
              go_wp2_with fail
              go_quiet ((go_at_call 97; exact Calls.quiet_of_same (C1 _)))
              go_wp2
              go_ret
              exact ⟨ret_int0 (HK.out.trans HST.out).symm, HB0.out.trans ((Below.drewN' HB.out _).mono HPS.out)⟩
            | false =>
              have g3 : ¬ x.var.toList = [] := by simpa using h2
              have g4 : (x.var.toList == []) = false := by simp [g3]
              have g5 : (x.var.toList != []) = true := by simp [g3]
              go_wp2_with fail
              go_quiet ((go_at_call 97; exact Calls.quiet_of_same (C1 _)))
              go_wp2
              go_ret
              exact ⟨ret_int0 (HK.out.trans HST.out).symm, HB0.out.trans ((Below.drewN' HB.out _).mono HPS.out)⟩
        | true =>
          rw [hnm] at C1
          have HNM := Lib.hid (nm_yes (n := n) hnm)
          clear hnm
          by_cases hk00 : k = 0
          · subst hk00
            have HSY0 := Lib.hid (SY.out HNM.out (ris_zero _))
            simp only [Nat.zero_mul, Nat.add_zero] at a0 a1 a2 a3 a4 a5
            go_wp2_with fail
            go_quiet ((go_at_call 97; exact Calls.quiet_of_same (C1 _)))
            clear C1
            go_wp2_with fail
            go_loopw [5] (fun jv wi => ∃ j : Nat, j ≤ 0 ∧ jv = .int .i64 j ∧ Hid (∀ o ∈ bs.take j, idE o x = false) ∧ Hid (Below W.heap.size W wi)) (fun jv _ => 0 - (intOf jv).toNat)
            case atStart => exact ⟨0, Nat.zero_le _, rfl, Lib.hid (fun o ho => by simp at ho), Lib.hid (Below.drewN' HB.out _)⟩
            case round =>
              obtain ⟨j, hj, rfl, HJ, HBI⟩ := hrel
              by_cases hjk : j < 0
              · exact absurd hjk (Nat.not_lt_zero _)
              · obtain rfl : j = 0 := by omega
                have HSY := Lib.hid (HSY0.out (frs_all (l := bs) (k := 0) (fun o ho => by rw [← HX.out]; exact HJ.out o ho)))
                obtain ⟨f0, f1, f2, f3, f4, f5⟩ := six_cells (HCX.out _ (HBI.out.mono HBB.out))
                simp only [Nat.zero_mul, Nat.add_zero] at f0 f1 f2 f3 f4 f5
                have HC2 := Lib.hid (HC2.out _ HBI.out)
                generalize ckE x.ev = ce at HC2 HER HAT
                by_cases hz : ce = 0
                · subst hz
                  have HR := Lib.hid (HAT.out HSY.out rfl)
                  go_wp2_with (go_at_call 98; (with_reducible refine (HC2.out).mono ?_); rintro e w2 ⟨rfl, hb⟩; have HB2 := Lib.hid (HBI.out.trans (hb.mono HBI.out.size)); clear hb)
                  go_roundw
                  case rel => exact ⟨1, by omega, rfl, Lib.hid HR.out, HB2⟩
                  case measure => simp [intOf]; omega
                · have HR := Lib.hid (HER.out HSY.out hz)
                  have hz1 : (ce == 0) = false := beq_eq_false_iff_ne.2 hz
                  have hz2 : (ce != 0) = true := by simp [hz]
                  go_wp2_with (go_at_call 98; (with_reducible refine (HC2.out).mono ?_); rintro e w2 ⟨rfl, hb⟩; have HB2 := Lib.hid (HBI.out.trans (hb.mono HBI.out.size)); clear hb)
                  go_ret
                  exact ⟨ret_int0 HR.out.symm, HB0.out.trans (HB2.out.mono HPS.out)⟩
          · obtain ⟨p, rfl⟩ : ∃ p, k = p + 1 := ⟨k - 1, by omega⟩
            obtain ⟨b', o', _, _, he, _, _, _, _, _, _, hcy⟩ := HH.out.at (k := p) (by omega)
            simp only [Option.some.injEq, Addr.mk.injEq, and_true] at he
            obtain ⟨rfl, rfl⟩ := he
            have p0 : wr.cell? ⟨b, o + p * 6, none⟩ = some (.string bs[p]!.var) := hcy wr (HB.out.mono HBB.out) 0 _ rfl
            have hle := leq_at (a := x.var) (b := bs[p]!.var) rfl
            have hcv : cbV x bs[p]! = Lib.compareBytes x.var.data.toList bs[p]!.var.data.toList := rfl
            have RN1 := Lib.hid (RN.out p rfl); have RY1 := Lib.hid (RY.out p rfl)
            generalize bs[p]! = y at p0 hle hcv RN1 RY1
            have e2 : IntKind.i64.wrap (((p + 1 : Nat) : Int) - 1) = (p : Int) := by rw [show ((p + 1 : Nat) : Int) - 1 = (p : Int) by omega]; exact IntWalk.i64_in _ (by have := HN63.out; omega)
            have hp0 : (0 : Int) ≤ (p : Int) := by omega
            have hpn : (p : Int) < (n : Int) := by omega
            by_cases hlec : cbV x y ≤ 0
            · have HST := Lib.hid (SR.out (RN1.out hlec))
              have hr := cb_range x.var.data.toList y.var.data.toList
              rw [hcv] at hlec
              obtain ⟨hl1, hl2⟩ := hle
              generalize Lib.compareBytes x.var.data.toList y.var.data.toList = c at hl1 hl2 hlec hr
              have hc3 : c = -1 ∨ c = 0 := by omega
              clear hlec hr hk00 hcy hcv
              rcases hc3 with rfl | rfl
              all_goals
                simp only [show decide ((-1 : Int) < 0) = true from rfl, show decide ((0 : Int) < 0) = false from rfl, show decide ((-1 : Int) = 0) = false from rfl] at hl1 hl2
                go_wp2_with fail
                go_quiet ((go_at_call 97; exact Calls.quiet_of_same (C1 _)))
                go_wp2
                go_ret
                exact ⟨ret_int0 (HK.out.trans HST.out).symm, HB0.out.trans ((Below.drewN' HB.out _).mono HPS.out)⟩
            · have HSY0 := Lib.hid (SY.out HNM.out (RY1.out (by first | exact hlec | omega)))
              rw [hcv] at hlec
              obtain ⟨hl1, hl2⟩ := hle
              rw [decide_eq_false (by omega)] at hl1 hl2
              clear hlec hk00 hcy hcv
              go_wp2_with fail
              go_quiet ((go_at_call 97; exact Calls.quiet_of_same (C1 _)))
              clear C1
              go_wp2_with fail
              go_loopw [5] (fun jv wi => ∃ j : Nat, j ≤ (p + 1) ∧ jv = .int .i64 j ∧ Hid (∀ o ∈ bs.take j, idE o x = false) ∧ Hid (Below W.heap.size W wi)) (fun jv _ => (p + 1) - (intOf jv).toNat)
              case atStart => exact ⟨0, Nat.zero_le _, rfl, Lib.hid (fun o ho => by simp at ho), Lib.hid (Below.drewN' HB.out _)⟩
              case round =>
                obtain ⟨j, hj, rfl, HJ, HBI⟩ := hrel
                by_cases hjk : j < (p + 1)
                · obtain ⟨b', o', aa', ac', he, _, hjl, _, _, _, _, hcy⟩ := HH.out.at (k := j) (by omega)
                  simp only [Option.some.injEq, Addr.mk.injEq, and_true] at he
                  obtain ⟨rfl, rfl⟩ := he
                  obtain ⟨d0, d1, d2, d3, d4, d5⟩ := six_cells (hcy _ (HBI.out.mono HBB.out))
                  obtain ⟨f0, f1, f2, f3, f4, f5⟩ := six_cells (HCX.out _ (HBI.out.mono HBB.out))
                  have HFA := Lib.hid (fun h => HST1.out (st_no (frs_at (l := bs) (k := (p + 1)) hjk hjl (by rw [← HX.out]; exact h))))
                  have HTJ := Lib.hid (take_one hjl)
                  have hij : (j : Int) < (n : Int) := by omega
                  have hj0 : (0 : Int) ≤ (j : Int) := by omega
                  generalize bs[j]! = y at d0 d1 d2 d3 d4 d5 HFA HTJ
                  have e5 := idEq_run y.ev.src y.ev.seq x.ev.src x.ev.seq
                  have g5 := fun op a b => idGuard op a b y.ev.src y.ev.seq x.ev.src x.ev.seq
                  rw [show (decide (y.ev.src = x.ev.src) && decide (y.ev.seq = x.ev.seq)) = idE y x from rfl] at e5
                  have e6 : IntKind.i64.wrap ((j : Int) + 1) = (j : Int) + 1 := IntWalk.i64_in _ (by have := HN63.out; omega)
                  clear hcy hjl
                  cases hid : idE y x with
                  | true =>
                    rw [hid] at e5
                    have HR := Lib.hid (HFA.out hid)
                    clear hid
                    go_wp2_with fail
                    go_quiet (fail)
                    go_wp2
                    go_ret
                    exact ⟨ret_int0 (HK.out.trans HR.out).symm, HB0.out.trans ((Below.drewN' HBI.out _).mono HPS.out)⟩
                  | false =>
                    rw [hid] at e5
                    have HR := Lib.hid hid
                    clear hid
                    go_wp2_with fail
                    go_quiet (fail)
                    go_wp2
                    go_roundw
                    case rel => exact ⟨j + 1, by omega, by go_num, Lib.hid (fun o ho => by rw [HTJ.out] at ho; rcases List.mem_append.1 ho with ho | ho; exact HJ.out o ho; rw [List.mem_singleton.1 ho]; exact HR.out), Lib.hid (Below.drewN' HBI.out _)⟩
                    case measure => simp [intOf]; omega
                · obtain rfl : j = p + 1 := by omega
                  have HSY := Lib.hid (HSY0.out (frs_all (l := bs) (k := (p + 1)) (fun o ho => by rw [← HX.out]; exact HJ.out o ho)))
                  obtain ⟨f0, f1, f2, f3, f4, f5⟩ := six_cells (HCX.out _ (HBI.out.mono HBB.out))
                  try simp only [Nat.zero_mul, Nat.add_zero] at f0 f1 f2 f3 f4 f5
                  have HC2 := Lib.hid (HC2.out _ HBI.out)
                  generalize ckE x.ev = ce at HC2 HER HAT
                  by_cases hz : ce = 0
                  · subst hz
                    have HR := Lib.hid (HAT.out HSY.out rfl)
                    go_wp2_with (go_at_call 98; (with_reducible refine (HC2.out).mono ?_); rintro e w2 ⟨rfl, hb⟩; have HB2 := Lib.hid (HBI.out.trans (hb.mono HBI.out.size)); clear hb)
                    go_roundw
                    case rel => exact ⟨(p + 1) + 1, by omega, by go_num, Lib.hid (HK.out.trans HR.out), HB2⟩
                    case measure => simp [intOf]; omega
                  · have HR := Lib.hid (HER.out HSY.out hz)
                    have hz1 : (ce == 0) = false := beq_eq_false_iff_ne.2 hz
                    have hz2 : (ce != 0) = true := by simp [hz]
                    go_wp2_with (go_at_call 98; (with_reducible refine (HC2.out).mono ?_); rintro e w2 ⟨rfl, hb⟩; have HB2 := Lib.hid (HBI.out.trans (hb.mono HBI.out.size)); clear hb)
                    go_ret
                    exact ⟨ret_int0 (HK.out.trans HR.out).symm, HB0.out.trans (HB2.out.mono HPS.out)⟩
      · have HR := Lib.hid (ckFr_end (l := bs) (k := k) (by rw [← HN.out]; exact hlt))
        go_wp2
        go_ret
        exact ⟨ret_int0 (HK.out.trans HR.out).symm, HB0.out.trans (HB.out.mono HPS.out)⟩
end Go.Proofs.Ytpbloplbpkedcaa
