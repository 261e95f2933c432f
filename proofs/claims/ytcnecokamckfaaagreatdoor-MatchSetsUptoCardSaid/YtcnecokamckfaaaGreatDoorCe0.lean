/- Contracts: how two partial matches stand to each other; whether they are the same: the program's. -/
import Derived.Test.YtcnecokamckfaaaGreatDoorK3
import Derived.BigQuiet
import Derived.Deep.QuietTactic
import Derived.Deep.RegionHeld3
set_option linter.unusedVariables false
set_option linter.unusedSimpArgs false
namespace Go.Proofs.YtcnecokamckfaaaGreatDoor
open Go Go.RowKit

def cmpBd (x y : Bd) : Int := orI (cbV x y) (cmpID x.ev.src x.ev.seq y.ev.src y.ev.seq)
def cmpL : List Bd → List Bd → Int
  | [], [] => 0
  | [], _ :: _ => -1
  | _ :: _, [] => 1
  | x :: a, y :: b => if cmpBd x y = 0 then cmpL a b else cmpBd x y
theorem cmpL_go {a b : List Bd} {k : Nat} (ha : k < a.length) (hb : k < b.length) (h : cmpBd a[k]! b[k]! = 0) : cmpL (a.drop k) (b.drop k) = cmpL (a.drop (k + 1)) (b.drop (k + 1)) := by
  rw [List.drop_eq_getElem_cons ha, List.drop_eq_getElem_cons hb, cmpL, ← getElem!_pos a k ha, ← getElem!_pos b k hb, if_pos h]
theorem cmpL_bad {a b : List Bd} {k : Nat} (ha : k < a.length) (hb : k < b.length) (h : cmpBd a[k]! b[k]! ≠ 0) : cmpL (a.drop k) (b.drop k) = cmpBd a[k]! b[k]! := by
  rw [List.drop_eq_getElem_cons ha, List.drop_eq_getElem_cons hb, cmpL, ← getElem!_pos a k ha, ← getElem!_pos b k hb, if_neg h]
theorem cmpL_gt {a b : List Bd} {k : Nat} (ha : k < a.length) (hb : ¬ k < b.length) : cmpL (a.drop k) (b.drop k) = 1 := by
  rw [List.drop_eq_getElem_cons ha, List.drop_eq_nil_of_le (show b.length ≤ k by omega), cmpL]
theorem cmpL_lt {a b : List Bd} {k : Nat} (ha : ¬ k < a.length) (hb : k < b.length) : cmpL (a.drop k) (b.drop k) = -1 := by
  rw [List.drop_eq_getElem_cons hb, List.drop_eq_nil_of_le (show a.length ≤ k by omega), cmpL]
theorem cmpL_end {a b : List Bd} {k : Nat} (ha : ¬ k < a.length) (hb : ¬ k < b.length) : cmpL (a.drop k) (b.drop k) = 0 := by
  rw [List.drop_eq_nil_of_le (show b.length ≤ k by omega), List.drop_eq_nil_of_le (show a.length ≤ k by omega), cmpL]
def sameB (x y : Bd) : Bool := (x.var.toList == y.var.toList) && sameE x.ev y.ev
theorem sameB_iff {x y : Bd} : sameB x y = true ↔ x = y := by
  obtain ⟨v, e⟩ := x
  obtain ⟨v', e'⟩ := y
  unfold sameB
  rw [Bool.and_eq_true, sameE_iff, beq_iff_eq, Bd.mk.injEq]
  exact ⟨fun ⟨a, b⟩ => ⟨ba_ext2 a, b⟩, fun ⟨a, b⟩ => ⟨by rw [a], b⟩⟩
theorem same_ne {a b : List Bd} {k : Nat} (ha : k < a.length) (hl : a.length = b.length) (h : sameB a[k]! b[k]! = false) : decide (a = b) = false :=
  decide_eq_false fun e => by
    subst e
    rw [sameB_iff.2 rfl] at h; cases h
theorem same_all {a b : List Bd} (hl : a.length = b.length) (h : a.take a.length = b.take a.length) : decide (a = b) = true := by
  refine decide_eq_true ?_
  rwa [List.take_length, hl, List.take_length] at h

set_option maxRecDepth 100000 in
set_option maxHeartbeats 3200000 in
theorem mCmpBounds_any (x y : Bd) (v u : Value) (w : World) :
    Calls Tryz.prog 41 #[bdV x v, bdV y u] w fun e w' => e = .returned (.int .i64 (cmpBd x y)) ∧ Below w.heap.size w w' := by
  obtain ⟨P, hP⟩ : ∃ P, P = w.heap.size := ⟨_, rfl⟩
  obtain ⟨W, hW⟩ : ∃ W, W = (w.alloc (.cells #[.string x.var, .int .i64 x.ev.src, .int .i64 x.ev.seq, .int .i64 x.ev.time, .string x.ev.ty, v] 54)).alloc (.cells #[.string y.var, .int .i64 y.ev.src, .int .i64 y.ev.seq, .int .i64 y.ev.time, .string y.ev.ty, u] 54) := ⟨_, rfl⟩
  have hb0 : Below P w W := by rw [hW, hP]; exact ((Below.refl _ _).alloc (Nat.le_refl _) _).alloc (by simp) _
  have HB := hide hb0
  have hx0 : W.heap[P]? = some (.cells #[.string x.var, .int .i64 x.ev.src, .int .i64 x.ev.seq, .int .i64 x.ev.time, .string x.ev.ty, v] 54 (0, 0)) := by rw [hW, hP]; exact heap_alloc_keeps (heap_alloc_new w _) _
  have hx1 : W.heap[P + 1]? = some (.cells #[.string y.var, .int .i64 y.ev.src, .int .i64 y.ev.seq, .int .i64 y.ev.time, .string y.ev.ty, u] 54 (0, 0)) := by rw [hW, hP]; exact heap_alloc_at (by simp) rfl
  have hpw : P + 1 < W.heap.size := lt_of_block hx1
  obtain ⟨c0, c1, c2, _⟩ := cells_six hx0
  obtain ⟨d0, d1, d2, _⟩ := cells_six hx1
  have HW := hide hW; have HP := hide hP; have HX0 := hide hx0; have HX1 := hide hx1
  have HPW := hide hpw
  obtain ⟨r, hr⟩ : ∃ r, r = cbV x y := ⟨_, rfl⟩
  obtain ⟨s, hs⟩ : ∃ s, s = cmpID x.ev.src x.ev.seq y.ev.src y.ev.seq := ⟨_, rfl⟩
  have C1 := fun w => Tryz.strings_Compare x.var y.var w
  have C2 := fun w => eCompare_any x.ev.src x.ev.seq y.ev.src y.ev.seq w
  rw [show Lib.compareBytes x.var.data.toList y.var.data.toList = r from hr.symm] at C1
  rw [← hs] at C2
  have HC1 := hide C1; have HC2 := hide C2
  have HR : Hid (cmpBd x y = orI r s) := by rw [hr, hs]; rfl
  rw [← hP]
  unfold bdV
  clear hP hW hx0 hx1 hr hs C1 C2 hb0 hpw
  go_enter Tryz.func41, Tryz.ntmps41
  go_wp2_with fail
  rw [← HW.out, ← HP.out]
  go_region_held3 (fun w' => w'.cell? ⟨P, 0, none⟩ = some (.string x.var) ∧ w'.cell? ⟨P, 1, none⟩ = some (.int .i64 x.ev.src) ∧ w'.cell? ⟨P, 2, none⟩ = some (.int .i64 x.ev.seq) ∧ w'.cell? ⟨P + 1, 0, none⟩ = some (.string y.var) ∧ w'.cell? ⟨P + 1, 1, none⟩ = some (.int .i64 y.ev.src) ∧ w'.cell? ⟨P + 1, 2, none⟩ = some (.int .i64 y.ev.seq))
    (first | exact ⟨c0, c1, c2, d0, d1, d2⟩ | go_keep)
    (first
      | (go_at_call 46; (with_reducible refine (HC1.out _).mono ?_); rintro e w1 ⟨rfl, rfl⟩)
      | (go_at_call 70; (with_reducible refine (HC2.out _).mono ?_); rintro e w1 ⟨rfl, hb1⟩; have hy0 := (hb1.block P (Nat.lt_of_succ_lt HPW.out)).trans HX0.out; have hy1 := (hb1.block (P + 1) HPW.out).trans HX1.out; have HB1 := hide (HB.out.drew.trans (hb1.mono (Nat.le_of_lt (Nat.lt_of_succ_lt HPW.out)))); have HPW1 := hide (Nat.le_trans (Nat.le_of_lt (Nat.lt_of_succ_lt HPW.out)) hb1.size); clear hb1 c0 c1 c2 d0 d1 d2; obtain ⟨c0, c1, c2, _⟩ := cells_six hy0; obtain ⟨d0, d1, d2, _⟩ := cells_six hy1; clear hy0 hy1)
      | (go_at_call 69; (refine (cmpOr_any r s w1.heap.size (w1.alloc (.cells #[.int .i64 r, .int .i64 s] 3)) (cell_of_two' (show (w1.alloc (.cells #[.int .i64 r, .int .i64 s] 3)).heap[w1.heap.size]? = _ from heap_alloc_new w1 _)).1 (cell_of_two' (show (w1.alloc (.cells #[.int .i64 r, .int .i64 s] 3)).heap[w1.heap.size]? = _ from heap_alloc_new w1 _)).2).mono ?_); rintro e w2 ⟨rfl, rfl⟩))
  all_goals go_wp2
  all_goals go_ret
  all_goals exact ⟨by rw [HR.out]; rfl, HB1.out.alloc HPW1.out _⟩

set_option maxRecDepth 100000 in
set_option maxHeartbeats 3200000 in
theorem CmpFuncBd_any (B C : Nat) (ao : Option Addr) (n cap : Nat) (ao2 : Option Addr) (n2 cap2 : Nat) (cs bs : List Bd) (w : World) (h1 : BsV w B (.slice ao n cap) cs) (h2 : BsV w C (.slice ao2 n2 cap2) bs) (hB : B ≤ w.heap.size) (hC : C ≤ w.heap.size) :
    Calls Tryz.prog 40 #[.slice ao n cap, .slice ao2 n2 cap2, .func (.func 41) #[] #[]] w fun e w' => e = .returned (.int .i64 (cmpL cs bs)) ∧ Below w.heap.size w w' := by
  obtain ⟨hn, hn63, _⟩ := h1.num
  obtain ⟨hm, hm63, _⟩ := h2.num
  have HN := Lib.hid hn; have HM := Lib.hid hm
  have H1 := Lib.hid h1; have H2 := Lib.hid h2
  clear h1 h2 hn hm
  have HBB := Lib.hid hB; have HCC := Lib.hid hC
  have eg : ∀ args w, (callFunc 41 args).run Tryz.prog w = .ok (.enter 41 args) w := enters_of Tryz.func41 (by kernel_rfl) rfl
  clear hB hC
  go_enter Tryz.func40, Tryz.ntmps40
  go_wp2_with fail
  go_loopw [13] (fun iv wr => ∃ k : Nat, k ≤ n ∧ k ≤ n2 ∧ iv = .int .i64 k ∧ Hid (cmpL cs bs = cmpL (cs.drop k) (bs.drop k)) ∧ Below w.heap.size w wr) (fun iv _ => n - (intOf iv).toNat)
  case atStart => exact ⟨0, Nat.zero_le _, Nat.zero_le _, rfl, Lib.hid rfl, Below.refl _ _⟩
  case round =>
    obtain ⟨k, hk, hk2, rfl, HK, hb⟩ := hrel
    have HB := Lib.hid hb; clear hb
    by_cases hlt : k < n
    · obtain ⟨b, o, aa, ac, rfl, hbB, hkl, _, _, _, hav, hc⟩ := H1.out.at hlt
      obtain ⟨a0, a1, a2, a3, a4, a5⟩ := six_cells (hc _ (HB.out.mono HBB.out))
      have e1 : IntKind.i64.wrap ((k : Int) + 1) = (k : Int) + 1 := IntWalk.i64_in _ (by omega)
      obtain ⟨x, hx⟩ : ∃ x, x = cs[k]! := ⟨_, rfl⟩
      by_cases hlm : k < n2
      · obtain ⟨b2, o2, aa2, ac2, rfl, hbC, hkm, _, _, _, hav2, hc2⟩ := H2.out.at hlm
        have HGO := Lib.hid (cmpL_go (a := cs) (b := bs) hkl hkm); have HBAD := Lib.hid (cmpL_bad (a := cs) (b := bs) hkl hkm)
        obtain ⟨y, hy⟩ : ∃ y, y = bs[k]! := ⟨_, rfl⟩
        rw [← hx] at a0 a1 a2 a3 a4 a5 HGO HBAD
        rw [← hy] at hc2 HGO HBAD
        have hBn := HB.out.alloc HB.out.size (.cells #[.string x.var, .int .i64 x.ev.src, .int .i64 x.ev.seq, .int .i64 x.ev.time, .string x.ev.ty, .slice aa x.ev.ats.length ac] 54)
        obtain ⟨d0, d1, d2, d3, d4, d5⟩ := six_cells (hc2 _ (hBn.mono HCC.out))
        have hBn2 := hBn.alloc hBn.size (.cells #[.string y.var, .int .i64 y.ev.src, .int .i64 y.ev.seq, .int .i64 y.ev.time, .string y.ev.ty, .slice aa2 y.ev.ats.length ac2] 54)
        obtain ⟨f0, f1, f2, f3, f4, f5⟩ := cells_six (heap_alloc_keeps (heap_alloc_new wr (.cells #[.string x.var, .int .i64 x.ev.src, .int .i64 x.ev.seq, .int .i64 x.ev.time, .string x.ev.ty, .slice aa x.ev.ats.length ac] 54)) (.cells #[.string y.var, .int .i64 y.ev.src, .int .i64 y.ev.seq, .int .i64 y.ev.time, .string y.ev.ty, .slice aa2 y.ev.ats.length ac2] 54))
        have hg := heap_alloc_new (wr.alloc (.cells #[.string x.var, .int .i64 x.ev.src, .int .i64 x.ev.seq, .int .i64 x.ev.time, .string x.ev.ty, .slice aa x.ev.ats.length ac] 54)) (.cells #[.string y.var, .int .i64 y.ev.src, .int .i64 y.ev.seq, .int .i64 y.ev.time, .string y.ev.ty, .slice aa2 y.ev.ats.length ac2] 54)
        rw [World.size_alloc] at hg
        obtain ⟨g0, g1, g2, g3, g4, g5⟩ := cells_six hg
        have HB2 := Lib.hid hBn2
        have HC := Lib.hid (mCmpBounds_any x y (.slice aa x.ev.ats.length ac) (.slice aa2 y.ev.ats.length ac2) ((wr.alloc (.cells #[.string x.var, .int .i64 x.ev.src, .int .i64 x.ev.seq, .int .i64 x.ev.time, .string x.ev.ty, .slice aa x.ev.ats.length ac] 54)).alloc (.cells #[.string y.var, .int .i64 y.ev.src, .int .i64 y.ev.seq, .int .i64 y.ev.time, .string y.ev.ty, .slice aa2 y.ev.ats.length ac2] 54)))
        unfold bdV at HC
        have hgb : ¬ ((n2 : Int) ≤ (k : Int)) := by omega
        have hgb2 := decide_eq_false hgb
        clear hx hy hc hc2 hkl hkm hav hav2 hBn hBn2 hg
        generalize cmpBd x y = cv at HC HGO HBAD
        by_cases hz : cv = 0
        · subst hz
          have HR := Lib.hid (HGO.out rfl)
          go_wp2_with (go_at_fn 41; (with_reducible refine HC.out.mono ?_); rintro e w1 ⟨rfl, hb⟩; have HB1 := Lib.hid hb; clear hb)
          go_roundw
          case rel => exact ⟨k + 1, by omega, by omega, by go_num, Lib.hid (HK.out.trans HR.out), HB2.out.trans (HB1.out.mono HB2.out.size)⟩
          case measure => simp [intOf]; omega
        · have HR := Lib.hid (HBAD.out hz)
          have hz' : (cv == 0) = false := beq_eq_false_iff_ne.2 hz
          have hz2 : (cv != 0) = true := by simp [hz]
          go_wp2_with (go_at_fn 41; (with_reducible refine HC.out.mono ?_); rintro e w1 ⟨rfl, hb⟩; have HB1 := Lib.hid hb; clear hb)
          go_ret
          exact ⟨ret_int0 (HK.out.trans HR.out).symm, HB2.out.trans (HB1.out.mono HB2.out.size)⟩
      · have HR := Lib.hid (cmpL_gt (a := cs) (b := bs) hkl (by rw [← HM.out]; exact hlm))
        rw [← hx] at a0 a1 a2 a3 a4 a5
        have HB2 := Lib.hid (HB.out.alloc HB.out.size (.cells #[.string x.var, .int .i64 x.ev.src, .int .i64 x.ev.seq, .int .i64 x.ev.time, .string x.ev.ty, .slice aa x.ev.ats.length ac] 54))
        have hgb : (n2 : Int) ≤ (k : Int) := by omega
        have hgb2 := decide_eq_true hgb
        clear hx hc hkl hav
        go_wp2
        go_ret
        exact ⟨ret_int0 (HK.out.trans HR.out).symm, HB2.out⟩
    · by_cases hlm : k < n2
      · have HR := Lib.hid (cmpL_lt (a := cs) (b := bs) (by rw [← HN.out]; exact hlt) (by rw [← HM.out]; exact hlm))
        have h1 : (n : Int) < (n2 : Int) := by omega
        have h2 := decide_eq_true h1
        go_wp2
        go_ret
        exact ⟨ret_int0 (HK.out.trans HR.out).symm, HB.out⟩
      · have HR := Lib.hid (cmpL_end (a := cs) (b := bs) (by rw [← HN.out]; exact hlt) (by rw [← HM.out]; exact hlm))
        have h1 : ¬ (n : Int) < (n2 : Int) := by omega
        have h2 := decide_eq_false h1
        go_wp2
        go_ret
        exact ⟨ret_int0 (HK.out.trans HR.out).symm, HB.out⟩

set_option maxRecDepth 100000 in
set_option maxHeartbeats 1600000 in
theorem mCompare_any (B C : Nat) (ao : Option Addr) (n cap : Nat) (ao2 : Option Addr) (n2 cap2 : Nat) (cs bs : List Bd) (w : World) (h1 : BsV w B (.slice ao n cap) cs) (h2 : BsV w C (.slice ao2 n2 cap2) bs) (hB : B ≤ w.heap.size) (hC : C ≤ w.heap.size) :
    Calls Tryz.prog 19 #[.agg #[.slice ao n cap], .agg #[.slice ao2 n2 cap2]] w fun e w' => e = .returned (.int .i64 (cmpL cs bs)) ∧ Below w.heap.size w w' := by
  have HB0 : Hid (Below w.heap.size w ((w.alloc (.cells #[.slice ao n cap] 38)).alloc (.cells #[.slice ao2 n2 cap2] 38))) := ((Below.refl _ _).alloc (Nat.le_refl _) _).alloc (by simp) _
  have HC := Lib.hid (CmpFuncBd_any B C ao n cap ao2 n2 cap2 cs bs _ (h1.below HB0.out hB) (h2.below HB0.out hC) (Nat.le_trans hB HB0.out.size) (Nat.le_trans hC HB0.out.size))
  clear h1 h2 hB hC
  generalize cmpL cs bs = r at HC ⊢
  go_enter Tryz.func19, Tryz.ntmps19
  go_wp2_with (go_at_call 40; (with_reducible refine (HC.out).mono ?_); rintro e w1 ⟨rfl, hb⟩; have HB1 := Lib.hid hb; clear hb)
  go_ret
  exact ⟨rfl, HB0.out.trans (HB1.out.mono HB0.out.size)⟩
end Go.Proofs.YtcnecokamckfaaaGreatDoor
