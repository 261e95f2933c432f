/- Contracts: Of, the program's. -/
import Derived.Test.YtiinljljbjjaeaaGreatDoorCp0
import Derived.Test.YtiinljljbjjaeaaGreatDoorCl0
namespace Go.Proofs.YtiinljljbjjaeaaGreatDoor
open Go Go.RowKit

/-- One bound as a row. -/
theorem BsV.single {w : World} {g B : Nat} {x : Bd} {aa : Option Addr} {ac : Nat} (hg : w.heap[g]? = some (.cells #[.string x.var, .int .i64 x.ev.src, .int .i64 x.ev.seq, .int .i64 x.ev.time, .string x.ev.ty, .slice aa x.ev.ats.length ac] 54 (0, 0))) (h : Av w B (.slice aa x.ev.ats.length ac) x.ev.ats) (hn : aa = none → ac = 0) (hB : B ≤ w.heap.size) (hv : x.var.size ≤ maxLen) (ht : x.ev.ty.size ≤ maxLen) : BsV w w.heap.size (.slice (some ⟨g, 0, none⟩) 1 1) [x] := by
  refine ⟨fun y hy => ?_, by simp, some ⟨g, 0, none⟩, 1, rfl, by simp, by omega, (fun e => by cases e), fun _ => ⟨g, 0, rfl, lt_of_block hg, ⟨aa, ac, fun j u hu => ?_, h.mono hB, hn⟩, trivial⟩⟩
  · rw [List.mem_singleton] at hy; subst hy; exact ⟨hv, ht⟩
  · obtain ⟨a0, a1, a2, a3, a4, a5⟩ := cells_six hg
    rw [Nat.zero_add]
    match j, hu with
    | 0, hu => simp only [encB, List.getElem?_cons_zero, Option.some.injEq] at hu; subst hu; exact a0
    | 1, hu => simp only [encB, List.getElem?_cons_succ, List.getElem?_cons_zero, Option.some.injEq] at hu; subst hu; exact a1
    | 2, hu => simp only [encB, List.getElem?_cons_succ, List.getElem?_cons_zero, Option.some.injEq] at hu; subst hu; exact a2
    | 3, hu => simp only [encB, List.getElem?_cons_succ, List.getElem?_cons_zero, Option.some.injEq] at hu; subst hu; exact a3
    | 4, hu => simp only [encB, List.getElem?_cons_succ, List.getElem?_cons_zero, Option.some.injEq] at hu; subst hu; exact a4
    | 5, hu => simp only [encB, List.getElem?_cons_succ, List.getElem?_cons_zero, Option.some.injEq] at hu; subst hu; exact a5
    | j + 6, hu => simp [encB] at hu

/-- What Of tells: the one bound if it may be, else none. -/
def ofL (x : Bd) : List Bd := if ckP [x] = 0 then [x] else []
theorem ofL_yes {x : Bd} (h : ckP [x] = 0) : ofL x = [x] := if_pos h
theorem ofL_no {x : Bd} (h : ckP [x] ≠ 0) : ofL x = [] := if_neg h
set_option maxRecDepth 100000 in
set_option maxHeartbeats 3200000 in
theorem mOf_any (x : Bd) (B : Nat) (aa : Option Addr) (n ac : Nat) (w : World) (h : Av w B (.slice aa n ac) x.ev.ats) (hnil : aa = none → ac = 0) (hB : B ≤ w.heap.size) (hv : x.var.size ≤ maxLen) (ht : x.ev.ty.size ≤ maxLen) :
    Calls Tryz.prog 26 #[.string x.var, evV x.ev (.slice aa n ac)] w fun e w' => ∃ v', e = .returned (.tuple #[.agg #[v'], .int .i64 (ckP [x])]) ∧ BsO w' w.heap.size v' (ofL x) ∧ Below w.heap.size w w' := by
  obtain ⟨rfl, _⟩ := h.num
  obtain ⟨P, hP⟩ : ∃ P, P = w.heap.size := ⟨_, rfl⟩
  obtain ⟨W, hW⟩ : ∃ W, W = (((w.alloc (.cells #[.int .i64 x.ev.src, .int .i64 x.ev.seq, .int .i64 x.ev.time, .string x.ev.ty, .slice aa x.ev.ats.length ac] 52)).alloc (.cells #[.slice none 0 0] 38)).alloc (.cells #[.string x.var, .int .i64 x.ev.src, .int .i64 x.ev.seq, .int .i64 x.ev.time, .string x.ev.ty, .slice aa x.ev.ats.length ac] 54)).alloc (.cells #[.slice (some ⟨P + 1 + 1, 0, none⟩) 1 1] 38) := ⟨_, rfl⟩
  have HB0 : Hid (Below P w W) := by rw [hW, hP]; exact ((((Below.refl _ _).alloc (Nat.le_refl _) _).alloc (by simp) _).alloc (by simp; omega) _).alloc (by simp; omega) _
  have h1 : W.heap[P + 1]? = some (.cells #[.slice none 0 0] 38 (0, 0)) := by rw [hW, hP]; exact heap_alloc_keeps (heap_alloc_keeps (heap_alloc_at (by simp) rfl) _) _
  have h2 : W.heap[P + 1 + 1]? = some (.cells #[.string x.var, .int .i64 x.ev.src, .int .i64 x.ev.seq, .int .i64 x.ev.time, .string x.ev.ty, .slice aa x.ev.ats.length ac] 54 (0, 0)) := by rw [hW, hP]; exact heap_alloc_keeps (heap_alloc_at (by simp) rfl) _
  have h3 : W.heap[P + 1 + 1 + 1]? = some (.cells #[.slice (some ⟨P + 1 + 1, 0, none⟩) 1 1] 38 (0, 0)) := by rw [hW, hP]; exact heap_alloc_at (by simp) rfl
  have hWs := lt_of_block h3
  have hPW := HB0.out.size
  have hbs := BsV.single h2 (h.below HB0.out (by omega)) hnil (by omega) hv ht
  have HC := Lib.hid (mCheck_any W.heap.size _ 1 1 [x] W hbs (Nat.le_refl _))
  have HCL := Lib.hid (fun u (hu : Below W.heap.size W u) => mClone_any W.heap.size _ 1 1 [x] u (hbs.below hu (Nat.le_refl _)) hu.size)
  have HX1 := Lib.hid (fun u (hu : Below W.heap.size W u) => (hu.block (P + 1) (by omega)).trans h1)
  have HX3 := Lib.hid (fun u (hu : Below W.heap.size W u) => cells_one0 ((hu.block (P + 1 + 1 + 1) hWs).trans h3))
  have HPS : Hid (P ≤ W.heap.size) := Lib.hid (by omega)
  have HY := Lib.hid (ofL_yes (x := x)); have HN := Lib.hid (ofL_no (x := x))
  have HW := Lib.hid hW; have HP := Lib.hid hP
  unfold evV
  rw [← hP]
  clear h1 h2 h3 hWs hPW hbs h hnil hB hv ht hW hP
  generalize ckP [x] = c at HC HY HN ⊢
  by_cases hc : c = 0
  · subst hc
    have HR := Lib.hid (HY.out rfl)
    go_enter Tryz.func26, Tryz.ntmps26
    go_wp2_with fail
    rw [← HP.out, ← HW.out]
    refine HC.out.mono ?_
    rintro e w1 ⟨rfl, hb1⟩
    have c3 := HX3.out _ hb1
    have HB1 := Lib.hid hb1
    clear hb1
    go_wp2_with fail
    refine (HCL.out _ HB1.out).mono ?_
    rintro e w2 ⟨v', rfl, ho, hb2⟩
    obtain ⟨ao, cp, rfl⟩ := ho.shape
    have hb12 := HB1.out.trans (hb2.mono HB1.out.size)
    have x1 := HX1.out _ hb12
    have d1 := cells_one0 x1
    have z1 : w2.frozen? ⟨P + 1, 0, none⟩ = false := by simp [World.frozen?, x1]
    have HS := Lib.hid (heap_setCell_same (k := 0) x1 (.slice ao 1 cp))
    have HO := Lib.hid (BsO.setP (k := 0) (ho.lower (Nat.le_trans HPS.out HB1.out.size)) x1 (.slice ao 1 cp))
    have HB2 := Lib.hid ((HB0.out.trans (hb12.mono HPS.out)).setCell (p := ⟨P + 1, 0, none⟩) (by show P ≤ P + 1; omega) (.slice ao 1 cp))
    clear ho hb2 hb12 x1
    go_wp2
    have z := cells_one0 HS.out
    refine bodyPost_ret (v := .tuple #[.agg #[.slice ao 1 cp], .int .i64 0]) (by simp [results, Tryz.results26, go_sem, z]) rfl ⟨_, rfl, ?_, HB2.out⟩
    rw [HR.out]; exact HO.out
  · have HR := Lib.hid (HN.out hc)
    have hz1 : (c == 0) = false := beq_eq_false_iff_ne.2 hc
    have hz2 : (c != 0) = true := by simp [hc]
    go_enter Tryz.func26, Tryz.ntmps26
    go_wp2_with fail
    rw [← HP.out, ← HW.out]
    refine HC.out.mono ?_
    rintro e w1 ⟨rfl, hb1⟩
    have x1 := HX1.out _ hb1
    have d1 := cells_one0 x1
    have z1 : w1.frozen? ⟨P + 1, 0, none⟩ = false := by simp [World.frozen?, x1]
    have HS := Lib.hid (heap_setCell_same (k := 0) x1 (.slice none 0 0))
    have HB2 := Lib.hid ((HB0.out.trans (hb1.mono HPS.out)).setCell (p := ⟨P + 1, 0, none⟩) (by show P ≤ P + 1; omega) (.slice none 0 0))
    clear hb1 x1
    go_wp2
    have z := cells_one0 HS.out
    refine bodyPost_ret (v := .tuple #[.agg #[.slice none 0 0], .int .i64 c]) (by simp [results, Tryz.results26, go_sem, z]) rfl ⟨_, rfl, ?_, HB2.out⟩
    rw [HR.out]; exact BsO.nil _ _
end Go.Proofs.YtiinljljbjjaeaaGreatDoor
