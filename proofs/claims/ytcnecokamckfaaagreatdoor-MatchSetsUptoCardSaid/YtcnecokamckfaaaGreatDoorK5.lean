/- Joined: Of0, Cr0. -/
import Derived.Test.YtcnecokamckfaaaGreatDoorK4
import Derived.Test.YtcnecokamckfaaaGreatDoorCl0
set_option linter.unusedVariables false
set_option linter.unusedSimpArgs false
/- Contracts: Of, the program's. -/
namespace Go.Proofs.YtcnecokamckfaaaGreatDoor
open Go Go.RowKit

/-- One bound as a row. -/
theorem BsV.single {w : World} {g B : Nat} {x : Bd} {aa : Option Addr} {ac : Nat} (hg : w.heap[g]? = some (.cells #[.string x.var, .int .i64 x.ev.src, .int .i64 x.ev.seq, .int .i64 x.ev.time, .string x.ev.ty, .slice aa x.ev.ats.length ac] 54 (0, 0))) (h : Av w B (.slice aa x.ev.ats.length ac) x.ev.ats) (hn : aa = none → ac = 0) (hB : B ≤ w.heap.size) (hv : x.var.size ≤ maxLen) (ht : x.ev.ty.size ≤ maxLen) : BsV w w.heap.size (.slice (some ⟨g, 0, none⟩) 1 1) [x] := by
  refine ⟨fun y hy => ?_, by simp, some ⟨g, 0, none⟩, 1, rfl, by simp, by omega, (fun e => by cases e), fun _ => ⟨g, 0, rfl, lt_of_block hg, ⟨aa, ac, fun j u hu => ?_, h.mono hB, hn⟩, trivial⟩⟩
  · rw [List.mem_singleton] at hy; subst hy; exact ⟨hv, ht⟩
  · obtain ⟨a0, a1, a2, a3, a4, a5⟩ := cells_six hg
    rw [Nat.zero_add]
    match j, hu with
    | 0, hu => simp only [encB, List.getElem?_cons_zero, Option.some.injEq] at hu; subst hu; exact a0
    | 1, hu => simp only [encB, List.getElem?_cons_succ, List.getElem?_cons_zero, Option.some.injEq] at hu; subst hu; exact a1
    | 2, hu => simp only [encB, List.getElem?_cons_succ, List.getElem?_cons_zero, Option.some.injEq] at hu; subst hu; exact a2
    | 3, hu => simp only [encB, List.getElem?_cons_succ, List.getElem?_cons_zero, Option.some.injEq] at hu; subst hu; exact a3
    | 4, hu => simp only [encB, List.getElem?_cons_succ, List.getElem?_cons_zero, Option.some.injEq] at hu; subst hu; exact a4
    | 5, hu => simp only [encB, List.getElem?_cons_succ, List.getElem?_cons_zero, Option.some.injEq] at hu; subst hu; exact a5
    | j + 6, hu => simp [encB] at hu

/-- What Of tells: the one bound if it may be, else none. -/
def ofL (x : Bd) : List Bd := if ckP [x] = 0 then [x] else []
theorem ofL_yes {x : Bd} (h : ckP [x] = 0) : ofL x = [x] := if_pos h
theorem ofL_no {x : Bd} (h : ckP [x] ≠ 0) : ofL x = [] := if_neg h
set_option maxRecDepth 100000 in
set_option maxHeartbeats 3200000 in
theorem mOf_any (x : Bd) (B : Nat) (aa : Option Addr) (n ac : Nat) (w : World) (h : Av w B (.slice aa n ac) x.ev.ats) (hnil : aa = none → ac = 0) (hB : B ≤ w.heap.size) (hv : x.var.size ≤ maxLen) (ht : x.ev.ty.size ≤ maxLen) :
    Calls Tryz.prog 26 #[.string x.var, evV x.ev (.slice aa n ac)] w fun e w' => ∃ v', e = .returned (.tuple #[.agg #[v'], .int .i64 (ckP [x])]) ∧ BsO w' w.heap.size v' (ofL x) ∧ Below w.heap.size w w' := by
  obtain ⟨rfl, _⟩ := h.num
  obtain ⟨P, hP⟩ : ∃ P, P = w.heap.size := ⟨_, rfl⟩
  obtain ⟨W, hW⟩ : ∃ W, W = (((w.alloc (.cells #[.int .i64 x.ev.src, .int .i64 x.ev.seq, .int .i64 x.ev.time, .string x.ev.ty, .slice aa x.ev.ats.length ac] 52)).alloc (.cells #[.slice none 0 0] 38)).alloc (.cells #[.string x.var, .int .i64 x.ev.src, .int .i64 x.ev.seq, .int .i64 x.ev.time, .string x.ev.ty, .slice aa x.ev.ats.length ac] 54)).alloc (.cells #[.slice (some ⟨P + 1 + 1, 0, none⟩) 1 1] 38) := ⟨_, rfl⟩
  have HB0 : Hid (Below P w W) := by rw [hW, hP]; exact ((((Below.refl _ _).alloc (Nat.le_refl _) _).alloc (by simp) _).alloc (by simp; omega) _).alloc (by simp; omega) _
  have h1 : W.heap[P + 1]? = some (.cells #[.slice none 0 0] 38 (0, 0)) := by rw [hW, hP]; exact heap_alloc_keeps (heap_alloc_keeps (heap_alloc_at (by simp) rfl) _) _
  have h2 : W.heap[P + 1 + 1]? = some (.cells #[.string x.var, .int .i64 x.ev.src, .int .i64 x.ev.seq, .int .i64 x.ev.time, .string x.ev.ty, .slice aa x.ev.ats.length ac] 54 (0, 0)) := by rw [hW, hP]; exact heap_alloc_keeps (heap_alloc_at (by simp) rfl) _
  have h3 : W.heap[P + 1 + 1 + 1]? = some (.cells #[.slice (some ⟨P + 1 + 1, 0, none⟩) 1 1] 38 (0, 0)) := by rw [hW, hP]; exact heap_alloc_at (by simp) rfl
  have hWs := lt_of_block h3
  have hPW := HB0.out.size
  have hbs := BsV.single h2 (h.below HB0.out (by omega)) hnil (by omega) hv ht
  have HC := Lib.hid (mCheck_any W.heap.size _ 1 1 [x] W hbs (Nat.le_refl _))
  have HCL := Lib.hid (fun u (hu : Below W.heap.size W u) => mClone_any W.heap.size _ 1 1 [x] u (hbs.below hu (Nat.le_refl _)) hu.size)
  have HX1 := Lib.hid (fun u (hu : Below W.heap.size W u) => (hu.block (P + 1) (by omega)).trans h1)
  have HX3 := Lib.hid (fun u (hu : Below W.heap.size W u) => cells_one0 ((hu.block (P + 1 + 1 + 1) hWs).trans h3))
  have HPS : Hid (P ≤ W.heap.size) := Lib.hid (by omega)
  have HY := Lib.hid (ofL_yes (x := x)); have HN := Lib.hid (ofL_no (x := x))
  have HW := Lib.hid hW; have HP := Lib.hid hP
  unfold evV
  rw [← hP]
  clear h1 h2 h3 hWs hPW hbs h hnil hB hv ht hW hP
  generalize ckP [x] = c at HC HY HN ⊢
  by_cases hc : c = 0
  · subst hc
    have HR := Lib.hid (HY.out rfl)
    go_enter Tryz.func26, Tryz.ntmps26
    go_wp2_with fail
    rw [← HP.out, ← HW.out]
    refine HC.out.mono ?_
    rintro e w1 ⟨rfl, hb1⟩
    have c3 := HX3.out _ hb1
    have HB1 := Lib.hid hb1
    clear hb1
    go_wp2_with fail
    refine (HCL.out _ HB1.out).mono ?_
    rintro e w2 ⟨v', rfl, ho, hb2⟩
    obtain ⟨ao, cp, rfl⟩ := ho.shape
    have hb12 := HB1.out.trans (hb2.mono HB1.out.size)
    have x1 := HX1.out _ hb12
    have d1 := cells_one0 x1
    have z1 : w2.frozen? ⟨P + 1, 0, none⟩ = false := by simp [World.frozen?, x1]
    have HS := Lib.hid (heap_setCell_same (k := 0) x1 (.slice ao 1 cp))
    have HO := Lib.hid (BsO.setP (k := 0) (ho.lower (Nat.le_trans HPS.out HB1.out.size)) x1 (.slice ao 1 cp))
    have HB2 := Lib.hid ((HB0.out.trans (hb12.mono HPS.out)).setCell (p := ⟨P + 1, 0, none⟩) (by show P ≤ P + 1; omega) (.slice ao 1 cp))
    clear ho hb2 hb12 x1
    go_wp2
    have z := cells_one0 HS.out
    refine bodyPost_ret (v := .tuple #[.agg #[.slice ao 1 cp], .int .i64 0]) (by simp [results, Tryz.results26, go_sem, z]) rfl ⟨_, rfl, ?_, HB2.out⟩
    rw [HR.out]; exact HO.out
  · have HR := Lib.hid (HN.out hc)
    have hz1 : (c == 0) = false := beq_eq_false_iff_ne.2 hc
    have hz2 : (c != 0) = true := by simp [hc]
    go_enter Tryz.func26, Tryz.ntmps26
    go_wp2_with fail
    rw [← HP.out, ← HW.out]
    refine HC.out.mono ?_
    rintro e w1 ⟨rfl, hb1⟩
    have x1 := HX1.out _ hb1
    have d1 := cells_one0 x1
    have z1 : w1.frozen? ⟨P + 1, 0, none⟩ = false := by simp [World.frozen?, x1]
    have HS := Lib.hid (heap_setCell_same (k := 0) x1 (.slice none 0 0))
    have HB2 := Lib.hid ((HB0.out.trans (hb1.mono HPS.out)).setCell (p := ⟨P + 1, 0, none⟩) (by show P ≤ P + 1; omega) (.slice none 0 0))
    clear hb1 x1
    go_wp2
    have z := cells_one0 HS.out
    refine bodyPost_ret (v := .tuple #[.agg #[.slice none 0 0], .int .i64 c]) (by simp [results, Tryz.results26, go_sem, z]) rfl ⟨_, rfl, ?_, HB2.out⟩
    rw [HR.out]; exact BsO.nil _ _
end Go.Proofs.YtcnecokamckfaaaGreatDoor

/- Contract: a partial match in memory of its own: the document's. -/
namespace Go.Proofs.YtcnecokamckfaaaGreatDoor
open Go Go.RowKit

/-- How things stand within the document's Clone: the boxes at P and P + 1; a row of the first k bounds. -/
structure CrS (w : World) (P : Nat) (v0 v : Value) (bs : List Bd) (k : Nat) (u : World) : Prop where
  below : Below P w u
  sz : P + 1 < u.heap.size
  box : u.heap[P]? = some (.cells #[v0] 38 (0, 0))
  res : u.heap[P + 1]? = some (.cells #[.slice none 0 0] 38 (0, 0))
  row : ∃ ys, u.ownsRow (P + 2) 54 6 v k ys ∧ RwL (OwA u P) (bs.take k) ys
theorem CrS.call {w u u' : World} {P k : Nat} {v0 v : Value} {bs : List Bd} (h : CrS w P v0 v bs k u) (hb : Below u.heap.size u u') : CrS w P v0 v bs k u' := by
  obtain ⟨h1, h2, h3, h4, ys, h5, h6⟩ := h
  exact ⟨h1.trans (hb.mono (by omega)), Nat.lt_of_lt_of_le h2 hb.size, (hb.block P (by omega)).trans h3, (hb.block (P + 1) h2).trans h4, ys, own_call0 h5 hb, h6.imp fun v x _ hx => hx.call hb⟩
theorem own_apart {w : World} {b1 b2 e1 e2 s1 s2 n1 n2 : Nat} {v1 v2 : Value} {xs1 xs2 : List Value} (h1 : w.ownsRow b1 e1 s1 v1 n1 xs1) (h2 : w.ownsRow b2 e2 s2 v2 n2 xs2) (hne : e1 ≠ e2) : v1.ownBlock = none ∨ v1.ownBlock ≠ v2.ownBlock := by
  rcases h1.2 with ⟨rfl, _⟩ | ⟨g, c, cur, rfl, _, hg, _⟩
  · exact .inl rfl
  · refine .inr fun e => ?_
    rcases h2.2 with ⟨rfl, _⟩ | ⟨g', c', cur', rfl, _, hg', _⟩
    · simp [Value.ownBlock] at e
    · simp [Value.ownBlock] at e
      subst e
      rw [hg] at hg'
      simp only [Option.some.injEq, Obj.cells.injEq] at hg'
      exact hne hg'.2.1
theorem OwA.grown {w w' : World} {base b2 n2 : Nat} {v v2 : Value} {ats : List At} {xs2 : List Value} (h : OwA w base v ats) (h2 : w.ownsRow b2 54 6 v2 n2 xs2) (hg : w.grownBy w' v2.ownBlock) : OwA w' base v ats := ⟨h.1.kept hg (own_apart h.1 h2 (by decide)), h.2⟩
theorem RwL.news (w : World) (x : Bd) (aa : Option Addr) (c : Nat) : ∀ j u, (encB x (.slice aa x.ev.ats.length c))[j]? = some u → (w.alloc (.cells #[.string x.var, .int .i64 x.ev.src, .int .i64 x.ev.seq, .int .i64 x.ev.time, .string x.ev.ty, .slice aa x.ev.ats.length c] 54)).cell? ((⟨w.heap.size, 0, none⟩ : Addr).add j) = some u := by
  intro j u hu
  obtain ⟨a0, a1, a2, a3, a4, a5⟩ := cells_six (heap_alloc_new w (.cells #[.string x.var, .int .i64 x.ev.src, .int .i64 x.ev.seq, .int .i64 x.ev.time, .string x.ev.ty, .slice aa x.ev.ats.length c] 54))
  rw [add_off0, Nat.zero_add]
  match j, hu with
  | 0, hu => simp only [encB, List.getElem?_cons_zero, Option.some.injEq] at hu; subst hu; exact a0
  | 1, hu => simp only [encB, List.getElem?_cons_succ, List.getElem?_cons_zero, Option.some.injEq] at hu; subst hu; exact a1
  | 2, hu => simp only [encB, List.getElem?_cons_succ, List.getElem?_cons_zero, Option.some.injEq] at hu; subst hu; exact a2
  | 3, hu => simp only [encB, List.getElem?_cons_succ, List.getElem?_cons_zero, Option.some.injEq] at hu; subst hu; exact a3
  | 4, hu => simp only [encB, List.getElem?_cons_succ, List.getElem?_cons_zero, Option.some.injEq] at hu; subst hu; exact a4
  | 5, hu => simp only [encB, List.getElem?_cons_succ, List.getElem?_cons_zero, Option.some.injEq] at hu; subst hu; exact a5
  | j + 6, hu => simp [encB] at hu
/-- A bound more. -/
theorem CrS.step {w u u' : World} {P k : Nat} {v0 v v' : Value} {bs : List Bd} {ys : List Value} {ao : Option Addr} {c : Nat} (h : CrS w P v0 v bs k u) (hk : k < bs.length) (hrow : u.ownsRow (P + 2) 54 6 v k ys) (hrw : RwL (OwA u P) (bs.take k) ys)
    (ho : OwA u P (.slice ao bs[k]!.ev.ats.length c) bs[k]!.ev.ats) (hown : u'.ownsRow (P + 2) 54 6 v' (k + 1) (ys ++ encB bs[k]! (.slice ao bs[k]!.ev.ats.length c))) (hg : u.grownBy u' v.ownBlock) : CrS w P v0 v' bs (k + 1) u' := by
  obtain ⟨h1, h2, h3, h4, _⟩ := h
  have hP : ∀ q, q < P + 2 → some q ≠ v.ownBlock := fun q hq e => by
    have := hrow.lt q e.symm; omega
  refine ⟨h1.grown hg (by omega) (fun k hk => by have := hrow.lt k hk; omega), Nat.lt_of_lt_of_le h2 hg.size, (hg.block P (by omega) (hP P (by omega))).trans h3, (hg.block (P + 1) h2 (hP (P + 1) (by omega))).trans h4, _, hown, ?_⟩
  rw [take_one hk]
  exact (hrw.imp fun v x _ hx => hx.grown hrow hg).app (RwL.single (OwA.grown ho hrow hg))
theorem CrS.fin {w u : World} {P n : Nat} {v0 v : Value} {bs : List Bd} (h : CrS w P v0 v bs n u) (hn : n = bs.length) (hw : ∀ x ∈ bs, x.var.size ≤ maxLen ∧ x.ev.ty.size ≤ maxLen) (hl : n * 80 ≤ 140737488355328) :
    BsO (u.setCell ⟨P + 1, 0, none⟩ v) P v bs ∧ Below P w (u.setCell ⟨P + 1, 0, none⟩ v) := by
  obtain ⟨hbel, hsz, hbox, hres, ys, hrow, h1⟩ := h
  subst hn
  rw [List.take_length] at h1
  exact ⟨BsO.setP ⟨hw, hl, ys, own_lower0 hrow (by omega), h1⟩ hres v, hbel.setCell (p := ⟨P + 1, 0, none⟩) (by show P ≤ P + 1; omega) _⟩

theorem nums0 {k n : Nat} (hk : k < n) (hn : n * 80 ≤ 140737488355328) : k + 1 ≤ maxLen ∧ (k + 1) * 80 ≤ 140737488355328 := by unfold maxLen; omega
set_option maxRecDepth 100000 in
set_option maxHeartbeats 6400000 in
theorem r10Clone_any (B : Nat) (ao : Option Addr) (n cap : Nat) (bs : List Bd) (w : World) (h : BsV w B (.slice ao n cap) bs) (hB : B ≤ w.heap.size) :
    Calls Tryz.prog 20 #[.agg #[.slice ao n cap]] w fun e w' => ∃ v', e = .returned (.agg #[v']) ∧ BsO w' w.heap.size v' bs ∧ Below w.heap.size w w' := by
  obtain ⟨i0, hi, hz0, hz1, hz2⟩ := info_parts infoBd
  have HN := Lib.hid h.num.1; have HN80 := Lib.hid h.num.2.2.2.2.2; have HN63 := Lib.hid h.num.2.1
  have HWD := Lib.hid h.wide
  obtain ⟨P, hP⟩ : ∃ P, P = w.heap.size := ⟨_, rfl⟩
  obtain ⟨W, hW⟩ : ∃ W, W = (w.alloc (.cells #[.slice ao n cap] 38)).alloc (.cells #[.slice none 0 0] 38) := ⟨_, rfl⟩
  have HB0 : Hid (Below P w W) := by rw [hW, hP]; exact ((Below.refl _ _).alloc (Nat.le_refl _) _).alloc (by simp) _
  have hPW : W.heap[P]? = some (.cells #[.slice ao n cap] 38 (0, 0)) := by rw [hW, hP]; exact heap_alloc_keeps (heap_alloc_new w _) _
  have hQW : W.heap[P + 1]? = some (.cells #[.slice none 0 0] 38 (0, 0)) := by rw [hW, hP]; exact heap_alloc_at (by simp) rfl
  have HBP : Hid (B ≤ P) := Lib.hid (by omega)
  have HSB := Lib.hid h
  have HST : Hid (CrS w P (.slice ao n cap) (.slice none 0 0) bs 0 W) := Lib.hid ⟨HB0.out, lt_of_block hQW, hPW, hQW, [], World.ownsRow_nil _ _ _ _, rfl⟩
  have HW := Lib.hid hW; have HP := Lib.hid hP
  have c0 := cells_one0 hPW
  rw [← hP]
  clear h hB hP hW hPW hQW
  go_enter Tryz.func20, Tryz.ntmps20
  go_wp2_with fail
  rw [← HW.out, ← HP.out]
  go_loopw [3, 4] (fun lv iv wr => ∃ (k c : Nat) (lo : Option Addr), k ≤ n ∧ iv = .int .i64 k ∧ lv = .slice lo k c ∧ Hid (CrS w P (.slice ao n cap) (.slice lo k c) bs k wr)) (fun _ iv _ => n - (intOf iv).toNat)
  case atStart => exact ⟨0, 0, none, Nat.zero_le _, rfl, rfl, HST⟩
  case round =>
    obtain ⟨k, c, lo, hk, rfl, rfl, HS⟩ := hrel
    clear c0 HST
    have b0 := cells_one0 HS.out.box
    by_cases hlt : k < n
    · have hkl : k < bs.length := by rw [← HN.out]; exact hlt
      obtain ⟨b, o, aa, ac, hao, hbB, _, _, _, hnil, hav, hc⟩ := HSB.out.at hlt
      subst hao
      have HC := Lib.hid (fun u (hu : Below P w u) => six_cells (hc u (hu.mono HBP.out)))
      have HCE := Lib.hid (r4Clone_any bs[k]!.ev B aa _ ac wr.drew (hav.below HS.out.below.drew HBP.out) hnil (show B ≤ wr.heap.size by have := HS.out.sz; have := HBP.out; omega))
      have HWA := Lib.hid hav.wide; have HLA := Lib.hid hav.len
      have HSTEP := Lib.hid (fun (u u' : World) (v' : Value) (ys : List Value) (ao3 : Option Addr) (c3 : Nat) (hs : CrS w P (.slice (some ⟨b, o, none⟩) n cap) (.slice lo k c) bs k u) => hs.step (v' := v') (u' := u') (ys := ys) (ao := ao3) (c := c3) hkl)
      obtain ⟨a0, a1, a2, a3, a4, a5⟩ := HC.out wr HS.out.below
      obtain ⟨x, hx⟩ : ∃ x, x = bs[k]! := ⟨_, rfl⟩
      rw [← hx] at a0 a1 a2 a3 a4 a5 HC HCE HWA HLA HSTEP
      have HNU := Lib.hid (nums0 hlt HN80.out)
      have HSZ : Hid (P + 2 ≤ wr.heap.size) := Lib.hid (by have := HS.out.sz; omega)
      have e1 : IntKind.i64.wrap ((k : Int) + 1) = (k : Int) + 1 := IntWalk.i64_in _ (by have := HN63.out; omega)
      have hk0 : (0 : Int) ≤ (k : Int) := by omega
      have hkn' : (k : Int) < (n : Int) := by omega
      unfold evV at HCE
      clear hx hnil hav hc hkl hbB
      go_wp2_with fail
      go_region_held3 (fun w' => w'.cell? ⟨P, 0, none⟩ = some (.slice (some ⟨b, o, none⟩) n cap) ∧ w'.cell? ⟨b, o + k * 6, none⟩ = some (.string x.var) ∧ w'.cell? ⟨b, o + k * 6 + 1, none⟩ = some (.int .i64 x.ev.src) ∧ w'.cell? ⟨b, o + k * 6 + 2, none⟩ = some (.int .i64 x.ev.seq) ∧ w'.cell? ⟨b, o + k * 6 + 3, none⟩ = some (.int .i64 x.ev.time) ∧ w'.cell? ⟨b, o + k * 6 + 4, none⟩ = some (.string x.ev.ty) ∧ w'.cell? ⟨b, o + k * 6 + 5, none⟩ = some (.slice aa x.ev.ats.length ac))
        (first | (with_reducible exact ⟨b0, a0, a1, a2, a3, a4, a5⟩) | (with_reducible exact ⟨t0, t1, t2, t3, t4, t5, t6⟩) | (with_reducible exact ⟨s0, s1, s2, s3, s4, s5, s6⟩) | (with_reducible exact ⟨q0, q1, q2, q3, q4, q5, q6⟩) | go_keep)
        (first
          | (go_at_call 42; (with_reducible refine (HCE.out).mono ?_); rintro e w2 ⟨v3, rfl, ho, hb2⟩; obtain ⟨ao3, c3, rfl⟩ := own_slice ho; have hb2' := (Below.refl wr.heap.size wr).drew.trans hb2; have HS2 := Lib.hid (HS.out.call hb2'); have HO : Hid (OwA w2 P (.slice ao3 x.ev.ats.length c3) x.ev.ats) := Lib.hid ⟨own_lower0 ho (Nat.le_trans (Nat.le_add_right P 2) HSZ.out), HWA.out, HLA.out⟩; have t0 := cells_one0 HS2.out.box; obtain ⟨t1, t2, t3, t4, t5, t6⟩ := HC.out w2 HS2.out.below; have hb3 := (Below.refl w2.heap.size w2).alloc (Nat.le_refl _) (.cells #[.string x.var, .int .i64 x.ev.src, .int .i64 x.ev.seq, .int .i64 x.ev.time, .string x.ev.ty, .slice ao3 x.ev.ats.length c3] 54); have HS3 := Lib.hid (HS2.out.call hb3); have HO3 := Lib.hid (HO.out.call hb3); have s0 := cells_one0 HS3.out.box; obtain ⟨s1, s2, s3, s4, s5, s6⟩ := HC.out _ HS3.out.below; obtain ⟨ys, hy1, hy2⟩ := HS3.out.row; have HY1 := Lib.hid hy1; have HY2 := Lib.hid hy2; have HN3 := Lib.hid (RwL.news w2 x ao3 c3); have HB3 : Hid (P + 2 ≤ (w2.alloc (.cells #[.string x.var, .int .i64 x.ev.src, .int .i64 x.ev.seq, .int .i64 x.ev.time, .string x.ev.ty, .slice ao3 x.ev.ats.length c3] 54)).heap.size) := Lib.hid (Nat.le_trans HSZ.out (Nat.le_trans hb2'.size hb3.size)); clear ho hb2 hb2' hb3 hy1 hy2)
          | (refine step_append_own (w := w2.alloc (.cells #[.string x.var, .int .i64 x.ev.src, .int .i64 x.ev.seq, .int .i64 x.ev.time, .string x.ev.ty, .slice ao3 x.ev.ats.length c3] 54)) (by rfl) (.tmp 12) (.tmp 27) 36 (by rfl) (P + 2) 54 i0 (.agg #[.string ⟨#[]⟩, .int .i64 0, .int .i64 0, .int .i64 0, .string ⟨#[]⟩, .slice none 0 0]) 6 80 Tryz.underlying36 hi hz0 hz1 hz2 rfl (by decide) (.slice lo k c) k ys (by rfl) HY1.out ⟨w2.heap.size, 0, none⟩ 1 1 (encB x (.slice ao3 x.ev.ats.length c3)) (by rfl) rfl HN3.out (encB_one _ _ _ _) HNU.out.1 HNU.out.2 HB3.out ?_; intro v4 w4 hown4 hg4; obtain ⟨lo4, c4, rfl⟩ := own_slice hown4; have HF := Lib.hid (HSTEP.out _ w4 (.slice lo4 (k + 1) c4) ys ao3 c3 HS3.out HY1.out HY2.out HO3.out hown4 hg4); clear hown4 hg4; have q0 := cells_one0 HF.out.box; obtain ⟨q1, q2, q3, q4, q5, q6⟩ := HC.out _ HF.out.below))
      all_goals go_wp2
      all_goals go_roundw
      all_goals first
        | exact ⟨k + 1, c4, lo4, by omega, by go_num, rfl, HF⟩
        | (simp [intOf]; omega)
    · obtain rfl : k = n := by omega
      have r0 := cells_one0 HS.out.res
      have rz : wr.frozen? ⟨P + 1, 0, none⟩ = false := by simp [World.frozen?, HS.out.res]
      have HF := Lib.hid (HS.out.fin HN.out HWD.out HN80.out)
      have HRS := Lib.hid (heap_setCell_same (k := 0) HS.out.res (.slice lo k c))
      go_wp2
      have z := cells_one0 HRS.out
      exact bodyPost_ret (v := .agg #[.slice lo k c]) (by simp [results, Tryz.results20, go_sem, z]) rfl ⟨_, rfl, HF.out.1, HF.out.2⟩
end Go.Proofs.YtcnecokamckfaaaGreatDoor
