/- Contracts: an operand's value of bound events, and whether a condition holds of them: the program's calls and the document's. -/
import Derived.Test.YtpbloplbpkedcaaTm9
import Derived.Deep.RegionHeld3
namespace Go.Proofs.Ytpbloplbpkedcaa
open Go Go.RowKit Go.Sort

def resL (x : Option Vl) : Value := .tuple #[(x.getD zeroL).v, .bool x.isSome]
/-- The boxes of a call of Value: an operand, a partial match, a value. -/
def BoxV (w : World) (P : Nat) (v a : ByteArray) (k m : Int) (s : ByteArray) (bv z0 z1 z2 : Value) (u : World) : Prop :=
  u.heap[P]? = some (.cells #[.string v, .string a, .int .i64 k, .int .i64 m, .string s] 25 (0, 0)) ∧
  u.heap[P + 1]? = some (.cells #[bv] 43 (0, 0)) ∧
  u.heap[P + 1 + 1]? = some (.cells #[z0, z1, z2] 23 (0, 0)) ∧ P + 1 + 1 + 1 ≤ u.heap.size ∧ Below P w u
theorem BoxV.low {w : World} {P : Nat} {v a : ByteArray} {k m : Int} {s : ByteArray} {bv z0 z1 z2 : Value} {u : World} (h : BoxV w P v a k m s bv z0 z1 z2 u) : Below P w u := h.2.2.2.2
theorem BoxV.below {w : World} {P : Nat} {v a : ByteArray} {k m : Int} {s : ByteArray} {bv z0 z1 z2 : Value} {u u' : World} {Q : Nat} (h : BoxV w P v a k m s bv z0 z1 z2 u) (hb : Below Q u u') (hQ : P + 1 + 1 + 1 ≤ Q) : BoxV w P v a k m s bv z0 z1 z2 u' := by
  obtain ⟨h1, h2, h3, h4, h5⟩ := h
  exact ⟨(hb.block _ (by omega)).trans h1, (hb.block _ (by omega)).trans h2, (hb.block _ (by omega)).trans h3, Nat.le_trans h4 hb.size, h5.trans (hb.mono (by omega))⟩
theorem cell_of_one {w : World} {q : Nat} {c0 : Value} {t : Nat} (h : w.heap[q]? = some (.cells #[c0] t (0, 0))) : w.cell? ⟨q, 0, none⟩ = some c0 := by simp [World.cell?, h]
theorem BoxV.cells {w : World} {P : Nat} {v a : ByteArray} {k m : Int} {s : ByteArray} {bv z0 z1 z2 : Value} {u : World} (h : BoxV w P v a k m s bv z0 z1 z2 u) :
    (u.cell? ⟨P, 0, none⟩ = some (.string v) ∧ u.cell? ⟨P, 1, none⟩ = some (.string a) ∧ u.cell? ⟨P, 2, none⟩ = some (.int .i64 k) ∧ u.cell? ⟨P, 3, none⟩ = some (.int .i64 m) ∧ u.cell? ⟨P, 4, none⟩ = some (.string s)) ∧
    u.cell? ⟨P + 1, 0, none⟩ = some bv ∧
    (u.cell? ⟨P + 1 + 1, 0, none⟩ = some z0 ∧ u.cell? ⟨P + 1 + 1, 1, none⟩ = some z1 ∧ u.cell? ⟨P + 1 + 1, 2, none⟩ = some z2) ∧ (u.frozen? ⟨P + 1 + 1, 0, none⟩ = false ∧ u.frozen? ⟨P + 1 + 1, 1, none⟩ = false ∧ u.frozen? ⟨P + 1 + 1, 2, none⟩ = false) ∧ (P < u.heap.size ∧ P + 1 < u.heap.size ∧ P + 1 + 1 < u.heap.size ∧ P ≠ u.heap.size ∧ P + 1 ≠ u.heap.size ∧ P + 1 + 1 ≠ u.heap.size) :=
  ⟨cell_of_five h.1, cell_of_one h.2.1, cell_of_three h.2.2.1, free_of_three h.2.2.1, by have := h.2.2.2.1; omega⟩
theorem isVar_nm {v : ByteArray} {b : Bd} {y : Bool} (h : isVar v b = y) : (b.var.toList == v.toList) = y := h
theorem val_const {o : Opd} {bs : List Bd} (h : o.attr = em) : valL o bs = some (constL o) := by unfold valL; rw [if_pos h]
theorem val_found {o : Opd} {bs : List Bd} {k : Nat} {x : Bd} (h : o.attr ≠ em) (hx : bs[k]? = some x) (hj : ∀ j y, j < k → bs[j]? = some y → isVar o.var y = false) (h2 : isVar o.var x = true) : valL o bs = some (ownL o x.ats) := by
  unfold valL; rw [if_neg h, find_var hx hj h2]; rfl
theorem val_none {o : Opd} {bs : List Bd} (h : o.attr ≠ em) (hj : ∀ j y, j < bs.length → bs[j]? = some y → isVar o.var y = false) : valL o bs = none := by
  unfold valL; rw [if_neg h, find_novar hj]; rfl

set_option maxRecDepth 100000 in
set_option maxHeartbeats 4000000 in
theorem pValue_any (o : Opd) (B : Nat) (ao : Option Addr) (n cap : Nat) (bs : List Bd) (w : World) (h : BsV w B (.slice ao n cap) bs) (hB : B ≤ w.heap.size) (hn : n ≤ 140737488355328) :
    Calls Try.prog 13 #[opV o, .agg #[.slice ao n cap]] w fun e w' => e = .returned (resL (valL o bs)) ∧ Below w.heap.size w w' := by
  obtain ⟨ao', cap', hsl, _, _, _⟩ := id h
  simp only [Value.slice.injEq] at hsl
  have hnl : n = bs.length := hsl.2.1
  clear hsl
  obtain ⟨v, a, k, m, s⟩ := o
  unfold opV
  simp only
  obtain ⟨P, hP⟩ : ∃ P, P = w.heap.size := ⟨_, rfl⟩
  obtain ⟨W, hW⟩ : ∃ W, W = ((w.alloc (.cells #[.string v, .string a, .int .i64 k, .int .i64 m, .string s] 25)).alloc (.cells #[.slice ao n cap] 43)).alloc (.cells #[.int .i64 0, .int .i64 0, .string ⟨#[]⟩] 23) := ⟨_, rfl⟩
  have HX : Hid (BoxV w P v a k m s (.slice ao n cap) (.int .i64 0) (.int .i64 0) (.string ⟨#[]⟩) W) := by
    rw [hW, hP]
    refine ⟨?_, ?_, ?_, ?_, ?_⟩
    · rw [heap_alloc_old _ _ (by simp; omega), heap_alloc_old _ _ (by simp)]; exact heap_alloc_new _ _
    · rw [heap_alloc_old _ _ (by simp)]
      have := heap_alloc_new (w.alloc (.cells #[.string v, .string a, .int .i64 k, .int .i64 m, .string s] 25)) (.cells #[.slice ao n cap] 43)
      simpa using this
    · have := heap_alloc_new ((w.alloc (.cells #[.string v, .string a, .int .i64 k, .int .i64 m, .string s] 25)).alloc (.cells #[.slice ao n cap] 43)) (.cells #[.int .i64 0, .int .i64 0, .string ⟨#[]⟩] 23)
      simpa using this
    · simp
    · exact (((Below.refl _ _).alloc (Nat.le_refl _) _).alloc (by simp) _).alloc (by simp; omega) _
  have HH := Lib.hid (fun (u : World) (hu : Below P w u) => h.below hu (by omega))
  have HO := Lib.hid (fun (x : Bd) (aa : Option Addr) (ac : Nat) (u : World) (hu : Av u B (.slice aa x.ats.length ac) x.ats) (hs : P ≤ u.heap.size) => pOwn_any ⟨v, a, k, m, s⟩ x.src x.seq x.time x.ty B aa x.ats.length ac x.ats u hu (by omega))
  have HN := Lib.hid hn; have HNL := Lib.hid hnl; have HBP : Hid (B ≤ P) := Lib.hid (by omega)
  have HP := Lib.hid hP; have HW := Lib.hid hW
  have HC0 := Lib.hid (fun u : World => pConst_any v a k m s u)
  clear h hB hP hW hn hnl
  unfold opV at HO
  simp only at HO
  by_cases ha : a = em
  · rw [val_const (by exact ha)]
    subst ha
    simp only [decide_true] at HC0
    unfold em at *
    go_enter Try.func13, Try.ntmps13
    go_wp2_with fail
    rw [← HW.out, ← HP.out]
    obtain ⟨⟨c0, c1, c2, c3, c4⟩, x0, ⟨z0, z1, z2⟩, ⟨f0, f1, f2⟩, l0, l1, l2, l3, l4, l5⟩ := HX.out.cells
    go_wp2_with (go_at_call 44; (with_reducible refine (HC0.out _).mono ?_); rintro e u ⟨rfl, hb⟩; have HX1 := Lib.hid (HX.out.below hb HX.out.2.2.2.1); clear hb c0 c1 c2 c3 c4 x0 z0 z1 z2 f0 f1 f2 l0 l1 l2 l3 l4 l5; obtain ⟨⟨c0, c1, c2, c3, c4⟩, x0, ⟨z0, z1, z2⟩, ⟨f0, f1, f2⟩, l0, l1, l2, l3, l4, l5⟩ := HX1.out.cells)
    refine bodyPost_ret (v := .tuple #[(constL ⟨v, ⟨#[]⟩, k, m, s⟩).v, .bool true]) (by simp [results, Try.results13, go_sem, constL, Vl.v, z0, z1, z2, l2]) rfl ⟨rfl, ?_⟩
    have hb := HX1.out.low
    rw [← HP.out]
    repeat (first | exact hb | refine Below.setCell ?_ (by show P ≤ P + 1 + 1; omega) _)
  · have n1 := ne_em2 ha; have n2 := ne_em3 ha
    have HA := Lib.hid ha
    simp only [decide_eq_false ha] at HC0
    clear ha
    go_enter Try.func13, Try.ntmps13
    go_wp2_with fail
    rw [← HW.out, ← HP.out]
    obtain ⟨⟨c0, c1, c2, c3, c4⟩, x0, ⟨z0, z1, z2⟩, ⟨f0, f1, f2⟩, l0, l1, l2, l3, l4, l5⟩ := HX.out.cells
    go_wp2_with (go_at_call 44; (with_reducible refine (HC0.out _).mono ?_); rintro e u ⟨rfl, hb⟩; have HX1 := Lib.hid (HX.out.below hb HX.out.2.2.2.1); clear hb c0 c1 c2 c3 c4 x0 z0 z1 z2 f0 f1 f2 l0 l1 l2 l3 l4 l5; obtain ⟨⟨c0, c1, c2, c3, c4⟩, x0, ⟨z0, z1, z2⟩, ⟨f0, f1, f2⟩, l0, l1, l2, l3, l4, l5⟩ := HX1.out.cells)
    obtain ⟨W1, hW1⟩ : ∃ W1, W1 = u := ⟨_, rfl⟩
    rw [← hW1] at HX1 ⊢
    clear hW1 c0 c1 c2 c3 c4 x0 z0 z1 z2 f0 f1 f2 l0 l1 l2 l3 l4 l5
    go_loopw [15] (fun iv wr => ∃ j : Nat, j ≤ n ∧ iv = .int .i64 j ∧ Hid (∀ i y, i < j → bs[i]? = some y → isVar v y = false) ∧ Hid (Below (P + 1 + 1 + 1) W1 wr)) (fun iv _ => n - (intOf iv).toNat)
    case atStart => exact ⟨0, Nat.zero_le _, rfl, Lib.hid (fun i y hi => absurd hi (Nat.not_lt_zero _)), Lib.hid (Below.refl _ _)⟩
    case round =>
      obtain ⟨j, hj, rfl, HI, HB⟩ := hrel
      have HX2 := Lib.hid (HX1.out.below HB.out (Nat.le_refl _))
      obtain ⟨⟨c0, c1, c2, c3, c4⟩, x0, ⟨z0, z1, z2⟩, ⟨f0, f1, f2⟩, l0, l1, l2, l3, l4, l5⟩ := HX2.out.cells
      by_cases hlt : j < n
      · have hlti : (j : Int) < (n : Int) := by omega
        have hj0 : (0 : Int) ≤ (j : Int) := by omega
        have hls := wr7 hlt HN.out
        have hwI := wrI7 hlt HN.out
        obtain ⟨x, hx⟩ : ∃ x, bs[j]? = some x := ⟨_, List.getElem?_eq_getElem (by have := HNL.out; omega)⟩
        have hBs := HH.out wr HX2.out.low
        obtain ⟨b, o, aa, ac, rfl, hbB, _, _, hc, hav⟩ := hBs.at hx
        obtain ⟨d0, d1, d2, d3, d4, d5⟩ := six_cells hc
        have HAV := Lib.hid hav; have HXX := Lib.hid hx
        have hbw : b < wr.heap.size := by have := HX2.out.2.2.2.1; have := HBP.out; omega
        have hbne : b ≠ wr.heap.size := by omega
        have hbP : b ≠ P + 1 + 1 := by have := HBP.out; omega
        have hPP : P + 1 + 1 ≠ P := by omega
        have hPP2 : P ≠ P + 1 + 1 := by omega
        have hbP2 : P + 1 + 1 ≠ b := fun h => hbP h.symm
        have hbP3 : (b == P + 1 + 1) = false := beq_eq_false_iff_ne.2 hbP
        have hbP4 : (P + 1 + 1 == b) = false := beq_eq_false_iff_ne.2 hbP2
        have HBB := Lib.hid hbB
        clear hBs hc hav hj hx hbB
        have HB0 := Lib.hid (HB.out.alloc HX2.out.2.2.2.1 (.cells #[.string x.var, .int .i64 x.src, .int .i64 x.seq, .int .i64 x.time, .string x.ty, .slice aa x.ats.length ac] 91))
        cases hq : isVar v x with
        | true =>
          have HRES := Lib.hid (val_found (o := ⟨v, a, k, m, s⟩) HA.out HXX.out HI.out hq)
          have hnm := isVar_nm hq
          have HOx := Lib.hid (HO.out x aa ac (wr.alloc (.cells #[.string x.var, .int .i64 x.src, .int .i64 x.seq, .int .i64 x.time, .string x.ty, .slice aa x.ats.length ac] 91)) (HAV.out.below ((Below.refl wr.heap.size wr).alloc (Nat.le_refl _) _) (by have := HX2.out.2.2.2.1; have := HBP.out; omega)) (by have := HX2.out.2.2.2.1; simp; omega))
          generalize ownL _ x.ats = g at HOx HRES
          obtain ⟨gk, gn, gs⟩ := g
          unfold Vl.v at HOx
          simp only at HOx
          clear hq
          go_wp2_with (first | (go_at_call 36; (with_reducible refine HOx.out.mono ?_); rintro e u2 ⟨rfl, hb⟩; have HX3 := Lib.hid ((HX2.out.below ((Below.refl wr.heap.size wr).alloc (Nat.le_refl _) (.cells #[.string x.var, .int .i64 x.src, .int .i64 x.seq, .int .i64 x.time, .string x.ty, .slice aa x.ats.length ac] 91)) HX2.out.2.2.2.1).below hb (by have := HX2.out.2.2.2.1; simp; omega)); clear hb c0 c1 c2 c3 c4 x0 z0 z1 z2 f0 f1 f2 l0 l1 l2 l3 l4 l5; obtain ⟨⟨c0, c1, c2, c3, c4⟩, x0, ⟨z0, z1, z2⟩, ⟨f0, f1, f2⟩, l0, l1, l2, l3, l4, l5⟩ := HX3.out.cells))
          refine bodyPost_ret (v := .tuple #[(⟨gk, gn, gs⟩ : Vl).v, .bool true]) (by simp [results, Try.results13, go_sem, Vl.v, z0, z1, z2, l2]) rfl ⟨by rw [HRES.out]; rfl, ?_⟩
          have hb := HX3.out.low
          rw [← HP.out]
          repeat (first | exact hb | refine Below.setCell ?_ (by show P ≤ P + 1 + 1; omega) _)
        | false =>
          have hnm := isVar_nm hq
          have HI2 : Hid (∀ i y, i < j + 1 → bs[i]? = some y → isVar v y = false) := Lib.hid (fun i y hi hy => (Nat.lt_succ_iff_lt_or_eq.1 hi).elim (fun h => HI.out i y h hy) (fun h => by rw [h, HXX.out] at hy; cases hy; exact hq))
          go_wp2_with fail
          go_roundw
          all_goals first
            | exact ⟨j + 1, hlt, by go_num, HI2, HB0⟩
            | exact meas7 hlt
            | (rw [hls]; exact meas7 hlt)
      · obtain rfl : j = n := by omega
        have hnl : ¬ ((j : Int) < (j : Int)) := by omega
        have HRES := Lib.hid (val_none (o := ⟨v, a, k, m, s⟩) (bs := bs) HA.out (by rw [← HNL.out]; exact HI.out))
        clear hlt hj
        go_wp2
        refine bodyPost_ret (v := .tuple #[zeroL.v, .bool false]) (by simp [results, Try.results13, go_sem, Vl.v, zeroL, z0, z1, z2, l2]) rfl ⟨by rw [HRES.out]; rfl, ?_⟩
        have hb := HX2.out.low
        rw [← HP.out]
        repeat (first | exact hb | refine Below.setCell ?_ (by show P ≤ P + 1 + 1; omega) _)
set_option maxRecDepth 100000 in
set_option maxHeartbeats 4000000 in
theorem r9Value_any (o : Opd) (B : Nat) (ao : Option Addr) (n cap : Nat) (bs : List Bd) (w : World) (h : BsV w B (.slice ao n cap) bs) (hB : B ≤ w.heap.size) (hn : n ≤ 140737488355328) :
    Calls Try.prog 14 #[opV o, .agg #[.slice ao n cap]] w fun e w' => e = .returned (resL (valL o bs)) ∧ Below w.heap.size w w' := by
  obtain ⟨ao', cap', hsl, _, _, _⟩ := id h
  simp only [Value.slice.injEq] at hsl
  have hnl : n = bs.length := hsl.2.1
  clear hsl
  obtain ⟨v, a, k, m, s⟩ := o
  unfold opV
  simp only
  obtain ⟨P, hP⟩ : ∃ P, P = w.heap.size := ⟨_, rfl⟩
  obtain ⟨W, hW⟩ : ∃ W, W = ((w.alloc (.cells #[.string v, .string a, .int .i64 k, .int .i64 m, .string s] 25)).alloc (.cells #[.slice ao n cap] 43)).alloc (.cells #[.int .i64 0, .int .i64 0, .string ⟨#[]⟩] 23) := ⟨_, rfl⟩
  have HX : Hid (BoxV w P v a k m s (.slice ao n cap) (.int .i64 0) (.int .i64 0) (.string ⟨#[]⟩) W) := by
    rw [hW, hP]
    refine ⟨?_, ?_, ?_, ?_, ?_⟩
    · rw [heap_alloc_old _ _ (by simp; omega), heap_alloc_old _ _ (by simp)]; exact heap_alloc_new _ _
    · rw [heap_alloc_old _ _ (by simp)]
      have := heap_alloc_new (w.alloc (.cells #[.string v, .string a, .int .i64 k, .int .i64 m, .string s] 25)) (.cells #[.slice ao n cap] 43)
      simpa using this
    · have := heap_alloc_new ((w.alloc (.cells #[.string v, .string a, .int .i64 k, .int .i64 m, .string s] 25)).alloc (.cells #[.slice ao n cap] 43)) (.cells #[.int .i64 0, .int .i64 0, .string ⟨#[]⟩] 23)
      simpa using this
    · simp
    · exact (((Below.refl _ _).alloc (Nat.le_refl _) _).alloc (by simp) _).alloc (by simp; omega) _
  have HH := Lib.hid (fun (u : World) (hu : Below P w u) => h.below hu (by omega))
  have HO := Lib.hid (fun (x : Bd) (aa : Option Addr) (ac : Nat) (u : World) (hu : Av u B (.slice aa x.ats.length ac) x.ats) (hs : P ≤ u.heap.size) => r9of_any ⟨v, a, k, m, s⟩ x.src x.seq x.time x.ty B aa x.ats.length ac x.ats u hu (by omega))
  have HN := Lib.hid hn; have HNL := Lib.hid hnl; have HBP : Hid (B ≤ P) := Lib.hid (by omega)
  have HP := Lib.hid hP; have HW := Lib.hid hW
  clear h hB hP hW hn hnl
  unfold opV at HO
  simp only at HO
  by_cases ha : a = em
  · rw [val_const (by exact ha)]
    subst ha
    unfold em at *
    go_enter Try.func14, Try.ntmps14
    go_wp2_with fail
    refine bodyPost_ret (v := .tuple #[(constL ⟨v, ⟨#[]⟩, k, m, s⟩).v, .bool true]) (by simp [results, Try.results14, go_sem, constL, Vl.v]) rfl ⟨rfl, ?_⟩
    exact (((Below.refl _ _).alloc (Nat.le_refl _) _).alloc (by simp) _).alloc (by simp; omega) _
  · have n1 := ne_em2 ha; have n2 := ne_em3 ha
    have HA := Lib.hid ha
    clear ha
    go_enter Try.func14, Try.ntmps14
    go_wp2_with fail
    rw [← HW.out, ← HP.out]
    obtain ⟨⟨c0, c1, c2, c3, c4⟩, x0, ⟨z0, z1, z2⟩, ⟨f0, f1, f2⟩, l0, l1, l2, l3, l4, l5⟩ := HX.out.cells
    obtain ⟨W1, hW1⟩ : ∃ W1, W1 = W := ⟨_, rfl⟩
    have HX1 := HX
    rw [← hW1] at HX1 ⊢
    clear hW1 c0 c1 c2 c3 c4 x0 z0 z1 z2 f0 f1 f2 l0 l1 l2 l3 l4 l5
    go_loopw [6] (fun iv wr => ∃ j : Nat, j ≤ n ∧ iv = .int .i64 j ∧ Hid (∀ i y, i < j → bs[i]? = some y → isVar v y = false) ∧ Hid (Below (P + 1 + 1 + 1) W1 wr)) (fun iv _ => n - (intOf iv).toNat)
    case atStart => exact ⟨0, Nat.zero_le _, rfl, Lib.hid (fun i y hi => absurd hi (Nat.not_lt_zero _)), Lib.hid (Below.refl _ _)⟩
    case round =>
      obtain ⟨j, hj, rfl, HI, HB⟩ := hrel
      have HX2 := Lib.hid (HX1.out.below HB.out (Nat.le_refl _))
      obtain ⟨⟨c0, c1, c2, c3, c4⟩, x0, ⟨z0, z1, z2⟩, ⟨f0, f1, f2⟩, l0, l1, l2, l3, l4, l5⟩ := HX2.out.cells
      by_cases hlt : j < n
      · have hlti : (j : Int) < (n : Int) := by omega
        have hj0 : (0 : Int) ≤ (j : Int) := by omega
        have hls := wr7 hlt HN.out
        have hwI := wrI7 hlt HN.out
        obtain ⟨x, hx⟩ : ∃ x, bs[j]? = some x := ⟨_, List.getElem?_eq_getElem (by have := HNL.out; omega)⟩
        have hBs := HH.out wr HX2.out.low
        obtain ⟨b, o, aa, ac, rfl, hbB, _, _, hc, hav⟩ := hBs.at hx
        obtain ⟨d0, d1, d2, d3, d4, d5⟩ := six_cells hc
        have HAV := Lib.hid hav; have HXX := Lib.hid hx
        have hbw : b < wr.heap.size := by have := HX2.out.2.2.2.1; have := HBP.out; omega
        have hbne : b ≠ wr.heap.size := by omega
        have hbP : b ≠ P + 1 + 1 := by have := HBP.out; omega
        have hPP : P + 1 + 1 ≠ P := by omega
        have hPP2 : P ≠ P + 1 + 1 := by omega
        have hbP2 : P + 1 + 1 ≠ b := fun h => hbP h.symm
        have hbP3 : (b == P + 1 + 1) = false := beq_eq_false_iff_ne.2 hbP
        have hbP4 : (P + 1 + 1 == b) = false := beq_eq_false_iff_ne.2 hbP2
        have HBB := Lib.hid hbB
        clear hBs hc hav hj hx hbB
        have k0 := cell_regrown d0; have k1' := cell_regrown d1; have k2' := cell_regrown d2; have k3 := cell_regrown d3; have k4 := cell_regrown d4; have k5 := cell_regrown d5
        have m0 := cell_regrown c0; have m1 := cell_regrown x0
        cases hq : isVar v x with
        | true =>
          have HRES := Lib.hid (val_found (o := ⟨v, a, k, m, s⟩) HA.out HXX.out HI.out hq)
          have hnm := isVar_nm hq
          have HOx := Lib.hid (fun (u : World) (hu : Below wr.heap.size wr u) => HO.out x aa ac u (HAV.out.below hu (by have := HX2.out.2.2.2.1; have := HBP.out; omega)) (by have := HX2.out.2.2.2.1; have := hu.size; omega))
          generalize ownL _ x.ats = g at HOx HRES
          obtain ⟨gk, gn, gs⟩ := g
          unfold Vl.v at HOx
          simp only at HOx
          clear hq
          go_wp2_with fail
          refine wp_region_quiet_below (by kernel_rfl) (by kernel_rfl) ?_
          repeat (quiet_step (fail))
          refine wpQuiet_nil ?_
          intro _ hw'
          obtain ⟨⟨dq, osq⟩, hw''⟩ := hw'
          subst hw''
          have hqb := below_regrown wr dq osq
          obtain ⟨w3, hw3⟩ : ∃ w3, w3 = grow (redrawn wr dq) osq := ⟨_, rfl⟩
          rw [← hw3] at hqb ⊢
          have HQ3 := Lib.hid hqb
          have HX3 := Lib.hid (HX2.out.below hqb HX2.out.2.2.2.1)
          have HD3 := Lib.hid (show w3.cell? ⟨b, o + j * 6 + 1, none⟩ = _ ∧ w3.cell? ⟨b, o + j * 6 + 2, none⟩ = _ ∧ w3.cell? ⟨b, o + j * 6 + 3, none⟩ = _ ∧ w3.cell? ⟨b, o + j * 6 + 4, none⟩ = _ ∧ w3.cell? ⟨b, o + j * 6 + 5, none⟩ = _ from ⟨(hqb.cell (p := ⟨b, _, none⟩) hbw).trans d1, (hqb.cell (p := ⟨b, _, none⟩) hbw).trans d2, (hqb.cell (p := ⟨b, _, none⟩) hbw).trans d3, (hqb.cell (p := ⟨b, _, none⟩) hbw).trans d4, (hqb.cell (p := ⟨b, _, none⟩) hbw).trans d5⟩)
          have hbw3 : b < w3.heap.size := Nat.lt_of_lt_of_le hbw hqb.size
          clear hqb hw3 c0 c1 c2 c3 c4 x0 z0 z1 z2 f0 f1 f2 l0 l1 l2 l3 l4 l5 d0 d1 d2 d3 d4 d5 k0 k1' k2' k3 k4 k5 m0 m1 hbw hbne
          have B3 := Lib.hid (Below.refl w3.heap.size w3)
          have HK := Lib.hid (fun (u : World) (hu : Below w3.heap.size w3 u) => (⟨(HX3.out.below hu HX3.out.2.2.2.1).cells, (hu.cell (p := ⟨b, _, none⟩) hbw3).trans HD3.out.1, (hu.cell (p := ⟨b, _, none⟩) hbw3).trans HD3.out.2.1, (hu.cell (p := ⟨b, _, none⟩) hbw3).trans HD3.out.2.2.1, (hu.cell (p := ⟨b, _, none⟩) hbw3).trans HD3.out.2.2.2.1, (hu.cell (p := ⟨b, _, none⟩) hbw3).trans HD3.out.2.2.2.2⟩ : _ ∧ u.cell? ⟨b, o + j * 6 + 1, none⟩ = _ ∧ u.cell? ⟨b, o + j * 6 + 2, none⟩ = _ ∧ u.cell? ⟨b, o + j * 6 + 3, none⟩ = _ ∧ u.cell? ⟨b, o + j * 6 + 4, none⟩ = _ ∧ u.cell? ⟨b, o + j * 6 + 5, none⟩ = _))
          obtain ⟨⟨⟨c0, c1, c2, c3, c4⟩, x0, ⟨z0, z1, z2⟩, ⟨f0, f1, f2⟩, l0, l1, l2, l3, l4, l5⟩, d1, d2, d3, d4, d5⟩ := HK.out _ B3.out
          go_wp2_with fail
          go_region_held3 (fun u => u.cell? ⟨P, 0, none⟩ = some (.string v) ∧ u.cell? ⟨P, 1, none⟩ = some (.string a) ∧ u.cell? ⟨P, 2, none⟩ = some (.int .i64 k) ∧ u.cell? ⟨P, 3, none⟩ = some (.int .i64 m) ∧ u.cell? ⟨P, 4, none⟩ = some (.string s) ∧ u.cell? ⟨P + 1, 0, none⟩ = some (.slice (some ⟨b, o, none⟩) n cap) ∧ u.cell? ⟨b, o + j * 6 + 1, none⟩ = some (.int .i64 x.src) ∧ u.cell? ⟨b, o + j * 6 + 2, none⟩ = some (.int .i64 x.seq) ∧ u.cell? ⟨b, o + j * 6 + 3, none⟩ = some (.int .i64 x.time) ∧ u.cell? ⟨b, o + j * 6 + 4, none⟩ = some (.string x.ty) ∧ u.cell? ⟨b, o + j * 6 + 5, none⟩ = some (.slice aa x.ats.length ac)) (first | exact ⟨c0, c1, c2, c3, c4, x0, d1, d2, d3, d4, d5⟩ | go_keep)
            (first
              | (go_at_call 38; (with_reducible refine (HOx.out _ (HQ3.out.trans (B3.out.drew.mono HQ3.out.size))).mono ?_); rintro e u2 ⟨rfl, hb⟩; have B3 := Lib.hid (B3.out.drew.trans (hb.mono B3.out.drew.size)); clear hb d1 d2 d3 d4 d5 c0 c1 c2 c3 c4 x0 z0 z1 z2 f0 f1 f2 l0 l1 l2 l3 l4 l5; obtain ⟨⟨⟨c0, c1, c2, c3, c4⟩, x0, ⟨z0, z1, z2⟩, ⟨f0, f1, f2⟩, l0, l1, l2, l3, l4, l5⟩, d1, d2, d3, d4, d5⟩ := HK.out _ B3.out))
          all_goals go_wp2
          refine bodyPost_ret (v := .tuple #[(⟨gk, gn, gs⟩ : Vl).v, .bool true]) (by simp [results, Try.results14, go_sem, Vl.v, z0, z1, z2, l2]) rfl ⟨by rw [HRES.out]; rfl, ?_⟩
          have hb := HX3.out.low.trans (B3.out.mono (by have := HX3.out.2.2.2.1; omega))
          rw [← HP.out]
          repeat (first | exact hb | refine Below.setCell ?_ (by show P ≤ P + 1 + 1; omega) _)
        | false =>
          have hnm := isVar_nm hq
          have HI2 : Hid (∀ i y, i < j + 1 → bs[i]? = some y → isVar v y = false) := Lib.hid (fun i y hi hy => (Nat.lt_succ_iff_lt_or_eq.1 hi).elim (fun h => HI.out i y h hy) (fun h => by rw [h, HXX.out] at hy; cases hy; exact hq))
          go_wp2_with fail
          refine wp_region_quiet_below (by kernel_rfl) (by kernel_rfl) ?_
          repeat (quiet_step (fail))
          refine wpQuiet_nil ?_
          intro _ hw'
          obtain ⟨⟨dq, osq⟩, hw''⟩ := hw'
          subst hw''
          have HB0 := Lib.hid (HB.out.trans ((below_regrown wr dq osq).mono HX2.out.2.2.2.1))
          go_wp2
          go_roundw
          all_goals first
            | exact ⟨j + 1, hlt, by go_num, HI2, HB0⟩
            | exact meas7 hlt
            | (rw [hls]; exact meas7 hlt)
      · obtain rfl : j = n := by omega
        have hnl : ¬ ((j : Int) < (j : Int)) := by omega
        have HRES := Lib.hid (val_none (o := ⟨v, a, k, m, s⟩) (bs := bs) HA.out (by rw [← HNL.out]; exact HI.out))
        clear hlt hj
        go_wp2
        refine bodyPost_ret (v := .tuple #[zeroL.v, .bool false]) (by simp [results, Try.results14, go_sem, Vl.v, zeroL, z0, z1, z2, l2]) rfl ⟨by rw [HRES.out]; rfl, ?_⟩
        have hb := HX2.out.low
        rw [← HP.out]
        repeat (first | exact hb | refine Below.setCell ?_ (by show P ≤ P + 1 + 1; omega) _)
end Go.Proofs.Ytpbloplbpkedcaa
