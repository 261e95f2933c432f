/- Contracts: the event that a variable names: the program's and the document's. -/
import Derived.Test.YtppacelaeaaodaaCl0
namespace Go.Proofs.Ytppacelaeaaodaa
open Go Go.RowKit

def isV (v : ByteArray) (b : Bd) : Bool := b.var.toList == v.toList
def ev0 : Ev := ⟨0, 0, 0, ⟨#[]⟩, []⟩
/-- The event that a variable names; none: the empty one. -/
def getE (bs : List Bd) (v : ByteArray) : Ev := match bs.find? (isV v) with | some b => b.ev | none => ev0
def hasE (bs : List Bd) (v : ByteArray) : Bool := (bs.find? (isV v)).isSome
theorem find_var {bs : List Bd} {v : ByteArray} {k : Nat} (hk : k < bs.length) (h : ∀ y ∈ bs.take k, isV v y = false) (h2 : isV v bs[k]! = true) : getE bs v = bs[k]!.ev ∧ hasE bs v = true := by
  have e : bs.find? (isV v) = some bs[k]! := by
    rw [getElem!_pos bs k hk] at h2 ⊢
    rw [List.find?_eq_some_iff_getElem]
    refine ⟨h2, k, hk, rfl, fun j hj => ?_⟩
    have := h bs[j] (by rw [List.mem_take_iff_getElem]; exact ⟨j, by omega, rfl⟩)
    simp [this]
  unfold getE hasE
  rw [e]; exact ⟨rfl, rfl⟩
theorem find_novar {bs : List Bd} {v : ByteArray} {k : Nat} (hk : bs.length ≤ k) (h : ∀ y ∈ bs.take k, isV v y = false) : getE bs v = ev0 ∧ hasE bs v = false := by
  have e : bs.find? (isV v) = none := by
    rw [List.find?_eq_none]
    intro x hx
    rw [List.take_of_length_le hk] at h
    rw [h x hx]; exact Bool.false_ne_true
  unfold getE hasE
  rw [e]; exact ⟨rfl, rfl⟩
theorem getE_wide {bs : List Bd} {v : ByteArray} (h : ∀ x ∈ bs, x.var.size ≤ maxLen ∧ x.ev.ty.size ≤ maxLen) : (getE bs v).ty.size ≤ maxLen := by
  unfold getE
  cases e : bs.find? (isV v) with
  | none => exact Nat.zero_le _
  | some b => exact (h b (List.mem_of_find?_eq_some e)).2
/-- An event in memory. -/
def EvP (u : World) (e : Ending) (E : Ev) (b : Bool) (W w' : World) (P : Nat) : Prop := ∃ aa ac, e = .returned (.tuple #[.agg #[.int .i64 E.src, .int .i64 E.seq, .int .i64 E.time, .string E.ty, .slice aa E.ats.length ac], .bool b]) ∧ AvN w' w'.heap.size (.slice aa E.ats.length ac) E.ats ∧ Below P W w'

set_option maxRecDepth 100000 in
set_option maxHeartbeats 6400000 in
theorem mGet_any (nm : ByteArray) (B : Nat) (ao : Option Addr) (n cap : Nat) (bs : List Bd) (w : World) (h : BsV w B (.slice ao n cap) bs) (hB : B ≤ w.heap.size) :
    Calls Try.prog 9 #[.agg #[.slice ao n cap], .string nm] w fun e w' => EvP w e (getE bs nm) (hasE bs nm) w w' w.heap.size := by
  have HN := Lib.hid h.num.1; have HN63 := Lib.hid h.num.2.1
  obtain ⟨P, hP⟩ : ∃ P, P = w.heap.size := ⟨_, rfl⟩
  obtain ⟨W, hW⟩ : ∃ W, W = (w.alloc (.cells #[.slice ao n cap] 24)).alloc (.cells #[.int .i64 0, .int .i64 0, .int .i64 0, .string ⟨#[]⟩, .slice none 0 0] 29) := ⟨_, rfl⟩
  have HB0 : Hid (Below P w W) := by rw [hW, hP]; exact ((Below.refl _ _).alloc (Nat.le_refl _) _).alloc (by simp) _
  have p0 : W.heap[P]? = some (.cells #[.slice ao n cap] 24 (0, 0)) := by rw [hW, hP]; exact heap_alloc_keeps (heap_alloc_new w _) _
  have p1 : W.heap[P + 1]? = some (.cells #[.int .i64 0, .int .i64 0, .int .i64 0, .string ⟨#[]⟩, .slice none 0 0] 29 (0, 0)) := by rw [hW, hP]; exact heap_alloc_at (by simp) rfl
  have hWs := lt_of_block p1
  have HPS : Hid (P ≤ W.heap.size) := Lib.hid (by omega)
  have HH := Lib.hid (h.mono (show B ≤ P by omega))
  have HX := Lib.hid (fun u (hu : Below W.heap.size W u) => cells_one0 ((hu.block P (by omega)).trans p0))
  have HX1 := Lib.hid (fun u (hu : Below W.heap.size W u) => (hu.block (P + 1) hWs).trans p1)
  have HBR : Hid (Below W.heap.size W W) := Lib.hid (Below.refl _ _)
  have HW := Lib.hid hW; have HP := Lib.hid hP
  have c0 := HX.out _ HBR.out
  rw [← hP]
  obtain ⟨E, hE⟩ : ∃ E, E = getE bs nm := ⟨_, rfl⟩
  obtain ⟨F, hF⟩ : ∃ F, F = hasE bs nm := ⟨_, rfl⟩
  rw [← hE, ← hF]
  have HE := Lib.hid hE; have HF' := Lib.hid hF
  clear h hB hP hW p0 p1 hWs hE hF
  go_enter Try.func9, Try.ntmps9
  go_wp2_with fail
  rw [← HW.out, ← HP.out]
  go_loopw [11] (fun iv wr => ∃ k : Nat, k ≤ n ∧ iv = .int .i64 k ∧ Hid (∀ y ∈ bs.take k, isV nm y = false) ∧ Hid (Below W.heap.size W wr)) (fun iv _ => n - (intOf iv).toNat)
  case atStart => exact ⟨0, Nat.zero_le _, rfl, Lib.hid (fun y hy => by simp at hy), HBR⟩
  case round =>
    obtain ⟨k, hk, rfl, HK, HB⟩ := hrel
    clear c0
    have c0 := HX.out _ HB.out
    have HBW : Hid (Below P w wr) := Lib.hid (HB0.out.trans (HB.out.mono HPS.out))
    by_cases hlt : k < n
    · obtain ⟨b, o, aa, ac, rfl, hbB, hkl, _, _, hnil, hav, hc⟩ := HH.out.at hlt
      have HCX := Lib.hid (fun u (hu : Below P w u) => six_cells (hc u hu))
      have hbw : b ≠ wr.heap.size := by have := HB.out.size; have := HPS.out; omega
      obtain ⟨a0, a1, a2, a3, a4, a5⟩ := HCX.out _ HBW.out
      have HT := Lib.hid (take_one hkl)
      have HFV := Lib.hid (find_var (v := nm) hkl HK.out)
      have e1 : IntKind.i64.wrap ((k : Int) + 1) = (k : Int) + 1 := IntWalk.i64_in _ (by have := HN63.out; omega)
      have hk0 : (0 : Int) ≤ (k : Int) := by omega
      have hkn' : (k : Int) < (n : Int) := by omega
      have HAV := Lib.hid (show AvN w P (.slice aa bs[k]!.ev.ats.length ac) bs[k]!.ev.ats from ⟨hav, fun n c e => by simp only [Value.slice.injEq] at e; rw [← e.2.2]; exact hnil e.1⟩)
      generalize bs[k]! = x at a0 a1 a2 a3 a4 a5 HCX HT HFV HAV hav
      clear hc hnil hkl
      have HX2 := Lib.hid (HB.out.alloc HB.out.size (.cells #[.string x.var, .int .i64 x.ev.src, .int .i64 x.ev.seq, .int .i64 x.ev.time, .string x.ev.ty, .slice aa x.ev.ats.length ac] 39))
      cases hv : isV nm x with
      | false =>
        have hv2 : (x.var.toList == nm.toList) = false := hv
        have HV := Lib.hid hv
        clear hv hav
        go_wp2_with fail
        go_roundw
        case rel => exact ⟨k + 1, by omega, by go_num, Lib.hid (fun y hy => by rw [HT.out] at hy; rcases List.mem_append.1 hy with hy | hy; exact HK.out y hy; rw [List.mem_singleton.1 hy]; exact HV.out), HX2⟩
        case measure => simp [intOf]; omega
      | true =>
        have hv2 : (x.var.toList == nm.toList) = true := hv
        obtain ⟨hg, hh⟩ := HFV.out hv
        have hE := HE.out.trans hg; have hF := HF'.out.trans hh
        clear HE HF'
        subst hE hF
        have HCE := Lib.hid (eClone_any x.ev P aa _ ac (wr.alloc (.cells #[.string x.var, .int .i64 x.ev.src, .int .i64 x.ev.seq, .int .i64 x.ev.time, .string x.ev.ty, .slice aa x.ev.ats.length ac] 39)) (hav.below (HBW.out.alloc (Nat.le_trans HPS.out HB.out.size) _) (Nat.le_refl _)) (by have := HPS.out; have := HB.out.size; simp; omega))
        unfold evV at HCE
        have HWA := Lib.hid hav.wide; have HLA := Lib.hid hav.len
        clear hv hav hg hh a0 a1 a2 a3 a4 a5 HFV HT
        obtain ⟨a0, a1, a2, a3, a4, a5⟩ := HCX.out _ HBW.out
        go_wp2_with fail
        (with_reducible refine HCE.out.mono ?_)
        rintro e w2 ⟨v3, rfl, ho, hb2⟩
        obtain ⟨ao3, c3, rfl⟩ := own_slice ho
        have hb2' := HX2.out.trans (hb2.mono HX2.out.size)
        have x1 := HX1.out _ hb2'
        obtain ⟨d0, d1, d2, d3, d4⟩ := cell_of_five x1
        obtain ⟨z0, z1, z2, z3, z4⟩ := free_of_five x1
        have HF := Lib.hid (five_set x1 (.int .i64 x.ev.src) (.int .i64 x.ev.seq) (.int .i64 x.ev.time) (.string x.ev.ty) (.slice ao3 x.ev.ats.length c3))
        have HO := Lib.hid (own_five ho x1 (by decide) (.int .i64 x.ev.src) (.int .i64 x.ev.seq) (.int .i64 x.ev.time) (.string x.ev.ty) (.slice ao3 x.ev.ats.length c3))
        have HBF := Lib.hid (below_five (q := P + 1) (HB0.out.trans (hb2'.mono HPS.out)) (by omega) (.int .i64 x.ev.src) (.int .i64 x.ev.seq) (.int .i64 x.ev.time) (.string x.ev.ty) (.slice ao3 x.ev.ats.length c3))
        clear ho hb2 hb2' x1 c0 a0 a1 a2 a3 a4 a5
        go_wp2
        have z := cell_of_five HF.out
        exact bodyPost_ret (v := .tuple #[.agg #[.int .i64 x.ev.src, .int .i64 x.ev.seq, .int .i64 x.ev.time, .string x.ev.ty, .slice ao3 x.ev.ats.length c3], .bool true]) (by simp [results, Try.results9, go_sem, z]) rfl ⟨ao3, c3, rfl, OwA.av ⟨HO.out, HWA.out, HLA.out⟩, HBF.out⟩
    · obtain ⟨hg, hh⟩ := find_novar (bs := bs) (v := nm) (k := k) (by have := HN.out; omega) HK.out
      have hE := HE.out.trans hg; have hF := HF'.out.trans hh
      clear HE HF'
      subst hE hF
      have x1 := HX1.out _ HB.out
      obtain ⟨d0, d1, d2, d3, d4⟩ := cell_of_five x1
      obtain ⟨z0, z1, z2, z3, z4⟩ := free_of_five x1
      have HF := Lib.hid (five_set x1 (.int .i64 0) (.int .i64 0) (.int .i64 0) (.string ⟨#[]⟩) (.slice none 0 0))
      have HBF := Lib.hid (below_five (q := P + 1) HBW.out (by omega) (.int .i64 0) (.int .i64 0) (.int .i64 0) (.string ⟨#[]⟩) (.slice none 0 0))
      clear hg hh x1
      go_wp2
      have z := cell_of_five HF.out
      exact bodyPost_ret (v := .tuple #[.agg #[.int .i64 0, .int .i64 0, .int .i64 0, .string ⟨#[]⟩, .slice none 0 0], .bool false]) (by simp [results, Try.results9, go_sem, z]) rfl ⟨none, 0, rfl, ⟨Av.nil _ _, fun n c e => by simp only [Value.slice.injEq] at e; exact e.2.2.symm⟩, HBF.out⟩

set_option maxRecDepth 100000 in
set_option maxHeartbeats 6400000 in
theorem r10Get_any (nm : ByteArray) (B : Nat) (ao : Option Addr) (n cap : Nat) (bs : List Bd) (w : World) (h : BsV w B (.slice ao n cap) bs) (hB : B ≤ w.heap.size) :
    Calls Try.prog 10 #[.agg #[.slice ao n cap], .string nm] w fun e w' => EvP w e (getE bs nm) (hasE bs nm) w w' w.heap.size := by
  have HN := Lib.hid h.num.1; have HN63 := Lib.hid h.num.2.1
  obtain ⟨P, hP⟩ : ∃ P, P = w.heap.size := ⟨_, rfl⟩
  obtain ⟨W, hW⟩ : ∃ W, W = (w.alloc (.cells #[.slice ao n cap] 24)).alloc (.cells #[.int .i64 0, .int .i64 0, .int .i64 0, .string ⟨#[]⟩, .slice none 0 0] 29) := ⟨_, rfl⟩
  have HB0 : Hid (Below P w W) := by rw [hW, hP]; exact ((Below.refl _ _).alloc (Nat.le_refl _) _).alloc (by simp) _
  have p0 : W.heap[P]? = some (.cells #[.slice ao n cap] 24 (0, 0)) := by rw [hW, hP]; exact heap_alloc_keeps (heap_alloc_new w _) _
  have p1 : W.heap[P + 1]? = some (.cells #[.int .i64 0, .int .i64 0, .int .i64 0, .string ⟨#[]⟩, .slice none 0 0] 29 (0, 0)) := by rw [hW, hP]; exact heap_alloc_at (by simp) rfl
  have hWs := lt_of_block p1
  have HPS : Hid (P ≤ W.heap.size) := Lib.hid (by omega)
  have HH := Lib.hid (h.mono (show B ≤ P by omega))
  have HX := Lib.hid (fun u (hu : Below W.heap.size W u) => cells_one0 ((hu.block P (by omega)).trans p0))
  have HX1 := Lib.hid (fun u (hu : Below W.heap.size W u) => (hu.block (P + 1) hWs).trans p1)
  have HBR : Hid (Below W.heap.size W W) := Lib.hid (Below.refl _ _)
  have HW := Lib.hid hW; have HP := Lib.hid hP
  have c0 := HX.out _ HBR.out
  rw [← hP]
  obtain ⟨E, hE⟩ : ∃ E, E = getE bs nm := ⟨_, rfl⟩
  obtain ⟨F, hF⟩ : ∃ F, F = hasE bs nm := ⟨_, rfl⟩
  rw [← hE, ← hF]
  have HE := Lib.hid hE; have HF' := Lib.hid hF
  clear h hB hP hW p0 p1 hWs hE hF
  go_enter Try.func10, Try.ntmps10
  go_wp2_with fail
  rw [← HW.out, ← HP.out]
  go_loopw [6] (fun iv wr => ∃ k : Nat, k ≤ n ∧ iv = .int .i64 k ∧ Hid (∀ y ∈ bs.take k, isV nm y = false) ∧ Hid (Below W.heap.size W wr)) (fun iv _ => n - (intOf iv).toNat)
  case atStart => exact ⟨0, Nat.zero_le _, rfl, Lib.hid (fun y hy => by simp at hy), HBR⟩
  case round =>
    obtain ⟨k, hk, rfl, HK, HB⟩ := hrel
    clear c0
    have c0 := HX.out _ HB.out
    have HBW : Hid (Below P w wr) := Lib.hid (HB0.out.trans (HB.out.mono HPS.out))
    by_cases hlt : k < n
    · obtain ⟨b, o, aa, ac, rfl, hbB, hkl, _, _, hnil, hav, hc⟩ := HH.out.at hlt
      have HCX := Lib.hid (fun u (hu : Below P w u) => six_cells (hc u hu))
      have hbw : b ≠ wr.heap.size := by have := HB.out.size; have := HPS.out; omega
      obtain ⟨a0, a1, a2, a3, a4, a5⟩ := HCX.out _ HBW.out
      have HT := Lib.hid (take_one hkl)
      have HFV := Lib.hid (find_var (v := nm) hkl HK.out)
      have e1 : IntKind.i64.wrap ((k : Int) + 1) = (k : Int) + 1 := IntWalk.i64_in _ (by have := HN63.out; omega)
      have hk0 : (0 : Int) ≤ (k : Int) := by omega
      have hkn' : (k : Int) < (n : Int) := by omega
      have HAV := Lib.hid (show AvN w P (.slice aa bs[k]!.ev.ats.length ac) bs[k]!.ev.ats from ⟨hav, fun n c e => by simp only [Value.slice.injEq] at e; rw [← e.2.2]; exact hnil e.1⟩)
      generalize bs[k]! = x at a0 a1 a2 a3 a4 a5 HCX HT HFV HAV hav
      clear hc hnil hkl
      cases hv : isV nm x with
      | false =>
        have hv2 : (x.var.toList == nm.toList) = false := hv
        have HV := Lib.hid hv
        clear hv hav
        go_wp2_with fail
        go_roundw
        case rel => exact ⟨k + 1, by omega, by go_num, Lib.hid (fun y hy => by rw [HT.out] at hy; rcases List.mem_append.1 hy with hy | hy; exact HK.out y hy; rw [List.mem_singleton.1 hy]; exact HV.out), HB⟩
        case measure => simp [intOf]; omega
      | true =>
        have hv2 : (x.var.toList == nm.toList) = true := hv
        obtain ⟨hg, hh⟩ := HFV.out hv
        have hE := HE.out.trans hg; have hF := HF'.out.trans hh
        clear HE HF'
        subst hE hF
        have x1 := HX1.out _ HB.out
        obtain ⟨d0, d1, d2, d3, d4⟩ := cell_of_five x1
        obtain ⟨z0, z1, z2, z3, z4⟩ := free_of_five x1
        have HF := Lib.hid (five_set x1 (.int .i64 x.ev.src) (.int .i64 x.ev.seq) (.int .i64 x.ev.time) (.string x.ev.ty) (.slice aa x.ev.ats.length ac))
        have hbf := below_five (q := P + 1) HBW.out (by omega) (.int .i64 x.ev.src) (.int .i64 x.ev.seq) (.int .i64 x.ev.time) (.string x.ev.ty) (.slice aa x.ev.ats.length ac)
        have HBF := Lib.hid hbf
        have HAF := Lib.hid ((HAV.out.below hbf (Nat.le_refl _)).mono (Nat.le_trans (Nat.le_of_eq HP.out) hbf.size))
        clear hv hav hg hh HFV HT x1 hbf
        go_wp2
        have z := cell_of_five HF.out
        exact bodyPost_ret (v := .tuple #[.agg #[.int .i64 x.ev.src, .int .i64 x.ev.seq, .int .i64 x.ev.time, .string x.ev.ty, .slice aa x.ev.ats.length ac], .bool true]) (by simp [results, Try.results10, go_sem, z]) rfl ⟨aa, ac, rfl, HAF.out, HBF.out⟩
    · obtain ⟨hg, hh⟩ := find_novar (bs := bs) (v := nm) (k := k) (by have := HN.out; omega) HK.out
      have hE := HE.out.trans hg; have hF := HF'.out.trans hh
      clear HE HF'
      subst hE hF
      have x1 := HX1.out _ HB.out
      obtain ⟨d0, d1, d2, d3, d4⟩ := cell_of_five x1
      obtain ⟨z0, z1, z2, z3, z4⟩ := free_of_five x1
      have HF := Lib.hid (five_set x1 (.int .i64 0) (.int .i64 0) (.int .i64 0) (.string ⟨#[]⟩) (.slice none 0 0))
      have HBF := Lib.hid (below_five (q := P + 1) HBW.out (by omega) (.int .i64 0) (.int .i64 0) (.int .i64 0) (.string ⟨#[]⟩) (.slice none 0 0))
      clear hg hh x1
      go_wp2
      have z := cell_of_five HF.out
      exact bodyPost_ret (v := .tuple #[.agg #[.int .i64 0, .int .i64 0, .int .i64 0, .string ⟨#[]⟩, .slice none 0 0], .bool false]) (by simp [results, Try.results10, go_sem, z]) rfl ⟨none, 0, rfl, ⟨Av.nil _ _, fun n c e => by simp only [Value.slice.injEq] at e; exact e.2.2.symm⟩, HBF.out⟩
end Go.Proofs.Ytppacelaeaaodaa
