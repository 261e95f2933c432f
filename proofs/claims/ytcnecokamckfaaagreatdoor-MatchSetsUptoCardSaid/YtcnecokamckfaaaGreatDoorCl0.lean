/- Contracts: slices.Clone of bounds; a partial match in memory of its own: the program's. -/
import Derived.Test.YtcnecokamckfaaaGreatDoorK4
import Derived.BigQuiet
import Derived.Deep.QuietTactic
import Derived.Deep.RegionHeld3
set_option linter.unusedVariables false
set_option linter.unusedSimpArgs false
namespace Go.Proofs.YtcnecokamckfaaaGreatDoor
open Go Go.RowKit

set_option maxRecDepth 100000 in
set_option maxHeartbeats 1600000 in
theorem CloneBd_any (B : Nat) (ao : Option Addr) (n cap : Nat) (bs : List Bd) (w : World) (h : BsV w B (.slice ao n cap) bs) (hB : B ≤ w.heap.size) :
    Calls Tryz.prog 47 #[.slice ao n cap] w fun e w' => ∃ v' xs, e = .returned v' ∧ w'.ownsRow w.heap.size 54 6 v' n xs ∧ RwL (AvN w B) bs xs ∧ Below w.heap.size w w' := by
  obtain ⟨i0, hi, hz0, hz1, hz2⟩ := info_parts infoBd
  have q := fun (w : World) (a : Option Addr) (n c n' c' : Nat) => Lib.run_eql_slice_nil w 36 54 a n c n' c' Tryz.underlying36
  obtain ⟨hn, hn63, hnc, hc63, hnil, hn80⟩ := h.num
  obtain ⟨xs, h1, h2, h3⟩ := h.list
  cases ao with
  | none =>
    have hc0 := hnil rfl
    obtain rfl : n = 0 := by omega
    obtain rfl : xs = [] := List.length_eq_zero_iff.1 (by omega)
    have H1 := Lib.hid h1
    clear h hB h1 h2 h3 hnil hn
    go_enter Tryz.func47, Tryz.ntmps47
    go_wp2
    go_ret
    exact ⟨_, [], rfl, World.ownsRow_nil _ _ _ _, H1.out, Below.refl _ _⟩
  | some ad =>
    have HC := Lib.hid (fun j u hj => Lib.cell?_alloc_some (.cells #[] 54) (h3 w (Below.refl _ _) ad rfl j u hj))
    have HL := Lib.hid h2; have H1 := Lib.hid h1; have HN := Lib.hid hn80
    clear h hB h1 h2 h3 hnil hn hn80
    go_enter Tryz.func47, Tryz.ntmps47
    go_wp2_with (at_builtin; refine wpList_append_own _ rfl _ _ 36 rfl w.heap.size 54 i0 (.agg #[.string ⟨#[]⟩, .int .i64 0, .int .i64 0, .int .i64 0, .string ⟨#[]⟩, .slice none 0 0]) 6 80 Tryz.underlying36 hi hz0 hz1 hz2 rfl (by decide) _ _ _ rfl (World.ownsRow_made w #[] 0 (Nat.le_refl _) (Nat.zero_le _) (by simp)) ad n cap xs rfl HL.out (fun j u hj => HC.out j u hj) H1.out.one (by have := HN.out; unfold maxLen; omega) (by have := HN.out; omega) (by simp) ?_; intro v' w1 hown hgrow hnil; clear hnil; have HO := Lib.hid hown; have HG := Lib.hid hgrow; clear hown hgrow)
    go_ret
    refine ⟨_, xs, rfl, by have := HO.out; simpa using this, H1.out, ?_⟩
    exact ((Below.refl _ w).alloc (Nat.le_refl _) _).grown HG.out (by simp) (fun k hk => ((World.ownsRow_made (base := w.heap.size) (e := 54) (size := 6) w #[] 0 (Nat.le_refl _) (Nat.zero_le _) (by simp)).lt k hk).1)

/-- What a slice of attributes of the call's own is. -/
def OwA (w : World) (base : Nat) (v : Value) (ats : List At) : Prop := w.ownsRow base 58 4 v ats.length (ats.flatMap enc4) ∧ (∀ x ∈ ats, x.name.size ≤ maxLen ∧ x.s.size ≤ maxLen) ∧ ats.length * 48 ≤ 140737488355328
/-- How things stand within Clone: the boxes at P and P + 1; the row's first k bounds have attributes of their own. -/
structure ClS (w W : World) (P B : Nat) (v : Value) (n : Nat) (bs : List Bd) (k : Nat) (u : World) : Prop where
  below : Below P w u
  sz : P + 1 < u.heap.size
  box : u.heap[P]? = some (.cells #[v] 38 (0, 0))
  res : u.heap[P + 1]? = some (.cells #[.slice none 0 0] 38 (0, 0))
  row : ∃ ys zs, u.ownsRow (P + 2) 54 6 v n (ys ++ zs) ∧ RwL (OwA u P) (bs.take k) ys ∧ RwL (AvN w B) (bs.drop k) zs

theorem own_call0 {w w' : World} {base e size n : Nat} {v : Value} {xs : List Value} (h : w.ownsRow base e size v n xs) (hb : Below w.heap.size w w') : w'.ownsRow base e size v n xs :=
  h.kept (row := none) ⟨hb.os, hb.tape, hb.output, hb.size, fun k hk _ => hb.block k hk⟩ (by cases v.ownBlock <;> simp)
theorem OwA.call {w w' : World} {base : Nat} {v : Value} {ats : List At} (h : OwA w base v ats) (hb : Below w.heap.size w w') : OwA w' base v ats := ⟨own_call0 h.1 hb, h.2⟩
theorem OwA.set5 {w : World} {base g : Nat} {v : Value} {ats : List At} (h : OwA w base v ats) {cs : Array Value} {fr : Nat × Nat} (hg : w.heap[g]? = some (.cells cs 54 fr)) (a b c d e : Nat) (va vb vc vd ve : Value) :
    OwA (((((w.setCell ⟨g, a, none⟩ va).setCell ⟨g, b, none⟩ vb).setCell ⟨g, c, none⟩ vc).setCell ⟨g, d, none⟩ vd).setCell ⟨g, e, none⟩ ve) base v ats := by
  have h1 := heap_setCell_same (k := a) hg va
  have h2 := heap_setCell_same (k := b) h1 vb
  have h3 := heap_setCell_same (k := c) h2 vc
  have h4 := heap_setCell_same (k := d) h3 vd
  exact ⟨ownsRow_setCell_typed (a := ⟨g, e, none⟩) (ownsRow_setCell_typed (a := ⟨g, d, none⟩) (ownsRow_setCell_typed (a := ⟨g, c, none⟩) (ownsRow_setCell_typed (a := ⟨g, b, none⟩) (ownsRow_setCell_typed (a := ⟨g, a, none⟩) h.1 hg (by decide) _) h1 (by decide) _) h2 (by decide) _) h3 (by decide) _) h4 (by decide) _, h.2⟩
theorem OwA.av {w : World} {base : Nat} {v : Value} {ats : List At} (h : OwA w base v ats) : AvN w w.heap.size v ats := by
  refine ⟨Av.of_own h.1 h.2.1 h.2.2, fun n c e => ?_⟩
  rcases h.1.2 with ⟨hv, _⟩ | ⟨g, cap, cur, hv, _⟩
  · rw [hv] at e; simp only [Value.slice.injEq] at e; exact e.2.2.symm
  · rw [hv] at e; simp at e
theorem own_blk {w : World} {base e size g n cap : Nat} {xs : List Value} (h : w.ownsRow base e size (.slice (some ⟨g, 0, none⟩) n cap) n xs) : base ≤ g ∧ g < w.heap.size ∧ n ≤ cap ∧ ∃ cs, w.heap[g]? = some (.cells cs e (0, 0)) := by
  rcases h.2 with ⟨h', _⟩ | ⟨g', cap', cur, h', hb, hg, hnc, _⟩
  · simp at h'
  · simp only [Value.slice.injEq, Option.some.injEq, Addr.mk.injEq, and_true, true_and] at h'
    obtain ⟨rfl, rfl⟩ := h'
    exact ⟨hb, lt_of_block hg, hnc, cur, hg⟩
/-- A round. -/
theorem ClS.step {w W : World} {P B g cap' n k : Nat} {bs : List Bd} {u u1 u2 : World} (h : ClS w W P B (.slice (some ⟨g, 0, none⟩) n cap') n bs k u) (hk : k < bs.length) (hn : n = bs.length) {Y : Obj} (hu1 : u1 = u.alloc Y)
    {v3 : Value} (ho : OwA u2 u1.heap.size v3 bs[k]!.ev.ats) (hb : Below u1.heap.size u1 u2) :
    ∃ x, x = bs[k]! ∧ ClS w W P B (.slice (some ⟨g, 0, none⟩) n cap') n bs (k + 1) (((((u2.setCell ⟨g, k * 6 + 1, none⟩ (.int .i64 x.ev.src)).setCell ⟨g, k * 6 + 1 + 1, none⟩ (.int .i64 x.ev.seq)).setCell ⟨g, k * 6 + 1 + 2, none⟩ (.int .i64 x.ev.time)).setCell ⟨g, k * 6 + 1 + 3, none⟩ (.string x.ev.ty)).setCell ⟨g, k * 6 + 1 + 4, none⟩ v3) := by
  refine ⟨_, rfl, ?_⟩
  obtain ⟨hbel, hsz, hbox, hres, ys, zs, hrow, h1, h2⟩ := h
  have hu : Below u.heap.size u u2 := by
    rw [hu1] at hb
    exact ((Below.refl u.heap.size u).alloc (Nat.le_refl _) Y).trans (hb.mono (by simp))
  have hs1 : u.heap.size ≤ u1.heap.size := by rw [hu1]; simp
  obtain ⟨hg0, hg1, _, _⟩ := own_blk hrow
  have hrow2 := own_call0 hrow hu
  obtain ⟨_, _, _, cs, hcs⟩ := own_blk hrow2
  have hd : bs.drop k = bs[k]! :: bs.drop (k + 1) := by rw [List.drop_eq_getElem_cons hk, getElem!_pos bs k hk]
  rw [hd] at h2
  obtain ⟨aa, ac, zs', e, g1, g2⟩ := h2
  obtain ⟨ao3, c3, rfl⟩ := own_slice ho.1
  have hyl : ys.length = k * 6 := by rw [h1.len, List.length_take]; omega
  have hset := own_set5 (x := bs[k]!) (v' := .slice ao3 bs[k]!.ev.ats.length c3) hrow2 (by rw [e]) hyl
  have hsu := hu.size
  refine ⟨?_, ?_, ?_, ?_, ys ++ encB bs[k]! (.slice ao3 bs[k]!.ev.ats.length c3), zs', ?_, ?_, g2⟩
  · have b0 := hbel.trans (hu.mono (by omega : P ≤ u.heap.size))
    exact ((((b0.setCell (p := ⟨g, _, none⟩) (by show P ≤ g; omega) _).setCell (p := ⟨g, _, none⟩) (by show P ≤ g; omega) _).setCell (p := ⟨g, _, none⟩) (by show P ≤ g; omega) _).setCell (p := ⟨g, _, none⟩) (by show P ≤ g; omega) _).setCell (p := ⟨g, _, none⟩) (by show P ≤ g; omega) _
  · simp; omega
  · rw [hset.2.block P (by omega) (by simp; omega)]; exact (hu.block P (by omega)).trans hbox
  · rw [hset.2.block (P + 1) (by omega) (by simp; omega)]; exact (hu.block (P + 1) hsz).trans hres
  · rw [List.append_assoc]; exact hset.1
  · rw [take_one hk]
    refine RwL.app (h1.imp fun v y _ hy => ?_) (RwL.single ?_)
    · exact (OwA.call hy hu).set5 hcs _ _ _ _ _ _ _ _ _ _
    · have := OwA.set5 ho hcs (k * 6 + 1) (k * 6 + 1 + 1) (k * 6 + 1 + 2) (k * 6 + 1 + 3) (k * 6 + 1 + 4) (.int .i64 bs[k]!.ev.src) (.int .i64 bs[k]!.ev.seq) (.int .i64 bs[k]!.ev.time) (.string bs[k]!.ev.ty) (.slice ao3 bs[k]!.ev.ats.length c3)
      exact ⟨own_lower0 this.1 (by omega), this.2⟩
/-- Bounds in memory of the call's own, from block base on: the row and each slice of attributes. -/
structure BsO (w : World) (base : Nat) (v : Value) (bs : List Bd) : Prop where
  wide : ∀ x ∈ bs, x.var.size ≤ maxLen ∧ x.ev.ty.size ≤ maxLen
  len : bs.length * 80 ≤ 140737488355328
  row : ∃ xs, w.ownsRow base 54 6 v bs.length xs ∧ RwL (OwA w base) bs xs
theorem BsO.bsv {w : World} {base : Nat} {v : Value} {bs : List Bd} (h : BsO w base v bs) : BsV w w.heap.size v bs := by
  obtain ⟨hw, hl, xs, h1, h2⟩ := h
  exact BsV.of_own h1 (h2.imp fun v x _ hx => hx.av) hw hl
theorem BsO.call {w w' : World} {base : Nat} {v : Value} {bs : List Bd} (h : BsO w base v bs) (hb : Below w.heap.size w w') : BsO w' base v bs := by
  obtain ⟨hw, hl, xs, h1, h2⟩ := h
  exact ⟨hw, hl, xs, own_call0 h1 hb, h2.imp fun v x _ hx => hx.call hb⟩
theorem BsO.setP {w : World} {base q k : Nat} {v : Value} {bs : List Bd} (h : BsO w base v bs) {cs : Array Value} {fr : Nat × Nat} (hq : w.heap[q]? = some (.cells cs 38 fr)) (u : Value) : BsO (w.setCell ⟨q, k, none⟩ u) base v bs := by
  obtain ⟨hw, hl, xs, h1, h2⟩ := h
  exact ⟨hw, hl, xs, ownsRow_setCell_typed (a := ⟨q, k, none⟩) h1 hq (by decide) u, h2.imp fun v' x _ hx => ⟨ownsRow_setCell_typed (a := ⟨q, k, none⟩) hx.1 hq (by decide) u, hx.2⟩⟩
theorem BsO.lower {w : World} {base base' : Nat} {v : Value} {bs : List Bd} (h : BsO w base v bs) (hB : base' ≤ base) : BsO w base' v bs := by
  obtain ⟨hw, hl, xs, h1, h2⟩ := h
  exact ⟨hw, hl, xs, own_lower0 h1 hB, h2.imp fun v x _ hx => ⟨own_lower0 hx.1 hB, hx.2⟩⟩
theorem BsO.nil (w : World) (base : Nat) : BsO w base (.slice none 0 0) [] := ⟨by simp, by simp, [], World.ownsRow_nil _ _ _ _, rfl⟩
theorem BsO.shape {w : World} {base : Nat} {v : Value} {bs : List Bd} (h : BsO w base v bs) : ∃ ao cap, v = .slice ao bs.length cap := by
  obtain ⟨_, _, xs, h1, _⟩ := h
  exact own_slice h1
theorem ClS.fin {w W : World} {P B n : Nat} {v : Value} {bs : List Bd} {u : World} (h : ClS w W P B v n bs n u) (hn : n = bs.length) (hw : ∀ x ∈ bs, x.var.size ≤ maxLen ∧ x.ev.ty.size ≤ maxLen) (hl : n * 80 ≤ 140737488355328) :
    BsO (u.setCell ⟨P + 1, 0, none⟩ v) P v bs ∧ Below P w (u.setCell ⟨P + 1, 0, none⟩ v) := by
  obtain ⟨hbel, hsz, hbox, hres, ys, zs, hrow, h1, h2⟩ := h
  subst hn
  rw [List.take_length] at h1
  rw [List.drop_length] at h2
  obtain rfl : zs = [] := h2
  rw [List.append_nil] at hrow
  exact ⟨BsO.setP ⟨hw, hl, ys, own_lower0 hrow (by omega), h1⟩ hres v, hbel.setCell (p := ⟨P + 1, 0, none⟩) (by show P ≤ P + 1; omega) _⟩

set_option maxRecDepth 100000 in
set_option maxHeartbeats 6400000 in
theorem mClone_any (B : Nat) (ao : Option Addr) (n cap : Nat) (bs : List Bd) (w : World) (h : BsV w B (.slice ao n cap) bs) (hB : B ≤ w.heap.size) :
    Calls Tryz.prog 22 #[.agg #[.slice ao n cap]] w fun e w' => ∃ v', e = .returned (.agg #[v']) ∧ BsO w' w.heap.size v' bs ∧ Below w.heap.size w w' := by
  obtain ⟨hn, hn63, hnc, hc63, _, hn80⟩ := h.num
  have HN := Lib.hid hn; have HN80 := Lib.hid hn80
  have HWD := Lib.hid h.wide
  obtain ⟨P, hP⟩ : ∃ P, P = w.heap.size := ⟨_, rfl⟩
  obtain ⟨W, hW⟩ : ∃ W, W = (w.alloc (.cells #[.slice ao n cap] 38)).alloc (.cells #[.slice none 0 0] 38) := ⟨_, rfl⟩
  have HB0 : Hid (Below P w W) := by rw [hW, hP]; exact ((Below.refl _ _).alloc (Nat.le_refl _) _).alloc (by simp) _
  have hPW : W.heap[P]? = some (.cells #[.slice ao n cap] 38 (0, 0)) := by rw [hW, hP]; exact heap_alloc_keeps (heap_alloc_new w _) _
  have hQW : W.heap[P + 1]? = some (.cells #[.slice none 0 0] 38 (0, 0)) := by rw [hW, hP]; exact heap_alloc_at (by simp) rfl
  have hWs : W.heap.size = P + 2 := by rw [hW, hP]; simp
  have HW := Lib.hid hW; have HP := Lib.hid hP
  have HWS := Lib.hid hWs
  have hbv := h.below HB0.out (by omega)
  have HBB : Hid (B ≤ W.heap.size) := Lib.hid (by omega)
  have HBP : Hid (B ≤ P) := Lib.hid (by omega)
  have HCL := Lib.hid (CloneBd_any B ao n cap bs W hbv HBB.out)
  have c0 := cells_one0 hPW
  have HPX := Lib.hid hPW; have HQX := Lib.hid hQW
  have HPW : Hid (P < W.heap.size) := Lib.hid (by omega)
  have HQW : Hid (P + 1 < W.heap.size) := Lib.hid (by omega)
  rw [← hP]
  clear h hn hB hP hW hPW hQW hWs hbv hn80
  go_enter Tryz.func22, Tryz.ntmps22
  go_wp2_with fail
  rw [← HW.out, ← HP.out]
  refine HCL.out.mono ?_
  rintro e w1 ⟨v', xs, rfl, hown, hrw, hb1⟩
  obtain ⟨ao', cap', rfl⟩ := own_slice hown
  have p1 := (hb1.block P HPW.out).trans HPX.out
  have q1 := (hb1.block (P + 1) HQW.out).trans HQX.out
  have hst : ClS w W P B (.slice ao' n cap') n bs 0 (w1.setCell ⟨P, 0, none⟩ (.slice ao' n cap')) := by
    have hs1 := hb1.size
    have hp := heap_setCell_same (k := 0) p1 (.slice ao' n cap')
    rw [HWS.out] at hown
    refine ⟨(HB0.out.trans (hb1.mono (by have := HWS.out; omega))).setCell (p := ⟨P, 0, none⟩) (Nat.le_refl _) _, ?_, hp, ?_, [], xs, ?_, ?_, ?_⟩
    · have := HWS.out; simp; omega
    · rw [Below.heap_setCell _ _ _ _ (show P + 1 ≠ P by omega)]; exact q1
    · rw [List.nil_append]; exact ownsRow_setCell_typed (a := ⟨P, 0, none⟩) hown p1 (by decide) _
    · rfl
    · exact hrw.imp fun v x _ hx => ⟨hx.1.keep (fun b o hb => (HB0.out.cell (p := ⟨b, o, none⟩) (by have := HBP.out; show b < P; omega)).symm), hx.2⟩
  have c1 := cells_one0 hst.box
  have hfz : w1.frozen? ⟨P, 0, none⟩ = false := by simp [World.frozen?, p1]
  have d1 := cells_one0 p1
  have HST := Lib.hid hst
  clear hown hrw hb1 p1 q1 hst c0
  go_wp2_with fail
  clear d1
  generalize w1.setCell ⟨P, 0, none⟩ (.slice ao' n cap') = U at HST c1 ⊢
  clear hfz
  go_loopw [12] (fun iv wr => ∃ k : Nat, k ≤ n ∧ iv = .int .i64 k ∧ Hid (ClS w W P B (.slice ao' n cap') n bs k wr)) (fun iv _ => n - (intOf iv).toNat)
  case atStart => exact ⟨0, Nat.zero_le _, rfl, HST⟩
  case round =>
    obtain ⟨k, hk, rfl, HS⟩ := hrel
    clear HST c1
    by_cases hlt : k < n
    · have hkl : k < bs.length := by rw [← HN.out]; exact hlt
      obtain ⟨ys, zs, hrow, r1, r2⟩ := HS.out.row
      obtain ⟨g, rfl⟩ : ∃ g, ao' = some ⟨g, 0, none⟩ := by
        rcases hrow.2 with ⟨_, h0⟩ | ⟨g, c, _, he, _⟩
        · omega
        · simp only [Value.slice.injEq] at he; exact ⟨g, he.1⟩
      have hd : bs.drop k = bs[k]! :: bs.drop (k + 1) := by rw [List.drop_eq_getElem_cons hkl, getElem!_pos bs k hkl]
      rw [hd] at r2
      obtain ⟨aa, ac, zs', e, g1, g2⟩ := r2
      have hyl : ys.length = k * 6 := by rw [r1.len, List.length_take]; omega
      obtain ⟨a0, a1, a2, a3, a4, a5⟩ := six_cells (a := k * 6) (RwL.cells hrow (by rw [e]) hyl)
      obtain ⟨hg0, hg1, hnc', _⟩ := own_blk hrow
      have HSTEP := Lib.hid (fun (u1 u2 : World) (Y : Obj) (hu1 : u1 = wr.alloc Y) (v3 : Value) (ho : OwA u2 u1.heap.size v3 bs[k]!.ev.ats) (hb : Below u1.heap.size u1 u2) => HS.out.step hkl HN.out hu1 ho hb)
      have HCE := Lib.hid (fun u (hu : Below P w u) (hz : B ≤ u.heap.size) => eClone_any bs[k]!.ev B aa _ ac u (g1.1.below hu HBP.out) hz)
      have HWA := Lib.hid g1.1.wide; have HLA := Lib.hid g1.1.len
      obtain ⟨x, hx⟩ : ∃ x, x = bs[k]! := ⟨_, rfl⟩
      rw [← hx] at a0 a1 a2 a3 a4 a5 HCE HWA HLA
      have HX := Lib.hid hx
      have hbox := HS.out.box
      have hwsz := HS.out.sz
      obtain ⟨U1, hU1⟩ : ∃ U1, U1 = wr.alloc (.cells #[.string x.var, .int .i64 x.ev.src, .int .i64 x.ev.seq, .int .i64 x.ev.time, .string x.ev.ty, .slice aa x.ev.ats.length ac] 54) := ⟨_, rfl⟩
      have b1 : U1.heap[P]? = some (.cells #[.slice (some ⟨g, 0, none⟩) n cap'] 38 (0, 0)) := by rw [hU1]; exact heap_alloc_keeps hbox _
      have l1 : U1.heap[wr.heap.size]? = some (.cells #[.string x.var, .int .i64 x.ev.src, .int .i64 x.ev.seq, .int .i64 x.ev.time, .string x.ev.ty, .slice aa x.ev.ats.length ac] 54 (0, 0)) := by rw [hU1]; exact heap_alloc_new wr _
      have hU1s : wr.heap.size < U1.heap.size := lt_of_block l1
      have HU1 := Lib.hid hU1; have HB1 := Lib.hid b1; have HL1 := Lib.hid l1; have HUS := Lib.hid hU1s
      have HUB : Hid (Below P w U1) := by rw [hU1]; exact HS.out.below.alloc (by omega) _
      have HCE2 := Lib.hid (HCE.out U1.drew HUB.out.drew (show B ≤ U1.heap.size by have := HBP.out; omega))
      have HROW1 : Hid (U1.ownsRow (P + 2) 54 6 (.slice (some ⟨g, 0, none⟩) n cap') n (ys ++ zs)) := by rw [hU1]; exact own_call0 hrow ((Below.refl wr.heap.size wr).alloc (Nat.le_refl _) _)
      have HPU : Hid (P < U1.heap.size) := Lib.hid (by omega)
      have b0 := cells_one0 hbox
      have e1 : IntKind.i64.wrap ((k : Int) + 1) = (k : Int) + 1 := IntWalk.i64_in _ (by omega)
      have hk0 : (0 : Int) ≤ (k : Int) := by omega
      have hkn' : (k : Int) < (n : Int) := by omega
      have hgw : g ≠ wr.heap.size := by omega
      have HCELL := Lib.hid (fun (u : World) (hr : u.ownsRow (P + 2) 54 6 (.slice (some ⟨g, 0, none⟩) n cap') n (ys ++ zs)) => six_cells (a := k * 6) (RwL.cells hr (by rw [e]) hyl))
      rw [← hx] at HCELL
      have HS5 := Lib.hid (fun (u : World) (hr : u.ownsRow (P + 2) 54 6 (.slice (some ⟨g, 0, none⟩) n cap') n (ys ++ zs)) (ao3 : Option Addr) (c3 : Nat) => (own_set5 (x := x) (v' := .slice ao3 x.ev.ats.length c3) hr (by rw [e, hx]) hyl).2)
      have HGP : Hid (some P ≠ some g) := Lib.hid (by simp; omega)
      have HGQ : Hid (some wr.heap.size ≠ some g) := Lib.hid (by simp; omega)
      unfold evV at HCE2
      clear hx hrow r1 e g1 g2 hd hyl hg0 hg1 hbox hwsz hU1 hU1s hkl HCE
      go_wp2_with fail
      rw [← HU1.out]
      obtain b0 := cells_one0 b1
      obtain ⟨l0, l1, l2, l3, l4, l5⟩ := cells_six l1
      clear a0 a1 a2 a3 a4 a5 b1
      go_region_held3 (fun w' => w'.cell? ⟨P, 0, none⟩ = some (.slice (some ⟨g, 0, none⟩) n cap') ∧ w'.cell? ⟨wr.heap.size, 1, none⟩ = some (.int .i64 x.ev.src) ∧ w'.cell? ⟨wr.heap.size, 2, none⟩ = some (.int .i64 x.ev.seq) ∧ w'.cell? ⟨wr.heap.size, 3, none⟩ = some (.int .i64 x.ev.time) ∧ w'.cell? ⟨wr.heap.size, 4, none⟩ = some (.string x.ev.ty) ∧ w'.cell? ⟨wr.heap.size, 5, none⟩ = some (.slice aa x.ev.ats.length ac))
        (first | (with_reducible exact ⟨b0, l1, l2, l3, l4, l5⟩) | (with_reducible exact ⟨t0, t1, t2, t3, t4, t5⟩) | go_keep)
        (first
          | (go_at_call 48; (with_reducible refine (HCE2.out).mono ?_); rintro e w2 ⟨v3, rfl, ho, hb2⟩; obtain ⟨ao3, c3, rfl⟩ := own_slice ho; have hy0 := (hb2.block P HPU.out).trans HB1.out; have hy1 := (hb2.block wr.heap.size HUS.out).trans HL1.out; have HR2 := Lib.hid (own_call0 (ownsRow_drew HROW1.out) hb2); have z1 := HR2.out.frozenAt (k * 6 + 1); have z2 := HR2.out.frozenAt (k * 6 + 2); have z3 := HR2.out.frozenAt (k * 6 + 3); have z4 := HR2.out.frozenAt (k * 6 + 4); have z5 := HR2.out.frozenAt (k * 6 + 5); obtain ⟨_, y1, y2, y3, y4, y5⟩ := HCELL.out _ HR2.out; have HO := Lib.hid ho; have HB2 := Lib.hid ((Below.refl U1.heap.size U1).drew.trans hb2); clear ho hb2 b0 l0 l1 l2 l3 l4 l5; have hg5 := HS5.out w2 HR2.out ao3 c3; have t0 := cells_one0 ((hg5.block P (Nat.lt_of_lt_of_le HPU.out HB2.out.size) HGP.out).trans hy0); obtain ⟨_, t1, t2, t3, t4, t5⟩ := cells_six ((hg5.block wr.heap.size (Nat.lt_of_lt_of_le HUS.out HB2.out.size) HGQ.out).trans hy1); have b0 := cells_one0 hy0; obtain ⟨l0, l1, l2, l3, l4, l5⟩ := cells_six hy1; clear hy0 hy1 hg5))
      all_goals
        obtain ⟨x', hx', HS2⟩ := HSTEP.out U1 w2 _ HU1.out _ (by rw [← HX.out]; exact ⟨HO.out, HWA.out, HLA.out⟩) HB2.out
        rw [← HX.out] at hx'
        subst hx'
        have HS3 := Lib.hid HS2
        clear HS2
        go_wp2
        go_roundw
        case rel => exact ⟨k + 1, by omega, by go_num, HS3⟩
        case measure => simp [intOf]; omega
    · obtain rfl : k = n := by omega
      have b0 := cells_one0 HS.out.box
      have r0 := cells_one0 HS.out.res
      have rz : wr.frozen? ⟨P + 1, 0, none⟩ = false := by simp [World.frozen?, HS.out.res]
      have HF := Lib.hid (HS.out.fin HN.out HWD.out HN80.out)
      have HRS := Lib.hid (heap_setCell_same (k := 0) HS.out.res (.slice ao' k cap'))
      go_wp2
      have z := cells_one0 HRS.out
      exact bodyPost_ret (v := .agg #[.slice ao' k cap']) (by simp [results, Tryz.results22, go_sem, z]) rfl ⟨_, rfl, HF.out.1, HF.out.2⟩
end Go.Proofs.YtcnecokamckfaaaGreatDoor
