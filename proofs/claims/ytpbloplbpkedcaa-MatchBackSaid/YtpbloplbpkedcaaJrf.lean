/- Joined: Cl0, Cr0, Th4, Rt4, Rk, Rd4, Mt0. -/
import Derived.Test.YtpbloplbpkedcaaJre
import Derived.BigQuiet
import Derived.Deep.QuietTactic
import Derived.Deep.RegionHeld3
import Derived.Test.YtpbloplbpkedcaaJrd
/- Contracts: slices.Clone of bounds; a partial match in memory of its own: the program's. -/
namespace Go.Proofs.Ytpbloplbpkedcaa
open Go Go.RowKit

set_option maxRecDepth 100000 in
set_option maxHeartbeats 1600000 in
theorem CloneBd_any (B : Nat) (ao : Option Addr) (n cap : Nat) (bs : List Bd) (w : World) (h : BsV w B (.slice ao n cap) bs) (hB : B ≤ w.heap.size) :
    Calls Try.prog 114 #[.slice ao n cap] w fun e w' => ∃ v' xs, e = .returned v' ∧ w'.ownsRow w.heap.size 91 6 v' n xs ∧ RwL (AvN w B) bs xs ∧ Below w.heap.size w w' := by
  obtain ⟨i0, hi, hz0, hz1, hz2⟩ := info_parts infoBd
  have q := fun (w : World) (a : Option Addr) (n c n' c' : Nat) => Lib.run_eql_slice_nil w 41 91 a n c n' c' Try.underlying41
  obtain ⟨hn, hn63, hnc, hc63, hnil, hn80⟩ := h.num
  obtain ⟨xs, h1, h2, h3⟩ := h.list
  cases ao with
  | none =>
    have hc0 := hnil rfl
    obtain rfl : n = 0 := by omega
    obtain rfl : xs = [] := List.length_eq_zero_iff.1 (by omega)
    have H1 := Lib.hid h1
    clear h hB h1 h2 h3 hnil hn
    go_enter Try.func114, Try.ntmps114
    go_wp2
    go_ret
    exact ⟨_, [], rfl, World.ownsRow_nil _ _ _ _, H1.out, Below.refl _ _⟩
  | some ad =>
    have HC := Lib.hid (fun j u hj => Lib.cell?_alloc_some (.cells #[] 91) (h3 w (Below.refl _ _) ad rfl j u hj))
    have HL := Lib.hid h2; have H1 := Lib.hid h1; have HN := Lib.hid hn80
    clear h hB h1 h2 h3 hnil hn hn80
    go_enter Try.func114, Try.ntmps114
    go_wp2_with (at_builtin; refine wpList_append_own _ rfl _ _ 41 rfl w.heap.size 91 i0 (.agg #[.string ⟨#[]⟩, .int .i64 0, .int .i64 0, .int .i64 0, .string ⟨#[]⟩, .slice none 0 0]) 6 80 Try.underlying41 hi hz0 hz1 hz2 rfl (by decide) _ _ _ rfl (World.ownsRow_made w #[] 0 (Nat.le_refl _) (Nat.zero_le _) (by simp)) ad n cap xs rfl HL.out (fun j u hj => HC.out j u hj) H1.out.one (by have := HN.out; unfold maxLen; omega) (by have := HN.out; omega) (by simp) ?_; intro v' w1 hown hgrow hnil; clear hnil; have HO := Lib.hid hown; have HG := Lib.hid hgrow; clear hown hgrow)
    go_ret
    refine ⟨_, xs, rfl, by have := HO.out; simpa using this, H1.out, ?_⟩
    exact ((Below.refl _ w).alloc (Nat.le_refl _) _).grown HG.out (by simp) (fun k hk => ((World.ownsRow_made (base := w.heap.size) (e := 91) (size := 6) w #[] 0 (Nat.le_refl _) (Nat.zero_le _) (by simp)).lt k hk).1)

/-- What a slice of attributes of the call's own is. -/
def OwA (w : World) (base : Nat) (v : Value) (ats : List At) : Prop := w.ownsRow base 78 4 v ats.length (ats.flatMap enc4) ∧ (∀ x ∈ ats, x.name.size ≤ maxLen ∧ x.s.size ≤ maxLen) ∧ ats.length * 48 ≤ 140737488355328
/-- How things stand within Clone: the boxes at P and P + 1; the row's first k bounds have attributes of their own. -/
structure ClS (w W : World) (P B : Nat) (v : Value) (n : Nat) (bs : List Bd) (k : Nat) (u : World) : Prop where
  below : Below P w u
  sz : P + 1 < u.heap.size
  box : u.heap[P]? = some (.cells #[v] 43 (0, 0))
  res : u.heap[P + 1]? = some (.cells #[.slice none 0 0] 43 (0, 0))
  row : ∃ ys zs, u.ownsRow (P + 2) 91 6 v n (ys ++ zs) ∧ RwL (OwA u P) (bs.take k) ys ∧ RwL (AvN w B) (bs.drop k) zs

theorem own_call0 {w w' : World} {base e size n : Nat} {v : Value} {xs : List Value} (h : w.ownsRow base e size v n xs) (hb : Below w.heap.size w w') : w'.ownsRow base e size v n xs :=
  h.kept (row := none) ⟨hb.os, hb.tape, hb.output, hb.size, fun k hk _ => hb.block k hk⟩ (by cases v.ownBlock <;> simp)
theorem OwA.call {w w' : World} {base : Nat} {v : Value} {ats : List At} (h : OwA w base v ats) (hb : Below w.heap.size w w') : OwA w' base v ats := ⟨own_call0 h.1 hb, h.2⟩
theorem OwA.set5 {w : World} {base g : Nat} {v : Value} {ats : List At} (h : OwA w base v ats) {cs : Array Value} {fr : Nat × Nat} (hg : w.heap[g]? = some (.cells cs 91 fr)) (a b c d e : Nat) (va vb vc vd ve : Value) :
    OwA (((((w.setCell ⟨g, a, none⟩ va).setCell ⟨g, b, none⟩ vb).setCell ⟨g, c, none⟩ vc).setCell ⟨g, d, none⟩ vd).setCell ⟨g, e, none⟩ ve) base v ats := by
  have h1 := heap_setCell_same (k := a) hg va
  have h2 := heap_setCell_same (k := b) h1 vb
  have h3 := heap_setCell_same (k := c) h2 vc
  have h4 := heap_setCell_same (k := d) h3 vd
  exact ⟨ownsRow_setCell_typed (a := ⟨g, e, none⟩) (ownsRow_setCell_typed (a := ⟨g, d, none⟩) (ownsRow_setCell_typed (a := ⟨g, c, none⟩) (ownsRow_setCell_typed (a := ⟨g, b, none⟩) (ownsRow_setCell_typed (a := ⟨g, a, none⟩) h.1 hg (by decide) _) h1 (by decide) _) h2 (by decide) _) h3 (by decide) _) h4 (by decide) _, h.2⟩
theorem OwA.av {w : World} {base : Nat} {v : Value} {ats : List At} (h : OwA w base v ats) : AvN w w.heap.size v ats := by
  refine ⟨Av.of_own h.1 h.2.1 h.2.2, fun n c e => ?_⟩
  rcases h.1.2 with ⟨hv, _⟩ | ⟨g, cap, cur, hv, _⟩
  · rw [hv] at e; simp only [Value.slice.injEq] at e; exact e.2.2.symm
  · rw [hv] at e; simp at e
theorem own_blk {w : World} {base e size g n cap : Nat} {xs : List Value} (h : w.ownsRow base e size (.slice (some ⟨g, 0, none⟩) n cap) n xs) : base ≤ g ∧ g < w.heap.size ∧ n ≤ cap ∧ ∃ cs, w.heap[g]? = some (.cells cs e (0, 0)) := by
  rcases h.2 with ⟨h', _⟩ | ⟨g', cap', cur, h', hb, hg, hnc, _⟩
  · simp at h'
  · simp only [Value.slice.injEq, Option.some.injEq, Addr.mk.injEq, and_true, true_and] at h'
    obtain ⟨rfl, rfl⟩ := h'
    exact ⟨hb, lt_of_block hg, hnc, cur, hg⟩
/-- A round. -/
theorem ClS.step {w W : World} {P B g cap' n k : Nat} {bs : List Bd} {u u1 u2 : World} (h : ClS w W P B (.slice (some ⟨g, 0, none⟩) n cap') n bs k u) (hk : k < bs.length) (hn : n = bs.length) {Y : Obj} (hu1 : u1 = u.alloc Y)
    {v3 : Value} (ho : OwA u2 u1.heap.size v3 bs[k]!.ev.ats) (hb : Below u1.heap.size u1 u2) :
    ∃ x, x = bs[k]! ∧ ClS w W P B (.slice (some ⟨g, 0, none⟩) n cap') n bs (k + 1) (((((u2.setCell ⟨g, k * 6 + 1, none⟩ (.int .i64 x.ev.src)).setCell ⟨g, k * 6 + 1 + 1, none⟩ (.int .i64 x.ev.seq)).setCell ⟨g, k * 6 + 1 + 2, none⟩ (.int .i64 x.ev.time)).setCell ⟨g, k * 6 + 1 + 3, none⟩ (.string x.ev.ty)).setCell ⟨g, k * 6 + 1 + 4, none⟩ v3) := by
  refine ⟨_, rfl, ?_⟩
  obtain ⟨hbel, hsz, hbox, hres, ys, zs, hrow, h1, h2⟩ := h
  have hu : Below u.heap.size u u2 := by
    rw [hu1] at hb
    exact ((Below.refl u.heap.size u).alloc (Nat.le_refl _) Y).trans (hb.mono (by simp))
  have hs1 : u.heap.size ≤ u1.heap.size := by rw [hu1]; simp
  obtain ⟨hg0, hg1, _, _⟩ := own_blk hrow
  have hrow2 := own_call0 hrow hu
  obtain ⟨_, _, _, cs, hcs⟩ := own_blk hrow2
  have hd : bs.drop k = bs[k]! :: bs.drop (k + 1) := by rw [List.drop_eq_getElem_cons hk, getElem!_pos bs k hk]
  rw [hd] at h2
  obtain ⟨aa, ac, zs', e, g1, g2⟩ := h2
  obtain ⟨ao3, c3, rfl⟩ := own_slice ho.1
  have hyl : ys.length = k * 6 := by rw [h1.len, List.length_take]; omega
  have hset := own_set5 (x := bs[k]!) (v' := .slice ao3 bs[k]!.ev.ats.length c3) hrow2 (by rw [e]) hyl
  have hsu := hu.size
  refine ⟨?_, ?_, ?_, ?_, ys ++ encB bs[k]! (.slice ao3 bs[k]!.ev.ats.length c3), zs', ?_, ?_, g2⟩
  · have b0 := hbel.trans (hu.mono (by omega : P ≤ u.heap.size))
    exact ((((b0.setCell (p := ⟨g, _, none⟩) (by show P ≤ g; omega) _).setCell (p := ⟨g, _, none⟩) (by show P ≤ g; omega) _).setCell (p := ⟨g, _, none⟩) (by show P ≤ g; omega) _).setCell (p := ⟨g, _, none⟩) (by show P ≤ g; omega) _).setCell (p := ⟨g, _, none⟩) (by show P ≤ g; omega) _
  · simp; omega
  · rw [hset.2.block P (by omega) (by simp; omega)]; exact (hu.block P (by omega)).trans hbox
  · rw [hset.2.block (P + 1) (by omega) (by simp; omega)]; exact (hu.block (P + 1) hsz).trans hres
  · rw [List.append_assoc]; exact hset.1
  · rw [take_one hk]
    refine RwL.app (h1.imp fun v y _ hy => ?_) (RwL.single ?_)
    · exact (OwA.call hy hu).set5 hcs _ _ _ _ _ _ _ _ _ _
    · have := OwA.set5 ho hcs (k * 6 + 1) (k * 6 + 1 + 1) (k * 6 + 1 + 2) (k * 6 + 1 + 3) (k * 6 + 1 + 4) (.int .i64 bs[k]!.ev.src) (.int .i64 bs[k]!.ev.seq) (.int .i64 bs[k]!.ev.time) (.string bs[k]!.ev.ty) (.slice ao3 bs[k]!.ev.ats.length c3)
      exact ⟨own_lower0 this.1 (by omega), this.2⟩
/-- Bounds in memory of the call's own, from block base on: the row and each slice of attributes. -/
structure BsO (w : World) (base : Nat) (v : Value) (bs : List Bd) : Prop where
  wide : ∀ x ∈ bs, x.var.size ≤ maxLen ∧ x.ev.ty.size ≤ maxLen
  len : bs.length * 80 ≤ 140737488355328
  row : ∃ xs, w.ownsRow base 91 6 v bs.length xs ∧ RwL (OwA w base) bs xs
theorem BsO.bsv {w : World} {base : Nat} {v : Value} {bs : List Bd} (h : BsO w base v bs) : BsV w w.heap.size v bs := by
  obtain ⟨hw, hl, xs, h1, h2⟩ := h
  exact BsV.of_own h1 (h2.imp fun v x _ hx => hx.av) hw hl
theorem BsO.call {w w' : World} {base : Nat} {v : Value} {bs : List Bd} (h : BsO w base v bs) (hb : Below w.heap.size w w') : BsO w' base v bs := by
  obtain ⟨hw, hl, xs, h1, h2⟩ := h
  exact ⟨hw, hl, xs, own_call0 h1 hb, h2.imp fun v x _ hx => hx.call hb⟩
theorem BsO.setP {w : World} {base q k : Nat} {v : Value} {bs : List Bd} (h : BsO w base v bs) {cs : Array Value} {fr : Nat × Nat} (hq : w.heap[q]? = some (.cells cs 43 fr)) (u : Value) : BsO (w.setCell ⟨q, k, none⟩ u) base v bs := by
  obtain ⟨hw, hl, xs, h1, h2⟩ := h
  exact ⟨hw, hl, xs, ownsRow_setCell_typed (a := ⟨q, k, none⟩) h1 hq (by decide) u, h2.imp fun v' x _ hx => ⟨ownsRow_setCell_typed (a := ⟨q, k, none⟩) hx.1 hq (by decide) u, hx.2⟩⟩
theorem BsO.lower {w : World} {base base' : Nat} {v : Value} {bs : List Bd} (h : BsO w base v bs) (hB : base' ≤ base) : BsO w base' v bs := by
  obtain ⟨hw, hl, xs, h1, h2⟩ := h
  exact ⟨hw, hl, xs, own_lower0 h1 hB, h2.imp fun v x _ hx => ⟨own_lower0 hx.1 hB, hx.2⟩⟩
theorem BsO.nil (w : World) (base : Nat) : BsO w base (.slice none 0 0) [] := ⟨by simp, by simp, [], World.ownsRow_nil _ _ _ _, rfl⟩
theorem BsO.shape {w : World} {base : Nat} {v : Value} {bs : List Bd} (h : BsO w base v bs) : ∃ ao cap, v = .slice ao bs.length cap := by
  obtain ⟨_, _, xs, h1, _⟩ := h
  exact own_slice h1
theorem ClS.fin {w W : World} {P B n : Nat} {v : Value} {bs : List Bd} {u : World} (h : ClS w W P B v n bs n u) (hn : n = bs.length) (hw : ∀ x ∈ bs, x.var.size ≤ maxLen ∧ x.ev.ty.size ≤ maxLen) (hl : n * 80 ≤ 140737488355328) :
    BsO (u.setCell ⟨P + 1, 0, none⟩ v) P v bs ∧ Below P w (u.setCell ⟨P + 1, 0, none⟩ v) := by
  obtain ⟨hbel, hsz, hbox, hres, ys, zs, hrow, h1, h2⟩ := h
  subst hn
  rw [List.take_length] at h1
  rw [List.drop_length] at h2
  obtain rfl : zs = [] := h2
  rw [List.append_nil] at hrow
  exact ⟨BsO.setP ⟨hw, hl, ys, own_lower0 hrow (by omega), h1⟩ hres v, hbel.setCell (p := ⟨P + 1, 0, none⟩) (by show P ≤ P + 1; omega) _⟩

set_option maxRecDepth 100000 in
set_option maxHeartbeats 6400000 in
theorem mClone_any (B : Nat) (ao : Option Addr) (n cap : Nat) (bs : List Bd) (w : World) (h : BsV w B (.slice ao n cap) bs) (hB : B ≤ w.heap.size) :
    Calls Try.prog 86 #[.agg #[.slice ao n cap]] w fun e w' => ∃ v', e = .returned (.agg #[v']) ∧ BsO w' w.heap.size v' bs ∧ Below w.heap.size w w' := by
  obtain ⟨hn, hn63, hnc, hc63, _, hn80⟩ := h.num
  have HN := Lib.hid hn; have HN80 := Lib.hid hn80
  have HWD := Lib.hid h.wide
  obtain ⟨P, hP⟩ : ∃ P, P = w.heap.size := ⟨_, rfl⟩
  obtain ⟨W, hW⟩ : ∃ W, W = (w.alloc (.cells #[.slice ao n cap] 43)).alloc (.cells #[.slice none 0 0] 43) := ⟨_, rfl⟩
  have HB0 : Hid (Below P w W) := by rw [hW, hP]; exact ((Below.refl _ _).alloc (Nat.le_refl _) _).alloc (by simp) _
  have hPW : W.heap[P]? = some (.cells #[.slice ao n cap] 43 (0, 0)) := by rw [hW, hP]; exact heap_alloc_keeps (heap_alloc_new w _) _
  have hQW : W.heap[P + 1]? = some (.cells #[.slice none 0 0] 43 (0, 0)) := by rw [hW, hP]; exact heap_alloc_at (by simp) rfl
  have hWs : W.heap.size = P + 2 := by rw [hW, hP]; simp
  have HW := Lib.hid hW; have HP := Lib.hid hP
  have HWS := Lib.hid hWs
  have hbv := h.below HB0.out (by omega)
  have HBB : Hid (B ≤ W.heap.size) := Lib.hid (by omega)
  have HBP : Hid (B ≤ P) := Lib.hid (by omega)
  have HCL := Lib.hid (CloneBd_any B ao n cap bs W hbv HBB.out)
  have c0 := cells_one0 hPW
  have HPX := Lib.hid hPW; have HQX := Lib.hid hQW
  have HPW : Hid (P < W.heap.size) := Lib.hid (by omega)
  have HQW : Hid (P + 1 < W.heap.size) := Lib.hid (by omega)
  rw [← hP]
  clear h hn hB hP hW hPW hQW hWs hbv hn80
  go_enter Try.func86, Try.ntmps86
  go_wp2_with fail
  rw [← HW.out, ← HP.out]
  refine HCL.out.mono ?_
  rintro e w1 ⟨v', xs, rfl, hown, hrw, hb1⟩
  obtain ⟨ao', cap', rfl⟩ := own_slice hown
  have p1 := (hb1.block P HPW.out).trans HPX.out
  have q1 := (hb1.block (P + 1) HQW.out).trans HQX.out
  have hst : ClS w W P B (.slice ao' n cap') n bs 0 (w1.setCell ⟨P, 0, none⟩ (.slice ao' n cap')) := by
    have hs1 := hb1.size
    have hp := heap_setCell_same (k := 0) p1 (.slice ao' n cap')
    rw [HWS.out] at hown
    refine ⟨(HB0.out.trans (hb1.mono (by have := HWS.out; omega))).setCell (p := ⟨P, 0, none⟩) (Nat.le_refl _) _, ?_, hp, ?_, [], xs, ?_, ?_, ?_⟩
    · have := HWS.out; simp; omega
    · rw [Below.heap_setCell _ _ _ _ (show P + 1 ≠ P by omega)]; exact q1
    · rw [List.nil_append]; exact ownsRow_setCell_typed (a := ⟨P, 0, none⟩) hown p1 (by decide) _
    · rfl
    · exact hrw.imp fun v x _ hx => ⟨hx.1.keep (fun b o hb => (HB0.out.cell (p := ⟨b, o, none⟩) (by have := HBP.out; show b < P; omega)).symm), hx.2⟩
  have c1 := cells_one0 hst.box
  have hfz : w1.frozen? ⟨P, 0, none⟩ = false := by simp [World.frozen?, p1]
  have d1 := cells_one0 p1
  have HST := Lib.hid hst
  clear hown hrw hb1 p1 q1 hst c0
  go_wp2_with fail
  clear d1
  generalize w1.setCell ⟨P, 0, none⟩ (.slice ao' n cap') = U at HST c1 ⊢
  clear hfz
  go_loopw [12] (fun iv wr => ∃ k : Nat, k ≤ n ∧ iv = .int .i64 k ∧ Hid (ClS w W P B (.slice ao' n cap') n bs k wr)) (fun iv _ => n - (intOf iv).toNat)
  case atStart => exact ⟨0, Nat.zero_le _, rfl, HST⟩
  case round =>
    obtain ⟨k, hk, rfl, HS⟩ := hrel
    clear HST c1
    by_cases hlt : k < n
    · have hkl : k < bs.length := by rw [← HN.out]; exact hlt
      obtain ⟨ys, zs, hrow, r1, r2⟩ := HS.out.row
      obtain ⟨g, rfl⟩ : ∃ g, ao' = some ⟨g, 0, none⟩ := by
        rcases hrow.2 with ⟨_, h0⟩ | ⟨g, c, _, he, _⟩
        · omega
        · simp only [Value.slice.injEq] at he; exact ⟨g, he.1⟩
      have hd : bs.drop k = bs[k]! :: bs.drop (k + 1) := by rw [List.drop_eq_getElem_cons hkl, getElem!_pos bs k hkl]
      rw [hd] at r2
      obtain ⟨aa, ac, zs', e, g1, g2⟩ := r2
      have hyl : ys.length = k * 6 := by rw [r1.len, List.length_take]; omega
      obtain ⟨a0, a1, a2, a3, a4, a5⟩ := six_cells (a := k * 6) (RwL.cells hrow (by rw [e]) hyl)
      obtain ⟨hg0, hg1, hnc', _⟩ := own_blk hrow
      have HSTEP := Lib.hid (fun (u1 u2 : World) (Y : Obj) (hu1 : u1 = wr.alloc Y) (v3 : Value) (ho : OwA u2 u1.heap.size v3 bs[k]!.ev.ats) (hb : Below u1.heap.size u1 u2) => HS.out.step hkl HN.out hu1 ho hb)
      have HCE := Lib.hid (fun u (hu : Below P w u) (hz : B ≤ u.heap.size) => eClone_any bs[k]!.ev B aa _ ac u (g1.1.below hu HBP.out) hz)
      have HWA := Lib.hid g1.1.wide; have HLA := Lib.hid g1.1.len
      obtain ⟨x, hx⟩ : ∃ x, x = bs[k]! := ⟨_, rfl⟩
      rw [← hx] at a0 a1 a2 a3 a4 a5 HCE HWA HLA
      have HX := Lib.hid hx
      have hbox := HS.out.box
      have hwsz := HS.out.sz
      obtain ⟨U1, hU1⟩ : ∃ U1, U1 = wr.alloc (.cells #[.string x.var, .int .i64 x.ev.src, .int .i64 x.ev.seq, .int .i64 x.ev.time, .string x.ev.ty, .slice aa x.ev.ats.length ac] 91) := ⟨_, rfl⟩
      have b1 : U1.heap[P]? = some (.cells #[.slice (some ⟨g, 0, none⟩) n cap'] 43 (0, 0)) := by rw [hU1]; exact heap_alloc_keeps hbox _
      have l1 : U1.heap[wr.heap.size]? = some (.cells #[.string x.var, .int .i64 x.ev.src, .int .i64 x.ev.seq, .int .i64 x.ev.time, .string x.ev.ty, .slice aa x.ev.ats.length ac] 91 (0, 0)) := by rw [hU1]; exact heap_alloc_new wr _
      have hU1s : wr.heap.size < U1.heap.size := lt_of_block l1
      have HU1 := Lib.hid hU1; have HB1 := Lib.hid b1; have HL1 := Lib.hid l1; have HUS := Lib.hid hU1s
      have HUB : Hid (Below P w U1) := by rw [hU1]; exact HS.out.below.alloc (by omega) _
      have HCE2 := Lib.hid (HCE.out U1.drew HUB.out.drew (show B ≤ U1.heap.size by have := HBP.out; omega))
      have HROW1 : Hid (U1.ownsRow (P + 2) 91 6 (.slice (some ⟨g, 0, none⟩) n cap') n (ys ++ zs)) := by rw [hU1]; exact own_call0 hrow ((Below.refl wr.heap.size wr).alloc (Nat.le_refl _) _)
      have HPU : Hid (P < U1.heap.size) := Lib.hid (by omega)
      have b0 := cells_one0 hbox
      have e1 : IntKind.i64.wrap ((k : Int) + 1) = (k : Int) + 1 := IntWalk.i64_in _ (by omega)
      have hk0 : (0 : Int) ≤ (k : Int) := by omega
      have hkn' : (k : Int) < (n : Int) := by omega
      have hgw : g ≠ wr.heap.size := by omega
      have HCELL := Lib.hid (fun (u : World) (hr : u.ownsRow (P + 2) 91 6 (.slice (some ⟨g, 0, none⟩) n cap') n (ys ++ zs)) => six_cells (a := k * 6) (RwL.cells hr (by rw [e]) hyl))
      rw [← hx] at HCELL
      have HS5 := Lib.hid (fun (u : World) (hr : u.ownsRow (P + 2) 91 6 (.slice (some ⟨g, 0, none⟩) n cap') n (ys ++ zs)) (ao3 : Option Addr) (c3 : Nat) => (own_set5 (x := x) (v' := .slice ao3 x.ev.ats.length c3) hr (by rw [e, hx]) hyl).2)
      have HGP : Hid (some P ≠ some g) := Lib.hid (by simp; omega)
      have HGQ : Hid (some wr.heap.size ≠ some g) := Lib.hid (by simp; omega)
      unfold evV at HCE2
      clear hx hrow r1 e g1 g2 hd hyl hg0 hg1 hbox hwsz hU1 hU1s hkl HCE
      go_wp2_with fail
      rw [← HU1.out]
      obtain b0 := cells_one0 b1
      obtain ⟨l0, l1, l2, l3, l4, l5⟩ := cells_six l1
      clear a0 a1 a2 a3 a4 a5 b1
      go_region_held3 (fun w' => w'.cell? ⟨P, 0, none⟩ = some (.slice (some ⟨g, 0, none⟩) n cap') ∧ w'.cell? ⟨wr.heap.size, 1, none⟩ = some (.int .i64 x.ev.src) ∧ w'.cell? ⟨wr.heap.size, 2, none⟩ = some (.int .i64 x.ev.seq) ∧ w'.cell? ⟨wr.heap.size, 3, none⟩ = some (.int .i64 x.ev.time) ∧ w'.cell? ⟨wr.heap.size, 4, none⟩ = some (.string x.ev.ty) ∧ w'.cell? ⟨wr.heap.size, 5, none⟩ = some (.slice aa x.ev.ats.length ac))
        (first | (with_reducible exact ⟨b0, l1, l2, l3, l4, l5⟩) | (with_reducible exact ⟨t0, t1, t2, t3, t4, t5⟩) | go_keep)
        (first
          | (go_at_call 115; (with_reducible refine (HCE2.out).mono ?_); rintro e w2 ⟨v3, rfl, ho, hb2⟩; obtain ⟨ao3, c3, rfl⟩ := own_slice ho; have hy0 := (hb2.block P HPU.out).trans HB1.out; have hy1 := (hb2.block wr.heap.size HUS.out).trans HL1.out; have HR2 := Lib.hid (own_call0 (ownsRow_drew HROW1.out) hb2); have z1 := HR2.out.frozenAt (k * 6 + 1); have z2 := HR2.out.frozenAt (k * 6 + 2); have z3 := HR2.out.frozenAt (k * 6 + 3); have z4 := HR2.out.frozenAt (k * 6 + 4); have z5 := HR2.out.frozenAt (k * 6 + 5); obtain ⟨_, y1, y2, y3, y4, y5⟩ := HCELL.out _ HR2.out; have HO := Lib.hid ho; have HB2 := Lib.hid ((Below.refl U1.heap.size U1).drew.trans hb2); clear ho hb2 b0 l0 l1 l2 l3 l4 l5; have hg5 := HS5.out w2 HR2.out ao3 c3; have t0 := cells_one0 ((hg5.block P (Nat.lt_of_lt_of_le HPU.out HB2.out.size) HGP.out).trans hy0); obtain ⟨_, t1, t2, t3, t4, t5⟩ := cells_six ((hg5.block wr.heap.size (Nat.lt_of_lt_of_le HUS.out HB2.out.size) HGQ.out).trans hy1); have b0 := cells_one0 hy0; obtain ⟨l0, l1, l2, l3, l4, l5⟩ := cells_six hy1; clear hy0 hy1 hg5))
      all_goals
        obtain ⟨x', hx', HS2⟩ := HSTEP.out U1 w2 _ HU1.out _ (by rw [← HX.out]; exact ⟨HO.out, HWA.out, HLA.out⟩) HB2.out
        rw [← HX.out] at hx'
        subst hx'
        have HS3 := Lib.hid HS2
        clear HS2
        go_wp2
        go_roundw
        case rel => exact ⟨k + 1, by omega, by go_num, HS3⟩
        case measure => simp [intOf]; omega
    · obtain rfl : k = n := by omega
      have b0 := cells_one0 HS.out.box
      have r0 := cells_one0 HS.out.res
      have rz : wr.frozen? ⟨P + 1, 0, none⟩ = false := by simp [World.frozen?, HS.out.res]
      have HF := Lib.hid (HS.out.fin HN.out HWD.out HN80.out)
      have HRS := Lib.hid (heap_setCell_same (k := 0) HS.out.res (.slice ao' k cap'))
      go_wp2
      have z := cells_one0 HRS.out
      exact bodyPost_ret (v := .agg #[.slice ao' k cap']) (by simp [results, Try.results86, go_sem, z]) rfl ⟨_, rfl, HF.out.1, HF.out.2⟩
end Go.Proofs.Ytpbloplbpkedcaa

/- Contract: a partial match in memory of its own: the document's. -/
namespace Go.Proofs.Ytpbloplbpkedcaa
open Go Go.RowKit

/-- How things stand within the document's Clone: the boxes at P and P + 1; a row of the first k bounds. -/
structure CrS (w : World) (P : Nat) (v0 v : Value) (bs : List Bd) (k : Nat) (u : World) : Prop where
  below : Below P w u
  sz : P + 1 < u.heap.size
  box : u.heap[P]? = some (.cells #[v0] 43 (0, 0))
  res : u.heap[P + 1]? = some (.cells #[.slice none 0 0] 43 (0, 0))
  row : ∃ ys, u.ownsRow (P + 2) 91 6 v k ys ∧ RwL (OwA u P) (bs.take k) ys
theorem CrS.call {w u u' : World} {P k : Nat} {v0 v : Value} {bs : List Bd} (h : CrS w P v0 v bs k u) (hb : Below u.heap.size u u') : CrS w P v0 v bs k u' := by
  obtain ⟨h1, h2, h3, h4, ys, h5, h6⟩ := h
  exact ⟨h1.trans (hb.mono (by omega)), Nat.lt_of_lt_of_le h2 hb.size, (hb.block P (by omega)).trans h3, (hb.block (P + 1) h2).trans h4, ys, own_call0 h5 hb, h6.imp fun v x _ hx => hx.call hb⟩
theorem own_apart {w : World} {b1 b2 e1 e2 s1 s2 n1 n2 : Nat} {v1 v2 : Value} {xs1 xs2 : List Value} (h1 : w.ownsRow b1 e1 s1 v1 n1 xs1) (h2 : w.ownsRow b2 e2 s2 v2 n2 xs2) (hne : e1 ≠ e2) : v1.ownBlock = none ∨ v1.ownBlock ≠ v2.ownBlock := by
  rcases h1.2 with ⟨rfl, _⟩ | ⟨g, c, cur, rfl, _, hg, _⟩
  · exact .inl rfl
  · refine .inr fun e => ?_
    rcases h2.2 with ⟨rfl, _⟩ | ⟨g', c', cur', rfl, _, hg', _⟩
    · simp [Value.ownBlock] at e
    · simp [Value.ownBlock] at e
      subst e
      rw [hg] at hg'
      simp only [Option.some.injEq, Obj.cells.injEq] at hg'
      exact hne hg'.2.1
theorem OwA.grown {w w' : World} {base b2 n2 : Nat} {v v2 : Value} {ats : List At} {xs2 : List Value} (h : OwA w base v ats) (h2 : w.ownsRow b2 91 6 v2 n2 xs2) (hg : w.grownBy w' v2.ownBlock) : OwA w' base v ats := ⟨h.1.kept hg (own_apart h.1 h2 (by decide)), h.2⟩
theorem RwL.news (w : World) (x : Bd) (aa : Option Addr) (c : Nat) : ∀ j u, (encB x (.slice aa x.ev.ats.length c))[j]? = some u → (w.alloc (.cells #[.string x.var, .int .i64 x.ev.src, .int .i64 x.ev.seq, .int .i64 x.ev.time, .string x.ev.ty, .slice aa x.ev.ats.length c] 91)).cell? ((⟨w.heap.size, 0, none⟩ : Addr).add j) = some u := by
  intro j u hu
  obtain ⟨a0, a1, a2, a3, a4, a5⟩ := cells_six (heap_alloc_new w (.cells #[.string x.var, .int .i64 x.ev.src, .int .i64 x.ev.seq, .int .i64 x.ev.time, .string x.ev.ty, .slice aa x.ev.ats.length c] 91))
  rw [add_off0, Nat.zero_add]
  match j, hu with
  | 0, hu => simp only [encB, List.getElem?_cons_zero, Option.some.injEq] at hu; subst hu; exact a0
  | 1, hu => simp only [encB, List.getElem?_cons_succ, List.getElem?_cons_zero, Option.some.injEq] at hu; subst hu; exact a1
  | 2, hu => simp only [encB, List.getElem?_cons_succ, List.getElem?_cons_zero, Option.some.injEq] at hu; subst hu; exact a2
  | 3, hu => simp only [encB, List.getElem?_cons_succ, List.getElem?_cons_zero, Option.some.injEq] at hu; subst hu; exact a3
  | 4, hu => simp only [encB, List.getElem?_cons_succ, List.getElem?_cons_zero, Option.some.injEq] at hu; subst hu; exact a4
  | 5, hu => simp only [encB, List.getElem?_cons_succ, List.getElem?_cons_zero, Option.some.injEq] at hu; subst hu; exact a5
  | j + 6, hu => simp [encB] at hu
/-- A bound more. -/
theorem CrS.step {w u u' : World} {P k : Nat} {v0 v v' : Value} {bs : List Bd} {ys : List Value} {ao : Option Addr} {c : Nat} (h : CrS w P v0 v bs k u) (hk : k < bs.length) (hrow : u.ownsRow (P + 2) 91 6 v k ys) (hrw : RwL (OwA u P) (bs.take k) ys)
    (ho : OwA u P (.slice ao bs[k]!.ev.ats.length c) bs[k]!.ev.ats) (hown : u'.ownsRow (P + 2) 91 6 v' (k + 1) (ys ++ encB bs[k]! (.slice ao bs[k]!.ev.ats.length c))) (hg : u.grownBy u' v.ownBlock) : CrS w P v0 v' bs (k + 1) u' := by
  obtain ⟨h1, h2, h3, h4, _⟩ := h
  have hP : ∀ q, q < P + 2 → some q ≠ v.ownBlock := fun q hq e => by
    have := hrow.lt q e.symm; omega
  refine ⟨h1.grown hg (by omega) (fun k hk => by have := hrow.lt k hk; omega), Nat.lt_of_lt_of_le h2 hg.size, (hg.block P (by omega) (hP P (by omega))).trans h3, (hg.block (P + 1) h2 (hP (P + 1) (by omega))).trans h4, _, hown, ?_⟩
  rw [take_one hk]
  exact (hrw.imp fun v x _ hx => hx.grown hrow hg).app (RwL.single (OwA.grown ho hrow hg))
theorem CrS.fin {w u : World} {P n : Nat} {v0 v : Value} {bs : List Bd} (h : CrS w P v0 v bs n u) (hn : n = bs.length) (hw : ∀ x ∈ bs, x.var.size ≤ maxLen ∧ x.ev.ty.size ≤ maxLen) (hl : n * 80 ≤ 140737488355328) :
    BsO (u.setCell ⟨P + 1, 0, none⟩ v) P v bs ∧ Below P w (u.setCell ⟨P + 1, 0, none⟩ v) := by
  obtain ⟨hbel, hsz, hbox, hres, ys, hrow, h1⟩ := h
  subst hn
  rw [List.take_length] at h1
  exact ⟨BsO.setP ⟨hw, hl, ys, own_lower0 hrow (by omega), h1⟩ hres v, hbel.setCell (p := ⟨P + 1, 0, none⟩) (by show P ≤ P + 1; omega) _⟩

theorem nums0 {k n : Nat} (hk : k < n) (hn : n * 80 ≤ 140737488355328) : k + 1 ≤ maxLen ∧ (k + 1) * 80 ≤ 140737488355328 := by unfold maxLen; omega
end Go.Proofs.Ytpbloplbpkedcaa

/- Three cells set. -/
namespace Go.Proofs.Ytpbloplbpkedcaa
open Go Go.RowKit

theorem three_set {w : World} {q : Nat} {c0 c1 c2 : Value} {t : Nat} (h : w.heap[q]? = some (.cells #[c0, c1, c2] t (0, 0))) (d0 d1 d2 : Value) :
    (((w.setCell ⟨q, 0, none⟩ d0).setCell ⟨q, 1, none⟩ d1).setCell ⟨q, 2, none⟩ d2).heap[q]? = some (.cells #[d0, d1, d2] t (0, 0)) := by
  rw [heap_setCell_same (heap_setCell_same (heap_setCell_same h _) _) _]
  simp
theorem below_three {B q : Nat} {a w : World} (h : Below B a w) (hq : B ≤ q) (d0 d1 d2 : Value) :
    Below B a (((w.setCell ⟨q, 0, none⟩ d0).setCell ⟨q, 1, none⟩ d1).setCell ⟨q, 2, none⟩ d2) :=
  ((h.setCell (p := ⟨q, 0, none⟩) hq _).setCell (p := ⟨q, 1, none⟩) hq _).setCell (p := ⟨q, 2, none⟩) hq _
end Go.Proofs.Ytpbloplbpkedcaa

/- Contracts: the document's own reading of a value and of an event. -/
namespace Go.Proofs.Ytpbloplbpkedcaa
open Go Go.RowKit

theorem qB_ok {n : Nat} {s : Qs} (h : s.1 = 0) : qB n s = (bitsVal s.2 n, (bitsErr n s.2.length, bitsRest s.2 n)) := by unfold qB; rw [if_pos h]
theorem qN_ok {s : Qs} (h : s.1 = 0) : qN s = (natValL s.2, (natErrL s.2, natRestL s.2)) := by unfold qN; rw [if_pos h]
theorem qI_ok {s : Qs} (h : s.1 = 0) : qI s = (numValL s.2, (natErrL s.2, natRestL s.2)) := by unfold qI; rw [if_pos h]
theorem qT_ok {s : Qs} (h : s.1 = 0) : qT s = (textStr s.2, (textErrL s.2, textRestL s.2)) := by unfold qT; rw [if_pos h]
theorem rqB (B q n : Nat) (s : Qs) (w : World) (h0 : s.1 = 0) (h : RefIs w B q s.2) (hn : n ≤ 64) :
    Calls Try.prog 94 #[.pointer (some ⟨q, 0, none⟩), .int .i64 (n : Int)] w fun e w' => e = .returned (.tuple #[.int .u64 (((qB n s).1 : Nat) : Int), .int .i64 (((qB n s).2.1 : Nat) : Int)]) ∧ RefIs w' B q (qB n s).2.2 ∧ KeptR B q w w' := by
  rw [qB_ok h0]
  exact rsBits_any B q (n : Int) s.2 w h (by simp [Lit.wf, IntKind.min, IntKind.max, IntKind.signed, IntKind.bits]; omega)
theorem rqN (B q : Nat) (s : Qs) (w : World) (h0 : s.1 = 0) (h : RefIs w B q s.2) :
    Calls Try.prog 122 #[.pointer (some ⟨q, 0, none⟩)] w fun e w' => e = .returned (.tuple #[.int .u64 (((qN s).1 : Nat) : Int), .int .i64 (((qN s).2.1 : Nat) : Int)]) ∧ RefIs w' B q (qN s).2.2 ∧ KeptR B q w w' := by
  rw [qN_ok h0]
  exact rsNat_any B q s.2 w h
theorem rqI (B q : Nat) (s : Qs) (w : World) (h0 : s.1 = 0) (h : RefIs w B q s.2) :
    Calls Try.prog 179 #[.pointer (some ⟨q, 0, none⟩)] w fun e w' => e = .returned (.tuple #[.int .i64 (qI s).1, .int .i64 (((qI s).2.1 : Nat) : Int)]) ∧ RefIs w' B q (qI s).2.2 ∧ KeptR B q w w' := by
  rw [qI_ok h0]
  exact rsNum_any B q s.2 w h
theorem rqT (B q : Nat) (s : Qs) (w : World) (h0 : s.1 = 0) (h : RefIs w B q s.2) :
    Calls Try.prog 95 #[.pointer (some ⟨q, 0, none⟩)] w fun e w' => e = .returned (.tuple #[.string (qT s).1, .int .i64 (((qT s).2.1 : Nat) : Int)]) ∧ RefIs w' B q (qT s).2.2 ∧ KeptR B q w w' := by
  rw [qT_ok h0]
  exact rsText_any B q s.2 w h

/-- A value off bits, behind a name. -/
structure Vv where
  k : Int
  n : Int
  s : ByteArray
def qVk (s : Qs) := qB 2 s
def qV (s : Qs) : Vv × Qs :=
  if (qVk s).2.1 ≠ 0 then (⟨0, 0, ⟨#[]⟩⟩, (qVk s).2)
  else if (qVk s).1 = 1 then (⟨1, (qI (qVk s).2).1, ⟨#[]⟩⟩, (qI (qVk s).2).2)
  else if (qVk s).1 = 2 then (⟨2, 0, (qT (qVk s).2).1⟩, (qT (qVk s).2).2)
  else (⟨0, 0, ⟨#[]⟩⟩, (40, (qVk s).2.2))
theorem qAttr_qV (s : Qs) : (qAttr s).2 = (qV (qName s).2).2 ∧ ((qAttr s).2.1 = 0 → (qAttr s).1 = ⟨(qName s).1, (qV (qName s).2).1.k, (qV (qName s).2).1.n, (qV (qName s).2).1.s⟩) := by
  have e : qKind s = qVk (qName s).2 := rfl
  unfold qAttr qV qVal
  rw [← e]
  by_cases h : (qKind s).2.1 = 0
  · have hn : ¬ ((qKind s).2.1 ≠ 0) := by simp [h]
    rw [if_neg hn, if_neg hn]
    by_cases h1 : (qKind s).1 = 1
    · rw [if_pos h1, if_pos h1]; exact ⟨rfl, fun _ => rfl⟩
    · rw [if_neg h1, if_neg h1]
      by_cases h2 : (qKind s).1 = 2
      · rw [if_pos h2, if_pos h2]; exact ⟨rfl, fun _ => rfl⟩
      · rw [if_neg h2, if_neg h2]; exact ⟨rfl, fun h => by cases h⟩
  · rw [if_pos h, if_pos h]; exact ⟨rfl, fun h2 => absurd h2 h⟩
theorem qAttr_name {s : Qs} (h : (qName s).2.1 ≠ 0) : (qAttr s).2 = (qName s).2 := by
  have e : qKind s = (0, (qName s).2) := qB_err h
  unfold qAttr
  rw [e, if_pos h]

/-- A call's result box R, and a box D that it fills; and the document's source. -/
structure Rk (w0 : World) (B q R D t : Nat) (cr cs : Array Value) (l : List Bool) (w : World) : Prop where
  kept : KeptR B q w0 w
  ref : RefIs w B q l
  hB : B ≤ w0.heap.size
  hR : w0.heap.size ≤ R
  hD : w0.heap.size ≤ D
  ne : R ≠ D
  br : w.heap[R]? = some (.cells cr t (0, 0))
  bd : w.heap[D]? = some (.cells cs t (0, 0))
theorem RefIs.other {w : World} {B q D t : Nat} {l : List Bool} {cs : Array Value} {fr : Nat × Nat} (h : RefIs w B q l) (hD : w.heap[D]? = some (.cells cs t fr)) (h1 : t ≠ 67) (h2 : t ≠ 4) (i : Nat) (u : Value) : RefIs (w.setCell ⟨D, i, none⟩ u) B q l := by
  have k : Kept 0 (fun e => e == t) w (w.setCell ⟨D, i, none⟩ u) := (Kept.refl _ _ _).setCell (p := ⟨D, i, none⟩) (Nat.zero_le _) hD (by simp) u
  exact h.kept k (by simp only [beq_eq_false_iff_ne]; exact fun e => h1 e.symm) (by simp only [beq_eq_false_iff_ne]; exact fun e => h2 e.symm)
theorem Rk.call {w0 : World} {B q R D t : Nat} {cr cs : Array Value} {l l' : List Bool} {w w' : World} (h : Rk w0 B q R D t cr cs l w) (ht : refT t = false) (hk : KeptR B q w w') (he : RefIs w' B q l') : Rk w0 B q R D t cr cs l' w' :=
  ⟨h.kept.trans hk, he, h.hB, h.hR, h.hD, h.ne, hk.typed _ _ _ _ h.br ht, hk.typed _ _ _ _ h.bd ht⟩
theorem Rk.set {w0 : World} {B q R D t : Nat} {cr cs : Array Value} {l : List Bool} {w : World} (h : Rk w0 B q R D t cr cs l w) (h1 : t ≠ 67) (h2 : t ≠ 4) (i : Nat) (u : Value) : Rk w0 B q R D t cr (cs.setIfInBounds i u) l (w.setCell ⟨D, i, none⟩ u) :=
  ⟨h.kept.setCell_fresh (p := ⟨D, i, none⟩) (Nat.le_trans h.hB h.hD) h.hD u, h.ref.other h.bd h1 h2 i u, h.hB, h.hR, h.hD, h.ne, heap_setCell_far (p := ⟨D, i, none⟩) h.br h.ne u, by rw [heap_setCell_same h.bd]⟩
theorem Rk.setR {w0 : World} {B q R D t : Nat} {cr cs : Array Value} {l : List Bool} {w : World} (h : Rk w0 B q R D t cr cs l w) (h1 : t ≠ 67) (h2 : t ≠ 4) (i : Nat) (u : Value) : Rk w0 B q R D t (cr.setIfInBounds i u) cs l (w.setCell ⟨R, i, none⟩ u) :=
  ⟨h.kept.setCell_fresh (p := ⟨R, i, none⟩) (Nat.le_trans h.hB h.hR) h.hR u, h.ref.other h.br h1 h2 i u, h.hB, h.hR, h.hD, h.ne, by rw [heap_setCell_same h.br], heap_setCell_far (p := ⟨R, i, none⟩) h.bd (fun e => h.ne e.symm) u⟩
theorem Rk.five {w0 : World} {B q R D t : Nat} {cr cs : Array Value} {l : List Bool} {w : World} (h : Rk w0 B q R D t cr cs l w) (h1 : t ≠ 67) (h2 : t ≠ 4) (d0 d1 d2 d3 d4 : Value) :
    Rk w0 B q R D t (((((cr.setIfInBounds 0 d0).setIfInBounds 1 d1).setIfInBounds 2 d2).setIfInBounds 3 d3).setIfInBounds 4 d4) cs l (((((w.setCell ⟨R, 0, none⟩ d0).setCell ⟨R, 1, none⟩ d1).setCell ⟨R, 2, none⟩ d2).setCell ⟨R, 3, none⟩ d3).setCell ⟨R, 4, none⟩ d4) :=
  ((((h.setR h1 h2 0 d0).setR h1 h2 1 d1).setR h1 h2 2 d2).setR h1 h2 3 d3).setR h1 h2 4 d4
theorem Rk.alloc {w0 : World} {B q R D t : Nat} {cr cs : Array Value} {l : List Bool} {w : World} (h : Rk w0 B q R D t cr cs l w) (o : Obj) : Rk w0 B q R D t cr cs l (w.alloc o) :=
  ⟨h.kept.alloc (Nat.le_trans h.hB h.kept.below.size) o, h.ref.alloc o, h.hB, h.hR, h.hD, h.ne, heap_alloc_keeps h.br o, heap_alloc_keeps h.bd o⟩
theorem Rk.grown {w0 : World} {B q R D t : Nat} {cr cs : Array Value} {l : List Bool} {w w' : World} (h : Rk w0 B q R D t cr cs l w) {e size n : Nat} {v : Value} {xs : List Value} (hown : w.ownsRow w0.heap.size e size v n xs) (h1 : 67 ≠ e) (h2 : 4 ≠ e) (h3 : t ≠ e) (hg : w.grownBy w' v.ownBlock) : Rk w0 B q R D t cr cs l w' :=
  ⟨h.kept.grown_fresh hown hg (Nat.le_trans h.hB h.kept.below.size) h.hB (Nat.le_refl _), h.ref.grown hown h1 h2 hg, h.hB, h.hR, h.hD, h.ne, grow_keeps h.br hown h3 hg rfl, grow_keeps h.bd hown h3 hg rfl⟩
/-- A store into another box, one that was made since. -/
theorem Rk.far {w0 : World} {B q R D t : Nat} {cr cs : Array Value} {l : List Bool} {w : World} (h : Rk w0 B q R D t cr cs l w) {X t2 : Nat} {c2 : Array Value} (hX : w.heap[X]? = some (.cells c2 t2 (0, 0))) (hs : w0.heap.size ≤ X) (h1 : t2 ≠ 67) (h2 : t2 ≠ 4) (h3 : t ≠ t2) (i : Nat) (u : Value) : Rk w0 B q R D t cr cs l (w.setCell ⟨X, i, none⟩ u) :=
  ⟨h.kept.setCell_fresh (p := ⟨X, i, none⟩) (Nat.le_trans h.hB hs) hs u, h.ref.other hX h1 h2 i u, h.hB, h.hR, h.hD, h.ne,
    heap_setCell_far (p := ⟨X, i, none⟩) h.br (fun e => by have hb := h.br; rw [show R = X from e, hX] at hb; simp only [Option.some.injEq, Obj.cells.injEq] at hb; exact h3 hb.2.1.symm) u,
    heap_setCell_far (p := ⟨X, i, none⟩) h.bd (fun e => by have hb := h.bd; rw [show D = X from e, hX] at hb; simp only [Option.some.injEq, Obj.cells.injEq] at hb; exact h3 hb.2.1.symm) u⟩

def r4vPost (s : Qs) (B q : Nat) (w : World) (e : Ending) (w' : World) : Prop :=
  ∃ (k n : Int) (t : ByteArray) (l : List Bool), e = .returned (.tuple #[.agg #[.int .i64 k, .int .i64 n, .string t], .int .i64 (((qV s).2.1 : Nat) : Int)]) ∧ RefIs w' B q l ∧ KeptR B q w w' ∧ ((qV s).2.1 = 0 → k = (qV s).1.k ∧ n = (qV s).1.n ∧ t = (qV s).1.s ∧ l = (qV s).2.2)
theorem three_fresh {B q : Nat} {a w : World} (h : KeptR B q a w) {R : Nat} (hB : B ≤ R) (hR : a.heap.size ≤ R) (d0 d1 d2 : Value) : KeptR B q a (((w.setCell ⟨R, 0, none⟩ d0).setCell ⟨R, 1, none⟩ d1).setCell ⟨R, 2, none⟩ d2) :=
  ((h.setCell_fresh (p := ⟨R, 0, none⟩) hB hR d0).setCell_fresh (p := ⟨R, 1, none⟩) hB hR d1).setCell_fresh (p := ⟨R, 2, none⟩) hB hR d2
theorem RefIs.three {w : World} {B q R t : Nat} {l : List Bool} {cs : Array Value} (h : RefIs w B q l) (hR : w.heap[R]? = some (.cells cs t (0, 0))) (h1 : t ≠ 67) (h2 : t ≠ 4) (d0 d1 d2 : Value) : RefIs (((w.setCell ⟨R, 0, none⟩ d0).setCell ⟨R, 1, none⟩ d1).setCell ⟨R, 2, none⟩ d2) B q l :=
  (((h.other hR h1 h2 0 d0).other (heap_setCell_same hR d0) h1 h2 1 d1).other (heap_setCell_same (heap_setCell_same hR d0) d1) h1 h2 2 d2)

set_option maxRecDepth 100000 in
set_option maxHeartbeats 1600000 in
theorem r4value_any (B q : Nat) (s : Qs) (w : World) (h0 : s.1 = 0) (h : RefIs w B q s.2) (hB : B ≤ w.heap.size) :
    Calls Try.prog 159 #[.pointer (some ⟨q, 0, none⟩)] w (r4vPost s B q w) := by
  obtain ⟨R, hR⟩ : ∃ R, R = w.heap.size := ⟨_, rfl⟩
  obtain ⟨W, hW⟩ : ∃ W, W = w.alloc (.cells #[.int .i64 0, .int .i64 0, .string ⟨#[]⟩] 23) := ⟨_, rfl⟩
  have hrW : W.heap[R]? = some (.cells #[.int .i64 0, .int .i64 0, .string ⟨#[]⟩] 23 (0, 0)) := by rw [hW, hR]; exact heap_alloc_new _ _
  have hkW : KeptR B q w W := by rw [hW]; exact (KeptR.refl _ _ _).alloc hB _
  have C1 : Calls Try.prog 94 #[.pointer (some ⟨q, 0, none⟩), .int .i64 2] W fun e w' => e = .returned (.tuple #[.int .u64 (((qVk s).1 : Nat) : Int), .int .i64 (((qVk s).2.1 : Nat) : Int)]) ∧ RefIs w' B q (qVk s).2.2 ∧ KeptR B q W w' := rqB B q 2 s W h0 (by rw [hW]; exact h.alloc _) (by decide)
  have C2 := fun (h0 : (qVk s).2.1 = 0) (w : World) (h : RefIs w B q (qVk s).2.2) => rqI B q (qVk s).2 w h0 h
  have C3 := fun (h0 : (qVk s).2.1 = 0) (w : World) (h : RefIs w B q (qVk s).2.2) => rqT B q (qVk s).2 w h0 h
  have hK : (qVk s).1 < 2 ^ 2 := qB_lt 2 s
  have hV : qV s = if (qVk s).2.1 ≠ 0 then (⟨0, 0, ⟨#[]⟩⟩, (qVk s).2) else if (qVk s).1 = 1 then (⟨1, (qI (qVk s).2).1, ⟨#[]⟩⟩, (qI (qVk s).2).2) else if (qVk s).1 = 2 then (⟨2, 0, (qT (qVk s).2).1⟩, (qT (qVk s).2).2) else (⟨0, 0, ⟨#[]⟩⟩, (40, (qVk s).2.2)) := rfl
  obtain ⟨K, hKK⟩ : ∃ K, K = (qVk s).1 := ⟨_, rfl⟩
  obtain ⟨s2, hs2⟩ : ∃ s2, s2 = (qVk s).2 := ⟨_, rfl⟩
  rw [← hKK, ← hs2] at C1 hV
  rw [← hs2] at C2 C3
  rw [← hKK] at hK
  have HC1 := hide C1; have HC2 := hide C2; have HC3 := hide C3; have HRW := hide hrW; have HKW := hide hkW; have HB := hide hB; have HW := hide hW; have HR := hide hR; have HV := hide hV
  have hKz : (0 : Int) ≤ (K : Int) := by omega
  have hK3 : (K : Int) ≤ 3 := by omega
  unfold r4vPost
  clear C1 C2 C3 hrW hkW hB hW hR hV h h0 hKK hs2 hK
  go_enter Try.func159, Try.ntmps159
  go_wp2_with fail
  rw [← HW.out, ← HR.out]
  refine HC1.out.mono ?_
  rintro e w1 ⟨rfl, hs1, k1⟩
  have HS1 := hide hs1; have HK1 := hide (HKW.out.trans k1); have HR1 := hide (k1.typed _ _ _ _ HRW.out (by decide))
  obtain ⟨r0, r1, r2⟩ := cell_of_three HR1.out
  have g0 := free_cells_of HR1.out 0; have g1 := free_cells_of HR1.out 1; have g2 := free_cells_of HR1.out 2
  clear hs1 k1
  by_cases hE : s2.1 = 0
  · have HE := hide hE
    have hv := HV.out
    rw [if_neg (by simp [hE])] at hv
    have HV := hide hv
    rw [hE]
    clear hv hE
    by_cases hK1 : K = 1
    · have hv := HV.out
      rw [if_pos hK1] at hv
      have b1 : ((K : Int) == 1) = true := by simp [hK1]
      have C := HC2.out HE.out w1 HS1.out
      obtain ⟨n, hn⟩ : ∃ n, n = (qI s2).1 := ⟨_, rfl⟩
      obtain ⟨s3, hs3⟩ : ∃ s3, s3 = (qI s2).2 := ⟨_, rfl⟩
      rw [← hn, ← hs3] at C hv
      have HC := hide C; have HV := hide hv
      clear r0 r1 r2 g0 g1 g2 C hv hn hs3 hK1
      go_wp2_with fail
      refine HC.out.mono ?_
      rintro e w2 ⟨rfl, hs2, k2⟩
      have HS2 := hide hs2; have HK2 := hide (HK1.out.trans k2); have HR2 := hide (k2.typed _ _ _ _ HR1.out (by decide))
      obtain ⟨r0, r1, r2⟩ := cell_of_three HR2.out
      have g0 := free_cells_of HR2.out 0; have g1 := free_cells_of HR2.out 1; have g2 := free_cells_of HR2.out 2
      clear hs2 k2
      go_wp2
      have hz := cell_of_three (three_set HR2.out (.int .i64 1) (.int .i64 n) (.string ⟨#[]⟩))
      refine bodyPost_ret (v := .tuple #[.agg #[.int .i64 1, .int .i64 n, .string ⟨#[]⟩], .int .i64 ((s3.1 : Nat) : Int)]) (by simp [results, Try.results159, go_sem, hz]) rfl ?_
      refine ⟨1, n, ⟨#[]⟩, s3.2, by rw [HV.out], HS2.out.three HR2.out (by decide) (by decide) _ _ _, three_fresh HK2.out (by rw [HR.out]; exact HB.out) (by rw [HR.out]; exact Nat.le_refl _) _ _ _, fun _ => by rw [HV.out]; exact ⟨rfl, rfl, rfl, rfl⟩⟩
    · have b1 : ((K : Int) == 1) = false := by simp; omega
      have hv := HV.out
      rw [if_neg hK1] at hv
      by_cases hK2 : K = 2
      · rw [if_pos hK2] at hv
        have b2 : ((K : Int) == 2) = true := by simp [hK2]
        have C := HC3.out HE.out w1 HS1.out
        obtain ⟨n, hn⟩ : ∃ n, n = (qT s2).1 := ⟨_, rfl⟩
        obtain ⟨s3, hs3⟩ : ∃ s3, s3 = (qT s2).2 := ⟨_, rfl⟩
        rw [← hn, ← hs3] at C hv
        have HC := hide C; have HV := hide hv
        clear r0 r1 r2 g0 g1 g2 C hv hn hs3 hK1 hK2
        go_wp2_with fail
        refine HC.out.mono ?_
        rintro e w2 ⟨rfl, hs2, k2⟩
        have HS2 := hide hs2; have HK2 := hide (HK1.out.trans k2); have HR2 := hide (k2.typed _ _ _ _ HR1.out (by decide))
        obtain ⟨r0, r1, r2⟩ := cell_of_three HR2.out
        have g0 := free_cells_of HR2.out 0; have g1 := free_cells_of HR2.out 1; have g2 := free_cells_of HR2.out 2
        clear hs2 k2
        go_wp2
        have hz := cell_of_three (three_set HR2.out (.int .i64 2) (.int .i64 0) (.string n))
        refine bodyPost_ret (v := .tuple #[.agg #[.int .i64 2, .int .i64 0, .string n], .int .i64 ((s3.1 : Nat) : Int)]) (by simp [results, Try.results159, go_sem, hz]) rfl ?_
        refine ⟨2, 0, n, s3.2, by rw [HV.out], HS2.out.three HR2.out (by decide) (by decide) _ _ _, three_fresh HK2.out (by rw [HR.out]; exact HB.out) (by rw [HR.out]; exact Nat.le_refl _) _ _ _, fun _ => by rw [HV.out]; exact ⟨rfl, rfl, rfl, rfl⟩⟩
      · have b2 : ((K : Int) == 2) = false := by simp; omega
        rw [if_neg hK2] at hv
        have HV := hide hv
        clear hv hK1 hK2
        go_wp2
        have hz := cell_of_three (three_set HR1.out (.int .i64 0) (.int .i64 0) (.string ⟨#[]⟩))
        refine bodyPost_ret (v := .tuple #[.agg #[.int .i64 0, .int .i64 0, .string ⟨#[]⟩], .int .i64 40]) (by simp [results, Try.results159, go_sem, hz]) rfl ?_
        refine ⟨0, 0, ⟨#[]⟩, s2.2, by rw [HV.out]; rfl, HS1.out.three HR1.out (by decide) (by decide) _ _ _, three_fresh HK1.out (by rw [HR.out]; exact HB.out) (by rw [HR.out]; exact Nat.le_refl _) _ _ _, fun _ => by rw [HV.out]; exact ⟨rfl, rfl, rfl, rfl⟩⟩
  · have b1 : (((s2.1 : Nat) : Int) != 0) = true := by simp; omega
    have hv := HV.out
    rw [if_pos hE] at hv
    have HV := hide hv
    clear hv hE
    go_wp2
    have hz := cell_of_three (three_set HR1.out (.int .i64 0) (.int .i64 0) (.string ⟨#[]⟩))
    refine bodyPost_ret (v := .tuple #[.agg #[.int .i64 0, .int .i64 0, .string ⟨#[]⟩], .int .i64 ((s2.1 : Nat) : Int)]) (by simp [results, Try.results159, go_sem, hz]) rfl ?_
    refine ⟨0, 0, ⟨#[]⟩, s2.2, by rw [HV.out], HS1.out.three HR1.out (by decide) (by decide) _ _ _, three_fresh HK1.out (by rw [HR.out]; exact HB.out) (by rw [HR.out]; exact Nat.le_refl _) _ _ _, fun _ => by rw [HV.out]; exact ⟨rfl, rfl, rfl, rfl⟩⟩
end Go.Proofs.Ytpbloplbpkedcaa

/- Contract: the document's own take. Its text is written by wip/genrk.py. -/
namespace Go.Proofs.Ytpbloplbpkedcaa
open Go Go.RowKit

/-- What take leaves. -/
def r4tPost (l : List Bool) (B q : Nat) (w : World) (e : Ending) (w' : World) : Prop :=
  ∃ (x : Ev) (ao : Option Addr) (n c : Nat), e = .returned (.tuple #[evV x (.slice ao n c), .int .i64 (((qEvent (0, l)).2.1 : Nat) : Int)]) ∧
    ((qEvent (0, l)).2.1 = 0 → x = (qEvent (0, l)).1 ∧ w'.ownsRow w.heap.size 78 4 (.slice ao n c) x.ats.length (x.ats.flatMap enc4)) ∧
    (∃ l', RefIs w' B q l' ∧ ((qEvent (0, l)).2.1 = 0 → l' = (qEvent (0, l)).2.2)) ∧ KeptR B q w w'

set_option maxRecDepth 100000 in
set_option maxHeartbeats 6400000 in
theorem r4take_any (B q : Nat) (l : List Bool) (w : World) (h : RefIs w B q l) (hB : B ≤ w.heap.size) :
    Calls Try.prog 123 #[.pointer (some ⟨q, 0, none⟩)] w (r4tPost l B q w) := by
  obtain ⟨i0, hi, hz0, hz1, hz2⟩ := info_parts infoAttr
  obtain ⟨R, hR⟩ : ∃ R, R = w.heap.size := ⟨_, rfl⟩
  obtain ⟨W, hW⟩ : ∃ W, W = (w.alloc (.cells #[.int .i64 0, .int .i64 0, .int .i64 0, .string ⟨#[]⟩, .slice none 0 0] 36)).alloc (.cells #[.int .i64 0, .int .i64 0, .int .i64 0, .string ⟨#[]⟩, .slice none 0 0] 36) := ⟨_, rfl⟩
  have HX : Hid (Rk w B q R (R + 1) 36 #[.int .i64 0, .int .i64 0, .int .i64 0, .string ⟨#[]⟩, .slice none 0 0] #[.int .i64 0, .int .i64 0, .int .i64 0, .string ⟨#[]⟩, .slice none 0 0] l W) := by
    refine hide ⟨?_, ?_, hB, by omega, by omega, by omega, ?_, ?_⟩
    · rw [hW]; exact ((KeptR.refl _ _ _).alloc hB _).alloc (by simp; omega) _
    · rw [hW]; exact (h.alloc _).alloc _
    · rw [hW, hR]; exact heap_alloc_keeps (heap_alloc_new _ _) _
    · rw [hW, hR]; exact heap_alloc_at (by simp) rfl
  obtain ⟨s0, hs0⟩ : ∃ s0 : Qs, s0 = (0, l) := ⟨_, rfl⟩
  have hl : l = s0.2 := by rw [hs0]
  have h00 : s0.1 = 0 := by rw [hs0]
  unfold r4tPost
  rw [← hs0]
  have C1 : ∀ (w : World) (h : RefIs w B q l), Calls Try.prog 94 #[.pointer (some ⟨q, 0, none⟩), .int .i64 4] w fun e w' => e = .returned (.tuple #[.int .u64 (((qSrc s0).1 : Nat) : Int), .int .i64 (((qSrc s0).2.1 : Nat) : Int)]) ∧ RefIs w' B q (qSrc s0).2.2 ∧ KeptR B q w w' := fun w h => rqB B q 4 s0 w h00 (by rw [← hl]; exact h) (by decide)
  have C2 : ∀ (_ : (qSrc s0).2.1 = 0) (w : World) (_ : RefIs w B q (qSrc s0).2.2), Calls Try.prog 122 #[.pointer (some ⟨q, 0, none⟩)] w fun e w' => e = .returned (.tuple #[.int .u64 (((qSeq s0).1 : Nat) : Int), .int .i64 (((qSeq s0).2.1 : Nat) : Int)]) ∧ RefIs w' B q (qSeq s0).2.2 ∧ KeptR B q w w' := fun h0 w h => rqN B q (qSrc s0).2 w h0 h
  have C3 : ∀ (_ : (qSeq s0).2.1 = 0) (w : World) (_ : RefIs w B q (qSeq s0).2.2), Calls Try.prog 122 #[.pointer (some ⟨q, 0, none⟩)] w fun e w' => e = .returned (.tuple #[.int .u64 (((qTime s0).1 : Nat) : Int), .int .i64 (((qTime s0).2.1 : Nat) : Int)]) ∧ RefIs w' B q (qTime s0).2.2 ∧ KeptR B q w w' := fun h0 w h => rqN B q (qSeq s0).2 w h0 h
  have C4 : ∀ (_ : (qTime s0).2.1 = 0) (w : World) (_ : RefIs w B q (qTime s0).2.2), Calls Try.prog 95 #[.pointer (some ⟨q, 0, none⟩)] w fun e w' => e = .returned (.tuple #[.string (qTy s0).1, .int .i64 (((qTy s0).2.1 : Nat) : Int)]) ∧ RefIs w' B q (qTy s0).2.2 ∧ KeptR B q w w' := fun h0 w h => rqT B q (qTime s0).2 w h0 h
  have C5 : ∀ (_ : (qTy s0).2.1 = 0) (w : World) (_ : RefIs w B q (qTy s0).2.2), Calls Try.prog 94 #[.pointer (some ⟨q, 0, none⟩), .int .i64 4] w fun e w' => e = .returned (.tuple #[.int .u64 (((qMany (qTy s0).2).1 : Nat) : Int), .int .i64 (((qMany (qTy s0).2).2.1 : Nat) : Int)]) ∧ RefIs w' B q (qMany (qTy s0).2).2.2 ∧ KeptR B q w w' := fun h0 w h => rqB B q 4 (qTy s0).2 w h0 h (by decide)
  have C6 := fun (s : Qs) (h0 : s.1 = 0) (w : World) (h : RefIs w B q s.2) => rqT B q s w h0 h
  have C7 := fun (s : Qs) (h0 : s.1 = 0) (w : World) (h : RefIs w B q s.2) (hB : B ≤ w.heap.size) => r4value_any B q s w h0 h hB
  have st1 : (qSrc s0).2.1 ≠ 0 → (qEvent s0).2 = (qSrc s0).2 := qSrc_stays
  have st2 : (qSeq s0).2.1 ≠ 0 → (qEvent s0).2 = (qSeq s0).2 := qSeq_stays
  have st3 : (qTime s0).2.1 ≠ 0 → (qEvent s0).2 = (qTime s0).2 := qTime_stays
  have st4 : (qTy s0).2.1 ≠ 0 → (qEvent s0).2 = (qTy s0).2 := qTy_stays
  have hM4 : (qMany (qTy s0).2).1 < 2 ^ 4 := qB_lt 4 _
  have hS4 : (qSrc s0).1 < 2 ^ 4 := qB_lt 4 s0
  have hat : (qEvent s0).2 = (qAttrs (qTy s0).2).2 := rfl
  have hatv : (qEvent s0).1 = ⟨((qSrc s0).1 : Nat), wrap64 ((qSeq s0).1 : Nat), wrap64 ((qTime s0).1 : Nat), (qTy s0).1, (qAttrs (qTy s0).2).1⟩ := rfl
  have hQ : qAttrs (qTy s0).2 = if 8 < (qMany (qTy s0).2).1 then ([], (40, (qMany (qTy s0).2).2.2)) else if (qGo (qMany (qTy s0).2).2 (qMany (qTy s0).2).1).2.1 ≠ 0 then ([], (qGo (qMany (qTy s0).2).2 (qMany (qTy s0).2).1).2) else qGo (qMany (qTy s0).2).2 (qMany (qTy s0).2).1 := rfl
  have st5 : (qMany (qTy s0).2).2.1 ≠ 0 → (qMany (qTy s0).2).1 = 0 ∧ (qAttrs (qTy s0).2).2 = (qMany (qTy s0).2).2 := fun hE => by
    have h1 : (qMany (qTy s0).2).1 = 0 := by
      by_cases h2 : (qTy s0).2.1 = 0
      · have e : qMany (qTy s0).2 = _ := qB_ok h2
        rw [e] at hE ⊢
        show bitsVal _ _ = 0
        unfold bitsVal; rw [if_neg hE]
      · have e : qMany (qTy s0).2 = _ := qB_err h2
        rw [e]
    refine ⟨h1, ?_⟩
    rw [hQ, h1, if_neg (by decide)]
    show (if (qMany (qTy s0).2).2.1 ≠ 0 then (([] : List At), (qMany (qTy s0).2).2) else _).2 = _
    rw [if_pos hE]
  obtain ⟨ev, hev⟩ : ∃ ev, ev = qEvent s0 := ⟨_, rfl⟩
  obtain ⟨S, hS⟩ : ∃ S, S = (qSrc s0).1 := ⟨_, rfl⟩
  obtain ⟨t1, ht1⟩ : ∃ t1, t1 = (qSrc s0).2 := ⟨_, rfl⟩
  obtain ⟨Q, hQQ⟩ : ∃ Q, Q = (qSeq s0).1 := ⟨_, rfl⟩
  obtain ⟨t2, ht2⟩ : ∃ t2, t2 = (qSeq s0).2 := ⟨_, rfl⟩
  obtain ⟨T, hT⟩ : ∃ T, T = (qTime s0).1 := ⟨_, rfl⟩
  obtain ⟨t3, ht3⟩ : ∃ t3, t3 = (qTime s0).2 := ⟨_, rfl⟩
  obtain ⟨ty, hty⟩ : ∃ ty, ty = (qTy s0).1 := ⟨_, rfl⟩
  obtain ⟨t4, ht4⟩ : ∃ t4, t4 = (qTy s0).2 := ⟨_, rfl⟩
  rw [← ht4] at C5 st5 hat hatv hQ st4 hM4
  obtain ⟨M, hM⟩ : ∃ M, M = (qMany t4).1 := ⟨_, rfl⟩
  obtain ⟨t5, ht5⟩ : ∃ t5, t5 = (qMany t4).2 := ⟨_, rfl⟩
  rw [← hS, ← ht1] at C1; rw [← ht1, ← hQQ, ← ht2] at C2; rw [← ht2, ← hT, ← ht3] at C3; rw [← ht3, ← hty, ← ht4] at C4; rw [← hM, ← ht5] at C5
  rw [← ht1, ← hev] at st1; rw [← ht2, ← hev] at st2; rw [← ht3, ← hev] at st3; rw [← hev] at st4
  rw [← hev] at hat hatv ⊢
  rw [← hM] at hM4 st5 hQ; rw [← hS] at hS4 hatv; rw [← hQQ, ← hT, ← hty] at hatv; rw [← ht5] at st5 hQ
  have HC1 := hide C1; have HC2 := hide C2; have HC3 := hide C3; have HC4 := hide C4; have HC5 := hide C5; have HC6 := hide C6; have HC7 := hide C7
  have H1 := hide st1; have H2 := hide st2; have H3 := hide st3; have H4 := hide st4; have H5 := hide st5; have HAT := hide hat; have HATV := hide hatv; have HQ := hide hQ; have HB := hide hB; have HR := hide hR; have HW := hide hW
  have hS0 : (0 : Int) ≤ (S : Int) := by omega
  have hS3 : (S : Int) ≤ 15 := by omega
  have hM0 : (0 : Int) ≤ (M : Int) := by omega
  have hM3 : (M : Int) ≤ 15 := by omega
  clear C1 C2 C3 C4 C5 C6 C7 st1 st2 st3 st4 st5 hat hatv hQ hB hR hW h hl h00 hM4 hS4 hev hS ht1 hQQ ht2 hT ht3 hty ht4 hM ht5 hs0
  rw [← HR.out]
  go_enter Try.func123, Try.ntmps123
  go_wp2_with fail
  rw [← HW.out, ← HR.out]
  refine (HC1.out _ HX.out.ref).mono ?_
  rintro e w1 ⟨rfl, hs, k⟩
  have HX1 := hide (HX.out.call (by decide) k hs)
  clear hs k
  obtain ⟨c0, c1, c2, c3, c4⟩ := cell_of_five HX1.out.bd
  obtain ⟨r0, r1, r2, r3, r4⟩ := cell_of_five HX1.out.br
  have g0 := free_cells_of HX1.out.br 0; have g1 := free_cells_of HX1.out.br 1; have g2 := free_cells_of HX1.out.br 2; have g3 := free_cells_of HX1.out.br 3; have g4 := free_cells_of HX1.out.br 4
  have f0 := free_cells_of HX1.out.bd 0; have f1 := free_cells_of HX1.out.bd 1; have f2 := free_cells_of HX1.out.bd 2; have f3 := free_cells_of HX1.out.bd 3; have f4 := free_cells_of HX1.out.bd 4
  by_cases hE : t1.1 = 0
  case neg =>
    · have b1 : (((t1.1 : Nat) : Int) != 0) = true := by simp; omega
      have HST := hide (show ev.2.1 = t1.1 ∧ t1.1 ≠ 0 from ⟨by rw [H1.out hE], hE⟩)
      clear hE
      go_wp2
      have HZ := hide (HX1.out.five (by decide) (by decide) (.int .i64 0) (.int .i64 0) (.int .i64 0) (.string ⟨#[]⟩) (.slice none 0 0))
      have z := cell_of_five HZ.out.br
      refine bodyPost_ret (v := .tuple #[.agg #[.int .i64 0, .int .i64 0, .int .i64 0, .string ⟨#[]⟩, .slice none 0 0], .int .i64 (((t1.1 : Nat) : Int))]) (by simp [results, Try.results123, go_sem, z]) rfl ?_
      refine ⟨⟨0, 0, 0, ⟨#[]⟩, []⟩, _, _, _, by rw [HST.out.1]; rfl, fun h => absurd h (by rw [HST.out.1]; exact HST.out.2), ⟨_, HZ.out.ref, fun h => absurd h (by rw [HST.out.1]; exact HST.out.2)⟩, HZ.out.kept⟩
  rw [hE]
  have HE1 := hide hE
  clear hE
  go_wp2_with fail
  clear c0 c1 c2 c3 c4 r0 r1 r2 r3 r4 g0 g1 g2 g3 g4 f0 f1 f2 f3 f4
  refine (HC2.out HE1.out _ HX1.out.ref).mono ?_
  rintro e w2 ⟨rfl, hs, k⟩
  have HX2 := hide (HX1.out.call (by decide) k hs)
  clear hs k
  obtain ⟨c0, c1, c2, c3, c4⟩ := cell_of_five HX2.out.bd
  obtain ⟨r0, r1, r2, r3, r4⟩ := cell_of_five HX2.out.br
  have g0 := free_cells_of HX2.out.br 0; have g1 := free_cells_of HX2.out.br 1; have g2 := free_cells_of HX2.out.br 2; have g3 := free_cells_of HX2.out.br 3; have g4 := free_cells_of HX2.out.br 4
  have f0 := free_cells_of HX2.out.bd 0; have f1 := free_cells_of HX2.out.bd 1; have f2 := free_cells_of HX2.out.bd 2; have f3 := free_cells_of HX2.out.bd 3; have f4 := free_cells_of HX2.out.bd 4
  by_cases hE : t2.1 = 0
  case neg =>
    · have b1 : (((t2.1 : Nat) : Int) != 0) = true := by simp; omega
      have HST := hide (show ev.2.1 = t2.1 ∧ t2.1 ≠ 0 from ⟨by rw [H2.out hE], hE⟩)
      clear hE
      go_wp2
      have HZ := hide (HX2.out.five (by decide) (by decide) (.int .i64 0) (.int .i64 0) (.int .i64 0) (.string ⟨#[]⟩) (.slice none 0 0))
      have z := cell_of_five HZ.out.br
      refine bodyPost_ret (v := .tuple #[.agg #[.int .i64 0, .int .i64 0, .int .i64 0, .string ⟨#[]⟩, .slice none 0 0], .int .i64 (((t2.1 : Nat) : Int))]) (by simp [results, Try.results123, go_sem, z]) rfl ?_
      refine ⟨⟨0, 0, 0, ⟨#[]⟩, []⟩, _, _, _, by rw [HST.out.1]; rfl, fun h => absurd h (by rw [HST.out.1]; exact HST.out.2), ⟨_, HZ.out.ref, fun h => absurd h (by rw [HST.out.1]; exact HST.out.2)⟩, HZ.out.kept⟩
  rw [hE]
  have HE2 := hide hE
  clear hE
  go_wp2_with fail
  clear c0 c1 c2 c3 c4 r0 r1 r2 r3 r4 g0 g1 g2 g3 g4 f0 f1 f2 f3 f4
  refine (HC3.out HE2.out _ HX2.out.ref).mono ?_
  rintro e w3 ⟨rfl, hs, k⟩
  have HX3 := hide (HX2.out.call (by decide) k hs)
  clear hs k
  obtain ⟨c0, c1, c2, c3, c4⟩ := cell_of_five HX3.out.bd
  obtain ⟨r0, r1, r2, r3, r4⟩ := cell_of_five HX3.out.br
  have g0 := free_cells_of HX3.out.br 0; have g1 := free_cells_of HX3.out.br 1; have g2 := free_cells_of HX3.out.br 2; have g3 := free_cells_of HX3.out.br 3; have g4 := free_cells_of HX3.out.br 4
  have f0 := free_cells_of HX3.out.bd 0; have f1 := free_cells_of HX3.out.bd 1; have f2 := free_cells_of HX3.out.bd 2; have f3 := free_cells_of HX3.out.bd 3; have f4 := free_cells_of HX3.out.bd 4
  by_cases hE : t3.1 = 0
  case neg =>
    · have b1 : (((t3.1 : Nat) : Int) != 0) = true := by simp; omega
      have HST := hide (show ev.2.1 = t3.1 ∧ t3.1 ≠ 0 from ⟨by rw [H3.out hE], hE⟩)
      clear hE
      go_wp2
      have HZ := hide (HX3.out.five (by decide) (by decide) (.int .i64 0) (.int .i64 0) (.int .i64 0) (.string ⟨#[]⟩) (.slice none 0 0))
      have z := cell_of_five HZ.out.br
      refine bodyPost_ret (v := .tuple #[.agg #[.int .i64 0, .int .i64 0, .int .i64 0, .string ⟨#[]⟩, .slice none 0 0], .int .i64 (((t3.1 : Nat) : Int))]) (by simp [results, Try.results123, go_sem, z]) rfl ?_
      refine ⟨⟨0, 0, 0, ⟨#[]⟩, []⟩, _, _, _, by rw [HST.out.1]; rfl, fun h => absurd h (by rw [HST.out.1]; exact HST.out.2), ⟨_, HZ.out.ref, fun h => absurd h (by rw [HST.out.1]; exact HST.out.2)⟩, HZ.out.kept⟩
  rw [hE]
  have HE3 := hide hE
  clear hE
  go_wp2_with fail
  clear c0 c1 c2 c3 c4 r0 r1 r2 r3 r4 g0 g1 g2 g3 g4 f0 f1 f2 f3 f4
  have HX3s := hide (((HX3.out.set (by decide) (by decide) 0 (.int .i64 (S : Int))).set (by decide) (by decide) 1 (.int .i64 (wrap64 (Q : Int)))).set (by decide) (by decide) 2 (.int .i64 (wrap64 (T : Int))))
  refine (HC4.out HE3.out _ HX3s.out.ref).mono ?_
  rintro e w4 ⟨rfl, hs, k⟩
  have HX4 := hide (HX3s.out.call (by decide) k hs)
  clear hs k
  obtain ⟨c0, c1, c2, c3, c4⟩ := cell_of_five HX4.out.bd
  obtain ⟨r0, r1, r2, r3, r4⟩ := cell_of_five HX4.out.br
  have g0 := free_cells_of HX4.out.br 0; have g1 := free_cells_of HX4.out.br 1; have g2 := free_cells_of HX4.out.br 2; have g3 := free_cells_of HX4.out.br 3; have g4 := free_cells_of HX4.out.br 4
  have f0 := free_cells_of HX4.out.bd 0; have f1 := free_cells_of HX4.out.bd 1; have f2 := free_cells_of HX4.out.bd 2; have f3 := free_cells_of HX4.out.bd 3; have f4 := free_cells_of HX4.out.bd 4
  have HX4s := hide (HX4.out.set (by decide) (by decide) 3 (.string ty))
  by_cases hE : t4.1 = 0
  case neg =>
    · have b1 : (((t4.1 : Nat) : Int) != 0) = true := by simp; omega
      have HST := hide (show ev.2.1 = t4.1 ∧ t4.1 ≠ 0 from ⟨by rw [H4.out hE], hE⟩)
      clear hE
      go_wp2
      have HZ := hide (HX4s.out.five (by decide) (by decide) (.int .i64 (S : Int)) (.int .i64 (wrap64 (Q : Int))) (.int .i64 (wrap64 (T : Int))) (.string ty) (.slice none 0 0))
      have z := cell_of_five HZ.out.br
      refine bodyPost_ret (v := .tuple #[.agg #[.int .i64 (S : Int), .int .i64 (wrap64 (Q : Int)), .int .i64 (wrap64 (T : Int)), .string ty, .slice none 0 0], .int .i64 (((t4.1 : Nat) : Int))]) (by simp [results, Try.results123, go_sem, z]) rfl ?_
      refine ⟨⟨(S : Int), wrap64 (Q : Int), wrap64 (T : Int), ty, []⟩, _, _, _, by rw [HST.out.1]; rfl, fun h => absurd h (by rw [HST.out.1]; exact HST.out.2), ⟨_, HZ.out.ref, fun h => absurd h (by rw [HST.out.1]; exact HST.out.2)⟩, HZ.out.kept⟩
  rw [hE]
  have HE4 := hide hE
  clear hE
  go_wp2_with fail
  clear c0 c1 c2 c3 c4 r0 r1 r2 r3 r4 g0 g1 g2 g3 g4 f0 f1 f2 f3 f4
  refine (HC5.out HE4.out _ HX4s.out.ref).mono ?_
  rintro e w5 ⟨rfl, hs, k⟩
  have HX5 := hide (HX4s.out.call (by decide) k hs)
  clear hs k
  obtain ⟨c0, c1, c2, c3, c4⟩ := cell_of_five HX5.out.bd
  obtain ⟨r0, r1, r2, r3, r4⟩ := cell_of_five HX5.out.br
  have g0 := free_cells_of HX5.out.br 0; have g1 := free_cells_of HX5.out.br 1; have g2 := free_cells_of HX5.out.br 2; have g3 := free_cells_of HX5.out.br 3; have g4 := free_cells_of HX5.out.br 4
  have f0 := free_cells_of HX5.out.bd 0; have f1 := free_cells_of HX5.out.bd 1; have f2 := free_cells_of HX5.out.bd 2; have f3 := free_cells_of HX5.out.bd 3; have f4 := free_cells_of HX5.out.bd 4
  by_cases hE : t5.1 = 0
  case neg =>
    · have b1 : (((t5.1 : Nat) : Int) != 0) = true := by simp; omega
      have HST := hide (show ev.2.1 = t5.1 ∧ t5.1 ≠ 0 from ⟨by rw [HAT.out, (H5.out hE).2], hE⟩)
      clear hE
      go_wp2
      have HZ := hide (HX5.out.five (by decide) (by decide) (.int .i64 (S : Int)) (.int .i64 (wrap64 (Q : Int))) (.int .i64 (wrap64 (T : Int))) (.string ty) (.slice none 0 0))
      have z := cell_of_five HZ.out.br
      refine bodyPost_ret (v := .tuple #[.agg #[.int .i64 (S : Int), .int .i64 (wrap64 (Q : Int)), .int .i64 (wrap64 (T : Int)), .string ty, .slice none 0 0], .int .i64 (((t5.1 : Nat) : Int))]) (by simp [results, Try.results123, go_sem, z]) rfl ?_
      refine ⟨⟨(S : Int), wrap64 (Q : Int), wrap64 (T : Int), ty, []⟩, _, _, _, by rw [HST.out.1]; rfl, fun h => absurd h (by rw [HST.out.1]; exact HST.out.2), ⟨_, HZ.out.ref, fun h => absurd h (by rw [HST.out.1]; exact HST.out.2)⟩, HZ.out.kept⟩
  rw [hE]
  have HE5 := hide hE
  clear hE
  by_cases h8 : 8 < M
  case pos =>
    have HST := hide (show ev.2.1 = 40 by rw [HAT.out, HQ.out, if_pos h8])
    go_wp2
    have HZ := hide (HX5.out.five (by decide) (by decide) (.int .i64 (S : Int)) (.int .i64 (wrap64 (Q : Int))) (.int .i64 (wrap64 (T : Int))) (.string ty) (.slice none 0 0))
    have z := cell_of_five HZ.out.br
    refine bodyPost_ret (v := .tuple #[.agg #[.int .i64 (S : Int), .int .i64 (wrap64 (Q : Int)), .int .i64 (wrap64 (T : Int)), .string ty, .slice none 0 0], .int .i64 40]) (by simp [results, Try.results123, go_sem, z]) rfl ?_
    refine ⟨⟨(S : Int), wrap64 (Q : Int), wrap64 (T : Int), ty, []⟩, _, _, _, by rw [HST.out]; rfl, fun h => absurd h (by rw [HST.out]; decide), ⟨_, HZ.out.ref, fun h => absurd h (by rw [HST.out]; decide)⟩, HZ.out.kept⟩
  have hq2 := HQ.out
  rw [if_neg h8] at hq2
  have HQ := hide hq2
  clear hq2
  go_wp2_with fail
  clear c0 c1 c2 c3 c4 r0 r1 r2 r3 r4 g0 g1 g2 g3 g4 f0 f1 f2 f3 f4
  go_loopw [6, 10] (fun ee iv wr => ∃ (k : Nat) (ao : Option Addr) (cc : Nat), k ≤ M ∧ iv = .int .u64 (k : Int) ∧ ee = .int .i64 0 ∧ Hid (Rk w B q R (R + 1) 36 #[.int .i64 0, .int .i64 0, .int .i64 0, .string ⟨#[]⟩, .slice none 0 0] #[.int .i64 (S : Int), .int .i64 (wrap64 (Q : Int)), .int .i64 (wrap64 (T : Int)), .string ty, .slice ao k cc] (qGo t5 k).2.2 wr) ∧ Hid (wr.ownsRow w.heap.size 78 4 (.slice ao k cc) k ((qGo t5 k).1.flatMap enc4)) ∧ Hid ((qGo t5 k).2.1 = 0)) (fun _ i _ => M - (intOf i).toNat)
  case atStart => exact ⟨0, none, 0, Nat.zero_le _, rfl, rfl, HX5, hide (World.ownsRow_nil _ _ _ _), HE5⟩
  case round =>
    obtain ⟨k, ao, cc, hk, rfl, rfl, HK, HO, HG0⟩ := hrel
    by_cases hlt : k < M
    · have nn1 : ¬ wr.heap.size = R := by have := lt_of_block HK.out.br; omega
      have nn2 : ¬ R = wr.heap.size := by have := lt_of_block HK.out.br; omega
      have nn3 : ¬ wr.heap.size = R + 1 := by have := lt_of_block HK.out.bd; omega
      have nn4 : ¬ R + 1 = wr.heap.size := by have := lt_of_block HK.out.bd; omega
      have HKA := hide (HK.out.alloc (.cells #[.string ⟨#[]⟩, .int .i64 0, .int .i64 0, .string ⟨#[]⟩] 78))
      have HA0 := hide (heap_alloc_new wr (.cells #[.string ⟨#[]⟩, .int .i64 0, .int .i64 0, .string ⟨#[]⟩] 78))
      have HO0 := hide (HO.out.alloc (.cells #[.string ⟨#[]⟩, .int .i64 0, .int .i64 0, .string ⟨#[]⟩] 78))
      have C := HC6.out (qGo t5 k).2 HG0.out (wr.alloc (.cells #[.string ⟨#[]⟩, .int .i64 0, .int .i64 0, .string ⟨#[]⟩] 78)) HKA.out.ref
      have hqn : qT (qGo t5 k).2 = qName (qGo t5 k).2 := rfl
      rw [hqn] at C
      have hst : ∀ s2 : Qs, (qAttr (qGo t5 k).2).2 = s2 → s2.1 ≠ 0 → ev.2.1 = s2.1 ∧ s2.1 ≠ 0 := fun s2 h1 h2 => by
        have e1 : (qGo t5 (k + 1)).2 = s2 := h1
        have e2 := qGo_stays t5 (k + 1) M (by rw [e1]; exact h2) hlt
        refine ⟨?_, h2⟩
        rw [HAT.out, HQ.out, if_pos (by rw [e2, e1]; exact h2), e2, e1]
      have hnm : (qName (qGo t5 k).2).2.1 ≠ 0 → (qAttr (qGo t5 k).2).2 = (qName (qGo t5 k).2).2 := qAttr_name
      have hqv := qAttr_qV (qGo t5 k).2
      have hg1 : qGo t5 (k + 1) = ((qGo t5 k).1 ++ [(qAttr (qGo t5 k).2).1], (qAttr (qGo t5 k).2).2) := rfl
      obtain ⟨at1, hat1⟩ : ∃ x, x = qAttr (qGo t5 k).2 := ⟨_, rfl⟩
      obtain ⟨nm, hnm1⟩ : ∃ x, x = (qName (qGo t5 k).2).1 := ⟨_, rfl⟩
      obtain ⟨u1, hu1⟩ : ∃ x, x = (qName (qGo t5 k).2).2 := ⟨_, rfl⟩
      rw [← hnm1, ← hu1] at C
      rw [← hu1, ← hat1] at hnm
      rw [← hat1] at hst hg1
      rw [← hat1, ← hu1, ← hnm1] at hqv
      have HC := hide C; have HST0 := hide hst; have HNM := hide hnm; have HQV := hide hqv; have HG1 := hide hg1
      clear C hqn hst hnm hqv hg1 hat1 hnm1 hu1
      go_wp2_with fail
      refine HC.out.mono ?_
      rintro e w6 ⟨rfl, hs, k6⟩
      have HY1 := hide (HKA.out.call (by decide) k6 hs)
      have ha1 := k6.typed _ _ _ _ HA0.out (by decide)
      have HO1 := hide (k6.ownsRow HO0.out (by decide))
      have HAS := hide (show w.heap.size ≤ wr.heap.size from HK.out.kept.below.size)
      have HA1 := hide ha1
      have hane : ∀ j, (Value.slice ao k cc).ownBlock = some j → j < wr.heap.size := fun j hj => (HO.out.lt j hj).2
      have HANE := hide hane
      have ha2 := heap_setCell_same (k := 0) ha1 (.string nm)
      have HA2 := hide ha2
      have HY2 := hide (HY1.out.far ha1 HAS.out (by decide) (by decide) (by decide) 0 (.string nm))
      have HO2 := hide (ownsRow_setCell_other (a := ⟨wr.heap.size, 0, none⟩) HO1.out (by intro e; have := hane _ e; simp at this) (.string nm))
      obtain ⟨a0, a1, a2, a3⟩ := four_cells_of ha1
      have y0 := free_cells_of ha1 0
      clear hs k6 ha1 hane ha2
      obtain ⟨c0, c1, c2, c3, c4⟩ := cell_of_five HY1.out.bd
      obtain ⟨r0, r1, r2, r3, r4⟩ := cell_of_five HY1.out.br
      have g0 := free_cells_of HY1.out.br 0; have g1 := free_cells_of HY1.out.br 1; have g2 := free_cells_of HY1.out.br 2; have g3 := free_cells_of HY1.out.br 3; have g4 := free_cells_of HY1.out.br 4
      have f0 := free_cells_of HY1.out.bd 0; have f1 := free_cells_of HY1.out.bd 1; have f2 := free_cells_of HY1.out.bd 2; have f3 := free_cells_of HY1.out.bd 3; have f4 := free_cells_of HY1.out.bd 4
      by_cases hE : u1.1 = 0
      case neg =>
        · have b1 : (((u1.1 : Nat) : Int) != 0) = true := by simp; omega
          have HST := hide (HST0.out u1 (HNM.out hE) hE)
          clear hE
          go_wp2
          have HZ := hide (HY2.out.five (by decide) (by decide) (.int .i64 (S : Int)) (.int .i64 (wrap64 (Q : Int))) (.int .i64 (wrap64 (T : Int))) (.string ty) (.slice ao k cc))
          have z := cell_of_five HZ.out.br
          refine bodyPost_ret (v := .tuple #[.agg #[.int .i64 (S : Int), .int .i64 (wrap64 (Q : Int)), .int .i64 (wrap64 (T : Int)), .string ty, .slice ao k cc], .int .i64 (((u1.1 : Nat) : Int))]) (by simp [results, Try.results123, go_sem, z]) rfl ?_
          refine ⟨⟨(S : Int), wrap64 (Q : Int), wrap64 (T : Int), ty, []⟩, _, _, _, by rw [HST.out.1]; rfl, fun h => absurd h (by rw [HST.out.1]; exact HST.out.2), ⟨_, HZ.out.ref, fun h => absurd h (by rw [HST.out.1]; exact HST.out.2)⟩, HZ.out.kept⟩
      rw [hE]
      have HE6 := hide hE
      clear hE
      go_wp2_with fail
      clear c0 c1 c2 c3 c4 r0 r1 r2 r3 r4 g0 g1 g2 g3 g4 f0 f1 f2 f3 f4 a0 a1 a2 a3 y0
      refine (HC7.out u1 HE6.out _ HY2.out.ref (Nat.le_trans HY2.out.hB HY2.out.kept.below.size)).mono ?_
      rintro e w7 ⟨vk, vn, vt, l7, rfl, hr7, k7, hv7⟩
      have HY3 := hide (HY2.out.call (by decide) k7 hr7)
      have ha3 := k7.typed _ _ _ _ HA2.out (by decide)
      have HO3 := hide (k7.ownsRow HO2.out (by decide))
      obtain ⟨s7, hs7⟩ : ∃ x, x = (qV u1).2 := ⟨_, rfl⟩
      have hqv := HQV.out
      rw [← hs7] at hqv hv7
      rw [← hs7]
      have HQV := hide hqv; have HV7 := hide hv7
      obtain ⟨a0, a1, a2, a3⟩ := four_cells_of ha3
      have y1 := free_cells_of ha3 1; have y2 := free_cells_of ha3 2; have y3 := free_cells_of ha3 3
      have ha4 := heap_setCell_same (k := 1) ha3 (.int .i64 vk)
      have ha5 := heap_setCell_same (k := 2) ha4 (.int .i64 vn)
      have ha6 := heap_setCell_same (k := 3) ha5 (.string vt)
      have HA6 := hide ha6
      have HY4 := hide (((HY3.out.far ha3 HAS.out (by decide) (by decide) (by decide) 1 (.int .i64 vk)).far ha4 HAS.out (by decide) (by decide) (by decide) 2 (.int .i64 vn)).far ha5 HAS.out (by decide) (by decide) (by decide) 3 (.string vt))
      have hane := HANE.out
      have hne : (Value.slice ao k cc).ownBlock ≠ some wr.heap.size := by intro e; have := hane _ e; simp at this
      have HO4 := hide (ownsRow_setCell_other (a := ⟨wr.heap.size, 3, none⟩) (ownsRow_setCell_other (a := ⟨wr.heap.size, 2, none⟩) (ownsRow_setCell_other (a := ⟨wr.heap.size, 1, none⟩) HO3.out hne (.int .i64 vk)) hne (.int .i64 vn)) hne (.string vt))
      obtain ⟨c0, c1, c2, c3, c4⟩ := cell_of_five HY3.out.bd
      obtain ⟨r0, r1, r2, r3, r4⟩ := cell_of_five HY3.out.br
      have g0 := free_cells_of HY3.out.br 0; have g1 := free_cells_of HY3.out.br 1; have g2 := free_cells_of HY3.out.br 2; have g3 := free_cells_of HY3.out.br 3; have g4 := free_cells_of HY3.out.br 4
      have f0 := free_cells_of HY3.out.bd 0; have f1 := free_cells_of HY3.out.bd 1; have f2 := free_cells_of HY3.out.bd 2; have f3 := free_cells_of HY3.out.bd 3; have f4 := free_cells_of HY3.out.bd 4
      clear k7 hr7 hs7 hqv hv7 ha3 ha4 ha5 ha6 hane hne
      by_cases hE : s7.1 = 0
      case neg =>
        · have b1 : (((s7.1 : Nat) : Int) != 0) = true := by simp; omega
          have HST := hide (HST0.out s7 HQV.out.1 hE)
          clear hE
          go_wp2
          have HZ := hide (HY4.out.five (by decide) (by decide) (.int .i64 (S : Int)) (.int .i64 (wrap64 (Q : Int))) (.int .i64 (wrap64 (T : Int))) (.string ty) (.slice ao k cc))
          have z := cell_of_five HZ.out.br
          refine bodyPost_ret (v := .tuple #[.agg #[.int .i64 (S : Int), .int .i64 (wrap64 (Q : Int)), .int .i64 (wrap64 (T : Int)), .string ty, .slice ao k cc], .int .i64 (((s7.1 : Nat) : Int))]) (by simp [results, Try.results123, go_sem, z]) rfl ?_
          refine ⟨⟨(S : Int), wrap64 (Q : Int), wrap64 (T : Int), ty, []⟩, _, _, _, by rw [HST.out.1]; rfl, fun h => absurd h (by rw [HST.out.1]; exact HST.out.2), ⟨_, HZ.out.ref, fun h => absurd h (by rw [HST.out.1]; exact HST.out.2)⟩, HZ.out.kept⟩
      rw [hE]
      have HE7 := hide hE
      have hsz := HY4.out.kept.below.size
      obtain ⟨W7, hW7⟩ : ∃ W7, W7 = ((w7.setCell ⟨wr.heap.size, 1, none⟩ (.int .i64 vk)).setCell ⟨wr.heap.size, 2, none⟩ (.int .i64 vn)).setCell ⟨wr.heap.size, 3, none⟩ (.string vt) := ⟨_, rfl⟩
      have HW7 := hide hW7
      rw [← hW7] at hsz
      clear hE
      go_wp2_with (at_builtin; rw [← HW7.out]; go_loud (refine wpList_append_own _ rfl (.tmp 96) (.tmp 98) 34 rfl w.heap.size 78 i0 (.agg #[.string ⟨#[]⟩, .int .i64 0, .int .i64 0, .string ⟨#[]⟩]) 4 48 Try.underlying34 hi hz0 hz1 hz2 rfl (by decide) (.slice ao k cc) k _ rfl (by rw [HW7.out]; exact HO4.out.alloc _) ⟨w7.heap.size, 0, none⟩ 1 1 (enc4 ⟨nm, vk, vn, vt⟩) rfl rfl (World.news_of_block (heap_alloc_at (by rw [HW7.out]; simp) rfl)) (enc4_one _) (by unfold maxLen; omega) (by omega) (by simp; omega) ?_); intro v8 w8 hown8 hgrow8 hnil8; clear hnil8; obtain ⟨ao8, cc8, rfl⟩ := own_slice hown8; have HO8 := hide hown8; have HG8 := hide hgrow8; have HY8 := hide ((show Rk w B q R (R + 1) _ _ _ _ W7 by rw [HW7.out]; exact HY4.out).alloc (.cells (enc4 ⟨nm, vk, vn, vt⟩).toArray 78)); have HY9 := hide (HY8.out.grown (by rw [HW7.out]; exact HO4.out.alloc _) (by decide) (by decide) (by decide) hgrow8); clear hown8 hgrow8 c0 c1 c2 c3 c4 r0 r1 r2 r3 r4 g0 g1 g2 g3 g4 f0 f1 f2 f3 f4; obtain ⟨c0, c1, c2, c3, c4⟩ := cell_of_five HY9.out.bd; have f4 := free_cells_of HY9.out.bd 4)
      go_roundw
      case rel =>
        have hq := HQV.out
        have hv := HV7.out HE7.out
        have hat : at1.1 = ⟨nm, vk, vn, vt⟩ := by rw [hq.2 (by rw [hq.1]; exact HE7.out), hv.1, hv.2.1, hv.2.2.1]
        have hg : qGo t5 (k + 1) = ((qGo t5 k).1 ++ [⟨nm, vk, vn, vt⟩], s7) := by rw [HG1.out, hat, hq.1]
        refine ⟨k + 1, ao8, cc8, by omega, by go_num, rfl, ?_, ?_, ?_⟩
        · rw [hg]
          have hh := HY9.out.set (by decide) (by decide) 4 (.slice ao8 (k + 1) cc8)
          rw [hv.2.2.2] at hh
          exact hh
        · rw [hg, List.flatMap_append]
          have ho := ownsRow_setCell_typed (a := ⟨R + 1, 4, none⟩) HO8.out HY9.out.bd (by decide) (.slice ao8 (k + 1) cc8)
          refine hide ?_
          simpa using ho
        · rw [hg]; exact HE7.out
      case measure => simp [intOf]; omega
    · obtain rfl : k = M := by omega
      obtain ⟨c0, c1, c2, c3, c4⟩ := cell_of_five HK.out.bd
      obtain ⟨r0, r1, r2, r3, r4⟩ := cell_of_five HK.out.br
      have g0 := free_cells_of HK.out.br 0; have g1 := free_cells_of HK.out.br 1; have g2 := free_cells_of HK.out.br 2; have g3 := free_cells_of HK.out.br 3; have g4 := free_cells_of HK.out.br 4
      have f0 := free_cells_of HK.out.bd 0; have f1 := free_cells_of HK.out.bd 1; have f2 := free_cells_of HK.out.bd 2; have f3 := free_cells_of HK.out.bd 3; have f4 := free_cells_of HK.out.bd 4
      have HST := hide (show ev.2 = (qGo t5 k).2 ∧ (qGo t5 k).2.1 = 0 ∧ ev.1 = ⟨(S : Int), wrap64 (Q : Int), wrap64 (T : Int), ty, (qGo t5 k).1⟩ by
        have hn : ¬ ((qGo t5 k).2.1 ≠ 0) := by simp [HG0.out]
        rw [HAT.out, HATV.out, HQ.out, if_neg hn]; exact ⟨rfl, HG0.out, rfl⟩)
      go_wp2
      have HZ := hide (HK.out.five (by decide) (by decide) (.int .i64 (S : Int)) (.int .i64 (wrap64 (Q : Int))) (.int .i64 (wrap64 (T : Int))) (.string ty) (.slice ao k cc))
      have z := cell_of_five HZ.out.br
      refine bodyPost_ret (v := .tuple #[.agg #[.int .i64 (S : Int), .int .i64 (wrap64 (Q : Int)), .int .i64 (wrap64 (T : Int)), .string ty, .slice ao k cc], .int .i64 0]) (by simp [results, Try.results123, go_sem, z]) rfl ?_
      refine ⟨⟨(S : Int), wrap64 (Q : Int), wrap64 (T : Int), ty, (qGo t5 k).1⟩, _, _, _, by rw [HST.out.1, HST.out.2.1]; rfl, fun _ => ⟨HST.out.2.2.symm, ?_⟩, ⟨_, HZ.out.ref, fun _ => by rw [HST.out.1]⟩, HZ.out.kept⟩
      have ho := own_five HO.out HK.out.br (by decide) (.int .i64 (S : Int)) (.int .i64 (wrap64 (Q : Int))) (.int .i64 (wrap64 (T : Int))) (.string ty) (.slice ao k cc)
      rw [← HR.out] at ho
      simpa only [qGo_len] using ho
end Go.Proofs.Ytpbloplbpkedcaa

/- The walk of EventReads. -/
namespace Go.Proofs.Ytpbloplbpkedcaa
open Go Go.RowKit

theorem rNew_any (ao : Option Addr) (cap : Nat) (bytes : List Nat) (w : World) (hbig : bytes.length ≤ 1048576) (hsm : ∀ c ∈ bytes, c < 256) (h : BytesAt w ao bytes) :
    Calls Try.prog 23 #[.slice ao bytes.length cap] w fun e w' => ∃ q, e = .returned (.pointer (some ⟨q, 0, none⟩)) ∧ RefIs w' w.heap.size q (bitsAll bytes) ∧ Below w.heap.size w w' := by
  rcases Nat.eq_zero_or_pos bytes.length with hl | hl
  · obtain rfl : bytes = [] := List.length_eq_zero_iff.1 hl
    exact rNew_nil ao cap w
  · cases ao with
    | none => have := h.1 rfl; omega
    | some a =>
      obtain ⟨b, o, s⟩ := a
      have h0 := h.2 _ rfl 0 hl
      obtain rfl : s = none := by simpa [Addr.add] using World.cell?_spot h0
      have hb : b < w.heap.size := World.block_lt_of_cell? _ _ h0
      refine rNew_some b o cap bytes w hbig hsm (by simpa [Addr.add] using hb) (fun j hj => ?_)
      have := h.2 _ rfl j hj
      rwa [Go.WideShapes.add_plain] at this
theorem own_len {w : World} {B e size n m c : Nat} {ao : Option Addr} {xs : List Value} (h : w.ownsRow B e size (.slice ao m c) n xs) : m = n := by
  obtain ⟨a, k, e⟩ := own_slice h
  simp only [Value.slice.injEq] at e
  exact e.2.1
theorem KeptR.of_below {B B' q : Nat} {a w w' : World} (h : KeptR B q a w) (hb : Below B' w w') (hB : B ≤ B') (hs : B' = w.heap.size) : KeptR B q a w' := by
  subst hs
  exact ⟨h.kept.trans ⟨hb.mono hB, fun k cs e fr hk _ => (hb.block k (lt_of_block hk)).trans hk⟩, fun k h1 h2 => (hb.block k (Nat.lt_of_lt_of_le h1 h.kept.below.size)).trans (h.only k h1 h2)⟩
theorem KeptR.five_fresh {B q : Nat} {a w : World} (h : KeptR B q a w) {P : Nat} (hB : B ≤ P) (hP : a.heap.size ≤ P) (d0 d1 d2 d3 d4 : Value) :
    KeptR B q a (((((w.setCell ⟨P, 0, none⟩ d0).setCell ⟨P, 1, none⟩ d1).setCell ⟨P, 2, none⟩ d2).setCell ⟨P, 3, none⟩ d3).setCell ⟨P, 4, none⟩ d4) :=
  ((((h.setCell_fresh (p := ⟨P, 0, none⟩) hB hP d0).setCell_fresh (p := ⟨P, 1, none⟩) hB hP d1).setCell_fresh (p := ⟨P, 2, none⟩) hB hP d2).setCell_fresh (p := ⟨P, 3, none⟩) hB hP d3).setCell_fresh (p := ⟨P, 4, none⟩) hB hP d4
/-- What was loaded before is stored back. -/
theorem RefIs.back {w w1 : World} {B q : Nat} {l l1 : List Bool} (h : RefIs w B q l) (hk : KeptR B q w w1) (h1 : RefIs w1 B q l1) {v : Value} (h0 : w.cell? ⟨q, 0, none⟩ = some v) : RefIs (w1.setCell ⟨q, 0, none⟩ v) B q l ∧ KeptR B q w (w1.setCell ⟨q, 0, none⟩ v) :=
  ⟨h.restored hk h1 h0, hk.trans (h1.keeps v)⟩

set_option maxRecDepth 100000 in
set_option maxHeartbeats 3200000 in
theorem r4Take_any (B q : Nat) (l : List Bool) (w : World) (h : RefIs w B q l) (hB : B ≤ w.heap.size) :
    Calls Try.prog 96 #[.pointer (some ⟨q, 0, none⟩)] w fun e w' => ∃ v, e = .returned (.tuple #[evV (tkEv l) v, .int .i64 (tkErr l)]) ∧ w'.ownsRow w.heap.size 78 4 v (tkEv l).ats.length ((tkEv l).ats.flatMap enc4) ∧ RefIs w' B q (tkRest l) ∧ KeptR B q w w' := by
  obtain ⟨R, hR⟩ : ∃ R, R = w.heap.size := ⟨_, rfl⟩
  obtain ⟨ao0, cap0, hq0⟩ : ∃ ao cap, w.heap[q]? = some (.cells #[.slice ao l.length cap] 67 (0, 0)) := by
    obtain ⟨ao, cap, hq, _⟩ := h.row
    exact ⟨ao, cap, hq⟩
  obtain ⟨N, hN⟩ : ∃ N, N = l.length := ⟨_, rfl⟩
  rw [← hN] at hq0
  have c0 := cell_of_one hq0
  obtain ⟨W, hW⟩ : ∃ W, W = (w.alloc (.cells #[.int .i64 0, .int .i64 0, .int .i64 0, .string ⟨#[]⟩, .slice none 0 0] 36)).alloc (.cells #[.slice ao0 N cap0] 67) := ⟨_, rfl⟩
  have hWS : R + 2 = W.heap.size := by rw [hW, hR]; simp
  have hWr : RefIs W B q l := by rw [hW]; exact (h.alloc _).alloc _
  have hWq : W.cell? ⟨q, 0, none⟩ = some (.slice ao0 N cap0) := by rw [hW]; exact Lib.cell?_alloc_some _ (Lib.cell?_alloc_some _ c0)
  have hWR : W.heap[R]? = some (.cells #[.int .i64 0, .int .i64 0, .int .i64 0, .string ⟨#[]⟩, .slice none 0 0] 36 (0, 0)) := by rw [hW, hR]; exact heap_alloc_keeps (heap_alloc_new _ _) _
  have hWX : W.heap[R + 1]? = some (.cells #[.slice ao0 N cap0] 67 (0, 0)) := by rw [hW, hR]; exact heap_alloc_at (by simp) rfl
  have hWK : KeptR B q w W := by rw [hW]; exact ((KeptR.refl _ _ _).alloc hB _).alloc (by simp; omega) _
  have C := r4take_any B q l W hWr (by rw [← hWS]; omega)
  have hqR : q < R := by rw [hR]; exact h.lt
  have hl2 : l.length ≤ 1125899906842624 := h.len
  have hwide : 8 * (qEvent (0, l)).1.ty.size ≤ l.length ∧ (∀ x ∈ (qEvent (0, l)).1.ats, 8 * x.name.size ≤ l.length ∧ 8 * x.s.size ≤ l.length) ∧ (qEvent (0, l)).1.ats.length ≤ 8 ∧ (qEvent (0, l)).2.2.length ≤ l.length := qEvent_wide (0, l)
  have hte : tkErr l = if (qEvent (0, l)).2.1 ≠ 0 then (((qEvent (0, l)).2.1 : Nat) : Int) else ckE (qEvent (0, l)).1 := rfl
  have htv : tkEv l = if tkErr l = 0 then (qEvent (0, l)).1 else evZ := rfl
  have htr : tkRest l = if tkErr l = 0 then (qEvent (0, l)).2.2 else l := rfl
  unfold r4tPost at C
  obtain ⟨ev, hev⟩ : ∃ ev, ev = qEvent (0, l) := ⟨_, rfl⟩
  rw [← hev] at C hte htv htr hwide
  have HC := hide C; have HWS := hide hWS; have HWR := hide hWR; have HWX := hide hWX; have HWK := hide hWK; have HWr := hide hWr; have HWq := hide hWq; have HL := hide hl2; have HWD := hide hwide; have HTE := hide hte; have HTV := hide htv; have HTR := hide htr; have HB := hide hB; have HR := hide hR; have HW := hide hW; have HQR := hide hqR
  rw [← hR]
  have d0 : (w.alloc (.cells #[.int .i64 0, .int .i64 0, .int .i64 0, .string ⟨#[]⟩, .slice none 0 0] 36)).cell? ⟨q, 0, none⟩ = some (.slice ao0 N cap0) := Lib.cell?_alloc_some _ c0
  clear C hWS hWR hWX hWK hWr hWq hl2 hwide hte htv htr hB hR hW hq0 hN hev h hqR c0
  go_enter Try.func96, Try.ntmps96
  go_wp2_with fail
  rw [← HW.out, ← HR.out]
  refine HC.out.mono ?_
  rintro e w2 ⟨x, ao, n, cap, rfl, hok, ⟨l', hr2, hl'⟩, k2⟩
  have hOK := hok
  obtain ⟨es, eq, et, ety, eats⟩ := x
  unfold evV
  simp only
  have HOK := hide hOK
  have HR2 := hide (heap_alloc_keeps (k2.typed _ _ _ _ HWR.out (by decide)) (.cells #[.int .i64 es, .int .i64 eq, .int .i64 et, .string ety, .slice ao n cap] 36))
  have HX2 := hide (heap_alloc_keeps ((k2.only (R + 1) (by have := HWS.out; omega) (by have := HQR.out; omega)).trans HWX.out) (.cells #[.int .i64 es, .int .i64 eq, .int .i64 et, .string ety, .slice ao n cap] 36))
  have HE2 := hide (heap_alloc_new w2 (.cells #[.int .i64 es, .int .i64 eq, .int .i64 et, .string ety, .slice ao n cap] 36))
  have hBW : B ≤ W.heap.size := by have := HB.out; have := HWS.out; have := HR.out; omega
  have HK2 := hide (k2.alloc (Nat.le_trans hBW k2.below.size) (.cells #[.int .i64 es, .int .i64 eq, .int .i64 et, .string ety, .slice ao n cap] 36))
  have HF2 := hide (hr2.alloc (.cells #[.int .i64 es, .int .i64 eq, .int .i64 et, .string ety, .slice ao n cap] 36))
  have HL' := hide hl'
  have hsz2 : W.heap.size ≤ w2.heap.size := k2.below.size
  have n1 : ¬ q = R := by have := HQR.out; omega
  have n2 : ¬ R = q := by have := HQR.out; omega
  have n3 : ¬ q = w2.heap.size := by have := HQR.out; have := HWS.out; omega
  have n4 : ¬ w2.heap.size = q := by have := HQR.out; have := HWS.out; omega
  have n5 : ¬ w2.heap.size = R := by have := HWS.out; omega
  have n6 : ¬ R = w2.heap.size := by have := HWS.out; omega
  have n7 : ¬ R + 1 = q := by have := HQR.out; omega
  have n8 : ¬ q = R + 1 := by have := HQR.out; omega
  clear hok hOK hr2 hl' k2 hBW d0 hsz2
  obtain ⟨E, hE⟩ : ∃ E, E = ev.2.1 := ⟨_, rfl⟩
  rw [← hE]
  have hte := HTE.out
  rw [← hE] at hte
  have HTE := hide hte
  have HEE := hide hE
  clear hte hE
  by_cases h0 : E = 0
  · subst h0
    have hev0 : ev.2.1 = 0 := HEE.out.symm
    obtain ⟨hx, ho⟩ := HOK.out hev0
    obtain rfl : n = eats.length := own_len ho
    have hte := HTE.out
    rw [if_neg (by simp), ← hx] at hte
    have hwd := HWD.out
    rw [← hx] at hwd
    have ho3 := ho.alloc (.cells #[.int .i64 es, .int .i64 eq, .int .i64 et, .string ety, .slice ao eats.length cap] 36)
    have hav := Av.of_own ho3 (fun x hx => by
      have := hwd.2.1 x hx
      have := HL.out
      unfold maxLen; omega) (by have := hwd.2.2.1; simp only at this ⊢; omega)
    have CK := r4Check_any ⟨es, eq, et, ety, eats⟩ _ ao eats.length cap _ hav (Nat.le_refl _) (by have := hwd.1; have := HL.out; unfold maxLen; simp only at *; omega)
    unfold evV at CK
    simp only at CK
    obtain ⟨cE, hcE⟩ : ∃ cE, cE = ckE ⟨es, eq, et, ety, eats⟩ := ⟨_, rfl⟩
    rw [← hcE] at CK hte
    have HCK := hide CK; have HTE2 := hide hte; have HO3 := hide ho3; have HX := hide hx; have HLL := hide (HL'.out hev0)
    clear CK hte hcE hav hwd ho ho3 hx hev0
    obtain ⟨c0, c1, c2, c3, c4⟩ := cell_of_five HE2.out
    go_wp2_with fail
    refine HCK.out.mono ?_
    rintro e w4 ⟨rfl, hb4⟩
    have HR4 := hide ((hb4.block R (lt_of_block HR2.out)).trans HR2.out)
    have HX4 := hide ((hb4.block (R + 1) (lt_of_block HX2.out)).trans HX2.out)
    have HE4 := hide ((hb4.block w2.heap.size (lt_of_block HE2.out)).trans HE2.out)
    have HF4 := hide (HF2.out.below hb4 (Nat.le_refl _))
    have HO4 := hide (ownsRow_below HO3.out hb4 (Nat.le_refl _))
    have HK4 := hide (HK2.out.of_below hb4 (Nat.le_trans (by have := HB.out; have := HWS.out; have := HR.out; omega) HK2.out.below.size) rfl)
    have HK5 := hide (HWK.out.trans HK4.out)
    clear hb4 c0 c1 c2 c3 c4
    obtain ⟨c0, c1, c2, c3, c4⟩ := cell_of_five HE4.out
    obtain ⟨r0, r1, r2, r3, r4⟩ := cell_of_five HR4.out
    have g0 := free_cells_of HR4.out 0; have g1 := free_cells_of HR4.out 1; have g2 := free_cells_of HR4.out 2; have g3 := free_cells_of HR4.out 3; have g4 := free_cells_of HR4.out 4
    by_cases hc0 : cE = 0
    · subst hc0
      go_wp2
      have hz := cell_of_five (five_set HR4.out (.int .i64 es) (.int .i64 eq) (.int .i64 et) (.string ety) (.slice ao eats.length cap))
      refine bodyPost_ret (v := .tuple #[.agg #[.int .i64 es, .int .i64 eq, .int .i64 et, .string ety, .slice ao eats.length cap], .int .i64 0]) (by simp [results, Try.results96, go_sem, hz]) rfl ?_
      have h00 := HTE2.out
      have htv := HTV.out; have htr := HTR.out
      rw [if_pos h00] at htv htr
      rw [htv, htr, h00, ← HX.out, ← HLL.out]
      refine ⟨.slice ao eats.length cap, rfl, ?_, ?_, ?_⟩
      · exact ownsRow_lower (own_five HO4.out HR4.out (by decide) _ _ _ _ _) (by have := HWS.out; omega)
      · exact HF4.out.kept (kept_five HR4.out _ _ _ _ _) (by decide) (by decide)
      · exact HK5.out.five_fresh (by rw [HR.out]; exact HB.out) (by rw [HR.out]; exact Nat.le_refl _) _ _ _ _ _
    · have b1 : (cE != 0) = true := by simp [hc0]
      have HC0 := hide hc0
      have x0 := cell_of_one HX4.out
      have fq := HF4.out.free
      obtain ⟨aq, kq, hqq, _⟩ := HF4.out.row
      have q0 := cell_of_one hqq
      clear hqq
      have hback := HWr.out.back HK4.out HF4.out HWq.out
      have HBK := hide hback.1; have HK6 := hide (HWK.out.trans hback.2)
      have HR5 := hide (hback.2.typed _ _ _ _ HWR.out (by decide))
      clear hc0 hback
      go_wp2
      have hz := cell_of_five (five_set HR5.out (.int .i64 0) (.int .i64 0) (.int .i64 0) (.string ⟨#[]⟩) (.slice none 0 0))
      refine bodyPost_ret (v := .tuple #[.agg #[.int .i64 0, .int .i64 0, .int .i64 0, .string ⟨#[]⟩, .slice none 0 0], .int .i64 cE]) (by simp [results, Try.results96, go_sem, hz]) rfl ?_
      have hne : tkErr l ≠ 0 := by rw [HTE2.out]; exact HC0.out
      rw [tkEv_no hne, tkRest_no hne, HTE2.out]
      exact ⟨.slice none 0 0, rfl, World.ownsRow_nil _ _ _ _, HBK.out.kept (kept_five HR5.out _ _ _ _ _) (by decide) (by decide), HK6.out.five_fresh (by rw [HR.out]; exact HB.out) (by rw [HR.out]; exact Nat.le_refl _) _ _ _ _ _⟩
  · have b1 : ((E : Int) != 0) = true := by simp; omega
    have b2 : ((E : Int) == 0) = false := by simp; omega
    have hte := HTE.out
    rw [if_pos h0] at hte
    have HTE2 := hide hte
    have HH0 := hide h0
    obtain ⟨r0, r1, r2, r3, r4⟩ := cell_of_five HR2.out
    have g0 := free_cells_of HR2.out 0; have g1 := free_cells_of HR2.out 1; have g2 := free_cells_of HR2.out 2; have g3 := free_cells_of HR2.out 3; have g4 := free_cells_of HR2.out 4
    have x0 := cell_of_one HX2.out
    have fq := HF2.out.free
    obtain ⟨aq, kq, hqq, _⟩ := HF2.out.row
    have q0 := cell_of_one hqq
    clear hqq
    have hback := HWr.out.back HK2.out HF2.out HWq.out
    have HBK := hide hback.1; have HK6 := hide (HWK.out.trans hback.2)
    have HR5 := hide (hback.2.typed _ _ _ _ HWR.out (by decide))
    clear h0 hte hback
    go_wp2
    have hz := cell_of_five (five_set HR5.out (.int .i64 0) (.int .i64 0) (.int .i64 0) (.string ⟨#[]⟩) (.slice none 0 0))
    refine bodyPost_ret (v := .tuple #[.agg #[.int .i64 0, .int .i64 0, .int .i64 0, .string ⟨#[]⟩, .slice none 0 0], .int .i64 (E : Int)]) (by simp [results, Try.results96, go_sem, hz]) rfl ?_
    have hne : tkErr l ≠ 0 := by rw [HTE2.out]; have := HH0.out; omega
    rw [tkEv_no hne, tkRest_no hne, HTE2.out]
    exact ⟨.slice none 0 0, rfl, World.ownsRow_nil _ _ _ _, HBK.out.kept (kept_five HR5.out _ _ _ _ _) (by decide) (by decide), HK6.out.five_fresh (by rw [HR.out]; exact HB.out) (by rw [HR.out]; exact Nat.le_refl _) _ _ _ _ _⟩

end Go.Proofs.Ytpbloplbpkedcaa
namespace Go.Proofs.Ytpbloplbpkedcaa
open Go Go.RowKit

theorem psEv_wide (l : List Bool) (hl : l.length ≤ 1125899906842624) : (∀ x ∈ (psEv l).ats, x.name.size ≤ maxLen ∧ x.s.size ≤ maxLen) ∧ (psEv l).ats.length * 48 ≤ 140737488355328 := by
  have hw : 8 * (qEvent (0, l)).1.ty.size ≤ l.length ∧ (∀ x ∈ (qEvent (0, l)).1.ats, 8 * x.name.size ≤ l.length ∧ 8 * x.s.size ≤ l.length) ∧ (qEvent (0, l)).1.ats.length ≤ 8 ∧ (qEvent (0, l)).2.2.length ≤ l.length := qEvent_wide (0, l)
  by_cases h : psErr l = 0
  · rw [psEv_ok h, tkEv_ok (psErr_ok h).1]
    exact ⟨fun x hx => by have := hw.2.1 x hx; unfold maxLen; omega, by omega⟩
  · rw [psEv_no h]; exact ⟨fun x hx => (by cases hx), by decide⟩
theorem tkEv_wide (l : List Bool) (hl : l.length ≤ 1125899906842624) : (∀ x ∈ (tkEv l).ats, x.name.size ≤ maxLen ∧ x.s.size ≤ maxLen) ∧ (tkEv l).ats.length * 48 ≤ 140737488355328 := by
  have hw : 8 * (qEvent (0, l)).1.ty.size ≤ l.length ∧ (∀ x ∈ (qEvent (0, l)).1.ats, 8 * x.name.size ≤ l.length ∧ 8 * x.s.size ≤ l.length) ∧ (qEvent (0, l)).1.ats.length ≤ 8 ∧ (qEvent (0, l)).2.2.length ≤ l.length := qEvent_wide (0, l)
  by_cases h : tkErr l = 0
  · rw [tkEv_ok h]
    exact ⟨fun x hx => by have := hw.2.1 x hx; unfold maxLen; omega, by omega⟩
  · rw [tkEv_no h]; exact ⟨fun x hx => (by cases hx), by decide⟩

theorem SrcL.lower {w : World} {B B' q : Nat} {bytes : List Nat} {l : List Bool} (h : SrcL w B q bytes l) (hB : B' ≤ B) : SrcL w B' q bytes l := by
  obtain ⟨p, h1, h2⟩ := h
  obtain ⟨v, hq, ho⟩ := h1.row
  exact ⟨p, ⟨Nat.le_trans hB h1.from_, h1.len, h1.at_, h1.small, v, hq, ownsRow_lower ho hB⟩, h2⟩
end Go.Proofs.Ytpbloplbpkedcaa

/- How things stand while bounds are taken off a source, one behind the other. -/
namespace Go.Proofs.Ytpbloplbpkedcaa
open Go Go.RowKit

/-- The boxes at P (the result) and P6 (what is filled), the source, and a row of the call's own. -/
structure MtS (w0 : World) (B q P P6 : Nat) (bytes : List Nat) (l : List Bool) (v : Value) (bs : List Bd) (u : World) : Prop where
  kept : Kept B tkT w0 u
  hB : B ≤ w0.heap.size
  hP : w0.heap.size ≤ P
  hP6 : P < P6
  res : u.heap[P]? = some (.cells #[.slice none 0 0] 43 (0, 0))
  box : u.heap[P6]? = some (.cells #[v] 43 (0, 0))
  src : SrcL u B q bytes l
  only : KeptQ q w0 u
  wide : ∀ x ∈ bs, x.var.size ≤ maxLen ∧ x.ev.ty.size ≤ maxLen
  row : ∃ ys, u.ownsRow (P6 + 1) 91 6 v bs.length ys ∧ RwL (OwA u P) bs ys
theorem OwA.typed {u u' : World} {B base : Nat} {T : Nat → Bool} {v : Value} {ats : List At} (h : OwA u base v ats) (hk : Kept B T u u') (ht : T 78 = false) : OwA u' base v ats := ⟨hk.ownsRow h.1 ht, h.2⟩
theorem MtS.call {w0 u u' : World} {B q P P6 : Nat} {bytes : List Nat} {l l' : List Bool} {v : Value} {bs : List Bd} (h : MtS w0 B q P P6 bytes l v bs u) (hk : Kept B tkT u u') (hs : SrcL u' B q bytes l') (ho : KeptQ q u u') : MtS w0 B q P P6 bytes l' v bs u' := by
  obtain ⟨h1, h2, h3, h4, h5, h6, h7, hQ, h8, ys, h9, h10⟩ := h
  exact ⟨h1.trans hk, h2, h3, h4, hk.typed _ _ _ _ h5 (by decide), hk.typed _ _ _ _ h6 (by decide), hs, hQ.trans ho, h8, ys, hk.ownsRow h9 (by decide), h10.imp fun v x _ hx => hx.typed hk (by decide)⟩
theorem MtS.size {w0 u : World} {B q P P6 : Nat} {bytes : List Nat} {l : List Bool} {v : Value} {bs : List Bd} (h : MtS w0 B q P P6 bytes l v bs u) : P6 < u.heap.size := lt_of_block h.box
theorem MtS.alloc {w0 u : World} {B q P P6 : Nat} {bytes : List Nat} {l : List Bool} {v : Value} {bs : List Bd} (h : MtS w0 B q P P6 bytes l v bs u) (o : Obj) : MtS w0 B q P P6 bytes l v bs (u.alloc o) :=
  h.call ((Kept.refl _ _ _).alloc (Nat.le_trans h.hB h.kept.below.size) o) (h.src.below ((Below.refl u.heap.size u).alloc (Nat.le_refl _) o) (Nat.le_refl _)) ((KeptQ.refl _ _).alloc o)
theorem MtS.len {w0 u : World} {B q P P6 : Nat} {bytes : List Nat} {l : List Bool} {v : Value} {bs : List Bd} (h : MtS w0 B q P P6 bytes l v bs u) : l.length ≤ 1125899906842624 := by
  obtain ⟨p, hs, hl⟩ := h.src
  have := hs.len
  rw [← hl, leftL_length]; omega
/-- A bound more. -/
theorem MtS.step {w0 u u' : World} {B q P P6 : Nat} {bytes : List Nat} {l : List Bool} {v v' va : Value} {bs : List Bd} {x : Bd} {ys : List Value} (h : MtS w0 B q P P6 bytes l v bs u) (hrow : u.ownsRow (P6 + 1) 91 6 v bs.length ys) (hrw : RwL (OwA u P) bs ys)
    {aa : Option Addr} {ac : Nat} (hva : va = .slice aa x.ev.ats.length ac) (hav : OwA u P va x.ev.ats) (hw : x.var.size ≤ maxLen ∧ x.ev.ty.size ≤ maxLen)
    (hown : u'.ownsRow (P6 + 1) 91 6 v' (bs.length + 1) (ys ++ encB x va)) (hg : u.grownBy u' v.ownBlock) : MtS w0 B q P P6 bytes l v' (bs ++ [x]) (u'.setCell ⟨P6, 0, none⟩ v') := by
  subst hva
  have hsz := h.size
  obtain ⟨h1, h2, h3, h4, h5, h6, h7, hQ, h8, _⟩ := h
  have hne : ∀ k, k < P6 + 1 → some k ≠ v.ownBlock := fun k hk e => by have := (hrow.lt k e.symm).1; omega
  have hr : u'.heap[P]? = some (.cells #[.slice none 0 0] 43 (0, 0)) := (hg.block P (lt_of_block h5) (hne P (by omega))).trans h5
  have hb : u'.heap[P6]? = some (.cells #[v] 43 (0, 0)) := (hg.block P6 hsz (hne P6 (by omega))).trans h6
  have kg : Kept 0 (fun e => e == 91) u u' := (Kept.refl _ _ _).grown hrow (by decide) hg (Nat.zero_le _) (Nat.zero_le _)
  have ks : Kept 0 (fun e => e == 43) u' (u'.setCell ⟨P6, 0, none⟩ v') := (Kept.refl _ _ _).setCell (p := ⟨P6, 0, none⟩) (Nat.zero_le _) hb (by decide) v'
  refine ⟨(h1.grown_fresh hrow hg (Nat.le_trans h2 h1.below.size) (by omega) (by omega)).setCell_fresh (p := ⟨P6, 0, none⟩) (by show B ≤ P6; omega) (by show w0.heap.size ≤ P6; omega) v', h2, h3, h4, ?_, ?_, ?_, hQ.trans ((kg.keptQ (by decide)).trans (ks.keptQ (by decide))), ?_, ys ++ encB x (.slice aa x.ev.ats.length ac), ?_, ?_⟩
  · exact heap_setCell_far (p := ⟨P6, 0, none⟩) hr (by show P ≠ P6; omega) v'
  · rw [heap_setCell_same hb]; simp
  · exact (h7.kept kg (by decide) (by decide)).kept ks (by decide) (by decide)
  · intro y hy
    rcases List.mem_append.1 hy with hy | hy
    · exact h8 y hy
    · rw [List.mem_singleton.1 hy]; exact hw
  · rw [List.length_append, List.length_singleton]
    exact ks.ownsRow hown (by decide)
  · refine RwL.app (hrw.imp fun v y _ hy => (hy.typed kg (by decide)).typed ks (by decide)) (RwL.single ((hav.typed kg (by decide)).typed ks (by decide)))
/-- Behind it: the result. -/
theorem MtS.fin {w0 u : World} {B q P P6 : Nat} {bytes : List Nat} {l : List Bool} {v : Value} {bs : List Bd} (h : MtS w0 B q P P6 bytes l v bs u) (hw0 : P = w0.heap.size) (hl : bs.length ≤ 12) (d : Value) :
    BsO (u.setCell ⟨P, 0, none⟩ d) w0.heap.size v bs ∧ SrcL (u.setCell ⟨P, 0, none⟩ d) B q bytes l ∧ Kept B tkT w0 (u.setCell ⟨P, 0, none⟩ d) ∧ KeptQ q w0 (u.setCell ⟨P, 0, none⟩ d) := by
  obtain ⟨h1, h2, h3, h4, h5, h6, h7, hQ, h8, ys, h9, h10⟩ := h
  have ks : Kept 0 (fun e => e == 43) u (u.setCell ⟨P, 0, none⟩ d) := (Kept.refl _ _ _).setCell (p := ⟨P, 0, none⟩) (Nat.zero_le _) h5 (by decide) d
  refine ⟨⟨h8, by omega, ys, own_lower0 (ks.ownsRow h9 (by decide)) (by omega), h10.imp fun v y _ hy => ?_⟩, h7.kept ks (by decide) (by decide), h1.setCell_fresh (p := ⟨P, 0, none⟩) (by show B ≤ P; omega) (by show w0.heap.size ≤ P; omega) d, hQ.trans (ks.keptQ (by decide))⟩
  have := hy.typed ks (by decide)
  exact ⟨own_lower0 this.1 (by omega), this.2⟩
theorem rbBd_wide {l : List Bool} (hl : l.length ≤ 1125899906842624) : (rbBd l).var.size ≤ maxLen ∧ (rbBd l).ev.ty.size ≤ maxLen ∧ (∀ x ∈ (rbBd l).ev.ats, x.name.size ≤ maxLen ∧ x.s.size ≤ maxLen) ∧ (rbBd l).ev.ats.length * 48 ≤ 140737488355328 := by
  have h1 := textStr_size l
  have h2 := textRestL_len l
  have h3 := tkEv_wide (textRestL l) (by omega)
  have h4 : (tkEv (textRestL l)).ty.size ≤ maxLen := by
    have hq : 8 * (qEvent (0, textRestL l)).1.ty.size ≤ (textRestL l).length := (qEvent_wide (0, textRestL l)).1
    by_cases h : tkErr (textRestL l) = 0
    · rw [tkEv_ok h]; unfold maxLen; omega
    · rw [tkEv_no h]; decide
  exact ⟨by show (textStr l).size ≤ maxLen; unfold maxLen; omega, h4, h3⟩
end Go.Proofs.Ytpbloplbpkedcaa
