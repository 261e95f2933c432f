/- Contract: Clone of the program: the same pattern in memory of its own. -/
import Derived.Test.YtnfjodkpapmfkaaCk8
namespace Go.Proofs.Ytnfjodkpapmfkaa
open Go Go.RowKit

/-- A pattern as a value, all that stands below it from lo on, each part apart from the others. -/
def PtO (w : World) (lo : Nat) (p : Pt) (v : Value) : Prop :=
  ∃ ta tc ka kc wa wc m, v = .agg #[.string p.name, .int .i64 p.win, .int .i64 p.d.kind, .string p.d.var, .string p.d.ty, .slice ta p.d.tests.length tc, .slice ka p.k.len kc, .slice wa p.wh.length wc] ∧
    lo ≤ m ∧ m ≤ w.heap.size ∧ BlO w p.d (VF w p.k) p.k.len (fun x => lo ≤ x ∧ x < m) ta ka ∧ CdO w (fun x => m ≤ x ∧ x < w.heap.size) wa p.wh
theorem PtO.ptv {w : World} {lo : Nat} {p : Pt} {v : Value} (h : PtO w lo p v) : PtV w (fun x => lo ≤ x ∧ x < w.heap.size) p v := by
  obtain ⟨ta, tc, ka, kc, wa, wc, m, rfl, h1, h2, h3, h4⟩ := h
  obtain ⟨a, b⟩ := h3.kdv tc kc
  exact ⟨ta, tc, ka, kc, wa, wc, rfl, a.mono (fun x hx => ⟨hx.1, by omega⟩), ⟨ka, kc, rfl, fun hh => by
    obtain ⟨b', o', e, hb, hf⟩ := b hh
    exact ⟨b', o', e, ⟨hb.1, by omega⟩, FoAt.mono (fun x hx => ⟨hx.1, by omega⟩) hf⟩⟩, (h4.cdv wc).mono (fun x hx => ⟨by omega, hx.2⟩)⟩
theorem heap_setCell_far {w : World} {q : Nat} {p : Addr} {ob : Obj} (h : w.heap[q]? = some ob) (hne : q ≠ p.block) (u : Value) : (w.setCell p u).heap[q]? = some ob := by
  rw [Below.heap_setCell _ _ _ _ hne]; exact h
theorem free_of_eight {w : World} {q : Nat} {cs : Array Value} {t : Nat} (h : w.heap[q]? = some (.cells cs t (0, 0))) :
    w.frozen? ⟨q, 0, none⟩ = false ∧ w.frozen? ⟨q, 1, none⟩ = false ∧ w.frozen? ⟨q, 2, none⟩ = false ∧ w.frozen? ⟨q, 3, none⟩ = false ∧ w.frozen? ⟨q, 4, none⟩ = false ∧ w.frozen? ⟨q, 5, none⟩ = false ∧ w.frozen? ⟨q, 6, none⟩ = false ∧ w.frozen? ⟨q, 7, none⟩ = false :=
  ⟨frozen_of_row w q 0 _ _ h, frozen_of_row w q 1 _ _ h, frozen_of_row w q 2 _ _ h, frozen_of_row w q 3 _ _ h, frozen_of_row w q 4 _ _ h, frozen_of_row w q 5 _ _ h, frozen_of_row w q 6 _ _ h, frozen_of_row w q 7 _ _ h⟩
/-- A block of eight cells, all of them written. -/
theorem eight_set {w : World} {q : Nat} {c0 c1 c2 c3 c4 c5 c6 c7 : Value} {t : Nat} (h : w.heap[q]? = some (.cells #[c0, c1, c2, c3, c4, c5, c6, c7] t (0, 0))) (d0 d1 d2 d3 d4 d5 d6 d7 : Value) :
    ((((((((w.setCell ⟨q, 0, none⟩ d0).setCell ⟨q, 1, none⟩ d1).setCell ⟨q, 2, none⟩ d2).setCell ⟨q, 3, none⟩ d3).setCell ⟨q, 4, none⟩ d4).setCell ⟨q, 5, none⟩ d5).setCell ⟨q, 6, none⟩ d6).setCell ⟨q, 7, none⟩ d7).heap[q]? = some (.cells #[d0, d1, d2, d3, d4, d5, d6, d7] t (0, 0)) := by
  rw [heap_setCell_same (heap_setCell_same (heap_setCell_same (heap_setCell_same (heap_setCell_same (heap_setCell_same (heap_setCell_same (heap_setCell_same h _) _) _) _) _) _) _) _]
  simp
theorem chg_eight {F : Nat → Prop} {q : Nat} {a w : World} (h : Chg F a w) (hq : F q) (d0 d1 d2 d3 d4 d5 d6 d7 : Value) :
    Chg F a ((((((((w.setCell ⟨q, 0, none⟩ d0).setCell ⟨q, 1, none⟩ d1).setCell ⟨q, 2, none⟩ d2).setCell ⟨q, 3, none⟩ d3).setCell ⟨q, 4, none⟩ d4).setCell ⟨q, 5, none⟩ d5).setCell ⟨q, 6, none⟩ d6).setCell ⟨q, 7, none⟩ d7) :=
  (((((((h.setCell (p := ⟨q, 0, none⟩) hq _).setCell (p := ⟨q, 1, none⟩) hq _).setCell (p := ⟨q, 2, none⟩) hq _).setCell (p := ⟨q, 3, none⟩) hq _).setCell (p := ⟨q, 4, none⟩) hq _).setCell (p := ⟨q, 5, none⟩) hq _).setCell (p := ⟨q, 6, none⟩) hq _).setCell (p := ⟨q, 7, none⟩) hq _
set_option maxRecDepth 100000 in
set_option maxHeartbeats 4000000 in
theorem cClone_any (p : Pt) (v : Value) (w : World) (hv : PtV w (fun x => x < w.heap.size) p v) (hsz : szP p ≤ 1048576) :
    Calls Try.prog 13 #[v] w fun e w' => ∃ v', e = .returned v' ∧ PtO w' w.heap.size p v' ∧ Below w.heap.size w w' := by
  obtain ⟨name, win, d, k, wh⟩ := p
  obtain ⟨ta, tc, ka, kc, wa, wc, rfl, ht, hk, hw⟩ := hv
  simp only [szP] at hsz
  simp only at ht hk hw
  obtain ⟨P, hP⟩ : ∃ P, P = w.heap.size := ⟨_, rfl⟩
  obtain ⟨W2, hW2⟩ : ∃ W2, W2 = (w.alloc (.cells #[.string name, .int .i64 win, .int .i64 d.kind, .string d.var, .string d.ty, .slice ta d.tests.length tc, .slice ka k.len kc, .slice wa wh.length wc] 27)).alloc (.cells #[.string ⟨#[]⟩, .int .i64 0, .int .i64 0, .string ⟨#[]⟩, .string ⟨#[]⟩, .slice none 0 0, .slice none 0 0, .slice none 0 0] 27) := ⟨_, rfl⟩
  have hb2 : Below P w W2 := by rw [hW2, hP]; exact ((Below.refl _ _).alloc (Nat.le_refl _) _).alloc (by simp) _
  have hr1 : W2.heap[P]? = some (.cells #[.string name, .int .i64 win, .int .i64 d.kind, .string d.var, .string d.ty, .slice ta d.tests.length tc, .slice ka k.len kc, .slice wa wh.length wc] 27 (0, 0)) := by rw [hW2, hP]; exact heap_alloc_keeps (heap_alloc_new _ _) _
  have hr2 : W2.heap[P + 1]? = some (.cells #[.string ⟨#[]⟩, .int .i64 0, .int .i64 0, .string ⟨#[]⟩, .string ⟨#[]⟩, .slice none 0 0, .slice none 0 0, .slice none 0 0] 27 (0, 0)) := by
    have := heap_alloc_new (w.alloc (.cells #[.string name, .int .i64 win, .int .i64 d.kind, .string d.var, .string d.ty, .slice ta d.tests.length tc, .slice ka k.len kc, .slice wa wh.length wc] 27)) (.cells #[.string ⟨#[]⟩, .int .i64 0, .int .i64 0, .string ⟨#[]⟩, .string ⟨#[]⟩, .slice none 0 0, .slice none 0 0, .slice none 0 0] 27)
    rw [World.size_alloc, ← hW2, ← hP] at this
    exact this
  have hz2 : W2.heap.size = P + 2 := by rw [hW2, hP]; simp
  have hK2 : Keep (fun x => x < P) w W2 := fun x hx => hb2.block x hx
  rw [← hP] at ht hk hw
  obtain ⟨ka', kc', hke, hkk⟩ := hk
  simp only [Value.slice.injEq, true_and] at hke
  obtain ⟨rfl, rfl⟩ := hke
  have hnd : NdP W2 (fun x => x < W2.heap.size) d k P 2 := by
    obtain ⟨_, _, x2, x3, x4, x5, x6, _⟩ := cell_of_eight hr1
    refine ⟨ta, tc, ka, kc, x2, x3, x4, x5, x6, (ht.keep hK2).mono (fun x hx => by omega), fun hh => ?_⟩
    obtain ⟨b', o', e, hb', hf⟩ := hkk hh
    exact ⟨b', o', e, by omega, FoAt.mono (fun x hx => by omega) (FoAt.keep hK2 hb' hf)⟩
  have HE := Lib.hid (cEnds_any d k P 2 W2 hnd (by omega) (by omega))
  -- behind ends: the closure's box
  have HC1 := Lib.hid (fun (w3 : World) (h3 : Below W2.heap.size W2 w3) => (by
    have hz3 := h3.size
    have q0 : (w3.alloc (.cells #[.func (.func 54) #[] #[.pointer (some ⟨w3.heap.size, 0, none⟩)]] 38)).heap[w3.heap.size]? = some (.cells #[.func (.func 54) #[] #[.pointer (some ⟨w3.heap.size, 0, none⟩)]] 38 (0, 0)) := heap_alloc_new _ _
    have p0 : (w3.alloc (.cells #[.func (.func 54) #[] #[.pointer (some ⟨w3.heap.size, 0, none⟩)]] 38)).heap[P]? = _ := heap_alloc_keeps ((h3.block P (by omega)).trans hr1) _
    have hK : Keep (fun x => x < P) w (w3.alloc (.cells #[.func (.func 54) #[] #[.pointer (some ⟨w3.heap.size, 0, none⟩)]] 38)) := fun x hx => by
      rw [Below.heap_alloc _ _ _ (by omega), h3.block x (by omega)]; exact hK2 x hx
    refine ⟨cell_of_one q0, cClone1_any w3.heap.size (fun x => x < P) d k _ P 2 _ 27 ta tc ka kc p0 (fun j u hj => ?_) (ht.keep hK) (fun hh => ?_) (fun x hx => ⟨by simp; omega, by omega⟩) (by omega) q0 (by omega)⟩
    · match j, hj with
      | 0, hj => exact hj
      | 1, hj => exact hj
      | 2, hj => exact hj
      | 3, hj => exact hj
      | 4, hj => exact hj
      | j + 5, hj => simp [nd5] at hj
    · obtain ⟨b', o', e, hb', hf⟩ := hkk hh
      exact ⟨b', o', e, hb', FoAt.keep hK hb' hf⟩ :
    (w3.alloc (.cells #[.func (.func 54) #[] #[.pointer (some ⟨w3.heap.size, 0, none⟩)]] 38)).cell? ⟨w3.heap.size, 0, none⟩ = some (.func (.func 54) #[] #[.pointer (some ⟨w3.heap.size, 0, none⟩)]) ∧ Calls Try.prog 54 #[.pointer (some ⟨P, 2, none⟩), .pointer (some ⟨w3.heap.size, 0, none⟩)] (w3.alloc (.cells #[.func (.func 54) #[] #[.pointer (some ⟨w3.heap.size, 0, none⟩)]] 38)) _))
  have HW2 := Lib.hid hW2; have HP := Lib.hid hP; have HB2 := Lib.hid hb2; have HR1 := Lib.hid hr1; have HR2 := Lib.hid hr2; have HZ2 := Lib.hid hz2
  have HWH := Lib.hid hw; have HK2 := Lib.hid hK2; have HSZ := Lib.hid hsz
  clear hW2 hP hb2 hr1 hr2 hz2 hK2 hw ht hkk hnd hsz
  go_enter Try.func13, Try.ntmps13
  go_wp2_with fail
  rw [← HP.out, ← HW2.out]
  go_wp2_with (go_at_call 53; (with_reducible refine HE.out.mono ?_); rintro e w3 ⟨rfl, hb3⟩; obtain ⟨y0, y1⟩ := HC1.out w3 hb3; have HCL := Lib.hid y1; have HB3 := Lib.hid hb3; clear y1 hb3)
  have hz3 := HB3.out.size
  have hzz : (w3.alloc (.cells #[.func (.func 54) #[] #[.pointer (some ⟨w3.heap.size, 0, none⟩)]] 38)).heap.size = w3.heap.size + 1 := by simp
  have hbk : ∀ x, x < w3.heap.size → (w3.alloc (.cells #[.func (.func 54) #[] #[.pointer (some ⟨w3.heap.size, 0, none⟩)]] 38)).heap[x]? = w3.heap[x]? := fun x hx => Below.heap_alloc _ _ _ hx
  have hb34 : Below w3.heap.size w3 (w3.alloc (.cells #[.func (.func 54) #[] #[.pointer (some ⟨w3.heap.size, 0, none⟩)]] 38)) := (Below.refl _ _).alloc (Nat.le_refl _) _
  generalize (w3.alloc (.cells #[.func (.func 54) #[] #[.pointer (some ⟨w3.heap.size, 0, none⟩)]] 38)) = W3 at HCL y0 hzz hbk hb34 ⊢
  have HZ3 := Lib.hid hz3; have HZZ := Lib.hid hzz; have HBK := Lib.hid hbk; have HB34 := Lib.hid hb34
  clear hz3 hzz hbk y0 hb34
  have HA4 := Lib.hid (fun (w4 : World) (ta2 : Option Addr) (tc2 : Nat) (ka2 : Option Addr) (kc2 : Nat) (h1 : w4.heap[P]? = some (.cells ((#[.string name, .int .i64 win, .int .i64 d.kind, .string d.var, .string d.ty, .slice ta d.tests.length tc, .slice ka k.len kc, .slice wa wh.length wc].setIfInBounds (2 + 3) (Value.slice ta2 d.tests.length tc2)).setIfInBounds (2 + 4) (.slice ka2 k.len kc2)) 27 (0, 0))) (h2 : Chg (fun x => x = P) W3 w4) => (by
    have hz3 := HZ3.out; have hz2 := HZ2.out; have hzz := HZZ.out
    refine ⟨h1, (h2.block (P + 1) (by omega) (by omega)).trans ((HBK.out (P + 1) (by omega)).trans ((HB3.out.block (P + 1) (by omega)).trans HR2.out)), clonedC_any wa wc wh (fun x => x < P) w4 (HWH.out.keep (fun x hx => ?_)) (by have := szT_len wh; have := HSZ.out; omega)⟩
    rw [h2.block x (by omega) (by omega), HBK.out x (by omega), HB3.out.block x (by omega)]
    exact HK2.out x hx :
    w4.heap[P]? = some (.cells #[.string name, .int .i64 win, .int .i64 d.kind, .string d.var, .string d.ty, .slice ta2 d.tests.length tc2, .slice ka2 k.len kc2, .slice wa wh.length wc] 27 (0, 0)) ∧
    w4.heap[P + 1]? = some (.cells #[.string ⟨#[]⟩, .int .i64 0, .int .i64 0, .string ⟨#[]⟩, .string ⟨#[]⟩, .slice none 0 0, .slice none 0 0, .slice none 0 0] 27 (0, 0)) ∧
    Calls Try.prog 55 #[.slice wa wh.length wc] w4 fun e w' => ∃ ao cap, e = .returned (.slice ao wh.length cap) ∧ CdO w' (fun x => w4.heap.size ≤ x ∧ x < w'.heap.size) ao wh ∧ Below w4.heap.size w4 w'))
  go_wp2_with (first
    | (go_at_call 54; (with_reducible refine HCL.out.mono ?_); rintro e w4 ⟨rfl, ta2, tc2, ka2, kc2, h1, h2, h3⟩; obtain ⟨p0, p1, hcc⟩ := HA4.out w4 ta2 tc2 ka2 kc2 h1 h2; have HCC := Lib.hid hcc; have HP0 := Lib.hid p0; have HP1 := Lib.hid p1; have HC4 := Lib.hid h2; have HBL := Lib.hid h3; obtain ⟨z0, z1, z2, z3, z4, z5, z6, z7⟩ := cell_of_eight p0; clear h1 h2 h3 p0 p1 hcc)
    | (go_at_call 55; (with_reducible refine HCC.out.mono ?_); rintro e w5 ⟨ao, cap, rfl, hcd, hb5⟩; have q0 := (hb5.block P (lt_of_block HP0.out)).trans HP0.out; have q1 := (hb5.block (P + 1) (lt_of_block HP1.out)).trans HP1.out; clear z0 z1 z2 z3 z4 z5 z6 z7; obtain ⟨c0, c1, c2, c3, c4, c5, c6, c7⟩ := cell_of_eight q0; obtain ⟨f0, f1, f2, f3, f4, f5, f6, f7⟩ := free_of_eight q0; obtain ⟨d0, d1, d2, d3, d4, d5, d6, d7⟩ := cell_of_eight q1; obtain ⟨g0, g1, g2, g3, g4, g5, g6, g7⟩ := free_of_eight q1; have HQ0 := Lib.hid q0; have HQ1 := Lib.hid q1; have HCD := Lib.hid hcd; have HB5 := Lib.hid hb5; clear q0 q1 hcd hb5))
  have hp1 := heap_setCell_far (p := ⟨P, 7, none⟩) HQ1.out (by simp) (.slice ao wh.length cap)
  have z := cell_of_eight (eight_set hp1 (.string name) (.int .i64 win) (.int .i64 d.kind) (.string d.var) (.string d.ty) (.slice ta2 d.tests.length tc2) (.slice ka2 k.len kc2) (.slice ao wh.length cap))
  refine bodyPost_ret (v := .agg #[.string name, .int .i64 win, .int .i64 d.kind, .string d.var, .string d.ty, .slice ta2 d.tests.length tc2, .slice ka2 k.len kc2, .slice ao wh.length cap]) (by simp [results, Try.results13, go_sem, z]) rfl ⟨_, rfl, ?_⟩
  have hchg : Chg (fun x => x = P ∨ x = P + 1) w5 _ := chg_eight (q := P + 1) (Chg.setCell (F := fun x => x = P ∨ x = P + 1) (Chg.refl _ w5) (p := ⟨P, 7, none⟩) (.inl rfl) (.slice ao wh.length cap)) (.inr rfl) (.string name) (.int .i64 win) (.int .i64 d.kind) (.string d.var) (.string d.ty) (.slice ta2 d.tests.length tc2) (.slice ka2 k.len kc2) (.slice ao wh.length cap)
  have hz3 := HZ3.out; have hz2 := HZ2.out; have hzz := HZZ.out; have hz5 := HB5.out.size; have hzc := hchg.size; have hz4 := HC4.out.size
  have hpw : Below P w w5 := ((HB2.out.trans (HB3.out.mono (by omega))).trans (HB34.out.mono (by omega))).trans ((HC4.out.below (B := P) (by omega) (fun x hx => by omega)).trans (HB5.out.mono (by omega)))
  rw [← HP.out]
  refine ⟨⟨ta2, tc2, ka2, kc2, ao, cap, w4.heap.size, rfl, by omega, by omega, ?_, ?_⟩, hpw.trans (hchg.below (by omega) (fun x hx => by omega))⟩
  · have h1 := HBL.out.keepV (w' := w5) (fun x hx => HB5.out.block x hx.2)
    have h2 := h1.keepV (fun x hx => hchg.block x (by omega) (by omega))
    exact h2.mono (fun x hx => ⟨by omega, hx.2⟩)
  · have h1 := HCD.out.keep (fun x hx => hchg.block x hx.2 (by omega))
    exact h1.mono (fun x hx => ⟨hx.1, by omega⟩)
end Go.Proofs.Ytnfjodkpapmfkaa
