/- CheckSame of eyrielaw07. -/
import Derived.Test.YtnfjodkpapmfkaaSv8
import Derived.Test.YtnfjodkpapmfkaaSl8
import Derived.Test.YtnfjodkpapmfkaaSf7
import Derived.Test.YtnfjodkpapmfkaaLi7
namespace Go.Proofs.Ytnfjodkpapmfkaa
open Go Go.RowKit Go.Lib

theorem PtV.live {w u : World} {G : Nat → Prop} {p : Pt} {v : Value} (h : PtV w G p v) (hk : Keep G w u) (hl : ∀ x, G x → x < u.heap.size) : PtV u (fun x => x < u.heap.size) p v := by
  obtain ⟨ta, tc, ka, kc, wa, wc, rfl, ht, ⟨ka0, kc0, hke, hkk⟩, hw⟩ := h
  refine ⟨ta, tc, ka, kc, wa, wc, rfl, (ht.keep hk).mono hl, ⟨ka0, kc0, hke, fun hn => ?_⟩, (hw.keep hk).mono hl⟩
  obtain ⟨b, o, e, hb, hf⟩ := hkk hn
  exact ⟨b, o, e, hl b hb, FoAt.mono hl (FoAt.keep hk hb hf)⟩
theorem PtV.nd {w : World} {G : Nat → Prop} {p : Pt} {ta ka wa : Option Addr} {tc kc wc : Nat} (h : PtV w G p (.agg #[.string p.name, .int .i64 p.win, .int .i64 p.d.kind, .string p.d.var, .string p.d.ty, .slice ta p.d.tests.length tc, .slice ka p.k.len kc, .slice wa p.wh.length wc])) : NdV w G p.d p.k (.agg #[.int .i64 p.d.kind, .string p.d.var, .string p.d.ty, .slice ta p.d.tests.length tc, .slice ka p.k.len kc]) := by
  obtain ⟨ta0, tc0, ka0, kc0, wa0, wc0, he, ht, hk, hw⟩ := h
  simp only [Value.agg.injEq, Array.mk.injEq, List.cons.injEq, Value.slice.injEq, true_and, and_true] at he
  obtain ⟨⟨rfl, rfl⟩, ⟨rfl, rfl⟩, rfl, rfl⟩ := he
  exact ⟨_, _, rfl, ht, hk⟩
set_option maxRecDepth 100000 in
set_option maxHeartbeats 16000000 in
theorem same7_walk (p q : Pt) (v v' : Value) (w : World) (hv : PtV w (fun x => x < w.heap.size) p v) (hv' : PtV w (fun x => x < w.heap.size) q v') (hsz : szP p ≤ 1048576) (hszq : szP q ≤ 1048576) :
    Calls Try.prog 3 #[v, v'] w fun e w' => e = .returned (.bool true) ∧ Below w.heap.size w w' := by
  have hvv := hv; have hvv' := hv'
  obtain ⟨ta, tc, ka, kc, wa, wc, rfl, ht, hk, hw⟩ := hv
  obtain ⟨ta', tc', ka', kc', wa', wc', rfl, ht', hk', hw'⟩ := hv'
  obtain ⟨P, hP⟩ : ∃ P, P = w.heap.size := ⟨_, rfl⟩
  obtain ⟨W1, hW1⟩ : ∃ W1, W1 = (w.alloc (.cells #[.string p.name, .int .i64 p.win, .int .i64 p.d.kind, .string p.d.var, .string p.d.ty, .slice ta p.d.tests.length tc, .slice ka p.k.len kc, .slice wa p.wh.length wc] 27)).alloc (.cells #[.string q.name, .int .i64 q.win, .int .i64 q.d.kind, .string q.d.var, .string q.d.ty, .slice ta' q.d.tests.length tc', .slice ka' q.k.len kc', .slice wa' q.wh.length wc'] 27) := ⟨_, rfl⟩
  have hb1 : Below P w W1 := by rw [hW1, hP]; exact ((Below.refl _ _).alloc (Nat.le_refl _) _).alloc (by simp) _
  have hr1 : W1.heap[P]? = some (.cells #[.string p.name, .int .i64 p.win, .int .i64 p.d.kind, .string p.d.var, .string p.d.ty, .slice ta p.d.tests.length tc, .slice ka p.k.len kc, .slice wa p.wh.length wc] 27 (0, 0)) := by rw [hW1, hP]; exact heap_alloc_keeps (heap_alloc_new _ _) _
  have hr2 : W1.heap[P + 1]? = some (.cells #[.string q.name, .int .i64 q.win, .int .i64 q.d.kind, .string q.d.var, .string q.d.ty, .slice ta' q.d.tests.length tc', .slice ka' q.k.len kc', .slice wa' q.wh.length wc'] 27 (0, 0)) := by
    have := heap_alloc_new (w.alloc (.cells #[.string p.name, .int .i64 p.win, .int .i64 p.d.kind, .string p.d.var, .string p.d.ty, .slice ta p.d.tests.length tc, .slice ka p.k.len kc, .slice wa p.wh.length wc] 27)) (.cells #[.string q.name, .int .i64 q.win, .int .i64 q.d.kind, .string q.d.var, .string q.d.ty, .slice ta' q.d.tests.length tc', .slice ka' q.k.len kc', .slice wa' q.wh.length wc'] 27)
    rw [World.size_alloc, ← hW1, ← hP] at this
    exact this
  have hz1 : W1.heap.size = P + 2 := by rw [hW1, hP]; simp
  rw [← hP] at hvv hvv'
  have hpv : ∀ u, Keep (fun x => x < P) W1 u → P ≤ u.heap.size → PtV u (fun x => x < u.heap.size) p (.agg #[.string p.name, .int .i64 p.win, .int .i64 p.d.kind, .string p.d.var, .string p.d.ty, .slice ta p.d.tests.length tc, .slice ka p.k.len kc, .slice wa p.wh.length wc]) := fun u hu hl => hvv.live (fun x hx => (hu x hx).trans (hb1.block x hx)) (fun x hx => Nat.lt_of_lt_of_le hx hl)
  have hqv : ∀ u, Keep (fun x => x < P) W1 u → P ≤ u.heap.size → PtV u (fun x => x < u.heap.size) q (.agg #[.string q.name, .int .i64 q.win, .int .i64 q.d.kind, .string q.d.var, .string q.d.ty, .slice ta' q.d.tests.length tc', .slice ka' q.k.len kc', .slice wa' q.wh.length wc']) := fun u hu hl => hvv'.live (fun x hx => (hu x hx).trans (hb1.block x hx)) (fun x hx => Nat.lt_of_lt_of_le hx hl)
  have hbk : ∀ u, Below W1.heap.size W1 u → Keep (fun x => x < P) W1 u ∧ P ≤ u.heap.size := fun u hu => ⟨fun x hx => hu.block x (by omega), by have := hu.size; omega⟩
  have hszn : szD p.d + szF p.k ≤ 1048576 := by simp only [szP] at hsz; omega
  have hsznq : szD q.d + szF q.k ≤ 1048576 := by simp only [szP] at hszq; omega
  have HX := Lib.hid (fun (u : World) (hu : Below W1.heap.size W1 u) => (by
    obtain ⟨a0, a1, a2, a3, a4, a5, a6, a7⟩ := cell_of_eight ((hu.block P (by omega)).trans hr1)
    obtain ⟨b0, b1, b2, b3, b4, b5, b6, b7⟩ := cell_of_eight ((hu.block (P + 1) (by omega)).trans hr2)
    exact ⟨a0, a1, a2, a3, a4, a5, a6, a7, b0, b1, b2, b3, b4, b5, b6, b7⟩ : u.cell? ⟨P, 0, none⟩ = some (.string p.name) ∧ u.cell? ⟨P, 1, none⟩ = some (.int .i64 p.win) ∧ u.cell? ⟨P, 2, none⟩ = some (.int .i64 p.d.kind) ∧ u.cell? ⟨P, 3, none⟩ = some (.string p.d.var) ∧ u.cell? ⟨P, 4, none⟩ = some (.string p.d.ty) ∧ u.cell? ⟨P, 5, none⟩ = some (.slice ta p.d.tests.length tc) ∧ u.cell? ⟨P, 6, none⟩ = some (.slice ka p.k.len kc) ∧ u.cell? ⟨P, 7, none⟩ = some (.slice wa p.wh.length wc) ∧ u.cell? ⟨P + 1, 0, none⟩ = some (.string q.name) ∧ u.cell? ⟨P + 1, 1, none⟩ = some (.int .i64 q.win) ∧ u.cell? ⟨P + 1, 2, none⟩ = some (.int .i64 q.d.kind) ∧ u.cell? ⟨P + 1, 3, none⟩ = some (.string q.d.var) ∧ u.cell? ⟨P + 1, 4, none⟩ = some (.string q.d.ty) ∧ u.cell? ⟨P + 1, 5, none⟩ = some (.slice ta' q.d.tests.length tc') ∧ u.cell? ⟨P + 1, 6, none⟩ = some (.slice ka' q.k.len kc') ∧ u.cell? ⟨P + 1, 7, none⟩ = some (.slice wa' q.wh.length wc')))
  have HF := Lib.hid (fun (u : World) (hu : Below W1.heap.size W1 u) => fits7_any p.d p.k _ u (hpv u (hbk u hu).1 (hbk u hu).2).nd hszn)
  have HFq := Lib.hid (fun (u : World) (hu : Below W1.heap.size W1 u) => fits7_any q.d q.k _ u (hqv u (hbk u hu).1 (hbk u hu).2).nd hsznq)
  have HCL := Lib.hid (fun (u : World) (hu : Below W1.heap.size W1 u) => cClone_any p _ u (hpv u (hbk u hu).1 (hbk u hu).2) hsz)
  have HE := Lib.hid (fun (u : World) (hu : Below P W1 u) => hb1.trans hu)
  have HPV := Lib.hid hpv; have HQV := Lib.hid hqv; have HBK := Lib.hid hbk
  have HW := Lib.hid hW1; have HP := Lib.hid hP; have HSZ := Lib.hid hsz; have HZ1 := Lib.hid hz1; have HR1 := Lib.hid hr1
  have B2 := Lib.hid (Below.refl W1.heap.size W1)
  rw [← hP]
  clear ht hk hw ht' hk' hw' hvv hvv' hb1 hr1 hr2 hz1 hpv hqv hbk hsz hszq hszn hsznq hW1 hP
  cases hf : fitsN p.k with
  | false =>
    rw [hf] at HF
    clear hf
    go_enter Try.func3, Try.ntmps3
    go_wp2_with fail
    rw [← HP.out, ← HW.out]
    obtain ⟨x0, x1, x2, x3, x4, x5, x6, x7, y0, y1, y2, y3, y4, y5, y6, y7⟩ := HX.out _ B2.out
    go_wp2_with (first
      | (go_at_call 11; (with_reducible refine (HF.out _ B2.out).mono ?_); rintro e w4 ⟨rfl, hb⟩; clear HF; have B2 := Lib.hid (B2.out.trans (hb.mono B2.out.size)); clear hb x0 x1 x2 x3 x4 x5 x6 x7 y0 y1 y2 y3 y4 y5 y6 y7; obtain ⟨x0, x1, x2, x3, x4, x5, x6, x7, y0, y1, y2, y3, y4, y5, y6, y7⟩ := HX.out _ B2.out)
      | (go_at_call 12; (with_reducible refine (live7_any _).mono ?_); rintro e w3 ⟨rfl, hb⟩; have B2 := Lib.hid (B2.out.trans (hb.mono B2.out.size)); clear hb x0 x1 x2 x3 x4 x5 x6 x7 y0 y1 y2 y3 y4 y5 y6 y7; obtain ⟨x0, x1, x2, x3, x4, x5, x6, x7, y0, y1, y2, y3, y4, y5, y6, y7⟩ := HX.out _ B2.out))
    all_goals go_ret
    all_goals exact ⟨rfl, HE.out _ (B2.out.mono (by have := HZ1.out; omega))⟩
  | true =>
    rw [hf] at HF
    clear hf
    cases hfq : fitsN q.k with
    | false =>
      rw [hfq] at HFq
      clear hfq
      go_enter Try.func3, Try.ntmps3
      go_wp2_with fail
      rw [← HP.out, ← HW.out]
      obtain ⟨x0, x1, x2, x3, x4, x5, x6, x7, y0, y1, y2, y3, y4, y5, y6, y7⟩ := HX.out _ B2.out
      go_wp2_with (first
        | (go_at_call 11; (with_reducible refine (HF.out _ B2.out).mono ?_); rintro e w4 ⟨rfl, hb⟩; clear HF; have B2 := Lib.hid (B2.out.trans (hb.mono B2.out.size)); clear hb x0 x1 x2 x3 x4 x5 x6 x7 y0 y1 y2 y3 y4 y5 y6 y7; obtain ⟨x0, x1, x2, x3, x4, x5, x6, x7, y0, y1, y2, y3, y4, y5, y6, y7⟩ := HX.out _ B2.out)
        | (go_at_call 11; (with_reducible refine (HFq.out _ B2.out).mono ?_); rintro e w4 ⟨rfl, hb⟩; have B2 := Lib.hid (B2.out.trans (hb.mono B2.out.size)); clear hb x0 x1 x2 x3 x4 x5 x6 x7 y0 y1 y2 y3 y4 y5 y6 y7; obtain ⟨x0, x1, x2, x3, x4, x5, x6, x7, y0, y1, y2, y3, y4, y5, y6, y7⟩ := HX.out _ B2.out)
        | (go_at_call 12; (with_reducible refine (live7_any _).mono ?_); rintro e w3 ⟨rfl, hb⟩; have B2 := Lib.hid (B2.out.trans (hb.mono B2.out.size)); clear hb x0 x1 x2 x3 x4 x5 x6 x7 y0 y1 y2 y3 y4 y5 y6 y7; obtain ⟨x0, x1, x2, x3, x4, x5, x6, x7, y0, y1, y2, y3, y4, y5, y6, y7⟩ := HX.out _ B2.out))
      all_goals go_ret
      all_goals exact ⟨rfl, HE.out _ (B2.out.mono (by have := HZ1.out; omega))⟩
    | true =>
      rw [hfq] at HFq
      clear hfq
      go_enter Try.func3, Try.ntmps3
      go_wp2_with fail
      rw [← HP.out, ← HW.out]
      obtain ⟨x0, x1, x2, x3, x4, x5, x6, x7, y0, y1, y2, y3, y4, y5, y6, y7⟩ := HX.out _ B2.out
      go_wp2_with (first
        | (go_at_call 11; (with_reducible refine (HF.out _ B2.out).mono ?_); rintro e w4 ⟨rfl, hb⟩; clear HF; have B2 := Lib.hid (B2.out.trans (hb.mono B2.out.size)); clear hb x0 x1 x2 x3 x4 x5 x6 x7 y0 y1 y2 y3 y4 y5 y6 y7; obtain ⟨x0, x1, x2, x3, x4, x5, x6, x7, y0, y1, y2, y3, y4, y5, y6, y7⟩ := HX.out _ B2.out)
        | (go_at_call 11; (with_reducible refine (HFq.out _ B2.out).mono ?_); rintro e w4 ⟨rfl, hb⟩; have B2 := Lib.hid (B2.out.trans (hb.mono B2.out.size)); clear hb x0 x1 x2 x3 x4 x5 x6 x7 y0 y1 y2 y3 y4 y5 y6 y7; obtain ⟨x0, x1, x2, x3, x4, x5, x6, x7, y0, y1, y2, y3, y4, y5, y6, y7⟩ := HX.out _ B2.out)
        | (go_at_call 12; (with_reducible refine (live7_any _).mono ?_); rintro e w3 ⟨rfl, hb⟩; have B2 := Lib.hid (B2.out.trans (hb.mono B2.out.size)); clear hb x0 x1 x2 x3 x4 x5 x6 x7 y0 y1 y2 y3 y4 y5 y6 y7; obtain ⟨x0, x1, x2, x3, x4, x5, x6, x7, y0, y1, y2, y3, y4, y5, y6, y7⟩ := HX.out _ B2.out)
        | (go_at_call 13; (with_reducible refine (HCL.out _ B2.out).mono ?_); rintro e w5 ⟨v5, rfl, ho, hb⟩; obtain ⟨ta2, tc2, ka2, kc2, wa2, wc2, m5, rfl, h1, h2, h3, h4⟩ := ho; have HL5 := Lib.hid (And.intro h1 h2); have HBL := Lib.hid h3; obtain ⟨S5, hS5, h3'⟩ : ∃ S5 : Nat → Prop, (∀ x, S5 x → W1.heap.size ≤ x ∧ x < m5) ∧ BlO w5 p.d (VF w5 p.k) p.k.len S5 ta2 ka2 := ⟨_, fun x hx => ⟨Nat.le_trans B2.out.size hx.1, hx.2⟩, h3⟩; have HBS := Lib.hid h3'; have HS5 := Lib.hid hS5; clear h3' hS5; have HCD := Lib.hid h4; have B3 := Lib.hid B2.out; have B2 := Lib.hid (B2.out.trans (hb.mono B2.out.size)); clear h1 h2 h3 h4 hb x0 x1 x2 x3 x4 x5 x6 x7 y0 y1 y2 y3 y4 y5 y6 y7))
      have hq0 := heap_alloc_new w5 (.cells #[.string p.name, .int .i64 p.win, .int .i64 p.d.kind, .string p.d.var, .string p.d.ty, .slice ta2 p.d.tests.length tc2, .slice ka2 p.k.len kc2, .slice wa2 p.wh.length wc2] 27)
      have hz0 : (w5.alloc (.cells #[.string p.name, .int .i64 p.win, .int .i64 p.d.kind, .string p.d.var, .string p.d.ty, .slice ta2 p.d.tests.length tc2, .slice ka2 p.k.len kc2, .slice wa2 p.wh.length wc2] 27)).heap.size = w5.heap.size + 1 := by simp
      have hb0 : Below w5.heap.size w5 (w5.alloc (.cells #[.string p.name, .int .i64 p.win, .int .i64 p.d.kind, .string p.d.var, .string p.d.ty, .slice ta2 p.d.tests.length tc2, .slice ka2 p.k.len kc2, .slice wa2 p.wh.length wc2] 27)) := (Below.refl _ _).alloc (Nat.le_refl _) _
      generalize (w5.alloc (.cells #[.string p.name, .int .i64 p.win, .int .i64 p.d.kind, .string p.d.var, .string p.d.ty, .slice ta2 p.d.tests.length tc2, .slice ka2 p.k.len kc2, .slice wa2 p.wh.length wc2] 27)) = W2 at hq0 hz0 hb0 ⊢
      obtain ⟨Q, hQ⟩ : ∃ Q, Q = w5.heap.size := ⟨_, rfl⟩
      rw [← hQ] at hq0 hz0 hb0 ⊢
      have B4 := Lib.hid (B2.out.trans (hb0.mono (by rw [hQ]; exact B2.out.size)))
      have HZ0 := Lib.hid hz0; have HB0 := Lib.hid hb0; have HQ := Lib.hid hQ; have HQ0 := Lib.hid hq0
      have HCV := Lib.hid (fun (u : World) (hu : Below W2.heap.size W2 u) => ((show PtO w5 _ p (.agg #[.string p.name, .int .i64 p.win, .int .i64 p.d.kind, .string p.d.var, .string p.d.ty, .slice ta2 p.d.tests.length tc2, .slice ka2 p.k.len kc2, .slice wa2 p.wh.length wc2]) from ⟨ta2, tc2, ka2, kc2, wa2, wc2, m5, rfl, HL5.out.1, HL5.out.2, HBL.out, HCD.out⟩).ptv.live (u := u) (fun x hx => by
        have := HZ0.out; have := HQ.out
        rw [hu.block x (by omega), HB0.out.block x (by omega)]) (fun x hx => by have := hu.size; have := HZ0.out; have := HQ.out; omega)))
      have HXC := Lib.hid (fun (u : World) (hu : Below W2.heap.size W2 u) => cell_of_eight ((hu.block Q (lt_of_block HQ0.out)).trans HQ0.out))
      have HT := Lib.hid (fun (u : World) (hu : Below W2.heap.size W2 u) => B4.out.trans (hu.mono B4.out.size))
      have HS1 := Lib.hid (fun (u : World) (hu : Below W2.heap.size W2 u) => cSame_any p q _ _ u (HPV.out u (HBK.out u (HT.out u hu)).1 (HBK.out u (HT.out u hu)).2) (HQV.out u (HBK.out u (HT.out u hu)).1 (HBK.out u (HT.out u hu)).2) HSZ.out)
      have HS2 := Lib.hid (fun (u : World) (hu : Below W2.heap.size W2 u) => r7Same_any p q _ _ u (HPV.out u (HBK.out u (HT.out u hu)).1 (HBK.out u (HT.out u hu)).2) (HQV.out u (HBK.out u (HT.out u hu)).1 (HBK.out u (HT.out u hu)).2) HSZ.out)
      have HS3 := Lib.hid (fun (u : World) (hu : Below W2.heap.size W2 u) => cSame_any p p _ _ u (HPV.out u (HBK.out u (HT.out u hu)).1 (HBK.out u (HT.out u hu)).2) (HCV.out u hu) HSZ.out)
      have HS4 := Lib.hid (fun (u : World) (hu : Below W2.heap.size W2 u) => r7Same_any p p _ _ u (HPV.out u (HBK.out u (HT.out u hu)).1 (HBK.out u (HT.out u hu)).2) (HCV.out u hu) HSZ.out)
      rw [sameP_self] at HS3 HS4
      generalize sameP p q = sv at HS1 HS2
      have hss : (sv == sv) = true := by simp
      have hss2 : (sv != sv) = false := by simp
      have B5 := Lib.hid (Below.refl W2.heap.size W2)
      obtain ⟨x0, x1, x2, x3, x4, x5, x6, x7, y0, y1, y2, y3, y4, y5, y6, y7⟩ := HX.out _ (HT.out _ B5.out)
      obtain ⟨z0, z1, z2, z3, z4, z5, z6, z7⟩ := HXC.out _ B5.out
      clear hq0 hz0 hb0 hQ
      go_wp2_with fail
      go_region_held3 (fun u => u.cell? ⟨P, 0, none⟩ = some (.string p.name) ∧ u.cell? ⟨P, 1, none⟩ = some (.int .i64 p.win) ∧ u.cell? ⟨P, 2, none⟩ = some (.int .i64 p.d.kind) ∧ u.cell? ⟨P, 3, none⟩ = some (.string p.d.var) ∧ u.cell? ⟨P, 4, none⟩ = some (.string p.d.ty) ∧ u.cell? ⟨P, 5, none⟩ = some (.slice ta p.d.tests.length tc) ∧ u.cell? ⟨P, 6, none⟩ = some (.slice ka p.k.len kc) ∧ u.cell? ⟨P, 7, none⟩ = some (.slice wa p.wh.length wc) ∧ u.cell? ⟨P + 1, 0, none⟩ = some (.string q.name) ∧ u.cell? ⟨P + 1, 1, none⟩ = some (.int .i64 q.win) ∧ u.cell? ⟨P + 1, 2, none⟩ = some (.int .i64 q.d.kind) ∧ u.cell? ⟨P + 1, 3, none⟩ = some (.string q.d.var) ∧ u.cell? ⟨P + 1, 4, none⟩ = some (.string q.d.ty) ∧ u.cell? ⟨P + 1, 5, none⟩ = some (.slice ta' q.d.tests.length tc') ∧ u.cell? ⟨P + 1, 6, none⟩ = some (.slice ka' q.k.len kc') ∧ u.cell? ⟨P + 1, 7, none⟩ = some (.slice wa' q.wh.length wc') ∧ u.cell? ⟨Q, 0, none⟩ = some (.string p.name) ∧ u.cell? ⟨Q, 1, none⟩ = some (.int .i64 p.win) ∧ u.cell? ⟨Q, 2, none⟩ = some (.int .i64 p.d.kind) ∧ u.cell? ⟨Q, 3, none⟩ = some (.string p.d.var) ∧ u.cell? ⟨Q, 4, none⟩ = some (.string p.d.ty) ∧ u.cell? ⟨Q, 5, none⟩ = some (.slice ta2 p.d.tests.length tc2) ∧ u.cell? ⟨Q, 6, none⟩ = some (.slice ka2 p.k.len kc2) ∧ u.cell? ⟨Q, 7, none⟩ = some (.slice wa2 p.wh.length wc2)) (first | exact ⟨x0, x1, x2, x3, x4, x5, x6, x7, y0, y1, y2, y3, y4, y5, y6, y7, z0, z1, z2, z3, z4, z5, z6, z7⟩ | go_keep)
        (first
          | (go_at_call 14; (with_reducible refine (HS1.out _ B5.out.drew).mono ?_); rintro e u ⟨rfl, hb⟩; have B6 := Lib.hid (B5.out.drew.trans (hb.mono B5.out.drew.size)); clear hb x0 x1 x2 x3 x4 x5 x6 x7 y0 y1 y2 y3 y4 y5 y6 y7 z0 z1 z2 z3 z4 z5 z6 z7; obtain ⟨x0, x1, x2, x3, x4, x5, x6, x7, y0, y1, y2, y3, y4, y5, y6, y7⟩ := HX.out _ (HT.out _ B6.out); obtain ⟨z0, z1, z2, z3, z4, z5, z6, z7⟩ := HXC.out _ B6.out)
          | (go_at_call 15; (with_reducible refine (HS2.out _ B5.out.drew).mono ?_); rintro e u ⟨rfl, hb⟩; have B6 := Lib.hid (B5.out.drew.trans (hb.mono B5.out.drew.size)); clear hb x0 x1 x2 x3 x4 x5 x6 x7 y0 y1 y2 y3 y4 y5 y6 y7 z0 z1 z2 z3 z4 z5 z6 z7; obtain ⟨x0, x1, x2, x3, x4, x5, x6, x7, y0, y1, y2, y3, y4, y5, y6, y7⟩ := HX.out _ (HT.out _ B6.out); obtain ⟨z0, z1, z2, z3, z4, z5, z6, z7⟩ := HXC.out _ B6.out)
          | (go_at_call 14; (with_reducible refine (HS1.out _ B6.out).mono ?_); rintro e u ⟨rfl, hb⟩; have B7 := Lib.hid (B6.out.trans (hb.mono B6.out.size)); clear hb x0 x1 x2 x3 x4 x5 x6 x7 y0 y1 y2 y3 y4 y5 y6 y7 z0 z1 z2 z3 z4 z5 z6 z7; obtain ⟨x0, x1, x2, x3, x4, x5, x6, x7, y0, y1, y2, y3, y4, y5, y6, y7⟩ := HX.out _ (HT.out _ B7.out); obtain ⟨z0, z1, z2, z3, z4, z5, z6, z7⟩ := HXC.out _ B7.out)
          | (go_at_call 15; (with_reducible refine (HS2.out _ B6.out).mono ?_); rintro e u ⟨rfl, hb⟩; have B7 := Lib.hid (B6.out.trans (hb.mono B6.out.size)); clear hb x0 x1 x2 x3 x4 x5 x6 x7 y0 y1 y2 y3 y4 y5 y6 y7 z0 z1 z2 z3 z4 z5 z6 z7; obtain ⟨x0, x1, x2, x3, x4, x5, x6, x7, y0, y1, y2, y3, y4, y5, y6, y7⟩ := HX.out _ (HT.out _ B7.out); obtain ⟨z0, z1, z2, z3, z4, z5, z6, z7⟩ := HXC.out _ B7.out)
          | (go_at_call 14; (with_reducible refine (HS3.out _ B7.out).mono ?_); rintro e u ⟨rfl, hb⟩; have B8 := Lib.hid (B7.out.trans (hb.mono B7.out.size)); clear hb x0 x1 x2 x3 x4 x5 x6 x7 y0 y1 y2 y3 y4 y5 y6 y7 z0 z1 z2 z3 z4 z5 z6 z7; obtain ⟨x0, x1, x2, x3, x4, x5, x6, x7, y0, y1, y2, y3, y4, y5, y6, y7⟩ := HX.out _ (HT.out _ B8.out); obtain ⟨z0, z1, z2, z3, z4, z5, z6, z7⟩ := HXC.out _ B8.out)
          | (go_at_call 15; (with_reducible refine (HS4.out _ B8.out).mono ?_); rintro e u ⟨rfl, hb⟩; have B9 := Lib.hid (B8.out.trans (hb.mono B8.out.size)); clear hb x0 x1 x2 x3 x4 x5 x6 x7 y0 y1 y2 y3 y4 y5 y6 y7 z0 z1 z2 z3 z4 z5 z6 z7; obtain ⟨x0, x1, x2, x3, x4, x5, x6, x7, y0, y1, y2, y3, y4, y5, y6, y7⟩ := HX.out _ (HT.out _ B9.out); obtain ⟨z0, z1, z2, z3, z4, z5, z6, z7⟩ := HXC.out _ B9.out))
      all_goals go_wp2_with (first | (go_at_call 13; (with_reducible refine (HCL.out _ (HT.out _ B9.out)).mono ?_); rintro e w7 ⟨v7, rfl, ho, hb⟩; obtain ⟨ta3, tc3, ka3, kc3, wa3, wc3, m7, rfl, k1, k2, k3, k4⟩ := ho; have HPO7 := Lib.hid (show PtO w7 _ p (.agg #[.string p.name, .int .i64 p.win, .int .i64 p.d.kind, .string p.d.var, .string p.d.ty, .slice ta3 p.d.tests.length tc3, .slice ka3 p.k.len kc3, .slice wa3 p.wh.length wc3]) from ⟨ta3, tc3, ka3, kc3, wa3, wc3, m7, rfl, k1, k2, k3, k4⟩); have HSZ6 := Lib.hid hb.size; have B10 := Lib.hid (B9.out.trans (hb.mono B9.out.size)); clear hb k1 k2 k3 k4 x0 x1 x2 x3 x4 x5 x6 x7 y0 y1 y2 y3 y4 y5 y6 y7 z0 z1 z2 z3 z4 z5 z6 z7; obtain ⟨z0, z1, z2, z3, z4, z5, z6, z7⟩ := HXC.out _ (B10.out.alloc B10.out.size (.cells #[.string p.name, .int .i64 p.win, .int .i64 p.d.kind, .string p.d.var, .string p.d.ty, .slice ta3 p.d.tests.length tc3, .slice ka3 p.k.len kc3, .slice wa3 p.wh.length wc3] 27))))
      clear z0 z1 z2 z3 z4 z5 z6 z7
      have hd0 := heap_alloc_new w7 (.cells #[.string p.name, .int .i64 p.win, .int .i64 p.d.kind, .string p.d.var, .string p.d.ty, .slice ta3 p.d.tests.length tc3, .slice ka3 p.k.len kc3, .slice wa3 p.wh.length wc3] 27)
      have hzd : (w7.alloc (.cells #[.string p.name, .int .i64 p.win, .int .i64 p.d.kind, .string p.d.var, .string p.d.ty, .slice ta3 p.d.tests.length tc3, .slice ka3 p.k.len kc3, .slice wa3 p.wh.length wc3] 27)).heap.size = w7.heap.size + 1 := by simp
      have hbd : Below w7.heap.size w7 (w7.alloc (.cells #[.string p.name, .int .i64 p.win, .int .i64 p.d.kind, .string p.d.var, .string p.d.ty, .slice ta3 p.d.tests.length tc3, .slice ka3 p.k.len kc3, .slice wa3 p.wh.length wc3] 27)) := (Below.refl _ _).alloc (Nat.le_refl _) _
      generalize (w7.alloc (.cells #[.string p.name, .int .i64 p.win, .int .i64 p.d.kind, .string p.d.var, .string p.d.ty, .slice ta3 p.d.tests.length tc3, .slice ka3 p.k.len kc3, .slice wa3 p.wh.length wc3] 27)) = W3 at hd0 hzd hbd ⊢
      obtain ⟨R, hR⟩ : ∃ R, R = w7.heap.size := ⟨_, rfl⟩
      rw [← hR] at hd0 hzd hbd ⊢
      have B11 := Lib.hid (B10.out.trans (hbd.mono (by rw [hR]; exact B10.out.size)))
      have hs2 := B10.out.size
      have hs3 := B9.out.size
      have hl5 := HL5.out
      have hq := HQ.out
      have hz0 := HZ0.out
      have hlo := B3.out.size
      have hz1 := HZ1.out
      have hs7 := HSZ6.out
      have hk3 : ∀ x, x < w5.heap.size → W3.heap[x]? = w5.heap[x]? := fun x hx => by rw [B11.out.block x (by omega), HB0.out.block x (by omega)]
      have HCD3 := Lib.hid (HCD.out.keep (w' := W3) (fun x hx => hk3 x hx.2))
      have HBL3 := Lib.hid (HBS.out.keepV (w' := W3) (fun x hx => hk3 x (by have := HS5.out x hx; omega)))
      have HQ3 := Lib.hid ((B11.out.block Q (lt_of_block HQ0.out)).trans HQ0.out)
      have HN := Lib.hid (show W1.heap.size ≤ m5 ∧ m5 ≤ Q ∧ Q < R ∧ R < W3.heap.size ∧ P + 1 < W1.heap.size from by omega)
      have HN7 := Lib.hid hs7; have HN6 := Lib.hid (show Q < _ from Nat.lt_of_lt_of_le (by omega : Q < W2.heap.size) hs3)
      have HT0 : Hid (∀ x, (m5 ≤ x ∧ x < w5.heap.size) → m5 ≤ x ∧ x < Q) := Lib.hid (fun x hx => by omega)
      have HLO := Lib.hid hlo
      have HD0 := Lib.hid hd0; have HBD := Lib.hid hbd; have HR := Lib.hid hR
      have HST : Hid (Chg (fun x => m5 ≤ x ∧ x < w5.heap.size) W3 W3) := Lib.hid (Chg.refl _ _)
      have HX7 := Lib.hid (fun (u : World) (h : Chg (fun x => m5 ≤ x ∧ x < w5.heap.size) W3 u) => cell_of_eight ((h.block Q (by have := HN.out; omega) (fun ht => by have := HT0.out Q ht; omega)).trans HQ3.out))
      have hwl : p.wh.length ≤ 1048576 := by have := szT_len p.wh; have := HSZ.out; simp only [szP] at this; omega
      have HWL := Lib.hid hwl
      clear hd0 hzd hbd hR hs2 hs3 hl5 hq hz0 hlo hz1 hs7 hk3 hwl hss hss2
      go_loopw [49] (fun iv wr => ∃ i : Nat, i ≤ p.wh.length ∧ iv = .int .i64 (i : Int) ∧ Hid (Chg (fun x => m5 ≤ x ∧ x < w5.heap.size) W3 wr) ∧ Hid (0 < p.wh.length → ∃ tb z, wa2 = some ⟨tb, z, none⟩ ∧ z = 0 ∧ (m5 ≤ tb ∧ tb < w5.heap.size) ∧ Sp1 W3 (fun x => m5 ≤ x ∧ x < w5.heap.size) tb p.wh.length wr)) (fun iv _ => p.wh.length - (intOf iv).toNat)
      case atStart => exact ⟨0, Nat.zero_le _, rfl, HST, Lib.hid (fun h => by
        obtain ⟨tb, cs, e, hTb, hb, hs, _⟩ := HCD3.out (List.length_pos_iff.1 h)
        exact ⟨tb, 0, e, rfl, hTb, Chg.refl _ _, cs, hb, hs⟩)⟩
      case round =>
        obtain ⟨i, hi, rfl, HC, HRr⟩ := hrel
        obtain ⟨z0, z1, z2, z3, z4, z5, z6, z7⟩ := HX7.out wr HC.out
        by_cases hlt : i < p.wh.length
        · obtain ⟨tb, z, rfl, hz, hTb, hsp⟩ := HRr.out (by omega)
          have hlti : (i : Int) < (p.wh.length : Int) := lt7 hlt
          have hi0 : (0 : Int) ≤ (i : Int) := by omega
          have hls := wr7 hlt (len7 HWL.out)
          obtain ⟨⟨xx, l1⟩, l2⟩ := hsp.at (j := z + i * 11 + 5) (by omega)
          have HNx := Lib.hid (hsp.put hTb (z + i * 11 + 5) (.int .i64 99))
          have HLT := Lib.hid hlt; have HZ := Lib.hid hz; have HTb := Lib.hid hTb
          clear hsp hlt hi hz hTb z0 z1 z2 z3 z4 z5 z6
          go_wp2
          go_roundw
          all_goals first
            | exact ⟨i + 1, HLT.out, by go_num, HNx.out.chg, Lib.hid (fun _ => ⟨tb, z, rfl, HZ.out, HTb.out, HNx.out⟩)⟩
            | exact meas7 HLT.out
            | (rw [hls]; exact meas7 HLT.out)
        · obtain rfl : i = p.wh.length := by omega
          have hnl : ¬ ((p.wh.length : Int) < (p.wh.length : Int)) := by omega
          have hwn := HN.out
          have hwz := HC.out.size
          have HSP := Lib.hid (spoil7_any p.d p.k wr Q 2 S5 ta2 tc2 ka2 kc2 z5 z6 (by omega) (fun hs => by have := HS5.out Q hs; omega) (HBL3.out.keepV (w' := wr) (fun x hx => HC.out.block x (by have := HS5.out x hx; omega) (fun ht => by have := HS5.out x hx; omega))) (fun x hx => by have := HS5.out x hx; omega) (by have := HSZ.out; simp only [szP] at this; omega))
          have HFIN := Lib.hid (fun (u : World) (h : Chg S5 wr u) => (by
            have hlo := HLO.out
            have hus := h.size
            have hkP : Keep (fun x => x < P) W1 u := fun x hx => by
              rw [h.block x (by omega) (fun hs => by have := HS5.out x hs; omega), HC.out.block x (by omega) (fun ht => by omega)]
              exact (HT.out _ B11.out).block x (by omega)
            have hblk : ∀ x, (x = P ∨ x = R) → u.heap[x]? = W3.heap[x]? := fun x hx => by
              rw [h.block x (by omega) (fun hs => by have := HS5.out x hs; omega), HC.out.block x (by omega) (fun ht => by have := HT0.out x ht; omega)]
            obtain ⟨a0, a1, a2, a3, a4, a5, a6, a7⟩ := cell_of_eight ((hblk P (.inl rfl)).trans (((HT.out _ B11.out).block P (by omega)).trans HR1.out))
            obtain ⟨b0, b1, b2, b3, b4, b5, b6, b7⟩ := cell_of_eight ((hblk R (.inr rfl)).trans HD0.out)
            have hpd := HPO7.out.ptv.live (u := u) (fun x hx => by
              have h6 := HN6.out; have hrr := HR.out
              rw [h.block x (by omega) (fun hs => by have := HS5.out x hs; omega), HC.out.block x (by omega) (fun ht => by have := HT0.out x ht; omega)]
              exact HBD.out.block x (by omega)) (fun x hx => by have hrr := HR.out; omega)
            have hcall := r7Same_any p p _ _ u (HPV.out u hkP (by omega)) hpd HSZ.out
            rw [sameP_self] at hcall
            refine ⟨⟨a0, a1, a2, a3, a4, a5, a6, a7, b0, b1, b2, b3, b4, b5, b6, b7⟩, hcall.mono (fun e w' hh => ⟨hh.1, ?_⟩)⟩
            have hb : Below P W1 u := ⟨h.os.trans (HC.out.os.trans (HT.out _ B11.out).os), h.tape.trans (HC.out.tape.trans (HT.out _ B11.out).tape), h.output.trans (HC.out.output.trans (HT.out _ B11.out).output), by have := (HT.out _ B11.out).size; omega, hkP⟩
            exact HE.out _ (hb.trans (hh.2.mono (by omega))) :
            (u.cell? ⟨P, 0, none⟩ = some (.string p.name) ∧ u.cell? ⟨P, 1, none⟩ = some (.int .i64 p.win) ∧ u.cell? ⟨P, 2, none⟩ = some (.int .i64 p.d.kind) ∧ u.cell? ⟨P, 3, none⟩ = some (.string p.d.var) ∧ u.cell? ⟨P, 4, none⟩ = some (.string p.d.ty) ∧ u.cell? ⟨P, 5, none⟩ = some (.slice ta p.d.tests.length tc) ∧ u.cell? ⟨P, 6, none⟩ = some (.slice ka p.k.len kc) ∧ u.cell? ⟨P, 7, none⟩ = some (.slice wa p.wh.length wc) ∧ u.cell? ⟨R, 0, none⟩ = some (.string p.name) ∧ u.cell? ⟨R, 1, none⟩ = some (.int .i64 p.win) ∧ u.cell? ⟨R, 2, none⟩ = some (.int .i64 p.d.kind) ∧ u.cell? ⟨R, 3, none⟩ = some (.string p.d.var) ∧ u.cell? ⟨R, 4, none⟩ = some (.string p.d.ty) ∧ u.cell? ⟨R, 5, none⟩ = some (.slice ta3 p.d.tests.length tc3) ∧ u.cell? ⟨R, 6, none⟩ = some (.slice ka3 p.k.len kc3) ∧ u.cell? ⟨R, 7, none⟩ = some (.slice wa3 p.wh.length wc3)) ∧ Calls Try.prog 15 #[.agg #[.string p.name, .int .i64 p.win, .int .i64 p.d.kind, .string p.d.var, .string p.d.ty, .slice ta p.d.tests.length tc, .slice ka p.k.len kc, .slice wa p.wh.length wc], .agg #[.string p.name, .int .i64 p.win, .int .i64 p.d.kind, .string p.d.var, .string p.d.ty, .slice ta3 p.d.tests.length tc3, .slice ka3 p.k.len kc3, .slice wa3 p.wh.length wc3]] u fun e w' => e = .returned (.bool true) ∧ Below P w w'))
          clear hlt hi hwn hwz z0 z1 z2 z3 z4 z5 z6
          go_wp2_with (first
            | (go_at_call 16; (with_reducible refine HSP.out.mono ?_); rintro e u2 ⟨rfl, hc⟩; obtain ⟨⟨x0, x1, x2, x3, x4, x5, x6, x7, y0, y1, y2, y3, y4, y5, y6, y7⟩, hcall⟩ := HFIN.out _ hc; have HCA := Lib.hid hcall; clear hcall hc)
            | (go_at_call 15; (with_reducible refine HCA.out.mono ?_); rintro e u3 ⟨rfl, hb⟩))
          go_ret
          exact ⟨rfl, hb⟩
end Go.Proofs.Ytnfjodkpapmfkaa
