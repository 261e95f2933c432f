/- Contracts: whether two patterns are the same: the program's call and the document's. -/
import Derived.Test.YtnfjodkpapmfkaaSw8
namespace Go.Proofs.Ytnfjodkpapmfkaa
open Go Go.RowKit Go.Lib

def sameP (p p' : Pt) : Bool := decide (p.name = p'.name ∧ p.win = p'.win ∧ p.d = p'.d ∧ p.k = p'.k ∧ p.wh = p'.wh)
theorem sameP_self (p : Pt) : sameP p p = true := by unfold sameP; exact decide_eq_true ⟨rfl, rfl, rfl, rfl, rfl⟩
set_option maxRecDepth 100000 in
set_option maxHeartbeats 8000000 in
theorem r7Same_any (p p' : Pt) (v v' : Value) (w : World) (hv : PtV w (fun x => x < w.heap.size) p v) (hv' : PtV w (fun x => x < w.heap.size) p' v') (hsz : szP p ≤ 1048576) :
    Calls Try.prog 15 #[v, v'] w fun e w' => e = .returned (.bool (sameP p p')) ∧ Below w.heap.size w w' := by
  obtain ⟨ta, tc, ka, kc, wa, wc, rfl, ht, ⟨ka0, kc0, hke, hk⟩, hw⟩ := hv
  simp only [Value.slice.injEq, true_and] at hke
  obtain ⟨rfl, rfl⟩ := hke
  obtain ⟨ta', tc', ka', kc', wa', wc', rfl, ht', ⟨ka1, kc1, hke, hk'⟩, hw'⟩ := hv'
  simp only [Value.slice.injEq, true_and] at hke
  obtain ⟨rfl, rfl⟩ := hke
  simp only [szP] at hsz
  obtain ⟨P, hP⟩ : ∃ P, P = w.heap.size := ⟨_, rfl⟩
  obtain ⟨W, hW⟩ : ∃ W, W = (w.alloc (.cells #[.string p.name, .int .i64 p.win, .int .i64 p.d.kind, .string p.d.var, .string p.d.ty, .slice ta p.d.tests.length tc, .slice ka p.k.len kc, .slice wa p.wh.length wc] 27)).alloc (.cells #[.string p'.name, .int .i64 p'.win, .int .i64 p'.d.kind, .string p'.d.var, .string p'.d.ty, .slice ta' p'.d.tests.length tc', .slice ka' p'.k.len kc', .slice wa' p'.wh.length wc'] 27) := ⟨_, rfl⟩
  have hb0 : Below P w W := by rw [hW, hP]; exact ((Below.refl _ _).alloc (Nat.le_refl _) _).alloc (by simp) _
  have hr1 : W.heap[P]? = some (.cells #[.string p.name, .int .i64 p.win, .int .i64 p.d.kind, .string p.d.var, .string p.d.ty, .slice ta p.d.tests.length tc, .slice ka p.k.len kc, .slice wa p.wh.length wc] 27 (0, 0)) := by rw [hW, hP]; exact heap_alloc_keeps (heap_alloc_new _ _) _
  have hr2 : W.heap[P + 1]? = some (.cells #[.string p'.name, .int .i64 p'.win, .int .i64 p'.d.kind, .string p'.d.var, .string p'.d.ty, .slice ta' p'.d.tests.length tc', .slice ka' p'.k.len kc', .slice wa' p'.wh.length wc'] 27 (0, 0)) := by
    have := heap_alloc_new (w.alloc (.cells #[.string p.name, .int .i64 p.win, .int .i64 p.d.kind, .string p.d.var, .string p.d.ty, .slice ta p.d.tests.length tc, .slice ka p.k.len kc, .slice wa p.wh.length wc] 27)) (.cells #[.string p'.name, .int .i64 p'.win, .int .i64 p'.d.kind, .string p'.d.var, .string p'.d.ty, .slice ta' p'.d.tests.length tc', .slice ka' p'.k.len kc', .slice wa' p'.wh.length wc'] 27)
    rw [World.size_alloc, ← hW, ← hP] at this
    exact this
  have hz : W.heap.size = P + 2 := by rw [hW, hP]; simp
  rw [← hP] at ht hk hw ht' hk' hw'
  have hKW : ∀ u, Below W.heap.size W u → Keep (fun x => x < P) w u := fun u hu x hx => (hu.block x (by omega)).trans (hb0.block x hx)
  have HX := Lib.hid (fun (u : World) (hu : Below W.heap.size W u) => (by
    have h1 := cell_of_eight ((hu.block P (by omega)).trans hr1)
    have h2 := cell_of_eight ((hu.block (P + 1) (by omega)).trans hr2)
    obtain ⟨a0, a1, a2, a3, a4, a5, a6, a7⟩ := h1
    obtain ⟨b0, b1, b2, b3, b4, b5, b6, b7⟩ := h2
    exact ⟨a0, a1, a2, a3, a4, a5, a6, a7, b0, b1, b2, b3, b4, b5, b6, b7⟩ : u.cell? ⟨P, 0, none⟩ = some (.string p.name) ∧ u.cell? ⟨P, 1, none⟩ = some (.int .i64 p.win) ∧ u.cell? ⟨P, 2, none⟩ = some (.int .i64 p.d.kind) ∧ u.cell? ⟨P, 3, none⟩ = some (.string p.d.var) ∧ u.cell? ⟨P, 4, none⟩ = some (.string p.d.ty) ∧ u.cell? ⟨P, 5, none⟩ = some (.slice ta p.d.tests.length tc) ∧ u.cell? ⟨P, 6, none⟩ = some (.slice ka p.k.len kc) ∧ u.cell? ⟨P, 7, none⟩ = some (.slice wa p.wh.length wc) ∧ u.cell? ⟨P + 1, 0, none⟩ = some (.string p'.name) ∧ u.cell? ⟨P + 1, 1, none⟩ = some (.int .i64 p'.win) ∧ u.cell? ⟨P + 1, 2, none⟩ = some (.int .i64 p'.d.kind) ∧ u.cell? ⟨P + 1, 3, none⟩ = some (.string p'.d.var) ∧ u.cell? ⟨P + 1, 4, none⟩ = some (.string p'.d.ty) ∧ u.cell? ⟨P + 1, 5, none⟩ = some (.slice ta' p'.d.tests.length tc') ∧ u.cell? ⟨P + 1, 6, none⟩ = some (.slice ka' p'.k.len kc') ∧ u.cell? ⟨P + 1, 7, none⟩ = some (.slice wa' p'.wh.length wc')))
  have hwl : p.wh.length ≤ 1048576 := by have := szT_len p.wh; omega
  have HC := Lib.hid (fun (u : World) (hu : Below W.heap.size W u) => r7SameConds_any p.wh p'.wh _ _ (fun x => x < P) u (hw.keep (hKW u hu)) (hw'.keep (hKW u hu)) hwl)
  have HN := Lib.hid (fun (u : World) (hu : Below W.heap.size W u) => (r7SameNode_any p.d p.k p'.d p'.k u _ _
    (NdV.mono ⟨_, _, rfl, ht.keep (hKW u hu), ka, kc, rfl, fun hn => by
      obtain ⟨b, o, e, hb, hf⟩ := hk hn
      exact ⟨b, o, e, hb, FoAt.keep (hKW u hu) hb hf⟩⟩ (fun x hx => by have := hu.size; omega))
    (NdV.mono ⟨_, _, rfl, ht'.keep (hKW u hu), ka', kc', rfl, fun hn => by
      obtain ⟨b, o, e, hb, hf⟩ := hk' hn
      exact ⟨b, o, e, hb, FoAt.keep (hKW u hu) hb hf⟩⟩ (fun x hx => by have := hu.size; omega)) (by omega) :
      Calls Try.prog 59 #[.agg #[.int .i64 p.d.kind, .string p.d.var, .string p.d.ty, .slice ta p.d.tests.length tc, .slice ka p.k.len kc], .agg #[.int .i64 p'.d.kind, .string p'.d.var, .string p'.d.ty, .slice ta' p'.d.tests.length tc', .slice ka' p'.k.len kc']] u fun e w' => e = .returned (.bool (decide (p.d = p'.d) && decide (p.k = p'.k))) ∧ Below u.heap.size u w'))
  have HW := Lib.hid hW; have HP := Lib.hid hP
  have HR := Lib.hid (Below.refl W.heap.size W)
  have HE := Lib.hid (fun (u : World) (hu : Below W.heap.size W u) => hb0.trans (hu.mono (by omega)))
  have sEq : ∀ a b : ByteArray, (a.toList == b.toList) = true → a = b := fun a b h => ba_ext2 (beq_iff_eq.1 h)
  rw [← hP]
  clear ht hk hw ht' hk' hw' hb0 hr1 hr2 hz hKW hwl hsz hW hP
  cases h1 : (p.name.toList == p'.name.toList) with
  | false =>
    have h1n : (p.name.toList != p'.name.toList) = true := by simp only [bne, h1, Bool.not_false]
    have HV := Lib.hid (show sameP p p' = false from by unfold sameP; rw [decide_eq_false (fun h => by rw [h.1] at h1; simp at h1)])
    clear sEq
    go_enter Try.func15, Try.ntmps15
    go_wp2_with fail
    rw [← HW.out, ← HP.out]
    obtain ⟨x0, x1, x2, x3, x4, x5, x6, x7, y0, y1, y2, y3, y4, y5, y6, y7⟩ := HX.out _ HR.out
    go_wp2
    go_ret
    exact ⟨show Ending.returned (Value.bool false) = _ from by rw [HV.out], by first | exact HE.out _ HR.out | (rw [HP.out]; exact HE.out _ HR.out)⟩
  | true =>
    have e1 := Lib.hid (sEq _ _ h1)
    by_cases h2 : p.win = p'.win
    · have h2' : (p.win == p'.win) = true := beq_iff_eq.2 h2
      have e2 := Lib.hid h2
      by_cases hnode : p.d = p'.d ∧ p.k = p'.k
      · rw [and_yes8 hnode] at HN
        have e3 := Lib.hid hnode
        by_cases hwh : p.wh = p'.wh
        · rw [decide_eq_true hwh] at HC
          have e4 := Lib.hid hwh
          have HV := Lib.hid (show sameP p p' = true from by unfold sameP; exact decide_eq_true ⟨e1.out, e2.out, e3.out.1, e3.out.2, e4.out⟩)
          clear sEq h2 hnode hwh
          rw [← e2.out] at HX HW ⊢
          clear h2'
          go_enter Try.func15, Try.ntmps15
          go_wp2_with fail
          rw [← HW.out, ← HP.out]
          obtain ⟨x0, x1, x2, x3, x4, x5, x6, x7, y0, y1, y2, y3, y4, y5, y6, y7⟩ := HX.out _ HR.out
          go_wp2_with (first
            | (go_at_call 59; (with_reducible refine (HN.out _ HR.out).mono ?_); rintro e u1 ⟨rfl, hb⟩; have HU1 := Lib.hid (HR.out.trans (hb.mono HR.out.size)); clear hb x0 x1 x2 x3 x4 x5 x6 x7 y0 y1 y2 y3 y4 y5 y6 y7; obtain ⟨x0, x1, x2, x3, x4, x5, x6, x7, y0, y1, y2, y3, y4, y5, y6, y7⟩ := HX.out _ HU1.out)
            | (go_at_call 60; (with_reducible refine (HC.out _ HU1.out).mono ?_); rintro e u2 ⟨rfl, n, hn⟩; have HU2 := Lib.hid (show Below W.heap.size W u2 from by rw [hn]; exact below_dn7 HU1.out n); clear hn x0 x1 x2 x3 x4 x5 x6 x7 y0 y1 y2 y3 y4 y5 y6 y7; obtain ⟨x0, x1, x2, x3, x4, x5, x6, x7, y0, y1, y2, y3, y4, y5, y6, y7⟩ := HX.out _ HU2.out))
          go_ret
          exact ⟨show Ending.returned (Value.bool true) = _ from by rw [HV.out], by first | exact HE.out _ HU2.out | (rw [HP.out]; exact HE.out _ HU2.out)⟩
        · rw [decide_eq_false hwh] at HC
          have HV := Lib.hid (show sameP p p' = false from by unfold sameP; exact decide_eq_false (fun h => hwh h.2.2.2.2))
          clear sEq h2 hnode hwh
          rw [← e2.out] at HX HW ⊢
          clear h2'
          go_enter Try.func15, Try.ntmps15
          go_wp2_with fail
          rw [← HW.out, ← HP.out]
          obtain ⟨x0, x1, x2, x3, x4, x5, x6, x7, y0, y1, y2, y3, y4, y5, y6, y7⟩ := HX.out _ HR.out
          go_wp2_with (first
            | (go_at_call 59; (with_reducible refine (HN.out _ HR.out).mono ?_); rintro e u1 ⟨rfl, hb⟩; have HU1 := Lib.hid (HR.out.trans (hb.mono HR.out.size)); clear hb x0 x1 x2 x3 x4 x5 x6 x7 y0 y1 y2 y3 y4 y5 y6 y7; obtain ⟨x0, x1, x2, x3, x4, x5, x6, x7, y0, y1, y2, y3, y4, y5, y6, y7⟩ := HX.out _ HU1.out)
            | (go_at_call 60; (with_reducible refine (HC.out _ HU1.out).mono ?_); rintro e u2 ⟨rfl, n, hn⟩; have HU2 := Lib.hid (show Below W.heap.size W u2 from by rw [hn]; exact below_dn7 HU1.out n); clear hn x0 x1 x2 x3 x4 x5 x6 x7 y0 y1 y2 y3 y4 y5 y6 y7; obtain ⟨x0, x1, x2, x3, x4, x5, x6, x7, y0, y1, y2, y3, y4, y5, y6, y7⟩ := HX.out _ HU2.out))
          go_ret
          exact ⟨show Ending.returned (Value.bool false) = _ from by rw [HV.out], by first | exact HE.out _ HU2.out | (rw [HP.out]; exact HE.out _ HU2.out)⟩
      · rw [and_no8 hnode] at HN
        have HV := Lib.hid (show sameP p p' = false from by unfold sameP; exact decide_eq_false (fun h => hnode ⟨h.2.2.1, h.2.2.2.1⟩))
        clear sEq h2 hnode
        rw [← e2.out] at HX HW ⊢
        clear h2'
        go_enter Try.func15, Try.ntmps15
        go_wp2_with fail
        rw [← HW.out, ← HP.out]
        obtain ⟨x0, x1, x2, x3, x4, x5, x6, x7, y0, y1, y2, y3, y4, y5, y6, y7⟩ := HX.out _ HR.out
        go_wp2_with (first
          | (go_at_call 59; (with_reducible refine (HN.out _ HR.out).mono ?_); rintro e u1 ⟨rfl, hb⟩; have HU1 := Lib.hid (HR.out.trans (hb.mono HR.out.size)); clear hb x0 x1 x2 x3 x4 x5 x6 x7 y0 y1 y2 y3 y4 y5 y6 y7; obtain ⟨x0, x1, x2, x3, x4, x5, x6, x7, y0, y1, y2, y3, y4, y5, y6, y7⟩ := HX.out _ HU1.out))
        go_ret
        exact ⟨show Ending.returned (Value.bool false) = _ from by rw [HV.out], by first | exact HE.out _ HU1.out | (rw [HP.out]; exact HE.out _ HU1.out)⟩
    · have h2' : (p.win == p'.win) = false := beq_eq_false_iff_ne.2 h2
      have HV := Lib.hid (show sameP p p' = false from by unfold sameP; exact decide_eq_false (fun h => h2 h.2.1))
      clear sEq
      go_enter Try.func15, Try.ntmps15
      go_wp2_with fail
      rw [← HW.out, ← HP.out]
      obtain ⟨x0, x1, x2, x3, x4, x5, x6, x7, y0, y1, y2, y3, y4, y5, y6, y7⟩ := HX.out _ HR.out
      go_wp2
      go_ret
      exact ⟨show Ending.returned (Value.bool false) = _ from by rw [HV.out], by first | exact HE.out _ HR.out | (rw [HP.out]; exact HE.out _ HR.out)⟩
set_option maxRecDepth 100000 in
set_option maxHeartbeats 8000000 in
theorem cSame_any (p p' : Pt) (v v' : Value) (w : World) (hv : PtV w (fun x => x < w.heap.size) p v) (hv' : PtV w (fun x => x < w.heap.size) p' v') (hsz : szP p ≤ 1048576) :
    Calls Try.prog 14 #[v, v'] w fun e w' => e = .returned (.bool (sameP p p')) ∧ Below w.heap.size w w' := by
  obtain ⟨ta, tc, ka, kc, wa, wc, rfl, ht, ⟨ka0, kc0, hke, hk⟩, hw⟩ := hv
  simp only [Value.slice.injEq, true_and] at hke
  obtain ⟨rfl, rfl⟩ := hke
  obtain ⟨ta', tc', ka', kc', wa', wc', rfl, ht', ⟨ka1, kc1, hke, hk'⟩, hw'⟩ := hv'
  simp only [Value.slice.injEq, true_and] at hke
  obtain ⟨rfl, rfl⟩ := hke
  simp only [szP] at hsz
  obtain ⟨P, hP⟩ : ∃ P, P = w.heap.size := ⟨_, rfl⟩
  obtain ⟨W, hW⟩ : ∃ W, W = ((w.alloc (.cells #[.string p.name, .int .i64 p.win, .int .i64 p.d.kind, .string p.d.var, .string p.d.ty, .slice ta p.d.tests.length tc, .slice ka p.k.len kc, .slice wa p.wh.length wc] 27)).alloc (.cells #[.string p'.name, .int .i64 p'.win, .int .i64 p'.d.kind, .string p'.d.var, .string p'.d.ty, .slice ta' p'.d.tests.length tc', .slice ka' p'.k.len kc', .slice wa' p'.wh.length wc'] 27)).alloc (.cells #[.func (.func 57) #[] #[.pointer (some ⟨w.heap.size + 1 + 1, 0, none⟩)]] 70) := ⟨_, rfl⟩
  have hb0 : Below P w W := by rw [hW, hP]; exact (((Below.refl _ _).alloc (Nat.le_refl _) _).alloc (by simp) _).alloc (by simp; omega) _
  have hr1 : W.heap[P]? = some (.cells #[.string p.name, .int .i64 p.win, .int .i64 p.d.kind, .string p.d.var, .string p.d.ty, .slice ta p.d.tests.length tc, .slice ka p.k.len kc, .slice wa p.wh.length wc] 27 (0, 0)) := by rw [hW, hP]; exact heap_alloc_keeps (heap_alloc_keeps (heap_alloc_new _ _) _) _
  have hr2 : W.heap[P + 1]? = some (.cells #[.string p'.name, .int .i64 p'.win, .int .i64 p'.d.kind, .string p'.d.var, .string p'.d.ty, .slice ta' p'.d.tests.length tc', .slice ka' p'.k.len kc', .slice wa' p'.wh.length wc'] 27 (0, 0)) := by
    have := heap_alloc_new (w.alloc (.cells #[.string p.name, .int .i64 p.win, .int .i64 p.d.kind, .string p.d.var, .string p.d.ty, .slice ta p.d.tests.length tc, .slice ka p.k.len kc, .slice wa p.wh.length wc] 27)) (.cells #[.string p'.name, .int .i64 p'.win, .int .i64 p'.d.kind, .string p'.d.var, .string p'.d.ty, .slice ta' p'.d.tests.length tc', .slice ka' p'.k.len kc', .slice wa' p'.wh.length wc'] 27)
    rw [World.size_alloc, ← hP] at this
    rw [hW]; exact heap_alloc_keeps this _
  have hr3 : W.heap[P + 1 + 1]? = some (.cells #[.func (.func 57) #[] #[.pointer (some ⟨P + 1 + 1, 0, none⟩)]] 70 (0, 0)) := by
    have := heap_alloc_new ((w.alloc (.cells #[.string p.name, .int .i64 p.win, .int .i64 p.d.kind, .string p.d.var, .string p.d.ty, .slice ta p.d.tests.length tc, .slice ka p.k.len kc, .slice wa p.wh.length wc] 27)).alloc (.cells #[.string p'.name, .int .i64 p'.win, .int .i64 p'.d.kind, .string p'.d.var, .string p'.d.ty, .slice ta' p'.d.tests.length tc', .slice ka' p'.k.len kc', .slice wa' p'.wh.length wc'] 27)) (.cells #[.func (.func 57) #[] #[.pointer (some ⟨w.heap.size + 1 + 1, 0, none⟩)]] 70)
    rw [World.size_alloc, World.size_alloc, ← hW, ← hP] at this
    exact this
  have hz : W.heap.size = P + 3 := by rw [hW, hP]; simp
  rw [← hP] at ht hk hw ht' hk' hw'
  have hKW : ∀ u, Below W.heap.size W u → Keep (fun x => x < P) w u := fun u hu x hx => (hu.block x (by omega)).trans (hb0.block x hx)
  have HX := Lib.hid (fun (u : World) (hu : Below W.heap.size W u) => (by
    have h1 := cell_of_eight ((hu.block P (by omega)).trans hr1)
    have h2 := cell_of_eight ((hu.block (P + 1) (by omega)).trans hr2)
    obtain ⟨a0, a1, a2, a3, a4, a5, a6, a7⟩ := h1
    obtain ⟨b0, b1, b2, b3, b4, b5, b6, b7⟩ := h2
    exact ⟨a0, a1, a2, a3, a4, a5, a6, a7, b0, b1, b2, b3, b4, b5, b6, b7, cell_of_one ((hu.block (P + 1 + 1) (by omega)).trans hr3)⟩ : u.cell? ⟨P, 0, none⟩ = some (.string p.name) ∧ u.cell? ⟨P, 1, none⟩ = some (.int .i64 p.win) ∧ u.cell? ⟨P, 2, none⟩ = some (.int .i64 p.d.kind) ∧ u.cell? ⟨P, 3, none⟩ = some (.string p.d.var) ∧ u.cell? ⟨P, 4, none⟩ = some (.string p.d.ty) ∧ u.cell? ⟨P, 5, none⟩ = some (.slice ta p.d.tests.length tc) ∧ u.cell? ⟨P, 6, none⟩ = some (.slice ka p.k.len kc) ∧ u.cell? ⟨P, 7, none⟩ = some (.slice wa p.wh.length wc) ∧ u.cell? ⟨P + 1, 0, none⟩ = some (.string p'.name) ∧ u.cell? ⟨P + 1, 1, none⟩ = some (.int .i64 p'.win) ∧ u.cell? ⟨P + 1, 2, none⟩ = some (.int .i64 p'.d.kind) ∧ u.cell? ⟨P + 1, 3, none⟩ = some (.string p'.d.var) ∧ u.cell? ⟨P + 1, 4, none⟩ = some (.string p'.d.ty) ∧ u.cell? ⟨P + 1, 5, none⟩ = some (.slice ta' p'.d.tests.length tc') ∧ u.cell? ⟨P + 1, 6, none⟩ = some (.slice ka' p'.k.len kc') ∧ u.cell? ⟨P + 1, 7, none⟩ = some (.slice wa' p'.wh.length wc') ∧ u.cell? ⟨P + 1 + 1, 0, none⟩ = some (.func (.func 57) #[] #[.pointer (some ⟨P + 1 + 1, 0, none⟩)])))
  have hwl : p.wh.length ≤ 1048576 := by have := szT_len p.wh; omega
  have HC := Lib.hid (fun (u : World) (hu : Below W.heap.size W u) => EqualCond_any p.wh p'.wh _ _ (fun x => x < P) (fun x => x < P) u (hw.keep (hKW u hu)) (hw'.keep (hKW u hu)) hwl)
  have HN := Lib.hid (fun (u : World) (hu : Below W.heap.size W u) => (by
    obtain ⟨a0, a1, a2, a3, a4, a5, a6, a7, b0, b1, b2, b3, b4, b5, b6, b7, xq⟩ := HX.out u hu
    exact cSame1_any (P + 1 + 1) (fun x => x < P) (fun x => x < P) p.d p.k p'.d p'.k u P 2 (P + 1) 2 1 xq
      ⟨ta, tc, ka, kc, a2, a3, a4, a5, a6, ht.keep (hKW u hu), fun hn => by
        obtain ⟨b, o, e, hb, hf⟩ := hk hn
        exact ⟨b, o, e, hb, FoAt.keep (hKW u hu) hb hf⟩⟩
      ⟨ta', tc', ka', kc', b2, b3, b4, b5, b6, ht'.keep (hKW u hu), fun hn => by
        obtain ⟨b, o, e, hb, hf⟩ := hk' hn
        exact ⟨b, o, e, hb, FoAt.keep (hKW u hu) hb hf⟩⟩ (by have := deepF_sz p.k; simp only [szD] at hsz; omega) (by omega) :
      Calls Try.prog 57 #[.pointer (some ⟨P, 2, none⟩), .pointer (some ⟨P + 1, 2, none⟩), .int .i64 1, .pointer (some ⟨P + 1 + 1, 0, none⟩)] u fun e w' => e = .returned (.bool (decide (p.d = p'.d) && decide (p.k = p'.k))) ∧ ∃ n, w' = u.drewN n))
  have HW := Lib.hid hW; have HP := Lib.hid hP
  have HR := Lib.hid (Below.refl W.heap.size W)
  have HE := Lib.hid (fun (u : World) (hu : Below W.heap.size W u) => hb0.trans (hu.mono (by omega)))
  have sEq : ∀ a b : ByteArray, (a.toList == b.toList) = true → a = b := fun a b h => ba_ext2 (beq_iff_eq.1 h)
  rw [← hP]
  clear ht hk hw ht' hk' hw' hb0 hr1 hr2 hr3 hz hKW hwl hsz hW hP
  cases h1 : (p.name.toList == p'.name.toList) with
  | false =>
    have h1n : (p.name.toList != p'.name.toList) = true := by simp only [bne, h1, Bool.not_false]
    have HV := Lib.hid (show sameP p p' = false from by unfold sameP; rw [decide_eq_false (fun h => by rw [h.1] at h1; simp at h1)])
    clear sEq
    go_enter Try.func14, Try.ntmps14
    go_wp2_with fail
    rw [← HW.out, ← HP.out]
    obtain ⟨x0, x1, x2, x3, x4, x5, x6, x7, y0, y1, y2, y3, y4, y5, y6, y7, xq⟩ := HX.out _ HR.out
    go_wp2
    go_ret
    exact ⟨show Ending.returned (Value.bool false) = _ from by rw [HV.out], by first | exact HE.out _ HR.out | (rw [HP.out]; exact HE.out _ HR.out)⟩
  | true =>
    have e1 := Lib.hid (sEq _ _ h1)
    by_cases h2 : p.win = p'.win
    · have h2' : (p.win == p'.win) = true := beq_iff_eq.2 h2
      have e2 := Lib.hid h2
      by_cases hwh : p.wh = p'.wh
      · rw [decide_eq_true hwh] at HC
        have e4 := Lib.hid hwh
        by_cases hnode : p.d = p'.d ∧ p.k = p'.k
        · rw [and_yes8 hnode] at HN
          have e3 := Lib.hid hnode
          have HV := Lib.hid (show sameP p p' = true from by unfold sameP; exact decide_eq_true ⟨e1.out, e2.out, e3.out.1, e3.out.2, e4.out⟩)
          clear sEq h2 hnode hwh
          rw [← e2.out] at HX HW ⊢
          clear h2'
          go_enter Try.func14, Try.ntmps14
          go_wp2_with fail
          rw [← HW.out, ← HP.out]
          obtain ⟨x0, x1, x2, x3, x4, x5, x6, x7, y0, y1, y2, y3, y4, y5, y6, y7, xq⟩ := HX.out _ HR.out
          go_wp2_with (first
            | (go_at_call 58; (with_reducible refine (HC.out _ HR.out).mono ?_); rintro e u1 ⟨rfl, n, hn⟩; have HU1 := Lib.hid (show Below W.heap.size W u1 from by rw [hn]; exact below_dn7 HR.out n); clear hn x0 x1 x2 x3 x4 x5 x6 x7 y0 y1 y2 y3 y4 y5 y6 y7 xq; obtain ⟨x0, x1, x2, x3, x4, x5, x6, x7, y0, y1, y2, y3, y4, y5, y6, y7, xq⟩ := HX.out _ HU1.out)
            | (go_at_call 57; (with_reducible refine (HN.out _ HU1.out).mono ?_); rintro e u2 ⟨rfl, n, hn⟩; have HU2 := Lib.hid (show Below W.heap.size W u2 from by rw [hn]; exact below_dn7 HU1.out n); clear hn x0 x1 x2 x3 x4 x5 x6 x7 y0 y1 y2 y3 y4 y5 y6 y7 xq; obtain ⟨x0, x1, x2, x3, x4, x5, x6, x7, y0, y1, y2, y3, y4, y5, y6, y7, xq⟩ := HX.out _ HU2.out))
          go_ret
          exact ⟨show Ending.returned (Value.bool true) = _ from by rw [HV.out], by first | exact HE.out _ HU2.out | (rw [HP.out]; exact HE.out _ HU2.out)⟩
        · rw [and_no8 hnode] at HN
          have HV := Lib.hid (show sameP p p' = false from by unfold sameP; exact decide_eq_false (fun h => hnode ⟨h.2.2.1, h.2.2.2.1⟩))
          clear sEq h2 hnode hwh
          rw [← e2.out] at HX HW ⊢
          clear h2'
          go_enter Try.func14, Try.ntmps14
          go_wp2_with fail
          rw [← HW.out, ← HP.out]
          obtain ⟨x0, x1, x2, x3, x4, x5, x6, x7, y0, y1, y2, y3, y4, y5, y6, y7, xq⟩ := HX.out _ HR.out
          go_wp2_with (first
            | (go_at_call 58; (with_reducible refine (HC.out _ HR.out).mono ?_); rintro e u1 ⟨rfl, n, hn⟩; have HU1 := Lib.hid (show Below W.heap.size W u1 from by rw [hn]; exact below_dn7 HR.out n); clear hn x0 x1 x2 x3 x4 x5 x6 x7 y0 y1 y2 y3 y4 y5 y6 y7 xq; obtain ⟨x0, x1, x2, x3, x4, x5, x6, x7, y0, y1, y2, y3, y4, y5, y6, y7, xq⟩ := HX.out _ HU1.out)
            | (go_at_call 57; (with_reducible refine (HN.out _ HU1.out).mono ?_); rintro e u2 ⟨rfl, n, hn⟩; have HU2 := Lib.hid (show Below W.heap.size W u2 from by rw [hn]; exact below_dn7 HU1.out n); clear hn x0 x1 x2 x3 x4 x5 x6 x7 y0 y1 y2 y3 y4 y5 y6 y7 xq; obtain ⟨x0, x1, x2, x3, x4, x5, x6, x7, y0, y1, y2, y3, y4, y5, y6, y7, xq⟩ := HX.out _ HU2.out))
          go_ret
          exact ⟨show Ending.returned (Value.bool false) = _ from by rw [HV.out], by first | exact HE.out _ HU2.out | (rw [HP.out]; exact HE.out _ HU2.out)⟩
      · rw [decide_eq_false hwh] at HC
        have HV := Lib.hid (show sameP p p' = false from by unfold sameP; exact decide_eq_false (fun h => hwh h.2.2.2.2))
        clear sEq h2 hwh
        rw [← e2.out] at HX HW ⊢
        clear h2'
        go_enter Try.func14, Try.ntmps14
        go_wp2_with fail
        rw [← HW.out, ← HP.out]
        obtain ⟨x0, x1, x2, x3, x4, x5, x6, x7, y0, y1, y2, y3, y4, y5, y6, y7, xq⟩ := HX.out _ HR.out
        go_wp2_with (first
          | (go_at_call 58; (with_reducible refine (HC.out _ HR.out).mono ?_); rintro e u1 ⟨rfl, n, hn⟩; have HU1 := Lib.hid (show Below W.heap.size W u1 from by rw [hn]; exact below_dn7 HR.out n); clear hn x0 x1 x2 x3 x4 x5 x6 x7 y0 y1 y2 y3 y4 y5 y6 y7 xq; obtain ⟨x0, x1, x2, x3, x4, x5, x6, x7, y0, y1, y2, y3, y4, y5, y6, y7, xq⟩ := HX.out _ HU1.out))
        go_ret
        exact ⟨show Ending.returned (Value.bool false) = _ from by rw [HV.out], by first | exact HE.out _ HU1.out | (rw [HP.out]; exact HE.out _ HU1.out)⟩
    · have h2' : (p.win == p'.win) = false := beq_eq_false_iff_ne.2 h2
      have HV := Lib.hid (show sameP p p' = false from by unfold sameP; exact decide_eq_false (fun h => h2 h.2.1))
      clear sEq
      go_enter Try.func14, Try.ntmps14
      go_wp2_with fail
      rw [← HW.out, ← HP.out]
      obtain ⟨x0, x1, x2, x3, x4, x5, x6, x7, y0, y1, y2, y3, y4, y5, y6, y7, xq⟩ := HX.out _ HR.out
      go_wp2
      go_ret
      exact ⟨show Ending.returned (Value.bool false) = _ from by rw [HV.out], by first | exact HE.out _ HR.out | (rw [HP.out]; exact HE.out _ HR.out)⟩
end Go.Proofs.Ytnfjodkpapmfkaa
