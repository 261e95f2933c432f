/- The walk of PredOnce. -/
import Derived.Test.YtghmaphpmnjiiaaLv9
import Derived.Test.YtghmaphpmnjiiaaCb9
namespace Go.Proofs.Ytghmaphpmnjiiaa
open Go Go.RowKit Go.Sort

def varsB (bs : List Bd) : List Nm := bs.map fun b => nb b.var
theorem varsB_take (bs : List Bd) (k : Nat) (x : Bd) (h : bs[k]? = some x) : varsB (bs.take (k + 1)) = varsB (bs.take k) ++ [nb x.var] := by
  obtain ⟨hk, rfl⟩ := List.getElem?_eq_some_iff.1 h
  unfold varsB
  rw [List.take_succ_eq_append_getElem hk, List.map_append]
  rfl
theorem varsB_len (bs : List Bd) (k : Nat) : (varsB (bs.take k)).length ≤ k := by unfold varsB; rw [List.length_map, List.length_take]; omega
/-- The boxes of the law: a condition, two partial matches. -/
def BoxO (P : Nat) (c : Cnd) (v1 v2 : Value) (u : World) : Prop :=
  u.heap[P]? = some (.cells #[.string c.left.var, .string c.left.attr, .int .i64 c.left.vk, .int .i64 c.left.vn, .string c.left.vs, .int .i64 c.rel, .string c.right.var, .string c.right.attr, .int .i64 c.right.vk, .int .i64 c.right.vn, .string c.right.vs] 56 (0, 0)) ∧ u.heap[P + 1]? = some (.cells #[v1] 69 (0, 0)) ∧ u.heap[P + 1 + 1]? = some (.cells #[v2] 69 (0, 0))
theorem BoxO.below {P : Nat} {c : Cnd} {v1 v2 : Value} {u u' : World} (h : BoxO P c v1 v2 u) (hb : Below (P + 3) u u') : BoxO P c v1 v2 u' :=
  ⟨(hb.block _ (by omega)).trans h.1, (hb.block _ (by omega)).trans h.2.1, (hb.block _ (by omega)).trans h.2.2⟩
theorem BoxO.cells {P : Nat} {c : Cnd} {v1 v2 : Value} {u : World} (h : BoxO P c v1 v2 u) :
    (u.cell? ⟨P, 0, none⟩ = some (.string c.left.var) ∧ u.cell? ⟨P, 1, none⟩ = some (.string c.left.attr) ∧ u.cell? ⟨P, 2, none⟩ = some (.int .i64 c.left.vk) ∧ u.cell? ⟨P, 3, none⟩ = some (.int .i64 c.left.vn) ∧ u.cell? ⟨P, 4, none⟩ = some (.string c.left.vs) ∧
    u.cell? ⟨P, 5, none⟩ = some (.int .i64 c.rel) ∧ u.cell? ⟨P, 6, none⟩ = some (.string c.right.var) ∧ u.cell? ⟨P, 7, none⟩ = some (.string c.right.attr) ∧ u.cell? ⟨P, 8, none⟩ = some (.int .i64 c.right.vk) ∧ u.cell? ⟨P, 9, none⟩ = some (.int .i64 c.right.vn) ∧ u.cell? ⟨P, 10, none⟩ = some (.string c.right.vs)) ∧
    u.cell? ⟨P + 1, 0, none⟩ = some v1 ∧ u.cell? ⟨P + 1 + 1, 0, none⟩ = some v2 ∧ P < u.heap.size ∧ P + 1 < u.heap.size ∧ P + 1 + 1 < u.heap.size ∧ P ≠ u.heap.size ∧ P + 1 ≠ u.heap.size ∧ P + 1 + 1 ≠ u.heap.size :=
  ⟨cell_of_eleven h.1, cell_of_one h.2.1, cell_of_one h.2.2, by have := lt_of_block h.2.2; omega⟩

set_option maxRecDepth 100000 in
set_option maxHeartbeats 4000000 in
theorem once9_walk (c : Cnd) (B : Nat) (a1 : Option Addr) (n1 c1 : Nat) (a2 : Option Addr) (n2 c2 : Nat) (bs ms : List Bd) (w : World) (h1 : BsV w B (.slice a1 n1 c1) bs) (h2 : BsV w B (.slice a2 n2 c2) ms) (hB : B ≤ w.heap.size)
    (hn1 : n1 * 80 ≤ 140737488355328) (hn2 : n2 * 80 ≤ 140737488355328) :
    Calls Try.prog 12 #[cdV c, .agg #[.slice a1 n1 c1], .agg #[.slice a2 n2 c2]] w fun e w' => e = .returned (.bool true) ∧ Below w.heap.size w w' := by
  have hl1 : n1 = bs.length := by obtain ⟨_, _, he, _⟩ := h1; simp only [Value.slice.injEq] at he; exact he.2.1
  have hl2 : n2 = ms.length := by obtain ⟨_, _, he, _⟩ := h2; simp only [Value.slice.injEq] at he; exact he.2.1
  obtain ⟨i0, hi, hz0, hz1, hz2⟩ := info_parts infoS7
  obtain ⟨P, hP⟩ : ∃ P, P = w.heap.size := ⟨_, rfl⟩
  obtain ⟨W, hW⟩ : ∃ W, W = ((w.alloc (.cells #[.string c.left.var, .string c.left.attr, .int .i64 c.left.vk, .int .i64 c.left.vn, .string c.left.vs, .int .i64 c.rel, .string c.right.var, .string c.right.attr, .int .i64 c.right.vk, .int .i64 c.right.vn, .string c.right.vs] 56)).alloc (.cells #[.slice a1 n1 c1] 69)).alloc (.cells #[.slice a2 n2 c2] 69) := ⟨_, rfl⟩
  have hX : BoxO P c (.slice a1 n1 c1) (.slice a2 n2 c2) W := by
    rw [hW, hP]
    refine ⟨?_, ?_, ?_⟩
    · rw [heap_alloc_old _ _ (by simp; omega), heap_alloc_old _ _ (by simp)]; exact heap_alloc_new _ _
    · rw [heap_alloc_old _ _ (by simp)]
      have := heap_alloc_new (w.alloc (.cells #[.string c.left.var, .string c.left.attr, .int .i64 c.left.vk, .int .i64 c.left.vn, .string c.left.vs, .int .i64 c.rel, .string c.right.var, .string c.right.attr, .int .i64 c.right.vk, .int .i64 c.right.vn, .string c.right.vs] 56)) (.cells #[.slice a1 n1 c1] 69)
      simpa using this
    · have := heap_alloc_new ((w.alloc (.cells #[.string c.left.var, .string c.left.attr, .int .i64 c.left.vk, .int .i64 c.left.vn, .string c.left.vs, .int .i64 c.rel, .string c.right.var, .string c.right.attr, .int .i64 c.right.vk, .int .i64 c.right.vn, .string c.right.vs] 56)).alloc (.cells #[.slice a1 n1 c1] 69)) (.cells #[.slice a2 n2 c2] 69)
      simpa using this
  have hWb : Below P w W := by rw [hW, hP]; exact (((Below.refl _ _).alloc (Nat.le_refl _) _).alloc (by simp) _).alloc (by simp; omega) _
  have hWs : W.heap.size = P + 3 := by rw [hW, hP]; simp
  have HX := Lib.hid (fun (u : World) (hu : Below (P + 3) W u) => (hX.below hu).cells)
  have hBP : B ≤ P := by omega
  have H1 := Lib.hid (fun (u : World) (hu : Below (P + 3) W u) => (h1.below hWb hBP).below hu (Nat.le_trans hBP (Nat.le_add_right P 3)))
  have H2 := Lib.hid (fun (u : World) (hu : Below (P + 3) W u) => (h2.below hWb hBP).below hu (Nat.le_trans hBP (Nat.le_add_right P 3)))
  have HWB := Lib.hid hWb; have HP := Lib.hid hP; have HW := Lib.hid hW; have HWS := Lib.hid hWs; have HBP := Lib.hid hBP
  have HN1 := Lib.hid hn1; have HN2 := Lib.hid hn2; have HL1 := Lib.hid hl1; have HL2 := Lib.hid hl2
  clear h1 h2 hX hWb hWs hP hW hBP hB hn1 hn2 hl1 hl2
  unfold cdV
  go_enter Try.func12, Try.ntmps12
  go_wp2_with fail
  rw [← HW.out, ← HP.out]
  have B0 := Lib.hid (Below.refl (P + 3) W)
  obtain ⟨⟨k0, k1, k2, k3, k4, k5, k6, k7, k8, k9, k10⟩, x0, y0, l0, l1, l2, l3, l4, l5⟩ := HX.out _ B0.out
  go_wp2_with fail
  clear k0 k1 k2 k3 k4 k5 k6 k7 k8 k9 k10 x0 y0 l0 l1 l2 l3 l4 l5
  go_loopw [7, 14] (fun v iv wr => ∃ k : Nat, k ≤ n1 ∧ iv = .int .i64 k ∧ Hid (SOwn wr (P + 3) v (varsB (bs.take k))) ∧ Hid (Below (P + 3) W wr)) (fun _ iv _ => n1 - (intOf iv).toNat)
  case atStart => exact ⟨0, Nat.zero_le _, rfl, Lib.hid (World.ownsRow_nil _ _ _ _), B0⟩
  case round =>
    obtain ⟨k, hk, rfl, HO, HB⟩ := hrel
    have HSZ : Hid (P + 3 ≤ wr.heap.size) := Lib.hid (by have := HB.out.size; have := HWS.out; omega)
    by_cases hlt : k < n1
    · have hlti : (k : Int) < (n1 : Int) := by omega
      have hls := wr7 hlt (by have := HN1.out; omega)
      obtain ⟨x, hx⟩ : ∃ x, bs[k]? = some x := ⟨_, List.getElem?_eq_getElem (by have := HL1.out; omega)⟩
      obtain ⟨b, o, aa, ac, rfl, hbB, _, _, hc, _⟩ := (H1.out wr HB.out).at hx
      obtain ⟨d0, d1, d2, d3, d4, d5⟩ := six_cells hc
      have HTK := Lib.hid (varsB_take bs k x hx)
      have HLT := Lib.hid hlt
      have HKL := Lib.hid (varsB_len bs k)
      have hbw : b < wr.heap.size := by have := HBP.out; have := HSZ.out; omega
      have hbne : b ≠ wr.heap.size := by omega
      generalize varsB (bs.take k) = l at HO HTK HKL
      have HB1 := Lib.hid (HB.out.alloc HSZ.out (.cells #[.string x.var, .int .i64 x.src, .int .i64 x.seq, .int .i64 x.time, .string x.ty, .slice aa x.ats.length ac] 86))
      have HO1 := Lib.hid (HO.out.below ((Below.refl wr.heap.size wr).alloc (Nat.le_refl _) (.cells #[.string x.var, .int .i64 x.src, .int .i64 x.seq, .int .i64 x.time, .string x.ty, .slice aa x.ats.length ac] 86)))
      have HB2 := Lib.hid (HB1.out.alloc (by have := HSZ.out; simp; omega) (.cells #[.string x.var] 9))
      have HO2 := Lib.hid (HO1.out.below ((Below.refl _ (wr.alloc (.cells #[.string x.var, .int .i64 x.src, .int .i64 x.seq, .int .i64 x.time, .string x.ty, .slice aa x.ats.length ac] 86))).alloc (Nat.le_refl _) (.cells #[.string x.var] 9)))
      clear hc hx hlt hk hbB
      go_wp2_with (first
        | (at_builtin; (refine wpList_append_own _ rfl (.tmp 18) (.tmp 21) 46 rfl (P + 3) 9 i0 (.string ⟨#[]⟩) 1 16 Try.underlying46 hi hz0 hz1 hz2 rfl (by decide) _ l.length (l.map encStr) rfl HO2.out ⟨wr.heap.size + 1, 0, none⟩ 1 1 [.string x.var] rfl rfl (World.news_of_block (by have := heap_alloc_new (wr.alloc (.cells #[.string x.var, .int .i64 x.src, .int .i64 x.seq, .int .i64 x.time, .string x.ty, .slice aa x.ats.length ac] 86)) (.cells #[.string x.var] 9); simpa using this)) (by intro u hu; simp at hu; subst hu; rfl) (by have := HKL.out; have := HLT.out; have := HN1.out; unfold maxLen; omega) (by have := HKL.out; have := HLT.out; have := HN1.out; omega) (by have := HSZ.out; simp; omega) ?_; intro v2 w2 hown2 hgrow2 hnil2; clear hnil2; have HO3 := Lib.hid (SOwn.snoc hown2); have HB3 := Lib.hid (HB2.out.grown hgrow2 (by have := HSZ.out; simp; omega) (fun k hk => by first | (cases hk; done) | exact (HO2.out.lt k hk).1)); clear hown2 hgrow2)))
      go_roundw
      all_goals first
        | exact ⟨k + 1, HLT.out, by go_num, by rw [HTK.out]; exact HO3, HB3⟩
        | exact meas7 HLT.out
        | (rw [hls]; exact meas7 HLT.out)
    · obtain rfl : k = n1 := by omega
      have hnl : ¬ ((k : Int) < (k : Int)) := by omega
      have HVS : Hid (varsB (bs.take k) = varsB bs) := Lib.hid (by rw [HL1.out, List.take_length])
      rw [HVS.out] at HO
      have hss := HO.out.ss
      obtain ⟨ao, cap, rfl⟩ := hss.shape
      have HSS := Lib.hid hss
      clear hss hlt hk HO HVS
      obtain ⟨⟨k0, k1, k2, k3, k4, k5, k6, k7, k8, k9, k10⟩, x0, y0, l0, l1, l2, l3, l4, l5⟩ := HX.out _ HB.out
      have HG := Lib.hid (heap_alloc_new wr (.cells #[.slice a1 k c1, .slice a2 n2 c2] 67))
      have HB1 := Lib.hid (HB.out.alloc HSZ.out (.cells #[.slice a1 k c1, .slice a2 n2 c2] 67))
      have HCC := Lib.hid (ConcatBd_any wr.heap.size B a1 k c1 a2 n2 c2 bs ms _ (H1.out _ HB1.out) (H2.out _ HB1.out) (by have := HBP.out; have := HSZ.out; simp; omega) HG.out HN1.out HN2.out)
      go_wp2_with (first
        | (go_at_call 57; (with_reducible refine HCC.out.mono ?_); rintro e w2 ⟨v', rfl, hbs, hb⟩; have HB2 := Lib.hid (HB1.out.trans (hb.mono (by have := HSZ.out; simp; omega))); obtain ⟨a3, c3, hsh, _, _⟩ := hbs.shape; obtain ⟨L, hL⟩ : ∃ L, L = (bs ++ ms).length := ⟨_, rfl⟩; rw [← hL] at hsh; subst hsh; have HLL := Lib.hid hL; clear hL; have HBS := Lib.hid hbs; have HS2 : Hid (wr.heap.size ≤ w2.heap.size) := (by have := hb.size; simp at this; exact Lib.hid (by omega)); have HK2 := Lib.hid (fun x hx => (hb.block x (by simp; omega)).trans (heap_alloc_old wr (.cells #[.slice a1 k c1, .slice a2 n2 c2] 67) hx) : ∀ x, x < wr.heap.size → w2.heap[x]? = wr.heap[x]?); clear hbs hb; clear k0 k1 k2 k3 k4 k5 k6 k7 k8 k9 k10 x0 y0 l0 l1 l2 l3 l4 l5))
      have hq := heap_alloc_new w2 (.cells #[.slice a3 L c3] 69)
      have hb3 : Below w2.heap.size w2 (w2.alloc (.cells #[.slice a3 L c3] 69)) := (Below.refl w2.heap.size w2).alloc (Nat.le_refl _) _
      obtain ⟨W3, hW3⟩ : ∃ W3, W3 = w2.alloc (.cells #[.slice a3 L c3] 69) := ⟨_, rfl⟩
      rw [← hW3] at hq hb3 ⊢
      have HB3 := Lib.hid (HB2.out.trans (hb3.mono (by have := HSZ.out; have := HS2.out; omega)))
      have hz3 : w2.heap.size < W3.heap.size := lt_of_block hq
      clear hW3
      obtain ⟨⟨k0, k1, k2, k3, k4, k5, k6, k7, k8, k9, k10⟩, x0, y0, l0, l1, l2, l3, l4, l5⟩ := HX.out _ HB3.out
      have q0 := cell_of_one hq
      have m0 := cell_regrown k0; have m1 := cell_regrown k1; have m2 := cell_regrown k2; have m3 := cell_regrown k3; have m4 := cell_regrown k4; have m5 := cell_regrown k5; have m6 := cell_regrown k6; have m7 := cell_regrown k7; have m8 := cell_regrown k8; have m9 := cell_regrown k9; have m10 := cell_regrown k10
      have mx := cell_regrown x0; have mq := cell_regrown q0
      have hP3 : P + 3 ≤ W3.heap.size := by have := HSZ.out; have := HS2.out; omega
      have hlen : L ≤ 140737488355328 := by rw [HLL.out]; have := HL1.out; have := HL2.out; have := HN1.out; have := HN2.out; rw [List.length_append]; omega
      have hlen1 : k ≤ 140737488355328 := by have := HN1.out; omega
      have hlv : (varsB bs).length ≤ 9223372036854775807 := by have := HL1.out; unfold varsB; rw [List.length_map]; omega
      have CL := rg (w := W3) (fun u hu => live9_any u)
      have CRR := (fun (u : World) (hu : Below W3.heap.size W3 u) => pReady_any c ao cap (varsB bs) u ((HSS.out.keep (fun x hx => ((hu.block x (by have := HS2.out; omega)).trans (hb3.block x (by have := HS2.out; omega))).trans (HK2.out x hx))).mono (fun x hx => by have := HS2.out; have := hu.size; omega)) hlv)
      have CR := rg (w := W3) (fun u hu => CRR u hu)
      have C1 := rg (w := W3) (fun u hu => pCond_any c B a1 k c1 bs u (H1.out u (HB3.out.trans (hu.mono hP3))) (by have := HBP.out; have := hu.size; omega) hlen1)
      have C2 := rg (w := W3) (fun u hu => pCond_any c w2.heap.size a3 L c3 (bs ++ ms) u ((HBS.out.below hb3 (Nat.le_refl _)).below hu (by omega)) (by have := hu.size; omega) hlen)
      unfold cdV at CR C1 C2
      have hmo := cond_more (c := c) (bs := bs) (ms := ms)
      have HFIN : Hid (∀ u, Below W3.heap.size W3 u → Below w.heap.size w u) := Lib.hid (fun u hu => by rw [← HP.out]; exact HWB.out.trans ((HB3.out.trans (hu.mono hP3)).mono (Nat.le_add_right P 3)))
      cases hr : readyB c (varsB bs) with
      | false =>
        rw [hr] at CR
        clear CRR hmo hr hb3 hq q0 k0 k1 k2 k3 k4 k5 k6 k7 k8 k9 k10 x0 y0 hlen hlen1 hlv hz3 hP3 l0 l1 l2 l3 l4 l5 hnl hi hz0 hz1 hz2
        have HCL := Lib.hid CL; have HCR := Lib.hid CR
        clear CL CR C1 C2
        go_wp2_with fail
        refine wp_region_quiet_below (by kernel_rfl) (by kernel_rfl) ?_
        quiet_step (first | (with_reducible exact HCL.out _ _))
        quiet_step (fail)
        quiet_step (fail)
        quiet_step (fail)
        quiet_step (first | (with_reducible exact HCR.out _ _))
        clear m0 m1 m2 m3 m4 m5 m6 m7 m8 m9 m10 mx mq
        generalize hA : Act.mk _ _ = A
        refine wpQuiet_step (fun K hK => ?_)
        subst hA
        go_simp
        generalize hA : Act.mk _ _ = A
        refine hK A ?_
        clear hK K
        refine wpQuiet_step (fun K hK => ?_)
        subst hA
        go_simp
        generalize hA : Act.mk _ _ = A
        refine hK A ?_
        clear hK K
        refine wpQuiet_step (fun K hK => ?_)
        subst hA
        go_simp
        generalize hA : Act.mk _ _ = A
        refine hK A ?_
        clear hK K
        refine wpQuiet_step (fun K hK => ?_)
        subst hA
        go_simp
        generalize hA : Act.mk _ _ = A
        refine hK A ?_
        clear hK K
        refine wpQuiet_step (fun K hK => ?_)
        subst hA
        go_simp
        generalize hA : Act.mk _ _ = A
        refine hK A ?_
        clear hK K
        refine wpQuiet_step (fun K hK => ?_)
        subst hA
        go_simp
        generalize hA : Act.mk _ _ = A
        refine hK A ?_
        clear hK K
        refine wpQuiet_step (fun K hK => ?_)
        subst hA
        go_simp
        generalize hA : Act.mk _ _ = A
        refine hK A ?_
        clear hK K
        refine wpQuiet_step (fun K hK => ?_)
        subst hA
        go_simp
        generalize hA : Act.mk _ _ = A
        refine hK A ?_
        clear hK K
        refine wpQuiet_step (fun K hK => ?_)
        subst hA
        go_simp
        generalize hA : Act.mk _ _ = A
        refine hK A ?_
        clear hK K
        refine wpQuiet_step (fun K hK => ?_)
        subst hA
        go_simp
        generalize hA : Act.mk _ _ = A
        refine hK A ?_
        clear hK K
        refine wpQuiet_step (fun K hK => ?_)
        subst hA
        go_simp
        generalize hA : Act.mk _ _ = A
        refine hK A ?_
        clear hK K
        refine wpQuiet_step (fun K hK => ?_)
        subst hA
        go_simp
        generalize hA : Act.mk _ _ = A
        refine hK A ?_
        clear hK K
        refine wpQuiet_nil ?_
        subst hA
        intro _ hw'
        obtain ⟨⟨dq, osq⟩, hw''⟩ := hw'
        subst hw''
        go_wp2
        go_ret
        exact ⟨rfl, HFIN.out _ (below_regrown W3 dq osq)⟩
      | true =>
        rw [hr] at CR
        rw [hmo hr] at C2
        clear CRR hmo hr hb3 hq q0 k0 k1 k2 k3 k4 k5 k6 k7 k8 k9 k10 x0 y0 hlen hlen1 hlv hz3 hP3 l0 l1 l2 l3 l4 l5 hnl hi hz0 hz1 hz2
        generalize condB c bs = t at C1 C2
        have ht : (t == t) = true := by simp
        have HCL := Lib.hid CL; have HCR := Lib.hid CR; have HC1 := Lib.hid C1; have HC2 := Lib.hid C2
        clear CL CR C1 C2
        go_wp2_with fail
        refine wp_region_quiet_below (by kernel_rfl) (by kernel_rfl) ?_
        quiet_step (first | (with_reducible exact HCL.out _ _))
        quiet_step (fail)
        quiet_step (fail)
        quiet_step (fail)
        quiet_step (first | (with_reducible exact HCR.out _ _))
        repeat (quiet_step (first | (with_reducible exact HC1.out _ _) | (with_reducible exact HC2.out _ _)))
        refine wpQuiet_nil ?_
        intro _ hw'
        obtain ⟨⟨dq, osq⟩, hw''⟩ := hw'
        subst hw''
        go_wp2
        go_ret
        exact ⟨rfl, HFIN.out _ (below_regrown W3 dq osq)⟩
end Go.Proofs.Ytghmaphpmnjiiaa
