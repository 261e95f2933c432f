/- Contract: the document's Pattern. -/
import Derived.Test.YtmjajoepgilokaaRz7
import Derived.Test.YtmjajoepgilokaaRw7
namespace Go.Proofs.Ytmjajoepgilokaa
open Go Go.RowKit Go.Sort

theorem condsE_bad2 {l : List Cnd} {c : Cnd} {v : List Nm} (hc : c ∈ l) (h : okC c v = false) : condsE l v = 74 := by
  unfold condsE
  split
  · rfl
  · rw [if_neg]
    intro hh
    have := List.all_eq_true.1 hh c hc
    rw [h] at this; cases this
set_option maxRecDepth 100000 in
set_option maxHeartbeats 4000000 in
theorem r7Pattern_any (p : Pt) (v : Value) (w : World) (hv : PtV w (fun x => x < w.heap.size) p v) (hsz : szP p ≤ 1048576) :
    Calls Try.prog 12 #[v] w fun e w' => e = .returned (.int .i64 (patE p)) ∧ Below w.heap.size w w' := by
  obtain ⟨name, win, d, k, wh⟩ := p
  obtain ⟨ta, tc, ka, kc, wa, wc, rfl, ht, hk, hw⟩ := hv
  simp only [szP] at hsz
  simp only at ht hk hw
  obtain ⟨P, hP⟩ : ∃ P, P = w.heap.size := ⟨_, rfl⟩
  obtain ⟨W1, hW1⟩ : ∃ W1, W1 = w.alloc (.cells #[.string name, .int .i64 win, .int .i64 d.kind, .string d.var, .string d.ty, .slice ta d.tests.length tc, .slice ka k.len kc, .slice wa wh.length wc] 27) := ⟨_, rfl⟩
  have hb1 : Below w.heap.size w W1 := by rw [hW1]; exact (Below.refl _ _).alloc (Nat.le_refl _) _
  have hr1 : W1.heap[P]? = some (.cells #[.string name, .int .i64 win, .int .i64 d.kind, .string d.var, .string d.ty, .slice ta d.tests.length tc, .slice ka k.len kc, .slice wa wh.length wc] 27 (0, 0)) := by rw [hW1, hP]; exact heap_alloc_new _ _
  have hz1 : W1.heap.size = P + 1 := by rw [hW1, hP]; simp
  have hnd : ∀ u, Below W1.heap.size W1 u → NdV u (fun x => x < u.heap.size) d k (.agg #[.int .i64 d.kind, .string d.var, .string d.ty, .slice ta d.tests.length tc, .slice ka k.len kc]) := fun u hu => by
    have hK : Keep (fun x => x < w.heap.size) w u := fun x hx => (hu.block x (Nat.lt_of_lt_of_le hx hb1.size)).trans (hb1.block x hx)
    exact NdV.mono ⟨_, _, rfl, ht.keep hK, hk.keep hK⟩ (fun x hx => Nat.lt_of_lt_of_le hx (Nat.le_trans hb1.size hu.size))
  have HX := Lib.hid (fun (u : World) (hu : Below W1.heap.size W1 u) => cell_of_eight ((hu.block P (by omega)).trans hr1))
  have HN := Lib.hid (fun u : World => r3Name_any name u (by unfold maxLen; omega))
  have HS := Lib.hid (fun (u : World) (hu : Below W1.heap.size W1 u) => r7Shape_any d k _ u (hnd u hu) (by omega))
  have HBI := Lib.hid (fun (u : World) (hu : Below W1.heap.size W1 u) => r7Binds_any d k u _ (hnd u hu) (by omega))
  have HVA := Lib.hid (fun (u : World) (hu : Below W1.heap.size W1 u) => r7Vars_any d k u _ (hnd u hu) (by omega))
  have HWL : Hid (wh.length ≤ 1048576) := Lib.hid (by have := szT_len wh; omega)
  have HVL : Hid ((varsN d k).length ≤ 1048576) := Lib.hid (Nat.le_trans (varsN_len d k) (by omega))
  have HCD := Lib.hid (fun (i : Nat) (hi : i < wh.length) => (by
    obtain ⟨wa', wc', he, hh⟩ := hw
    simp only [Value.slice.injEq, true_and] at he
    obtain ⟨rfl, rfl⟩ := he
    obtain ⟨b, o, e, hb, hc⟩ := hh (fun h => by rw [h] at hi; exact absurd hi (Nat.not_lt_zero _))
    refine ⟨b, o, e, fun u hu ao cap hs => ?_⟩
    have hc' := (CdAt.keep (Keep.of_below (hb1.trans (hu.mono hb1.size))) hb hc).cells hi
    have hwd : wdC wh[i] := szC_wd (by have := szT_mem (List.getElem_mem (l := wh) hi); omega)
    have hcall := r7Cond_any wh[i] (fun x => x < u.heap.size) ao cap (varsN d k) u hwd (fun _ h => h) (by have := varsN_len d k; omega) hs
    refine ⟨hc'.1, hc'.2.1, hc'.2.2.1, hc'.2.2.2.1, hc'.2.2.2.2.1, hc'.2.2.2.2.2.1, hc'.2.2.2.2.2.2.1, hc'.2.2.2.2.2.2.2.1, hc'.2.2.2.2.2.2.2.2.1, hc'.2.2.2.2.2.2.2.2.2.1, hc'.2.2.2.2.2.2.2.2.2.2, hcall.mono (fun e w' h => ⟨h.1, hu.trans (h.2.mono hu.size), h.2⟩)⟩ :
      ∃ b o, wa = some ⟨b, o, none⟩ ∧ ∀ u, Below W1.heap.size W1 u → ∀ ao cap, SsV u (fun x => x < u.heap.size) (.slice ao (varsN d k).length cap) (varsN d k) → u.cell? ⟨b, o + i * 11, none⟩ = some (.string wh[i].left.var) ∧ u.cell? ⟨b, o + i * 11 + 1, none⟩ = some (.string wh[i].left.attr) ∧ u.cell? ⟨b, o + i * 11 + 2, none⟩ = some (.int .i64 wh[i].left.vk) ∧ u.cell? ⟨b, o + i * 11 + 3, none⟩ = some (.int .i64 wh[i].left.vn) ∧ u.cell? ⟨b, o + i * 11 + 4, none⟩ = some (.string wh[i].left.vs) ∧ u.cell? ⟨b, o + i * 11 + 5, none⟩ = some (.int .i64 wh[i].rel) ∧ u.cell? ⟨b, o + i * 11 + 6, none⟩ = some (.string wh[i].right.var) ∧ u.cell? ⟨b, o + i * 11 + 7, none⟩ = some (.string wh[i].right.attr) ∧ u.cell? ⟨b, o + i * 11 + 8, none⟩ = some (.int .i64 wh[i].right.vk) ∧ u.cell? ⟨b, o + i * 11 + 9, none⟩ = some (.int .i64 wh[i].right.vn) ∧ u.cell? ⟨b, o + i * 11 + 10, none⟩ = some (.string wh[i].right.vs) ∧
        Calls Try.prog 29 #[cdV wh[i], .slice ao (varsN d k).length cap] u (fun e w' => e = .returned (.int .i64 (condE wh[i] (varsN d k))) ∧ Below W1.heap.size W1 w' ∧ Below u.heap.size u w')))
  have HE := Lib.hid (fun (u : World) (hu : Below W1.heap.size W1 u) => hb1.trans (hu.mono hb1.size))
  have HW := Lib.hid hW1; have HP := Lib.hid hP
  have HB := Lib.hid (Below.refl W1.heap.size W1)
  obtain ⟨c0, c1, c2, c3, c4, c5, c6, c7⟩ := HX.out _ HB.out
  clear ht hk hw hb1 hr1 hz1 hnd hsz hW1 hP
  unfold patE
  simp only
  cases hnm : nameB (nb name) with
  | false =>
    rw [if_pos (Or.inl rfl)]
    have e1 : nameB name.data.toList = false := hnm
    simp only [e1] at HN
    clear hnm e1
    go_enter Try.func12, Try.ntmps12
    go_wp2_with fail
    rw [← HW.out, ← HP.out]
    go_wp2_with (first | (go_at_call 39; (with_reducible refine (HN.out _).mono ?_); rintro e u0 ⟨rfl, rfl⟩))
    go_ret
    exact ⟨rfl, by first | exact HE.out _ HB.out | (rw [HP.out]; exact HE.out _ HB.out)⟩
  | true =>
    have e1 : nameB name.data.toList = true := hnm
    simp only [e1] at HN
    clear hnm e1
    by_cases hw1 : win < 1
    · rw [if_pos (Or.inr (Or.inl hw1))]
      have g1 := decide_eq_true hw1
      clear hw1
      go_enter Try.func12, Try.ntmps12
      go_wp2_with fail
      rw [← HW.out, ← HP.out]
      go_wp2_with (first | (go_at_call 39; (with_reducible refine (HN.out _).mono ?_); rintro e u0 ⟨rfl, rfl⟩))
      go_ret
      exact ⟨rfl, by first | exact HE.out _ HB.out | (rw [HP.out]; exact HE.out _ HB.out)⟩
    · have g1 := decide_eq_false hw1
      by_cases hw2 : 1099511627776 < win
      · rw [if_pos (Or.inr (Or.inr hw2))]
        have g2 := decide_eq_true hw2
        clear hw1
        go_enter Try.func12, Try.ntmps12
        go_wp2_with fail
        rw [← HW.out, ← HP.out]
        go_wp2_with (first | (go_at_call 39; (with_reducible refine (HN.out _).mono ?_); rintro e u0 ⟨rfl, rfl⟩))
        go_ret
        exact ⟨rfl, by first | exact HE.out _ HB.out | (rw [HP.out]; exact HE.out _ HB.out)⟩
      · rw [if_neg (show ¬ (true = false ∨ win < 1 ∨ 1099511627776 < win) from fun h => h.elim (fun h => by cases h) (fun h => h.elim hw1 hw2))]
        have g2 := decide_eq_false hw2
        by_cases hs0 : shapeN d k = 0
        · rw [hs0] at HS
          rw [if_neg (show ¬ (shapeN d k ≠ 0) from fun h => h hs0)]
          clear hs0
          cases hbn : bindN d k with
          | false =>
            rw [hbn] at HBI
            simp only [Bool.false_eq_true, if_false] at HBI
            rw [if_pos rfl]
            clear hbn
            go_enter Try.func12, Try.ntmps12
            go_wp2_with fail
            rw [← HW.out, ← HP.out]
            go_wp2_with (first | (go_at_call 39; (with_reducible refine (HN.out _).mono ?_); rintro e u0 ⟨rfl, rfl⟩) | (go_at_call 20; (with_reducible refine (HS.out _ HB.out).mono ?_); rintro e u1 ⟨rfl, hb⟩; have HU1 := Lib.hid (HB.out.trans (hb.mono HB.out.size)); clear hb c0 c1 c2 c3 c4 c5 c6 c7; obtain ⟨c0, c1, c2, c3, c4, c5, c6, c7⟩ := HX.out _ HU1.out) | (go_at_call 22; (with_reducible refine (HBI.out _ HU1.out).mono ?_); rintro e u2 ⟨rfl, hb⟩; have HU2 := Lib.hid (HU1.out.trans (hb.mono HU1.out.size)); clear hb c0 c1 c2 c3 c4 c5 c6 c7; obtain ⟨c0, c1, c2, c3, c4, c5, c6, c7⟩ := HX.out _ HU2.out))
            go_ret
            exact ⟨rfl, by first | exact HE.out _ HU2.out | (rw [HP.out]; exact HE.out _ HU2.out)⟩
          | true =>
            rw [hbn] at HBI
            simp only [if_true] at HBI
            rw [if_neg (show ¬ (true = false) from by simp)]
            clear hbn
            by_cases h16 : 16 < wh.length
            · have t1 : (16 : Int) < (wh.length : Int) := by omega
              have t1' := decide_eq_true t1
              rw [show condsE wh (varsN d k) = 74 from by unfold condsE; rw [if_pos h16]]
              clear h16 HCD
              go_enter Try.func12, Try.ntmps12
              go_wp2_with fail
              rw [← HW.out, ← HP.out]
              go_wp2_with (first | (go_at_call 39; (with_reducible refine (HN.out _).mono ?_); rintro e u0 ⟨rfl, rfl⟩) | (go_at_call 20; (with_reducible refine (HS.out _ HB.out).mono ?_); rintro e u1 ⟨rfl, hb⟩; have HU1 := Lib.hid (HB.out.trans (hb.mono HB.out.size)); clear hb c0 c1 c2 c3 c4 c5 c6 c7; obtain ⟨c0, c1, c2, c3, c4, c5, c6, c7⟩ := HX.out _ HU1.out) | (go_at_call 22; (with_reducible refine (HBI.out _ HU1.out).mono ?_); rintro e u2 ⟨rfl, hb⟩; have HU2 := Lib.hid (HU1.out.trans (hb.mono HU1.out.size)); clear hb c0 c1 c2 c3 c4 c5 c6 c7; obtain ⟨c0, c1, c2, c3, c4, c5, c6, c7⟩ := HX.out _ HU2.out))
              go_ret
              exact ⟨rfl, by first | exact HE.out _ HU2.out | (rw [HP.out]; exact HE.out _ HU2.out)⟩
            · have t1 : ¬ (16 : Int) < (wh.length : Int) := by omega
              have t1' := decide_eq_false t1
              have HC0 : Hid ((∀ c ∈ wh, okC c (varsN d k) = true) → condsE wh (varsN d k) = 0) := Lib.hid (fun h => by unfold condsE; rw [if_neg h16, if_pos (List.all_eq_true.2 h)])
              have HC1 : Hid (∀ c ∈ wh, okC c (varsN d k) = false → condsE wh (varsN d k) = 74) := Lib.hid (fun c hc h => condsE_bad2 hc h)
              generalize condsE wh (varsN d k) = E at HC0 HC1 ⊢
              generalize varsN d k = V at *
              clear h16
              go_enter Try.func12, Try.ntmps12
              go_wp2_with fail
              rw [← HW.out, ← HP.out]
              go_wp2_with (first | (go_at_call 39; (with_reducible refine (HN.out _).mono ?_); rintro e u0 ⟨rfl, rfl⟩) | (go_at_call 20; (with_reducible refine (HS.out _ HB.out).mono ?_); rintro e u1 ⟨rfl, hb⟩; have HU1 := Lib.hid (HB.out.trans (hb.mono HB.out.size)); clear hb c0 c1 c2 c3 c4 c5 c6 c7; obtain ⟨c0, c1, c2, c3, c4, c5, c6, c7⟩ := HX.out _ HU1.out) | (go_at_call 22; (with_reducible refine (HBI.out _ HU1.out).mono ?_); rintro e u2 ⟨rfl, hb⟩; have HU2 := Lib.hid (HU1.out.trans (hb.mono HU1.out.size)); clear hb c0 c1 c2 c3 c4 c5 c6 c7; obtain ⟨c0, c1, c2, c3, c4, c5, c6, c7⟩ := HX.out _ HU2.out) | (go_at_call 25; (with_reducible refine (HVA.out _ HU2.out).mono ?_); rintro e u3 ⟨vv, rfl, ho, hb⟩; have HVV := Lib.hid ho; have HU3 := Lib.hid (HU2.out.trans (hb.mono HU2.out.size)); have HVB := Lib.hid HU2.out.size; clear ho hb c0 c1 c2 c3 c4 c5 c6 c7; obtain ⟨c0, c1, c2, c3, c4, c5, c6, c7⟩ := HX.out _ HU3.out))
              obtain ⟨vo, vc, rfl⟩ := HVV.out.ss.shape
              go_loopw [6, 7] (fun iv _ wr => ∃ i : Nat, i ≤ wh.length ∧ iv = .int .i64 (i : Int) ∧ Hid (Below W1.heap.size W1 wr) ∧ Hid (SsV wr (fun x => x < wr.heap.size) (.slice vo V.length vc) V) ∧ Hid (∀ c ∈ wh.take i, okC c V = true)) (fun iv _ _ => wh.length - (intOf iv).toNat)
              case atStart => exact ⟨0, Nat.zero_le _, rfl, HU3, Lib.hid HVV.out.ss, Lib.hid (fun c hc => by simp at hc)⟩
              case round =>
                obtain ⟨i, hi, rfl, HBi, HSi, HV⟩ := hrel
                clear c0 c1 c2 c3 c4 c5 c6 c7
                obtain ⟨c0, c1, c2, c3, c4, c5, c6, c7⟩ := HX.out _ HBi.out
                by_cases hlt : i < wh.length
                · have hlti : (i : Int) < (wh.length : Int) := by omega
                  have hlti' := decide_eq_true hlti
                  have hls := wr7t hlt HWL.out
                  have HLT := Lib.hid hlt
                  obtain ⟨b, o, rfl, hc⟩ := HCD.out i hlt
                  have HMM : Hid (wh[i] ∈ wh) := Lib.hid (List.getElem_mem hlt)
                  have HTK : Hid (wh.take (i + 1) = wh.take i ++ [wh[i]]) := Lib.hid (List.take_succ_eq_append_getElem hlt)
                  have hcu := hc _ HBi.out vo vc HSi.out
                  clear hc hi
                  generalize wh[i] = c at HMM HTK hcu
                  clear hlt
                  obtain ⟨⟨lv, la, lk, ln, ls⟩, rel, ⟨rv, ra, rk, rn, rs⟩⟩ := c
                  obtain ⟨y0, y1, y2, y3, y4, y5, y6, y7, y8, y9, y10, hcall⟩ := hcu
                  unfold cdV at hcall
                  simp only at hcall y0 y1 y2 y3 y4 y5 y6 y7 y8 y9 y10
                  cases hok : okC ⟨⟨lv, la, lk, ln, ls⟩, rel, ⟨rv, ra, rk, rn, rs⟩⟩ V with
                  | false =>
                    rw [show condE ⟨⟨lv, la, lk, ln, ls⟩, rel, ⟨rv, ra, rk, rn, rs⟩⟩ V = 74 from by unfold condE; rw [hok]; rfl] at hcall
                    have HEE := Lib.hid (HC1.out _ HMM.out hok)
                    have HC := Lib.hid hcall
                    clear hcall hok
                    go_wp2_with (first | (go_at_call 29; (with_reducible refine HC.out.mono ?_); rintro e u4 ⟨rfl, hb, _⟩; have HB4 := Lib.hid hb; clear hb c0 c1 c2 c3 c4 c5 c6 c7 y0 y1 y2 y3 y4 y5 y6 y7 y8 y9 y10))
                    go_ret
                    exact ⟨by rw [HEE.out]; rfl, HE.out _ HB4.out⟩
                  | true =>
                    rw [show condE ⟨⟨lv, la, lk, ln, ls⟩, rel, ⟨rv, ra, rk, rn, rs⟩⟩ V = 0 from by unfold condE; rw [hok]; rfl] at hcall
                    have HOK := Lib.hid hok
                    have HC := Lib.hid hcall
                    clear hcall hok
                    go_wp2_with (first | (go_at_call 29; (with_reducible refine HC.out.mono ?_); rintro e u4 ⟨rfl, hb, hbk⟩; have HB4 := Lib.hid hb; have HS4 := Lib.hid ((HSi.out.keep (Keep.of_below hbk)).lt); clear hb hbk c0 c1 c2 c3 c4 c5 c6 c7 y0 y1 y2 y3 y4 y5 y6 y7 y8 y9 y10; obtain ⟨c0, c1, c2, c3, c4, c5, c6, c7⟩ := HX.out _ HB4.out))
                    go_roundw
                    all_goals first
                      | exact ⟨i + 1, HLT.out, by go_num, HB4, HS4, Lib.hid (fun c hc => by rw [HTK.out, List.mem_append, List.mem_singleton] at hc; exact hc.elim (HV.out c) (fun e => e ▸ HOK.out))⟩
                      | exact meas7t HLT.out
                      | (rw [hls]; exact meas7t HLT.out)
                · obtain rfl : i = wh.length := by omega
                  have hnl : ¬ ((wh.length : Int) < (wh.length : Int)) := by omega
                  have hv := HV.out
                  rw [List.take_length] at hv
                  have HEE := Lib.hid (HC0.out hv)
                  clear hlt hi hv
                  go_wp2
                  go_ret
                  exact ⟨by rw [HEE.out]; rfl, HE.out _ HBi.out⟩
        · rw [if_pos hs0]
          generalize shapeN d k = S at *
          have n1 : (S == 0) = false := beq_eq_false_iff_ne.2 hs0
          have n3 : (S != 0) = true := bne_iff_ne.2 hs0
          go_enter Try.func12, Try.ntmps12
          go_wp2_with fail
          rw [← HW.out, ← HP.out]
          go_wp2_with (first | (go_at_call 39; (with_reducible refine (HN.out _).mono ?_); rintro e u0 ⟨rfl, rfl⟩) | (go_at_call 20; (with_reducible refine (HS.out _ HB.out).mono ?_); rintro e u1 ⟨rfl, hb⟩; have HU1 := Lib.hid (HB.out.trans (hb.mono HB.out.size)); clear hb c0 c1 c2 c3 c4 c5 c6 c7; obtain ⟨c0, c1, c2, c3, c4, c5, c6, c7⟩ := HX.out _ HU1.out))
          go_ret
          exact ⟨rfl, by first | exact HE.out _ HU1.out | (rw [HP.out]; exact HE.out _ HU1.out)⟩
end Go.Proofs.Ytmjajoepgilokaa
