/- Contract: Pattern of the program. -/
import Derived.Test.YtnfjodkpapmfkaaBi7
namespace Go.Proofs.Ytnfjodkpapmfkaa
open Go Go.RowKit Go.Maps Go.Sort

theorem putL_len (l : List Nm) (s : Nm) : (putL l s).length ≤ l.length + 1 := by
  unfold putL
  split
  · omega
  · have h := congrArg List.length (List.takeWhile_append_dropWhile (p := fun x => Op.bytesLess x s) (l := l))
    rw [List.length_append] at h
    rw [List.length_append, List.length_cons]
    generalize (l.takeWhile (fun x => Op.bytesLess x s)).length = a at h ⊢
    generalize (l.dropWhile (fun x => Op.bytesLess x s)).length = b at h ⊢
    omega
theorem putAll_len : ∀ (l a : List Nm), (putAll a l).length ≤ a.length + l.length
  | [], a => Nat.le_refl _
  | s :: r, a => by
    have h1 := putL_len a s
    have h2 := putAll_len r (putL a s)
    show (putAll (putL a s) r).length ≤ _
    rw [List.length_cons]
    omega
theorem varsG_len : ∀ (f : Fo) (a : List Nm), (varsG f a).length ≤ a.length + ndF f
  | .nil, a => Nat.le_refl _
  | .cons d k n, a => by
    have h1 := varsG_len k (v0 d)
    have h2 := putAll_len (varsN d k) a
    have h3 := varsG_len n (putAll a (varsN d k))
    have h4 := v0_len d
    rw [varsG_cons]
    unfold varsN at *
    simp only [ndF]
    omega
theorem varsN_len (d : Nt) (k : Fo) : (varsN d k).length ≤ szD d + szF k := by
  have h1 := varsG_len k (v0 d)
  have h2 := ndF_sz k
  have h3 := v0_len d
  unfold varsN
  simp only [szD]
  omega
theorem SsV.lt {w : World} {G : Nat → Prop} {v : Value} {l : List Nm} (h : SsV w G v l) : SsV w (fun b => b < w.heap.size) v l := by
  obtain ⟨ao, cap, rfl, hh⟩ := h
  refine ⟨ao, cap, rfl, fun hl => ?_⟩
  obtain ⟨b, o, e, _, hc⟩ := hh hl
  refine ⟨b, o, e, ?_, hc⟩
  cases l with
  | nil => exact absurd rfl hl
  | cons x r => simpa using World.block_lt_of_cell? _ _ (hc 0 x rfl)
def szP (p : Pt) : Nat := p.name.size + szD p.d + szF p.k + szT p.wh + 1
/-- A pattern as a value. -/
def PtV (w : World) (G : Nat → Prop) (p : Pt) (v : Value) : Prop :=
  ∃ ta tc ka kc wa wc, v = .agg #[.string p.name, .int .i64 p.win, .int .i64 p.d.kind, .string p.d.var, .string p.d.ty, .slice ta p.d.tests.length tc, .slice ka p.k.len kc, .slice wa p.wh.length wc] ∧
    CdV w G (.slice ta p.d.tests.length tc) p.d.tests ∧ KdV w G (.slice ka p.k.len kc) p.k ∧ CdV w G (.slice wa p.wh.length wc) p.wh
theorem cell_of_eight {w : World} {q : Nat} {c0 c1 c2 c3 c4 c5 c6 c7 : Value} {t : Nat} (h : w.heap[q]? = some (.cells #[c0, c1, c2, c3, c4, c5, c6, c7] t (0, 0))) :
    w.cell? ⟨q, 0, none⟩ = some c0 ∧ w.cell? ⟨q, 1, none⟩ = some c1 ∧ w.cell? ⟨q, 2, none⟩ = some c2 ∧ w.cell? ⟨q, 3, none⟩ = some c3 ∧ w.cell? ⟨q, 4, none⟩ = some c4 ∧ w.cell? ⟨q, 5, none⟩ = some c5 ∧ w.cell? ⟨q, 6, none⟩ = some c6 ∧ w.cell? ⟨q, 7, none⟩ = some c7 := by
  simp [World.cell?, h]
theorem condsE_ways (l : List Cnd) (v : List Nm) : condsE l v = 0 ∨ condsE l v = 74 := by
  unfold condsE; split
  · exact .inr rfl
  · split
    · exact .inl rfl
    · exact .inr rfl

set_option maxRecDepth 100000 in
set_option maxHeartbeats 4000000 in
theorem cPattern_any (p : Pt) (v : Value) (w : World) (hv : PtV w (fun x => x < w.heap.size) p v) (hsz : szP p ≤ 1048576) :
    Calls Try.prog 23 #[v] w fun e w' => e = .returned (.int .i64 (patE p)) ∧ Below w.heap.size w w' := by
  obtain ⟨name, win, d, k, wh⟩ := p
  obtain ⟨ta, tc, ka, kc, wa, wc, rfl, ht, hk, hw⟩ := hv
  simp only [szP] at hsz
  simp only at ht hk hw
  obtain ⟨P, hP⟩ : ∃ P, P = w.heap.size := ⟨_, rfl⟩
  obtain ⟨W1, hW1⟩ : ∃ W1, W1 = w.alloc (.cells #[.string name, .int .i64 win, .int .i64 d.kind, .string d.var, .string d.ty, .slice ta d.tests.length tc, .slice ka k.len kc, .slice wa wh.length wc] 27) := ⟨_, rfl⟩
  have hb1 : Below w.heap.size w W1 := by rw [hW1]; exact (Below.refl _ _).alloc (Nat.le_refl _) _
  have hr1 : W1.heap[P]? = some (.cells #[.string name, .int .i64 win, .int .i64 d.kind, .string d.var, .string d.ty, .slice ta d.tests.length tc, .slice ka k.len kc, .slice wa wh.length wc] 27 (0, 0)) := by rw [hW1, hP]; exact heap_alloc_new _ _
  have hz1 : W1.heap.size = P + 1 := by rw [hW1, hP]; simp
  have hnd : ∀ u, Below W1.heap.size W1 u → NdV u (fun x => x < u.heap.size) d k (.agg #[.int .i64 d.kind, .string d.var, .string d.ty, .slice ta d.tests.length tc, .slice ka k.len kc]) := fun u hu => by
    have hK : Keep (fun x => x < w.heap.size) w u := fun x hx => (hu.block x (Nat.lt_of_lt_of_le hx hb1.size)).trans (hb1.block x hx)
    exact NdV.mono ⟨_, _, rfl, ht.keep hK, hk.keep hK⟩ (fun x hx => Nat.lt_of_lt_of_le hx (Nat.le_trans hb1.size hu.size))
  have HX := Lib.hid (fun (u : World) (hu : Below W1.heap.size W1 u) => cell_of_eight ((hu.block P (by omega)).trans hr1))
  have HN := Lib.hid (fun u : World => vName_any name u (by unfold maxLen; omega))
  have HS := Lib.hid (fun (u : World) (hu : Below W1.heap.size W1 u) => cShape_any d k _ u (hnd u hu) (by omega))
  have HBI := Lib.hid (fun (u : World) (hu : Below W1.heap.size W1 u) => cBinds_any d k _ u (hnd u hu) (by omega))
  have HVA := Lib.hid (fun (u : World) (hu : Below W1.heap.size W1 u) => cVars_any d k _ u (hnd u hu) (by omega))
  have HCO := Lib.hid (fun (u : World) (hu : Below W1.heap.size W1 u) (ao : Option Addr) (cap : Nat) (hs : SsV u (fun x => x < u.heap.size) (.slice ao (varsN d k).length cap) (varsN d k)) => cConds_any wh wa wc (fun x => x < u.heap.size) ao cap (varsN d k) u (fun c hc => szC_wd (by have := szT_mem hc; omega)) (fun _ h => h) (by have := varsN_len d k; omega) (by have := szT_len wh; omega) hs
    ((hw.keep (w' := u) (fun x hx => (hu.block x (Nat.lt_of_lt_of_le hx hb1.size)).trans (hb1.block x hx))).mono (fun x hx => Nat.lt_of_lt_of_le hx (Nat.le_trans hb1.size hu.size))))
  have HB1 := Lib.hid hb1; have HW := Lib.hid hW1; have HP := Lib.hid hP
  have HB := Lib.hid (Below.refl W1.heap.size W1)
  obtain ⟨c0, c1, c2, c3, c4, c5, c6, c7⟩ := HX.out _ HB.out
  clear ht hk hw hb1 hr1 hz1 hnd hsz hW1 hP
  unfold patE
  simp only
  cases hnm : nameB (nb name) with
  | false =>
    rw [if_pos (Or.inl rfl)]
    have e1 : nameB name.data.toList = false := hnm
    simp only [e1] at HN
    clear hnm e1
    go_enter Try.func23, Try.ntmps23
    go_wp2_with fail
    rw [← HW.out, ← HP.out]
    go_wp2_with (first | (go_at_call 72; (with_reducible refine (HN.out _).mono ?_); rintro e u ⟨rfl, rfl⟩))
    go_ret
    exact ⟨rfl, HB1.out⟩
  | true =>
    have e1 : nameB name.data.toList = true := hnm
    simp only [e1] at HN
    clear hnm e1
    by_cases hw1 : win < 1
    · rw [if_pos (Or.inr (Or.inl hw1))]
      have g1 := decide_eq_true hw1
      clear hw1
      go_enter Try.func23, Try.ntmps23
      go_wp2_with fail
      rw [← HW.out, ← HP.out]
      go_wp2_with (first | (go_at_call 72; (with_reducible refine (HN.out _).mono ?_); rintro e u ⟨rfl, rfl⟩))
      go_ret
      exact ⟨rfl, HB1.out⟩
    · have g1 := decide_eq_false hw1
      by_cases hw2 : 1099511627776 < win
      · rw [if_pos (Or.inr (Or.inr hw2))]
        have g2 := decide_eq_true hw2
        clear hw1
        go_enter Try.func23, Try.ntmps23
        go_wp2_with fail
        rw [← HW.out, ← HP.out]
        go_wp2_with (first | (go_at_call 72; (with_reducible refine (HN.out _).mono ?_); rintro e u ⟨rfl, rfl⟩))
        go_ret
        exact ⟨rfl, HB1.out⟩
      · have g2 := decide_eq_false hw2
        rw [if_neg (fun h => h.elim (fun h => by cases h) (fun h => h.elim hw1 hw2))]
        clear hw1
        by_cases hs : shapeN d k = 0
        · rw [if_neg (by rw [hs]; simp)]
          rw [hs] at HS
          clear hs
          cases hbn : bindN d k with
          | false =>
            rw [if_pos rfl]
            rw [hbn, if_neg (by simp)] at HBI
            clear hbn
            go_enter Try.func23, Try.ntmps23
            go_wp2_with fail
            rw [← HW.out, ← HP.out]
            go_wp2_with (first
              | (go_at_call 72; (with_reducible refine (HN.out _).mono ?_); rintro e u ⟨rfl, rfl⟩)
              | (go_at_call 17; (with_reducible refine (HS.out _ HB.out).mono ?_); rintro e u ⟨rfl, hb⟩; have HB2 := Lib.hid hb; clear hb c0 c1 c2 c3 c4 c5 c6 c7; obtain ⟨c0, c1, c2, c3, c4, c5, c6, c7⟩ := HX.out _ HB2.out)
              | (go_at_call 73; (with_reducible refine (HBI.out _ HB2.out).mono ?_); rintro e u2 ⟨rfl, hb⟩; have HB3 := Lib.hid (HB2.out.trans (hb.mono HB2.out.size)); clear hb))
            go_ret
            exact ⟨rfl, HB1.out.trans (HB3.out.mono HB1.out.size)⟩
          | true =>
            rw [if_neg (by simp)]
            rw [hbn, if_pos rfl] at HBI
            clear hbn
            go_enter Try.func23, Try.ntmps23
            go_wp2_with fail
            rw [← HW.out, ← HP.out]
            go_wp2_with (first
              | (go_at_call 72; (with_reducible refine (HN.out _).mono ?_); rintro e u ⟨rfl, rfl⟩)
              | (go_at_call 17; (with_reducible refine (HS.out _ HB.out).mono ?_); rintro e u ⟨rfl, hb⟩; have HB2 := Lib.hid hb; clear hb c0 c1 c2 c3 c4 c5 c6 c7; obtain ⟨c0, c1, c2, c3, c4, c5, c6, c7⟩ := HX.out _ HB2.out)
              | (go_at_call 73; (with_reducible refine (HBI.out _ HB2.out).mono ?_); rintro e u2 ⟨rfl, hb⟩; have HB3 := Lib.hid (HB2.out.trans (hb.mono HB2.out.size)); clear hb c0 c1 c2 c3 c4 c5 c6 c7; obtain ⟨c0, c1, c2, c3, c4, c5, c6, c7⟩ := HX.out _ HB3.out)
              | fail)
            go_region_held3 (fun u => u.cell? ⟨P, 2, none⟩ = some (.int .i64 d.kind) ∧ u.cell? ⟨P, 3, none⟩ = some (.string d.var) ∧ u.cell? ⟨P, 4, none⟩ = some (.string d.ty) ∧ u.cell? ⟨P, 5, none⟩ = some (.slice ta d.tests.length tc) ∧ u.cell? ⟨P, 6, none⟩ = some (.slice ka k.len kc) ∧ u.cell? ⟨P, 7, none⟩ = some (.slice wa wh.length wc)) (first | exact ⟨c2, c3, c4, c5, c6, c7⟩ | exact ⟨y2, y3, y4, y5, y6, y7⟩ | exact ⟨z2, z3, z4, z5, z6, z7⟩ | go_keep)
              (first
                | (go_at_call 18; (with_reducible refine (HVA.out _ (by first | exact HB3.out.drew | exact HB3.out)).mono ?_); rintro e u3 ⟨uv, rfl, hs, hb⟩; obtain ⟨ao, cap, rfl⟩ := hs.shape; have HB4 := Lib.hid ((show Below W1.heap.size W1 _ from by first | exact HB3.out.drew | exact HB3.out).trans (hb.mono HB3.out.size)); have HSS := Lib.hid hs.lt; clear hs hb; obtain ⟨_, _, y2, y3, y4, y5, y6, y7⟩ := HX.out _ HB4.out)
                | (go_at_call 74; (with_reducible refine (HCO.out _ HB4.out ao cap HSS.out).mono ?_); rintro e u4 ⟨rfl, hb⟩; have HB5 := Lib.hid (HB4.out.trans (hb.mono HB4.out.size)); clear hb; obtain ⟨_, _, z2, z3, z4, z5, z6, z7⟩ := HX.out _ HB5.out))
            all_goals go_wp2
            all_goals go_ret
            all_goals exact ⟨rfl, HB1.out.trans (HB5.out.mono HB1.out.size)⟩
        · rw [if_pos hs]
          generalize shapeN d k = r at HS hs ⊢
          have g3 : (r == 0) = false := beq_eq_false_iff_ne.2 hs
          have g4 := decide_eq_false hs
          clear hs
          go_enter Try.func23, Try.ntmps23
          go_wp2_with fail
          rw [← HW.out, ← HP.out]
          go_wp2_with (first
            | (go_at_call 72; (with_reducible refine (HN.out _).mono ?_); rintro e u ⟨rfl, rfl⟩)
            | (go_at_call 17; (with_reducible refine (HS.out _ HB.out).mono ?_); rintro e u ⟨rfl, hb⟩; have HB2 := Lib.hid hb; clear hb))
          go_ret
          exact ⟨rfl, HB1.out.trans (HB2.out.mono HB1.out.size)⟩
end Go.Proofs.Ytnfjodkpapmfkaa
