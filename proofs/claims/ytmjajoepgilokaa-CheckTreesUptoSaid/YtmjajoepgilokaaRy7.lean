/- Contract: the document's Vars. -/
import Derived.Test.YtmjajoepgilokaaRx7
import Derived.Test.YtmjajoepgilokaaRu7
import Derived.Test.YtmjajoepgilokaaPt7
namespace Go.Proofs.Ytmjajoepgilokaa
open Go Go.RowKit Go.Sort

set_option maxRecDepth 100000 in
set_option maxHeartbeats 2000000 in
theorem r7Vars_any (d : Nt) (k : Fo) : ∀ (w : World) (v : Value), NdV w (fun x => x < w.heap.size) d k v → szD d + szF k ≤ 1048576 → Calls Try.prog 25 #[v] w (fun e w' => ∃ v', e = .returned v' ∧ SOwn w' w.heap.size v' (varsN d k) ∧ Below w.heap.size w w') := by
  revert d k
  refine Fo.node_ind (p := fun d k => ∀ (w : World) (v : Value), NdV w (fun x => x < w.heap.size) d k v → szD d + szF k ≤ 1048576 → Calls Try.prog 25 #[v] w (fun e w' => ∃ v', e = .returned v' ∧ SOwn w' w.heap.size v' (varsN d k) ∧ Below w.heap.size w w')) ?_
  intro d K ih w v hv hsz
  obtain ⟨ta, tc, ka, kc, rfl⟩ := hv.shape
  obtain ⟨ht, hk⟩ := hv.inj
  obtain ⟨W, hW⟩ : ∃ W, W = w.alloc (.cells #[.int .i64 d.kind, .string d.var, .string d.ty, .slice ta d.tests.length tc, .slice ka K.len kc] 25) := ⟨_, rfl⟩
  have hq := heap_alloc_new w (.cells #[.int .i64 d.kind, .string d.var, .string d.ty, .slice ta d.tests.length tc, .slice ka K.len kc] 25)
  have hb0 : Below w.heap.size w W := by rw [hW]; exact (Below.refl _ _).alloc (Nat.le_refl _) _
  rw [← hW] at hq
  have hz : W.heap.size = w.heap.size + 1 := by rw [hW]; simp
  obtain ⟨P, hP⟩ : ∃ P, P = w.heap.size := ⟨_, rfl⟩
  have hlen : K.len ≤ 1048576 := by have := szF_len K; omega
  have HK := Lib.hid (fun (i : Nat) (hi : i < K.len) => (by
    obtain ⟨b, o, e, hb, hf⟩ := hk (nil_of_len hi)
    obtain ⟨d2, k2, hd⟩ := Fo.drop_cons hi
    refine ⟨b, o, d2, k2, e, hd, fun u hu => ?_⟩
    obtain ⟨ta, tc, ka, kc, c0, c1, c2, c3, c4, hv2⟩ := kid_val (W := W) (u := u) ((FoAt.keep (Keep.of_below hb0) hb hf).mono (fun x hx => Nat.lt_of_lt_of_le hx hb0.size)) (Nat.lt_of_lt_of_le hb hb0.size) hu hd
    have h1 := Fo.All.drop i ih
    have h4 := szF_drop K i
    rw [hd] at h1 h4
    simp only [szF] at h4
    exact ⟨ta, tc, ka, kc, c0, c1, c2, c3, c4, (h1.1 u _ hv2 (by omega)).mono (fun e w' ⟨v', g1, g2, g3⟩ => ⟨v', g1, own7_mono g2 (Nat.le_trans hb0.size hu.size), hu.trans (g3.mono hu.size), g3⟩)⟩ :
      ∃ b o d2 k2, ka = some ⟨b, o, none⟩ ∧ K.drop i = .cons d2 k2 (K.drop (i + 1)) ∧ ∀ u, Below W.heap.size W u → ∃ ta tc ka kc, u.cell? ⟨b, o + i * 5, none⟩ = some (.int .i64 d2.kind) ∧ u.cell? ⟨b, o + i * 5 + 1, none⟩ = some (.string d2.var) ∧ u.cell? ⟨b, o + i * 5 + 2, none⟩ = some (.string d2.ty) ∧
      u.cell? ⟨b, o + i * 5 + 3, none⟩ = some (.slice ta d2.tests.length tc) ∧ u.cell? ⟨b, o + i * 5 + 4, none⟩ = some (.slice ka k2.len kc) ∧ Calls Try.prog 25 #[.agg #[.int .i64 d2.kind, .string d2.var, .string d2.ty, .slice ta d2.tests.length tc, .slice ka k2.len kc]] u (fun e w' => ∃ v', e = .returned v' ∧ SOwn w' w.heap.size v' (varsN d2 k2) ∧ Below W.heap.size W w' ∧ Below u.heap.size u w')))
  have HX := Lib.hid (fun (u : World) (hu : Below W.heap.size W u) => (by
    have := (hu.block P (by omega)).trans (hP ▸ hq)
    simp [World.cell?, this] : u.cell? ⟨P, 0, none⟩ = some (.int .i64 d.kind) ∧ u.cell? ⟨P, 1, none⟩ = some (.string d.var) ∧ u.cell? ⟨P, 2, none⟩ = some (.string d.ty) ∧ u.cell? ⟨P, 3, none⟩ = some (.slice ta d.tests.length tc) ∧ u.cell? ⟨P, 4, none⟩ = some (.slice ka K.len kc)))
  have HB0 := Lib.hid hb0; have HW := Lib.hid hW; have HP := Lib.hid hP
  have HR := Lib.hid (Below.refl W.heap.size W)
  have HE := Lib.hid (fun (u : World) (hu : Below W.heap.size W u) => hb0.trans (hu.mono hb0.size))
  have HLEN := Lib.hid hlen
  have HND : Hid (1 + ndF K ≤ 1048576) := Lib.hid (by have h1 := ndF_sz K; simp only [szD] at hsz; omega)
  have HPV := Lib.hid (fun (u : World) (hu : Below W.heap.size W u) => r7put_any w.heap.size (.slice none 0 0) [] d.var u (World.ownsRow_nil _ _ _ _) (Nat.le_trans hb0.size hu.size) (by simp))
  clear hk ih hv hsz hq hb0 hz hW hP hlen ht
  by_cases hve : d.var = em
  · have HV0 : Hid (v0 d = []) := Lib.hid (by unfold v0; rw [hve]; rfl)
    have n1 : (d.var.toList == []) = true := by rw [hve, Lib.toList_data]; rfl
    have n2 : d.var.toList.isEmpty = true := by rw [hve, Lib.toList_data]; rfl
    clear hve
    go_enter Try.func25, Try.ntmps25
    go_wp2_with fail
    rw [← HW.out, ← HP.out]
    obtain ⟨x0, x1, x2, x3, x4⟩ := HX.out _ HR.out
    go_wp2_with fail
    go_loopw [3, 4, 5, 6] (fun ov iv _ _ wr => ∃ (i : Nat) (a : List Nm), i ≤ K.len ∧ iv = .int .i64 (i : Int) ∧ Hid (SOwn wr w.heap.size ov a) ∧ Hid (Below W.heap.size W wr) ∧ Hid (varsG (K.drop i) a = varsN d K) ∧ Hid (a.length + ndF (K.drop i) ≤ 1 + ndF K)) (fun _ iv _ _ _ => K.len - (intOf iv).toNat)
    case atStart => exact ⟨0, [], Nat.zero_le _, rfl, Lib.hid (World.ownsRow_nil _ _ _ _), HR, Lib.hid (by rw [Fo.drop_zero]; unfold varsN; rw [HV0.out]), Lib.hid (by rw [Fo.drop_zero, List.length_nil]; omega)⟩
    case round =>
      obtain ⟨i, a, hi, rfl, HO, HB, HV, HN⟩ := hrel
      clear x0 x1 x2 x3 x4
      obtain ⟨x0, x1, x2, x3, x4⟩ := HX.out _ HB.out
      by_cases hlt : i < K.len
      · have hlti : (i : Int) < (K.len : Int) := by omega
        have hlti' := decide_eq_true hlti
        have hls := wr7t hlt HLEN.out
        obtain ⟨b, o, d2, k2, rfl, hd, hc⟩ := HK.out i hlt
        obtain ⟨ta2, tc2, ka2, kc2, c0, c1, c2, c3, c4, hcall⟩ := hc _ HB.out
        have HC := Lib.hid hcall
        have HD : Hid (varsG (K.drop i) a = varsG (K.drop (i + 1)) (putAll a (varsN d2 k2))) := Lib.hid (by rw [hd]; rfl)
        have HD2 : Hid (ndF (K.drop i) = 1 + ndF k2 + ndF (K.drop (i + 1))) := Lib.hid (by rw [hd]; rfl)
        have HML : Hid ((varsN d2 k2).length ≤ 1 + ndF k2) := Lib.hid (by have h1 := varsG_len k2 (v0 d2); have h2 := v0_len d2; unfold varsN; omega)
        clear hd hc hcall hi
        generalize varsN d2 k2 = m at *
        go_wp2_with (first | (go_at_call 25; (with_reducible refine HC.out.mono ?_); rintro e u2 ⟨mv, rfl, ho, hb, hbk⟩; have HB2 := Lib.hid hb; have HM2 := Lib.hid ho; have HO2 := Lib.hid (HO.out.below (show Below _ _ u2 from hbk)); clear ho hb x0 x1 x2 x3 x4 c0 c1 c2 c3 c4; obtain ⟨x0, x1, x2, x3, x4⟩ := HX.out _ HB2.out))
        obtain ⟨mo, mc, rfl⟩ := HM2.out.ss.shape
        go_loopw [3, 6] (fun ov2 jv wr2 => ∃ (j : Nat) (c : List Nm), j ≤ m.length ∧ jv = .int .i64 (j : Int) ∧ Hid (SOwn wr2 w.heap.size ov2 c) ∧ Hid (SOwn wr2 w.heap.size (.slice mo m.length mc) m) ∧ Hid (Below W.heap.size W wr2) ∧ Hid (c = putAll a (m.take j)) ∧ Hid (c.length ≤ a.length + j)) (fun _ jv _ => m.length - (intOf jv).toNat)
        case atStart => exact ⟨0, a, Nat.zero_le _, rfl, HO2, HM2, HB2, Lib.hid (by rw [List.take_zero]; rfl), Lib.hid (by omega)⟩
        case round =>
          obtain ⟨j, c, hj, rfl, HOc, HMc, HBc, HVc, HNc⟩ := hrel
          clear x0 x1 x2 x3 x4
          obtain ⟨x0, x1, x2, x3, x4⟩ := HX.out _ HBc.out
          by_cases hlj : j < m.length
          · have hltj : (j : Int) < (m.length : Int) := by omega
            have hltj' := decide_eq_true hltj
            have hlsj := wr7t hlj (by have := HML.out; have := HD2.out; have := HN.out; have := HND.out; omega)
            obtain ⟨ao', cap', he, hh⟩ := HMc.out.ss
            simp only [Value.slice.injEq, true_and] at he
            obtain ⟨rfl, rfl⟩ := he
            obtain ⟨gb, go', rfl, _, hcc⟩ := hh (fun h => by rw [h] at hlj; exact absurd hlj (Nat.not_lt_zero _))
            have c0 := hcc j _ (List.getElem?_eq_getElem hlj)
            have HTK : Hid (putAll a (m.take (j + 1)) = putL (putAll a (m.take j)) m[j]) := Lib.hid (by rw [List.take_succ_eq_append_getElem hlj]; unfold putAll; rw [List.foldl_append]; rfl)
            have HP2 := Lib.hid (r7put_any w.heap.size _ c (ba m[j]) _ HOc.out (Nat.le_trans HB0.out.size HBc.out.size) (by have := HNc.out; have := HML.out; have := HD2.out; have := HN.out; have := HND.out; omega))
            rw [nb_ba] at HP2
            clear hh hcc hj
            generalize m[j] = y at c0 HTK HP2
            go_wp2_with (first | (go_at_call 55; (with_reducible refine HP2.out.mono ?_); rintro e u3 ⟨nv, rfl, ho, hb⟩; have HO3 := Lib.hid ho; have HB3 := Lib.hid (HBc.out.trans (hb.mono HBc.out.size)); have HM3 := Lib.hid (HMc.out.below hb); clear ho hb x0 x1 x2 x3 x4 c0; obtain ⟨x0, x1, x2, x3, x4⟩ := HX.out _ HB3.out))
            go_roundw
            all_goals first
              | exact ⟨j + 1, putL c y, hlj, by go_num, HO3, HM3, HB3, Lib.hid (by rw [HTK.out, HVc.out]), Lib.hid (by have := putL_len c y; have := HNc.out; omega)⟩
              | exact meas7t hlj
              | (rw [hlsj]; exact meas7t hlj)
          · obtain rfl : j = m.length := by omega
            have hnl : ¬ ((m.length : Int) < (m.length : Int)) := by omega
            clear hlj hj
            go_wp2_with fail
            go_roundw
            all_goals first
              | exact ⟨i + 1, c, hlt, by go_num, HOc, HBc, Lib.hid (by rw [HVc.out, List.take_length, ← HD.out]; exact HV.out), Lib.hid (by have := HNc.out; have := HML.out; have := HD2.out; have := HN.out; omega)⟩
              | exact meas7t hlt
              | (rw [hls]; exact meas7t hlt)
      · obtain rfl : i = K.len := by omega
        have hnl : ¬ ((K.len : Int) < (K.len : Int)) := by omega
        have hv := HV.out
        rw [Fo.drop_end (Nat.le_refl K.len)] at hv
        have HF := Lib.hid (show a = varsN d K from hv)
        clear hlt hi hv
        go_wp2
        go_ret
        exact ⟨_, rfl, by rw [← HF.out]; exact HO.out, HE.out _ HB.out⟩
  · have n1 := ne_em2 hve; have n2 := ne_em3 hve
    have HV0 : Hid (v0 d = [nb d.var]) := Lib.hid (by unfold v0; rw [if_neg]; intro h; exact hve (ByteArray.ext (Array.eq_empty_of_size_eq_zero h)))
    have hpl : putL [] (nb d.var) = [nb d.var] := rfl
    rw [hpl] at HPV
    clear hve hpl
    go_enter Try.func25, Try.ntmps25
    go_wp2_with fail
    rw [← HW.out, ← HP.out]
    obtain ⟨x0, x1, x2, x3, x4⟩ := HX.out _ HR.out
    go_wp2_with (first | (go_at_call 55; (with_reducible refine (HPV.out _ HR.out).mono ?_); rintro e u1 ⟨pv, rfl, ho, hb⟩; have HO1 := Lib.hid ho; have HB1 := Lib.hid (HR.out.trans (hb.mono HR.out.size)); clear ho hb x0 x1 x2 x3 x4; obtain ⟨x0, x1, x2, x3, x4⟩ := HX.out _ HB1.out))
    go_loopw [3, 4, 5, 6] (fun ov iv _ _ wr => ∃ (i : Nat) (a : List Nm), i ≤ K.len ∧ iv = .int .i64 (i : Int) ∧ Hid (SOwn wr w.heap.size ov a) ∧ Hid (Below W.heap.size W wr) ∧ Hid (varsG (K.drop i) a = varsN d K) ∧ Hid (a.length + ndF (K.drop i) ≤ 1 + ndF K)) (fun _ iv _ _ _ => K.len - (intOf iv).toNat)
    case atStart => exact ⟨0, [nb d.var], Nat.zero_le _, rfl, HO1, HB1, Lib.hid (by rw [Fo.drop_zero]; unfold varsN; rw [HV0.out]), Lib.hid (by rw [Fo.drop_zero]; simp)⟩
    case round =>
      obtain ⟨i, a, hi, rfl, HO, HB, HV, HN⟩ := hrel
      clear x0 x1 x2 x3 x4
      obtain ⟨x0, x1, x2, x3, x4⟩ := HX.out _ HB.out
      by_cases hlt : i < K.len
      · have hlti : (i : Int) < (K.len : Int) := by omega
        have hlti' := decide_eq_true hlti
        have hls := wr7t hlt HLEN.out
        obtain ⟨b, o, d2, k2, rfl, hd, hc⟩ := HK.out i hlt
        obtain ⟨ta2, tc2, ka2, kc2, c0, c1, c2, c3, c4, hcall⟩ := hc _ HB.out
        have HC := Lib.hid hcall
        have HD : Hid (varsG (K.drop i) a = varsG (K.drop (i + 1)) (putAll a (varsN d2 k2))) := Lib.hid (by rw [hd]; rfl)
        have HD2 : Hid (ndF (K.drop i) = 1 + ndF k2 + ndF (K.drop (i + 1))) := Lib.hid (by rw [hd]; rfl)
        have HML : Hid ((varsN d2 k2).length ≤ 1 + ndF k2) := Lib.hid (by have h1 := varsG_len k2 (v0 d2); have h2 := v0_len d2; unfold varsN; omega)
        clear hd hc hcall hi
        generalize varsN d2 k2 = m at *
        go_wp2_with (first | (go_at_call 25; (with_reducible refine HC.out.mono ?_); rintro e u2 ⟨mv, rfl, ho, hb, hbk⟩; have HB2 := Lib.hid hb; have HM2 := Lib.hid ho; have HO2 := Lib.hid (HO.out.below (show Below _ _ u2 from hbk)); clear ho hb x0 x1 x2 x3 x4 c0 c1 c2 c3 c4; obtain ⟨x0, x1, x2, x3, x4⟩ := HX.out _ HB2.out))
        obtain ⟨mo, mc, rfl⟩ := HM2.out.ss.shape
        go_loopw [3, 6] (fun ov2 jv wr2 => ∃ (j : Nat) (c : List Nm), j ≤ m.length ∧ jv = .int .i64 (j : Int) ∧ Hid (SOwn wr2 w.heap.size ov2 c) ∧ Hid (SOwn wr2 w.heap.size (.slice mo m.length mc) m) ∧ Hid (Below W.heap.size W wr2) ∧ Hid (c = putAll a (m.take j)) ∧ Hid (c.length ≤ a.length + j)) (fun _ jv _ => m.length - (intOf jv).toNat)
        case atStart => exact ⟨0, a, Nat.zero_le _, rfl, HO2, HM2, HB2, Lib.hid (by rw [List.take_zero]; rfl), Lib.hid (by omega)⟩
        case round =>
          obtain ⟨j, c, hj, rfl, HOc, HMc, HBc, HVc, HNc⟩ := hrel
          clear x0 x1 x2 x3 x4
          obtain ⟨x0, x1, x2, x3, x4⟩ := HX.out _ HBc.out
          by_cases hlj : j < m.length
          · have hltj : (j : Int) < (m.length : Int) := by omega
            have hltj' := decide_eq_true hltj
            have hlsj := wr7t hlj (by have := HML.out; have := HD2.out; have := HN.out; have := HND.out; omega)
            obtain ⟨ao', cap', he, hh⟩ := HMc.out.ss
            simp only [Value.slice.injEq, true_and] at he
            obtain ⟨rfl, rfl⟩ := he
            obtain ⟨gb, go', rfl, _, hcc⟩ := hh (fun h => by rw [h] at hlj; exact absurd hlj (Nat.not_lt_zero _))
            have c0 := hcc j _ (List.getElem?_eq_getElem hlj)
            have HTK : Hid (putAll a (m.take (j + 1)) = putL (putAll a (m.take j)) m[j]) := Lib.hid (by rw [List.take_succ_eq_append_getElem hlj]; unfold putAll; rw [List.foldl_append]; rfl)
            have HP2 := Lib.hid (r7put_any w.heap.size _ c (ba m[j]) _ HOc.out (Nat.le_trans HB0.out.size HBc.out.size) (by have := HNc.out; have := HML.out; have := HD2.out; have := HN.out; have := HND.out; omega))
            rw [nb_ba] at HP2
            clear hh hcc hj
            generalize m[j] = y at c0 HTK HP2
            go_wp2_with (first | (go_at_call 55; (with_reducible refine HP2.out.mono ?_); rintro e u3 ⟨nv, rfl, ho, hb⟩; have HO3 := Lib.hid ho; have HB3 := Lib.hid (HBc.out.trans (hb.mono HBc.out.size)); have HM3 := Lib.hid (HMc.out.below hb); clear ho hb x0 x1 x2 x3 x4 c0; obtain ⟨x0, x1, x2, x3, x4⟩ := HX.out _ HB3.out))
            go_roundw
            all_goals first
              | exact ⟨j + 1, putL c y, hlj, by go_num, HO3, HM3, HB3, Lib.hid (by rw [HTK.out, HVc.out]), Lib.hid (by have := putL_len c y; have := HNc.out; omega)⟩
              | exact meas7t hlj
              | (rw [hlsj]; exact meas7t hlj)
          · obtain rfl : j = m.length := by omega
            have hnl : ¬ ((m.length : Int) < (m.length : Int)) := by omega
            clear hlj hj
            go_wp2_with fail
            go_roundw
            all_goals first
              | exact ⟨i + 1, c, hlt, by go_num, HOc, HBc, Lib.hid (by rw [HVc.out, List.take_length, ← HD.out]; exact HV.out), Lib.hid (by have := HNc.out; have := HML.out; have := HD2.out; have := HN.out; omega)⟩
              | exact meas7t hlt
              | (rw [hls]; exact meas7t hlt)
      · obtain rfl : i = K.len := by omega
        have hnl : ¬ ((K.len : Int) < (K.len : Int)) := by omega
        have hv := HV.out
        rw [Fo.drop_end (Nat.le_refl K.len)] at hv
        have HF := Lib.hid (show a = varsN d K from hv)
        clear hlt hi hv
        go_wp2
        go_ret
        exact ⟨_, rfl, by rw [← HF.out]; exact HO.out, HE.out _ HB.out⟩
end Go.Proofs.Ytmjajoepgilokaa
