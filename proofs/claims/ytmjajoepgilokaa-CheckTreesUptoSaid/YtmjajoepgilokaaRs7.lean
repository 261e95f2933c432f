/- Contract: the document's Sure. -/
import Derived.Test.YtmjajoepgilokaaRy7
import Derived.Test.YtmjajoepgilokaaSf7
import Derived.Deep.RegionLaw
namespace Go.Proofs.Ytmjajoepgilokaa
open Go Go.RowKit Go.Sort

def stX (o : Bool) (L : List (List Nm)) (out : List Nm) (x : Nm) : List Nm := if o = true → ∀ m ∈ L, x ∈ m then putL out x else out
def stL (o : Bool) (L : List (List Nm)) (out l : List Nm) : List Nm := l.foldl (stX o L) out
theorem sureOf_st (o : Bool) (L : List (List Nm)) : sureOf o L = L.foldl (stL o L) [] := rfl
theorem stX_len (o : Bool) (L : List (List Nm)) (out : List Nm) (x : Nm) : (stX o L out x).length ≤ out.length + 1 := by
  unfold stX; split
  · exact putL_len out x
  · omega
theorem sum_take (L : List (List Nm)) (i : Nat) : ((L.take i).map List.length).sum ≤ (L.map List.length).sum := by
  have h := congrArg (fun l => (l.map List.length).sum) (List.take_append_drop i L)
  simp only [List.map_append, List.sum_append] at h
  omega

set_option maxRecDepth 100000 in
set_option maxHeartbeats 8000000 in
theorem r7Sure_any (d : Nt) (k : Fo) : ∀ (w : World) (v : Value), NdV w (fun x => x < w.heap.size) d k v → szD d + szF k ≤ 1048576 → Calls Try.prog 27 #[v] w (fun e w' => ∃ v', e = .returned v' ∧ SOwn w' w.heap.size v' (sureN d k) ∧ Below w.heap.size w w') := by
  revert d k
  refine Fo.node_ind (p := fun d k => ∀ (w : World) (v : Value), NdV w (fun x => x < w.heap.size) d k v → szD d + szF k ≤ 1048576 → Calls Try.prog 27 #[v] w (fun e w' => ∃ v', e = .returned v' ∧ SOwn w' w.heap.size v' (sureN d k) ∧ Below w.heap.size w w')) ?_
  intro d K ih w v hv hsz
  obtain ⟨ta, tc, ka, kc, rfl⟩ := hv.shape
  obtain ⟨ht, hk⟩ := hv.inj
  obtain ⟨W, hW⟩ : ∃ W, W = w.alloc (.cells #[.int .i64 d.kind, .string d.var, .string d.ty, .slice ta d.tests.length tc, .slice ka K.len kc] 25) := ⟨_, rfl⟩
  have hq := heap_alloc_new w (.cells #[.int .i64 d.kind, .string d.var, .string d.ty, .slice ta d.tests.length tc, .slice ka K.len kc] 25)
  have hb0 : Below w.heap.size w W := by rw [hW]; exact (Below.refl _ _).alloc (Nat.le_refl _) _
  rw [← hW] at hq
  have hz : W.heap.size = w.heap.size + 1 := by rw [hW]; simp
  obtain ⟨P, hP⟩ : ∃ P, P = w.heap.size := ⟨_, rfl⟩
  have hlen : K.len ≤ 1048576 := by have := szF_len K; omega
  have HK := Lib.hid (fun (i : Nat) (hi : i < K.len) => (by
    obtain ⟨b, o, e, hb, hf⟩ := hk (nil_of_len hi)
    obtain ⟨d2, k2, hd⟩ := Fo.drop_cons hi
    refine ⟨b, o, d2, k2, e, hd, fun u hu => ?_⟩
    obtain ⟨ta, tc, ka, kc, c0, c1, c2, c3, c4, hv2⟩ := kid_val (W := W) (u := u) ((FoAt.keep (Keep.of_below hb0) hb hf).mono (fun x hx => Nat.lt_of_lt_of_le hx hb0.size)) (Nat.lt_of_lt_of_le hb hb0.size) hu hd
    have h1 := Fo.All.drop i ih
    have h4 := szF_drop K i
    rw [hd] at h1 h4
    simp only [szF] at h4
    exact ⟨ta, tc, ka, kc, c0, c1, c2, c3, c4, (h1.1 u _ hv2 (by omega)).mono (fun e w' ⟨v', g1, g2, g3⟩ => ⟨v', g1, own7_mono g2 (Nat.le_trans hb0.size hu.size), hu.trans (g3.mono hu.size), g3⟩)⟩ :
      ∃ b o d2 k2, ka = some ⟨b, o, none⟩ ∧ K.drop i = .cons d2 k2 (K.drop (i + 1)) ∧ ∀ u, Below W.heap.size W u → ∃ ta tc ka kc, u.cell? ⟨b, o + i * 5, none⟩ = some (.int .i64 d2.kind) ∧ u.cell? ⟨b, o + i * 5 + 1, none⟩ = some (.string d2.var) ∧ u.cell? ⟨b, o + i * 5 + 2, none⟩ = some (.string d2.ty) ∧
      u.cell? ⟨b, o + i * 5 + 3, none⟩ = some (.slice ta d2.tests.length tc) ∧ u.cell? ⟨b, o + i * 5 + 4, none⟩ = some (.slice ka k2.len kc) ∧ Calls Try.prog 27 #[.agg #[.int .i64 d2.kind, .string d2.var, .string d2.ty, .slice ta d2.tests.length tc, .slice ka k2.len kc]] u (fun e w' => ∃ v', e = .returned v' ∧ SOwn w' w.heap.size v' (sureN d2 k2) ∧ Below W.heap.size W w' ∧ Below u.heap.size u w')))
  have HX := Lib.hid (fun (u : World) (hu : Below W.heap.size W u) => (by
    have := (hu.block P (by omega)).trans (hP ▸ hq)
    simp [World.cell?, this] : u.cell? ⟨P, 0, none⟩ = some (.int .i64 d.kind) ∧ u.cell? ⟨P, 1, none⟩ = some (.string d.var) ∧ u.cell? ⟨P, 2, none⟩ = some (.string d.ty) ∧ u.cell? ⟨P, 3, none⟩ = some (.slice ta d.tests.length tc) ∧ u.cell? ⟨P, 4, none⟩ = some (.slice ka K.len kc)))
  have HB0 := Lib.hid hb0; have HW := Lib.hid hW; have HP := Lib.hid hP
  have HR := Lib.hid (Below.refl W.heap.size W)
  have HE := Lib.hid (fun (u : World) (hu : Below W.heap.size W u) => hb0.trans (hu.mono hb0.size))
  have HLEN := Lib.hid hlen
  have HSUM := Lib.hid (sureL_sum K)
  have HSZF : Hid (szF K ≤ 1048576) := Lib.hid (by omega)
  have HPV := Lib.hid (fun (u : World) (hu : Below W.heap.size W u) => r7put_any w.heap.size (.slice none 0 0) [] d.var u (World.ownsRow_nil _ _ _ _) (Nat.le_trans hb0.size hu.size) (by simp))
  clear hk ih hv hsz hq hb0 hz hW hP hlen ht
  rcases nil_or_len K with hkn | hk1
  · subst hkn
    rw [show Fo.nil.len = 0 from rfl] at HX
    clear HK HSUM HSZF
    by_cases hve : d.var = em
    · have HV0 : Hid (sureN d .nil = []) := Lib.hid (by unfold sureN v0; rw [hve]; rfl)
      have n1 : (d.var.toList == []) = true := by rw [hve, Lib.toList_data]; rfl
      have n2 : d.var.toList.isEmpty = true := by rw [hve, Lib.toList_data]; rfl
      clear hve
      go_enter Try.func27, Try.ntmps27
      go_wp2_with fail
      rw [← HW.out, ← HP.out]
      obtain ⟨x0, x1, x2, x3, x4⟩ := HX.out _ HR.out
      go_wp2
      go_ret
      exact ⟨_, rfl, by rw [HV0.out]; exact World.ownsRow_nil _ _ _ _, by first | exact HE.out _ HR.out | (rw [HP.out]; exact HE.out _ HR.out)⟩
    · have n1 := ne_em2 hve; have n2 := ne_em3 hve
      have HV0 : Hid (sureN d .nil = [nb d.var]) := Lib.hid (by show (if d.var.size = 0 then [] else [nb d.var]) = _; rw [if_neg]; intro h; exact hve (ByteArray.ext (Array.eq_empty_of_size_eq_zero h)))
      have hpl : putL [] (nb d.var) = [nb d.var] := rfl
      rw [hpl] at HPV
      clear hve hpl
      go_enter Try.func27, Try.ntmps27
      go_wp2_with fail
      rw [← HW.out, ← HP.out]
      obtain ⟨x0, x1, x2, x3, x4⟩ := HX.out _ HR.out
      go_wp2_with (first | (go_at_call 55; (with_reducible refine (HPV.out _ HR.out).mono ?_); rintro e u1 ⟨pv, rfl, ho, hb⟩; have HO1 := Lib.hid ho; have HB1 := Lib.hid (HR.out.trans (hb.mono HR.out.size)); clear ho hb x0 x1 x2 x3 x4; obtain ⟨x0, x1, x2, x3, x4⟩ := HX.out _ HB1.out))
      go_ret
      exact ⟨_, rfl, by rw [HV0.out]; exact HO1.out, by first | exact HE.out _ HB1.out | (rw [HP.out]; exact HE.out _ HB1.out)⟩
  have hk0 : ((K.len : Int) == 0) = false := beq_eq_false_iff_ne.2 (by omega)
  have hk0' : ¬ ((K.len : Int) = 0) := by omega
  have HNIL := Lib.hid (nil_of_len hk1)
  clear HPV
  by_cases h4 : d.kind = 4
  · have b4 : (d.kind == 4) = true := beq_iff_eq.2 h4
    have HSN : Hid (sureN d K = sureOf true (sureL K)) := Lib.hid (by unfold sureN; rw [HNIL.out, decide_eq_true h4]; rfl)
    clear h4
    go_enter Try.func27, Try.ntmps27
    go_wp2_with fail
    rw [← HW.out, ← HP.out]
    obtain ⟨x0, x1, x2, x3, x4⟩ := HX.out _ HR.out
    go_wp2_with fail
    go_loopw [3, 4, 5, 6, 7, 8] (fun ov iv _ _ _ _ wr => ∃ (i : Nat) (a : List Nm), i ≤ K.len ∧ iv = .int .i64 (i : Int) ∧ Hid (SOwn wr w.heap.size ov a) ∧ Hid (Below W.heap.size W wr) ∧ Hid (a = ((sureL K).take i).foldl (stL true (sureL K)) []) ∧ Hid (a.length ≤ (((sureL K).take i).map List.length).sum)) (fun _ iv _ _ _ _ _ => K.len - (intOf iv).toNat)
    case atStart => exact ⟨0, [], Nat.zero_le _, rfl, Lib.hid (World.ownsRow_nil _ _ _ _), HR, Lib.hid (by simp), Lib.hid (by simp)⟩
    case round =>
      obtain ⟨i, a, hi, rfl, HO, HB, HV, HN⟩ := hrel
      clear x0 x1 x2 x3 x4
      obtain ⟨x0, x1, x2, x3, x4⟩ := HX.out _ HB.out
      by_cases hlt : i < K.len
      · have hlti : (i : Int) < (K.len : Int) := by omega
        have hlti' := decide_eq_true hlti
        have hls := wr7t hlt HLEN.out
        have HLT := Lib.hid hlt
        obtain ⟨b, o, d2, k2, rfl, hd, hc⟩ := HK.out i hlt
        obtain ⟨ta2, tc2, ka2, kc2, c0, c1, c2, c3, c4, hcall⟩ := hc _ HB.out
        have HC := Lib.hid hcall
        have HTI := Lib.hid (sure_take hd)
        have HSI : Hid ((((sureL K).take i).map List.length).sum + (sureN d2 k2).length ≤ 1048576) := Lib.hid (by have h1 := sum_take (sureL K) (i + 1); have h2 := HSUM.out; have h3 := HSZF.out; rw [HTI.out, List.map_append, List.sum_append] at h1; simp only [List.map_cons, List.map_nil, List.sum_cons, List.sum_nil] at h1; omega)
        clear hd hc hcall hi
        generalize sureN d2 k2 = m at *
        go_wp2_with (first | (go_at_call 27; (with_reducible refine HC.out.mono ?_); rintro e u2 ⟨mv, rfl, ho, hb, hbk⟩; have HB2 := Lib.hid hb; have HM2 := Lib.hid ho; have HO2 := Lib.hid (HO.out.below hbk); clear ho hb hbk x0 x1 x2 x3 x4 c0 c1 c2 c3 c4; obtain ⟨x0, x1, x2, x3, x4⟩ := HX.out _ HB2.out))
        obtain ⟨mo, mc, rfl⟩ := HM2.out.ss.shape
        go_loopw [3, 6, 7, 8] (fun ov2 zv _ _ wr2 => ∃ (z : Nat) (c : List Nm) (OV : Value), z ≤ m.length ∧ zv = .int .i64 (z : Int) ∧ OV = ov2 ∧ Hid (SOwn wr2 w.heap.size ov2 c) ∧ Hid (SOwn wr2 w.heap.size (.slice mo m.length mc) m) ∧ Hid (Below W.heap.size W wr2) ∧ Hid (c = (m.take z).foldl (stX true (sureL K)) a) ∧ Hid (c.length ≤ a.length + z)) (fun _ zv _ _ _ => m.length - (intOf zv).toNat)
        case atStart => exact ⟨0, a, _, Nat.zero_le _, rfl, rfl, HO2, HM2, HB2, Lib.hid (by simp), Lib.hid (by omega)⟩
        case round =>
          obtain ⟨z, c, OV, hz, rfl, rfl, HOc, HMc, HBc, HVc, HNc⟩ := hrel
          clear x0 x1 x2 x3 x4
          obtain ⟨x0, x1, x2, x3, x4⟩ := HX.out _ HBc.out
          by_cases hlz : z < m.length
          · have hltz : (z : Int) < (m.length : Int) := by omega
            have hltz' := decide_eq_true hltz
            have hz0 : (0 : Int) ≤ (z : Int) := by omega
            have hlsz := wr7t hlz (by have := HSI.out; omega)
            have HLZ := Lib.hid hlz
            obtain ⟨ao', cap', he, hh⟩ := HMc.out.ss
            simp only [Value.slice.injEq, true_and] at he
            obtain ⟨rfl, rfl⟩ := he
            obtain ⟨gb, go', rfl, _, _⟩ := hh (fun h => by rw [h] at hlz; exact absurd hlz (Nat.not_lt_zero _))
            have HYC : Hid (∀ u, SOwn u w.heap.size (.slice (some ⟨gb, go', none⟩) m.length mc) m → u.cell? ⟨gb, go' + z, none⟩ = some (.string (ba m[z]))) := Lib.hid (fun u hu => by
              obtain ⟨ao', cap', he, hh⟩ := hu.ss
              simp only [Value.slice.injEq, true_and] at he
              obtain ⟨rfl, rfl⟩ := he
              obtain ⟨gb', go2, he2, _, hcc⟩ := hh (fun h => by rw [h] at hlz; exact absurd hlz (Nat.not_lt_zero _))
              simp only [Option.some.injEq, Addr.mk.injEq, and_true] at he2
              obtain ⟨rfl, rfl⟩ := he2
              exact hcc z _ (List.getElem?_eq_getElem hlz))
            have HTK : Hid (m.take (z + 1) = m.take z ++ [m[z]]) := Lib.hid (List.take_succ_eq_append_getElem hlz)
            have HPT : Hid (∀ u (ov : Value), SOwn u w.heap.size ov c → Below W.heap.size W u → Calls Try.prog 55 #[ov, .string (ba m[z])] u fun e w' => ∃ v', e = .returned v' ∧ SOwn w' w.heap.size v' (putL c m[z]) ∧ Below u.heap.size u w') := Lib.hid (fun u ov h1 h2 => by
              have := r7put_any w.heap.size ov c (ba m[z]) u h1 (Nat.le_trans HB0.out.size h2.size) (by have := HNc.out; have := HN.out; have := HSI.out; omega)
              rw [nb_ba] at this
              exact this)
            have HHA : Hid (∀ (m2 : List Nm) (u : World) (ao : Option Addr) (cap : Nat), SsV u (fun x => x < u.heap.size) (.slice ao m2.length cap) m2 → m2.length ≤ 1048576 → Calls Try.prog 52 #[.slice ao m2.length cap, .string (ba m[z])] u fun e w' => e = .returned (.bool (decide (m[z] ∈ m2))) ∧ u = w') := Lib.hid (fun m2 u ao cap h1 h2 => by
              have := r7Has_any m2 (ba m[z]) _ ao cap u h1 (by omega)
              rw [nb_ba] at this
              exact this)
            clear hh hz
            generalize m[z] = y at HYC HTK HPT HHA
            clear hlz
            have c0 := HYC.out _ HMc.out
            have HPT := Lib.hid (fun (u : World) {ov : Value} (h1 : SOwn u w.heap.size ov c) (h2 : Below W.heap.size W u) => HPT.out u ov h1 h2)
            go_wp2_with fail
            go_loopw [7, 8] (fun nv jv wr3 => ∃ (j : Nat) (n : Bool), j ≤ K.len ∧ jv = .int .i64 (j : Int) ∧ nv = .bool n ∧ Hid (SOwn wr3 w.heap.size OV c) ∧ Hid (SOwn wr3 w.heap.size (.slice (some ⟨gb, go', none⟩) m.length mc) m) ∧ Hid (Below W.heap.size W wr3) ∧ Hid (n = ((sureL K).take j).all (fun l => decide (y ∈ l)))) (fun _ jv _ => K.len - (intOf jv).toNat)
            case atStart => exact ⟨0, true, Nat.zero_le _, rfl, rfl, HOc, HMc, HBc, Lib.hid (by simp)⟩
            case round =>
              obtain ⟨j, n, hj, rfl, rfl, HOy, HMy, HBy, HVy⟩ := hrel
              clear x0 x1 x2 x3 x4 c0
              obtain ⟨x0, x1, x2, x3, x4⟩ := HX.out _ HBy.out
              have c0 := HYC.out _ HMy.out
              by_cases hlj : j < K.len
              · have hltj : (j : Int) < (K.len : Int) := by omega
                have hltj' := decide_eq_true hltj
                have hlsj := wr7t hlj HLEN.out
                have HLJ := Lib.hid hlj
                obtain ⟨b', o', d3, k3, he, hd3, hc3⟩ := HK.out j hlj
                simp only [Option.some.injEq, Addr.mk.injEq, and_true] at he
                obtain ⟨rfl, rfl⟩ := he
                obtain ⟨ta4, tc4, ka4, kc4, e0, e1, e2, e3, e4, hcall⟩ := hc3 _ HBy.out.drew
                have HC3 := Lib.hid hcall
                have HTJ := Lib.hid (sure_take hd3)
                have HL3 : Hid ((sureN d3 k3).length ≤ 1048576) := Lib.hid (by have h1 := sum_take (sureL K) (j + 1); have h2 := HSUM.out; have h3 := HSZF.out; rw [HTJ.out, List.map_append, List.sum_append] at h1; simp only [List.map_cons, List.map_nil, List.sum_cons, List.sum_nil] at h1; omega)
                clear hd3 hc3 hcall hj hlj
                generalize sureN d3 k3 = m3 at *
                cases n with
                | false =>
                  go_wp2_with fail
                  go_quiet (fail)
                  all_goals go_wp2_with fail
                  all_goals go_roundw
                  all_goals first
                    | exact ⟨j + 1, false, HLJ.out, by go_num, rfl, HOy, HMy, (by first | exact HBy | exact Lib.hid HBy.out.drew | exact Lib.hid (below_dn7 HBy.out _)), Lib.hid (by rw [HTJ.out, List.all_append, ← HVy.out]; rfl)⟩
                    | exact meas7t HLJ.out
                    | (rw [hlsj]; exact meas7t HLJ.out)
                | true =>
                  have HHB := Lib.hid (fun (u : World) (ao : Option Addr) (cap : Nat) (hs : SOwn u w.heap.size (.slice ao m3.length cap) m3) => HHA.out m3 u ao cap hs.ss HL3.out)
                  cases hyb : decide (y ∈ m3) with
                  | true =>
                    simp only [hyb] at HHB
                    have HYB := Lib.hid hyb
                    clear hyb
                    go_wp2_with fail
                    go_region_law (first
                      | (go_simp; go_at_call 27; (with_reducible refine HC3.out.mono ?_); rintro e u5 ⟨tv, rfl, ho, hb, hbk⟩; obtain ⟨to, tcc, rfl⟩ := ho.ss.shape; have HT5 := Lib.hid ho; have HB5 := Lib.hid hb; have hbk2 : Below wr.heap.size wr u5 := (show Below wr.heap.size wr wr.drew from (Below.refl _ _).drew).trans hbk; have HO5 := Lib.hid (HOy.out.below hbk2); have HM5 := Lib.hid (HMy.out.below hbk2); clear ho hb hbk hbk2 x0 x1 x2 x3 x4 c0 e0 e1 e2 e3 e4; obtain ⟨x0, x1, x2, x3, x4⟩ := HX.out _ HB5.out; have c0 := HYC.out _ HM5.out)
                      | (go_simp; go_at_call 52; (with_reducible refine (HHB.out _ _ _ HT5.out).mono ?_); rintro e u6 ⟨rfl, rfl⟩))
                    all_goals go_wp2_with fail
                    all_goals go_roundw
                    all_goals first
                      | exact ⟨j + 1, true, HLJ.out, by go_num, rfl, HO5, HM5, HB5, Lib.hid (by rw [HTJ.out, List.all_append, ← HVy.out]; simp only [List.all_cons, List.all_nil, HYB.out]; rfl)⟩
                      | exact meas7t HLJ.out
                      | (rw [hlsj]; exact meas7t HLJ.out)
                  | false =>
                    simp only [hyb] at HHB
                    have HYB := Lib.hid hyb
                    clear hyb
                    go_wp2_with fail
                    go_region_law (first
                      | (go_simp; go_at_call 27; (with_reducible refine HC3.out.mono ?_); rintro e u5 ⟨tv, rfl, ho, hb, hbk⟩; obtain ⟨to, tcc, rfl⟩ := ho.ss.shape; have HT5 := Lib.hid ho; have HB5 := Lib.hid hb; have hbk2 : Below wr.heap.size wr u5 := (show Below wr.heap.size wr wr.drew from (Below.refl _ _).drew).trans hbk; have HO5 := Lib.hid (HOy.out.below hbk2); have HM5 := Lib.hid (HMy.out.below hbk2); clear ho hb hbk hbk2 x0 x1 x2 x3 x4 c0 e0 e1 e2 e3 e4; obtain ⟨x0, x1, x2, x3, x4⟩ := HX.out _ HB5.out; have c0 := HYC.out _ HM5.out)
                      | (go_simp; go_at_call 52; (with_reducible refine (HHB.out _ _ _ HT5.out).mono ?_); rintro e u6 ⟨rfl, rfl⟩))
                    all_goals go_wp2_with fail
                    all_goals go_roundw
                    all_goals first
                      | exact ⟨j + 1, false, HLJ.out, by go_num, rfl, HO5, HM5, HB5, Lib.hid (by rw [HTJ.out, List.all_append, ← HVy.out]; simp only [List.all_cons, List.all_nil, HYB.out]; rfl)⟩
                      | exact meas7t HLJ.out
                      | (rw [hlsj]; exact meas7t HLJ.out)
              · obtain rfl : j = K.len := by omega
                have hnj : ¬ ((K.len : Int) < (K.len : Int)) := by omega
                have hv := HVy.out
                rw [List.take_of_length_le (by rw [sureL_len]; exact Nat.le_refl _)] at hv
                clear hlj hj
                cases n with
                | true =>
                  have HYES : Hid (true = true → ∀ l ∈ sureL K, y ∈ l) := Lib.hid (fun _ l hl => of_decide_eq_true (List.all_eq_true.1 hv.symm l hl))
                  clear hv
                  have HST : Hid (stX true (sureL K) c y = putL c y) := Lib.hid (if_pos HYES.out)
                  have HVD : Hid (stX true (sureL K) c y = (m.take (z + 1)).foldl (stX true (sureL K)) a) := Lib.hid (by rw [HTK.out, List.foldl_append]; exact congrArg (fun q => stX true (sureL K) q y) HVc.out)
                  have HVE := Lib.hid (HST.out.symm.trans HVD.out)
                  clear HST HVD
                  go_wp2_with (first | (go_at_call 55; (with_reducible refine (HPT.out _ HOy.out HBy.out).mono ?_); rintro e u7 ⟨nv, rfl, ho, hb⟩; have HO7 := Lib.hid ho; have HB7 := Lib.hid (HBy.out.trans (hb.mono HBy.out.size)); have HM7 := Lib.hid (HMy.out.below hb); clear ho hb x0 x1 x2 x3 x4 c0; obtain ⟨x0, x1, x2, x3, x4⟩ := HX.out _ HB7.out))
                  go_roundw
                  all_goals first
                    | exact ⟨z + 1, putL c y, _, HLZ.out, by go_num, rfl, HO7, HM7, HB7, HVE, Lib.hid (by have := putL_len c y; have := HNc.out; omega)⟩
                    | exact meas7t HLZ.out
                    | (rw [hlsz]; exact meas7t HLZ.out)
                | false =>
                  have HNO : Hid (¬ (true = true → ∀ l ∈ sureL K, y ∈ l)) := Lib.hid (fun h => by
                    have : (sureL K).all (fun l => decide (y ∈ l)) = true := List.all_eq_true.2 (fun l hl => decide_eq_true (h rfl l hl))
                    rw [this] at hv; cases hv)
                  clear hv
                  go_wp2_with fail
                  go_roundw
                  all_goals first
                    | exact ⟨z + 1, c, _, HLZ.out, by go_num, rfl, HOy, HMy, HBy, Lib.hid (by rw [HTK.out, List.foldl_append]; show _ = stX true (sureL K) _ y; rw [← HVc.out]; unfold stX; rw [if_neg HNO.out]), Lib.hid (by have := HNc.out; omega)⟩
                    | exact meas7t HLZ.out
                    | (rw [hlsz]; exact meas7t HLZ.out)
          · obtain rfl : z = m.length := by omega
            have hnz : ¬ ((m.length : Int) < (m.length : Int)) := by omega
            clear hlz hz
            go_wp2_with fail
            go_roundw
            all_goals first
              | exact ⟨i + 1, c, HLT.out, by go_num, HOc, HBc, Lib.hid (by rw [HTI.out, List.foldl_append, ← HV.out]; show _ = stL true (sureL K) a m; rw [HVc.out, List.take_length]; rfl), Lib.hid (by rw [HTI.out, List.map_append, List.sum_append]; simp only [List.map_cons, List.map_nil, List.sum_cons, List.sum_nil]; have := HNc.out; have := HN.out; omega)⟩
              | exact meas7t HLT.out
              | (rw [hls]; exact meas7t HLT.out)
      · obtain rfl : i = K.len := by omega
        have hnl : ¬ ((K.len : Int) < (K.len : Int)) := by omega
        have hv := HV.out
        rw [List.take_of_length_le (by rw [sureL_len]; exact Nat.le_refl _)] at hv
        have HF := Lib.hid (show sureN d K = a from by rw [HSN.out, sureOf_st, hv])
        clear hlt hi hv
        go_wp2
        go_ret
        exact ⟨_, rfl, by rw [HF.out]; exact HO.out, HE.out _ HB.out⟩
  · have b4 : (d.kind == 4) = false := beq_eq_false_iff_ne.2 h4
    have HSN : Hid (sureN d K = sureOf false (sureL K)) := Lib.hid (by unfold sureN; rw [HNIL.out, decide_eq_false h4]; rfl)
    clear h4
    go_enter Try.func27, Try.ntmps27
    go_wp2_with fail
    rw [← HW.out, ← HP.out]
    obtain ⟨x0, x1, x2, x3, x4⟩ := HX.out _ HR.out
    go_wp2_with fail
    go_loopw [3, 4, 5, 6, 7, 8] (fun ov iv _ _ _ _ wr => ∃ (i : Nat) (a : List Nm), i ≤ K.len ∧ iv = .int .i64 (i : Int) ∧ Hid (SOwn wr w.heap.size ov a) ∧ Hid (Below W.heap.size W wr) ∧ Hid (a = ((sureL K).take i).foldl (stL false (sureL K)) []) ∧ Hid (a.length ≤ (((sureL K).take i).map List.length).sum)) (fun _ iv _ _ _ _ _ => K.len - (intOf iv).toNat)
    case atStart => exact ⟨0, [], Nat.zero_le _, rfl, Lib.hid (World.ownsRow_nil _ _ _ _), HR, Lib.hid (by simp), Lib.hid (by simp)⟩
    case round =>
      obtain ⟨i, a, hi, rfl, HO, HB, HV, HN⟩ := hrel
      clear x0 x1 x2 x3 x4
      obtain ⟨x0, x1, x2, x3, x4⟩ := HX.out _ HB.out
      by_cases hlt : i < K.len
      · have hlti : (i : Int) < (K.len : Int) := by omega
        have hlti' := decide_eq_true hlti
        have hls := wr7t hlt HLEN.out
        have HLT := Lib.hid hlt
        obtain ⟨b, o, d2, k2, rfl, hd, hc⟩ := HK.out i hlt
        obtain ⟨ta2, tc2, ka2, kc2, c0, c1, c2, c3, c4, hcall⟩ := hc _ HB.out
        have HC := Lib.hid hcall
        have HTI := Lib.hid (sure_take hd)
        have HSI : Hid ((((sureL K).take i).map List.length).sum + (sureN d2 k2).length ≤ 1048576) := Lib.hid (by have h1 := sum_take (sureL K) (i + 1); have h2 := HSUM.out; have h3 := HSZF.out; rw [HTI.out, List.map_append, List.sum_append] at h1; simp only [List.map_cons, List.map_nil, List.sum_cons, List.sum_nil] at h1; omega)
        clear hd hc hcall hi
        generalize sureN d2 k2 = m at *
        go_wp2_with (first | (go_at_call 27; (with_reducible refine HC.out.mono ?_); rintro e u2 ⟨mv, rfl, ho, hb, hbk⟩; have HB2 := Lib.hid hb; have HM2 := Lib.hid ho; have HO2 := Lib.hid (HO.out.below hbk); clear ho hb hbk x0 x1 x2 x3 x4 c0 c1 c2 c3 c4; obtain ⟨x0, x1, x2, x3, x4⟩ := HX.out _ HB2.out))
        obtain ⟨mo, mc, rfl⟩ := HM2.out.ss.shape
        go_loopw [3, 6, 7, 8] (fun ov2 zv _ _ wr2 => ∃ (z : Nat) (c : List Nm) (OV : Value), z ≤ m.length ∧ zv = .int .i64 (z : Int) ∧ OV = ov2 ∧ Hid (SOwn wr2 w.heap.size ov2 c) ∧ Hid (SOwn wr2 w.heap.size (.slice mo m.length mc) m) ∧ Hid (Below W.heap.size W wr2) ∧ Hid (c = (m.take z).foldl (stX false (sureL K)) a) ∧ Hid (c.length ≤ a.length + z)) (fun _ zv _ _ _ => m.length - (intOf zv).toNat)
        case atStart => exact ⟨0, a, _, Nat.zero_le _, rfl, rfl, HO2, HM2, HB2, Lib.hid (by simp), Lib.hid (by omega)⟩
        case round =>
          obtain ⟨z, c, OV, hz, rfl, rfl, HOc, HMc, HBc, HVc, HNc⟩ := hrel
          clear x0 x1 x2 x3 x4
          obtain ⟨x0, x1, x2, x3, x4⟩ := HX.out _ HBc.out
          by_cases hlz : z < m.length
          · have hltz : (z : Int) < (m.length : Int) := by omega
            have hltz' := decide_eq_true hltz
            have hz0 : (0 : Int) ≤ (z : Int) := by omega
            have hlsz := wr7t hlz (by have := HSI.out; omega)
            have HLZ := Lib.hid hlz
            obtain ⟨ao', cap', he, hh⟩ := HMc.out.ss
            simp only [Value.slice.injEq, true_and] at he
            obtain ⟨rfl, rfl⟩ := he
            obtain ⟨gb, go', rfl, _, _⟩ := hh (fun h => by rw [h] at hlz; exact absurd hlz (Nat.not_lt_zero _))
            have HYC : Hid (∀ u, SOwn u w.heap.size (.slice (some ⟨gb, go', none⟩) m.length mc) m → u.cell? ⟨gb, go' + z, none⟩ = some (.string (ba m[z]))) := Lib.hid (fun u hu => by
              obtain ⟨ao', cap', he, hh⟩ := hu.ss
              simp only [Value.slice.injEq, true_and] at he
              obtain ⟨rfl, rfl⟩ := he
              obtain ⟨gb', go2, he2, _, hcc⟩ := hh (fun h => by rw [h] at hlz; exact absurd hlz (Nat.not_lt_zero _))
              simp only [Option.some.injEq, Addr.mk.injEq, and_true] at he2
              obtain ⟨rfl, rfl⟩ := he2
              exact hcc z _ (List.getElem?_eq_getElem hlz))
            have HTK : Hid (m.take (z + 1) = m.take z ++ [m[z]]) := Lib.hid (List.take_succ_eq_append_getElem hlz)
            have HPT : Hid (∀ u (ov : Value), SOwn u w.heap.size ov c → Below W.heap.size W u → Calls Try.prog 55 #[ov, .string (ba m[z])] u fun e w' => ∃ v', e = .returned v' ∧ SOwn w' w.heap.size v' (putL c m[z]) ∧ Below u.heap.size u w') := Lib.hid (fun u ov h1 h2 => by
              have := r7put_any w.heap.size ov c (ba m[z]) u h1 (Nat.le_trans HB0.out.size h2.size) (by have := HNc.out; have := HN.out; have := HSI.out; omega)
              rw [nb_ba] at this
              exact this)
            have HHA : Hid (∀ (m2 : List Nm) (u : World) (ao : Option Addr) (cap : Nat), SsV u (fun x => x < u.heap.size) (.slice ao m2.length cap) m2 → m2.length ≤ 1048576 → Calls Try.prog 52 #[.slice ao m2.length cap, .string (ba m[z])] u fun e w' => e = .returned (.bool (decide (m[z] ∈ m2))) ∧ u = w') := Lib.hid (fun m2 u ao cap h1 h2 => by
              have := r7Has_any m2 (ba m[z]) _ ao cap u h1 (by omega)
              rw [nb_ba] at this
              exact this)
            clear hh hz
            generalize m[z] = y at HYC HTK HPT HHA
            clear hlz
            have c0 := HYC.out _ HMc.out
            have HPT := Lib.hid (fun (u : World) {ov : Value} (h1 : SOwn u w.heap.size ov c) (h2 : Below W.heap.size W u) => HPT.out u ov h1 h2)
            have HYES : Hid (false = true → ∀ l ∈ sureL K, y ∈ l) := Lib.hid (fun h => by cases h)
            go_wp2_with fail
            go_loopw [7, 8] (fun nv jv wr3 => jv = .int .i64 0 ∧ nv = .bool true ∧ Hid (SOwn wr3 w.heap.size OV c) ∧ Hid (SOwn wr3 w.heap.size (.slice (some ⟨gb, go', none⟩) m.length mc) m) ∧ Hid (Below W.heap.size W wr3)) (fun _ _ _ => 0)
            case atStart => exact ⟨rfl, rfl, HOc, HMc, HBc⟩
            case round =>
              obtain ⟨rfl, rfl, HOy, HMy, HBy⟩ := hrel
              clear x0 x1 x2 x3 x4 c0
              obtain ⟨x0, x1, x2, x3, x4⟩ := HX.out _ HBy.out
              have c0 := HYC.out _ HMy.out
              have hk2 : (0 : Int) < (K.len : Int) := by omega
              have hk2' := decide_eq_true hk2
              have HST : Hid (stX false (sureL K) c y = putL c y) := Lib.hid (if_pos HYES.out)
              have HVD : Hid (stX false (sureL K) c y = (m.take (z + 1)).foldl (stX false (sureL K)) a) := Lib.hid (by rw [HTK.out, List.foldl_append]; exact congrArg (fun q => stX false (sureL K) q y) HVc.out)
              have HVE := Lib.hid (HST.out.symm.trans HVD.out)
              clear HST HVD
              go_wp2_with (first | (go_at_call 55; (with_reducible refine (HPT.out _ HOy.out HBy.out).mono ?_); rintro e u7 ⟨nv, rfl, ho, hb⟩; have HO7 := Lib.hid ho; have HB7 := Lib.hid (HBy.out.trans (hb.mono HBy.out.size)); have HM7 := Lib.hid (HMy.out.below hb); clear ho hb x0 x1 x2 x3 x4 c0; obtain ⟨x0, x1, x2, x3, x4⟩ := HX.out _ HB7.out))
              go_roundw
              all_goals first
                | exact ⟨z + 1, putL c y, _, HLZ.out, by go_num, rfl, HO7, HM7, HB7, HVE, Lib.hid (by have := putL_len c y; have := HNc.out; omega)⟩
                | exact meas7t HLZ.out
                | (rw [hlsz]; exact meas7t HLZ.out)
          · obtain rfl : z = m.length := by omega
            have hnz : ¬ ((m.length : Int) < (m.length : Int)) := by omega
            clear hlz hz
            go_wp2_with fail
            go_roundw
            all_goals first
              | exact ⟨i + 1, c, HLT.out, by go_num, HOc, HBc, Lib.hid (by rw [HTI.out, List.foldl_append, ← HV.out]; show _ = stL false (sureL K) a m; rw [HVc.out, List.take_length]; rfl), Lib.hid (by rw [HTI.out, List.map_append, List.sum_append]; simp only [List.map_cons, List.map_nil, List.sum_cons, List.sum_nil]; have := HNc.out; have := HN.out; omega)⟩
              | exact meas7t HLT.out
              | (rw [hls]; exact meas7t HLT.out)
      · obtain rfl : i = K.len := by omega
        have hnl : ¬ ((K.len : Int) < (K.len : Int)) := by omega
        have hv := HV.out
        rw [List.take_of_length_le (by rw [sureL_len]; exact Nat.le_refl _)] at hv
        have HF := Lib.hid (show sureN d K = a from by rw [HSN.out, sureOf_st, hv])
        clear hlt hi hv
        go_wp2
        go_ret
        exact ⟨_, rfl, by rw [HF.out]; exact HO.out, HE.out _ HB.out⟩
end Go.Proofs.Ytmjajoepgilokaa
