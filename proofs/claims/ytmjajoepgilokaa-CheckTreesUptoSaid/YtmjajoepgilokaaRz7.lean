/- Contract: the document's Binds. -/
import Derived.Test.YtmjajoepgilokaaRy7
namespace Go.Proofs.Ytmjajoepgilokaa
open Go Go.RowKit Go.Sort

/-- The variables of the first kids. -/
def accV : Fo → Nat → List Nm
  | _, 0 => []
  | .nil, _ + 1 => []
  | .cons d k n, i + 1 => varsN d k ++ accV n i
theorem accV_zero (f : Fo) : accV f 0 = [] := by cases f <;> rfl
theorem accV_succ : ∀ {f : Fo} {i : Nat} {d : Nt} {k n : Fo}, f.drop i = .cons d k n → accV f (i + 1) = accV f i ++ varsN d k
  | .nil, i, d, k, n, h => by cases i <;> simp [Fo.drop] at h
  | .cons d' k' n', 0, d, k, n, h => by
    simp only [Fo.drop, Fo.cons.injEq] at h
    obtain ⟨rfl, rfl, rfl⟩ := h
    show varsN d' k' ++ accV n' 0 = _
    rw [accV_zero, accV_zero]; simp
  | .cons d' k' n', i + 1, d, k, n, h => by
    have := accV_succ (f := n') (i := i) (d := d) (k := k) (n := n) (by simpa [Fo.drop] using h)
    show varsN d' k' ++ accV n' (i + 1) = varsN d' k' ++ accV n' i ++ varsN d k
    rw [this, List.append_assoc]
theorem accV_mono {x : Nm} : ∀ {f : Fo} {i j : Nat}, j ≤ i → x ∈ accV f j → x ∈ accV f i
  | f, i, 0, _, h => by rw [accV_zero] at h; cases h
  | .nil, i, j + 1, _, h => by cases h
  | .cons d k n, 0, j + 1, hj, _ => absurd hj (by omega)
  | .cons d k n, i + 1, j + 1, hj, h => by
    rcases List.mem_append.1 h with h | h
    · exact List.mem_append.2 (.inl h)
    · exact List.mem_append.2 (.inr (accV_mono (by omega) h))
theorem meets_no {a b : List Nm} : meets a b = false ↔ ∀ x ∈ a, x ∉ b := by
  rw [← Bool.not_eq_true, meets_iff]
  constructor
  · exact fun h x hx hb => h ⟨x, hx, hb⟩
  · exact fun h ⟨x, hx, hb⟩ => h x hx hb
theorem bindG_drop {K : Fo} {i : Nat} {d : Nt} {k : Fo} {sa : Bool} (h : K.drop i = .cons d k (K.drop (i + 1))) :
    bindG (K.drop i) sa (accV K i) = (bindN d k && !(sa && meets (accV K i) (varsN d k)) && bindG (K.drop (i + 1)) sa (accV K (i + 1))) := by
  rw [accV_succ h]
  conv => lhs; rw [h]
  rw [bindG_cons]

set_option maxRecDepth 100000 in
set_option maxHeartbeats 2000000 in
theorem r7Binds_any (d : Nt) (k : Fo) : ∀ (w : World) (v : Value), NdV w (fun x => x < w.heap.size) d k v → szD d + szF k ≤ 1048576 → Calls Try.prog 22 #[v] w (fun e w' => e = .returned (.int .i64 (if bindN d k = true then (0 : Int) else 73)) ∧ Below w.heap.size w w') := by
  revert d k
  refine Fo.node_ind (p := fun d k => ∀ (w : World) (v : Value), NdV w (fun x => x < w.heap.size) d k v → szD d + szF k ≤ 1048576 → Calls Try.prog 22 #[v] w (fun e w' => e = .returned (.int .i64 (if bindN d k = true then (0 : Int) else 73)) ∧ Below w.heap.size w w')) ?_
  intro d K ih w v hv hsz
  obtain ⟨ta, tc, ka, kc, rfl⟩ := hv.shape
  obtain ⟨ht, hk⟩ := hv.inj
  obtain ⟨W, hW⟩ : ∃ W, W = w.alloc (.cells #[.int .i64 d.kind, .string d.var, .string d.ty, .slice ta d.tests.length tc, .slice ka K.len kc] 25) := ⟨_, rfl⟩
  have hq := heap_alloc_new w (.cells #[.int .i64 d.kind, .string d.var, .string d.ty, .slice ta d.tests.length tc, .slice ka K.len kc] 25)
  have hb0 : Below w.heap.size w W := by rw [hW]; exact (Below.refl _ _).alloc (Nat.le_refl _) _
  rw [← hW] at hq
  have hz : W.heap.size = w.heap.size + 1 := by rw [hW]; simp
  obtain ⟨P, hP⟩ : ∃ P, P = w.heap.size := ⟨_, rfl⟩
  have hlen : K.len ≤ 1048576 := by have := szF_len K; omega
  have HK := Lib.hid (fun (i : Nat) (hi : i < K.len) => (by
    obtain ⟨b, o, e, hb, hf⟩ := hk (nil_of_len hi)
    obtain ⟨d2, k2, hd⟩ := Fo.drop_cons hi
    refine ⟨b, o, d2, k2, e, hd, fun u hu => ?_⟩
    obtain ⟨ta, tc, ka, kc, c0, c1, c2, c3, c4, hv2⟩ := kid_val (W := W) (u := u) ((FoAt.keep (Keep.of_below hb0) hb hf).mono (fun x hx => Nat.lt_of_lt_of_le hx hb0.size)) (Nat.lt_of_lt_of_le hb hb0.size) hu hd
    have h1 := Fo.All.drop i ih
    have h4 := szF_drop K i
    rw [hd] at h1 h4
    simp only [szF] at h4
    exact ⟨ta, tc, ka, kc, c0, c1, c2, c3, c4, (h1.1 u _ hv2 (by omega)).mono (fun e w' h => ⟨h.1, hu.trans (h.2.mono hu.size)⟩), Nat.le_trans (varsN_len d2 k2) (by omega), (r7Vars_any d2 k2 u _ hv2 (by omega)).mono (fun e w' ⟨v', g1, g2, g3⟩ => ⟨v', g1, own7_mono g2 (Nat.le_trans hb0.size hu.size), hu.trans (g3.mono hu.size), g3⟩)⟩ :
      ∃ b o d2 k2, ka = some ⟨b, o, none⟩ ∧ K.drop i = .cons d2 k2 (K.drop (i + 1)) ∧ ∀ u, Below W.heap.size W u → ∃ ta tc ka kc, u.cell? ⟨b, o + i * 5, none⟩ = some (.int .i64 d2.kind) ∧ u.cell? ⟨b, o + i * 5 + 1, none⟩ = some (.string d2.var) ∧ u.cell? ⟨b, o + i * 5 + 2, none⟩ = some (.string d2.ty) ∧
      u.cell? ⟨b, o + i * 5 + 3, none⟩ = some (.slice ta d2.tests.length tc) ∧ u.cell? ⟨b, o + i * 5 + 4, none⟩ = some (.slice ka k2.len kc) ∧ Calls Try.prog 22 #[.agg #[.int .i64 d2.kind, .string d2.var, .string d2.ty, .slice ta d2.tests.length tc, .slice ka k2.len kc]] u (fun e w' => e = .returned (.int .i64 (if bindN d2 k2 = true then (0 : Int) else 73)) ∧ Below W.heap.size W w') ∧ (varsN d2 k2).length ≤ 1048576 ∧ Calls Try.prog 25 #[.agg #[.int .i64 d2.kind, .string d2.var, .string d2.ty, .slice ta d2.tests.length tc, .slice ka k2.len kc]] u (fun e w' => ∃ v', e = .returned v' ∧ SOwn w' w.heap.size v' (varsN d2 k2) ∧ Below W.heap.size W w' ∧ Below u.heap.size u w')))
  have HX := Lib.hid (fun (u : World) (hu : Below W.heap.size W u) => (by
    have := (hu.block P (by omega)).trans (hP ▸ hq)
    simp [World.cell?, this] : u.cell? ⟨P, 0, none⟩ = some (.int .i64 d.kind) ∧ u.cell? ⟨P, 1, none⟩ = some (.string d.var) ∧ u.cell? ⟨P, 2, none⟩ = some (.string d.ty) ∧ u.cell? ⟨P, 3, none⟩ = some (.slice ta d.tests.length tc) ∧ u.cell? ⟨P, 4, none⟩ = some (.slice ka K.len kc)))
  have HB0 := Lib.hid hb0; have HW := Lib.hid hW; have HP := Lib.hid hP
  have HR := Lib.hid (Below.refl W.heap.size W)
  have HE := Lib.hid (fun (u : World) (hu : Below W.heap.size W u) => hb0.trans (hu.mono hb0.size))
  have HLEN := Lib.hid hlen
  clear hk ih hv hsz hq hb0 hz hW hP hlen ht
  have HRS := Lib.hid (fun (b : Bool) (h : bindN d K = b) => (by rw [h] : (if bindN d K = true then (0 : Int) else 73) = if b = true then 0 else 73))
  generalize (if bindN d K = true then (0 : Int) else 73) = R at HRS ⊢
  by_cases h2 : d.kind = 2
  · have b2 : (d.kind == 2) = true := beq_iff_eq.2 h2
    have HBN : Hid (bindN d K = bindG K true []) := Lib.hid (by unfold bindN saB; rw [decide_eq_true h2]; rfl)
    clear h2
    go_enter Try.func22, Try.ntmps22
    go_wp2_with fail
    rw [← HW.out, ← HP.out]
    obtain ⟨x0, x1, x2, x3, x4⟩ := HX.out _ HR.out
    go_wp2_with fail
    go_loopw [3, 4, 5, 6, 7, 8] (fun iv _ _ _ _ _ wr => ∃ i : Nat, i ≤ K.len ∧ iv = .int .i64 (i : Int) ∧ Hid (Below W.heap.size W wr) ∧ Hid (bindG K true [] = bindG (K.drop i) true (accV K i))) (fun iv _ _ _ _ _ _ => K.len - (intOf iv).toNat)
    case atStart => exact ⟨0, Nat.zero_le _, rfl, HR, Lib.hid (by rw [Fo.drop_zero, accV_zero])⟩
    case round =>
      obtain ⟨i, hi, rfl, HB, HV⟩ := hrel
      clear x0 x1 x2 x3 x4
      obtain ⟨x0, x1, x2, x3, x4⟩ := HX.out _ HB.out
      by_cases hlt : i < K.len
      · have hlti : (i : Int) < (K.len : Int) := by omega
        have hlti' := decide_eq_true hlti
        have hls := wr7t hlt HLEN.out
        have HLT := Lib.hid hlt
        obtain ⟨b, o, d2, k2, rfl, hd, hc⟩ := HK.out i hlt
        obtain ⟨ta2, tc2, ka2, kc2, c0, c1, c2, c3, c4, hcall, _, _⟩ := hc _ HB.out
        have HCV := Lib.hid hc
        have HC := Lib.hid hcall
        have HD := Lib.hid (bindG_drop (sa := true) hd)
        clear hd hc hcall hi
        cases hbn : bindN d2 k2 with
        | false =>
          rw [hbn] at HC HD
          simp only [Bool.false_eq_true, if_false] at HC
          have HF := Lib.hid (HRS.out false (by rw [HBN.out, HV.out, HD.out]; rfl))
          go_wp2_with (first | (go_at_call 22; (with_reducible refine HC.out.mono ?_); rintro e u2 ⟨rfl, hb⟩; have HB2 := Lib.hid hb; clear hb x0 x1 x2 x3 x4 c0 c1 c2 c3 c4))
          go_ret
          exact ⟨by rw [HF.out]; rfl, HE.out _ HB2.out⟩
        | true =>
          rw [hbn] at HC HD
          simp only [if_true] at HC
          clear hbn
          go_wp2_with (first | (go_at_call 22; (with_reducible refine HC.out.mono ?_); rintro e u2 ⟨rfl, hb⟩; have HB2 := Lib.hid hb; clear hb x0 x1 x2 x3 x4 c0 c1 c2 c3 c4; obtain ⟨x0, x1, x2, x3, x4⟩ := HX.out _ HB2.out; obtain ⟨ta3, tc3, ka3, kc3, c0, c1, c2, c3, c4, _, hml, hcall⟩ := HCV.out _ HB2.out; have HC2 := Lib.hid hcall; have HML := Lib.hid hml; clear hcall hml) | (go_at_call 25; (with_reducible refine HC2.out.mono ?_); rintro e u3 ⟨mv, rfl, ho, hb, hbk⟩; have HM3 := Lib.hid ho; have HB3 := Lib.hid hb; clear ho hb hbk x0 x1 x2 x3 x4 c0 c1 c2 c3 c4; obtain ⟨x0, x1, x2, x3, x4⟩ := HX.out _ HB3.out))
          obtain ⟨mo, mc, rfl⟩ := HM3.out.ss.shape
          generalize varsN d2 k2 = m at *
          go_loopw [6, 7, 8] (fun jv _ _ wr => ∃ j : Nat, j ≤ i ∧ jv = .int .i64 (j : Int) ∧ Hid (Below W.heap.size W wr) ∧ Hid (SOwn wr w.heap.size (.slice mo m.length mc) m) ∧ Hid (meets (accV K j) m = false)) (fun jv _ _ _ => i - (intOf jv).toNat)
          case atStart => exact ⟨0, Nat.zero_le _, rfl, HB3, HM3, Lib.hid (by rw [accV_zero]; rfl)⟩
          case round =>
            obtain ⟨j, hj, rfl, HBc, HMc, HVc⟩ := hrel
            clear x0 x1 x2 x3 x4
            obtain ⟨x0, x1, x2, x3, x4⟩ := HX.out _ HBc.out
            by_cases hlj : j < i
            · have hltj : (j : Int) < (i : Int) := by omega
              have hltj' := decide_eq_true hltj
              have hjk : (j : Int) < (K.len : Int) := by omega
              have hlsj := wr7t (show j < K.len by omega) HLEN.out
              have HLJ := Lib.hid hlj
              obtain ⟨b', o', d3, k3, he, hd3, hc3⟩ := HK.out j (by omega)
              simp only [Option.some.injEq, Addr.mk.injEq, and_true] at he
              obtain ⟨rfl, rfl⟩ := he
              obtain ⟨ta4, tc4, ka4, kc4, c0, c1, c2, c3, c4, _, htl, hcall⟩ := hc3 _ HBc.out
              have HC3 := Lib.hid hcall
              have HTL := Lib.hid htl
              have HAC := Lib.hid (accV_succ hd3)
              clear hd3 hc3 hcall htl hj
              go_wp2_with (first | (go_at_call 25; (with_reducible refine HC3.out.mono ?_); rintro e u4 ⟨tv, rfl, ho, hb, hbk⟩; have HT4 := Lib.hid ho; have HB4 := Lib.hid hb; have HM4 := Lib.hid (HMc.out.below hbk); clear ho hb hbk x0 x1 x2 x3 x4 c0 c1 c2 c3 c4; obtain ⟨x0, x1, x2, x3, x4⟩ := HX.out _ HB4.out))
              obtain ⟨to, tc, rfl⟩ := HT4.out.ss.shape
              generalize varsN d3 k3 = th at *
              go_loopw [8] (fun zv wr => ∃ z : Nat, z ≤ th.length ∧ zv = .int .i64 (z : Int) ∧ Hid (Below W.heap.size W wr) ∧ Hid (SOwn wr w.heap.size (.slice mo m.length mc) m) ∧ Hid (SOwn wr w.heap.size (.slice to th.length tc) th) ∧ Hid (∀ x ∈ th.take z, x ∉ m)) (fun zv _ => th.length - (intOf zv).toNat)
              case atStart => exact ⟨0, Nat.zero_le _, rfl, HB4, HM4, HT4, Lib.hid (by simp)⟩
              case round =>
                obtain ⟨z, hz, rfl, HBz, HMz, HTz, HVz⟩ := hrel
                clear x0 x1 x2 x3 x4
                obtain ⟨x0, x1, x2, x3, x4⟩ := HX.out _ HBz.out
                by_cases hlz : z < th.length
                · have hltz : (z : Int) < (th.length : Int) := by omega
                  have hltz' := decide_eq_true hltz
                  have hlsz := wr7t hlz HTL.out
                  have HLZ := Lib.hid hlz
                  obtain ⟨ao', cap', he, hh⟩ := HTz.out.ss
                  simp only [Value.slice.injEq, true_and] at he
                  obtain ⟨rfl, rfl⟩ := he
                  obtain ⟨gb, go', rfl, _, hcc⟩ := hh (fun h => by rw [h] at hlz; exact absurd hlz (Nat.not_lt_zero _))
                  have c0 := hcc z _ (List.getElem?_eq_getElem hlz)
                  have HTK : Hid (th.take (z + 1) = th.take z ++ [th[z]]) := Lib.hid (List.take_succ_eq_append_getElem hlz)
                  have HIN : Hid (th[z] ∈ th) := Lib.hid (List.getElem_mem hlz)
                  have HHA := Lib.hid (r7Has_any m (ba th[z]) _ mo mc _ HMz.out.ss (by have := HML.out; omega))
                  rw [nb_ba] at HHA
                  clear hh hcc hz
                  generalize th[z] = y at c0 HTK HIN HHA
                  clear hlz
                  by_cases hy : y ∈ m
                  · rw [decide_eq_true hy] at HHA
                    have HF := Lib.hid (HRS.out false (by
                      have hm : meets (accV K i) m = true := meets_iff.2 ⟨y, accV_mono (show j + 1 ≤ i from HLJ.out) (by rw [HAC.out]; exact List.mem_append.2 (.inr HIN.out)), hy⟩
                      rw [HBN.out, HV.out, HD.out, hm]; simp))
                    clear hy
                    go_wp2_with (first | (go_at_call 52; (with_reducible refine HHA.out.mono ?_); rintro e u5 ⟨rfl, rfl⟩))
                    go_ret
                    exact ⟨by rw [HF.out]; rfl, HE.out _ HBz.out⟩
                  · rw [decide_eq_false hy] at HHA
                    have HY := Lib.hid hy
                    clear hy
                    go_wp2_with (first | (go_at_call 52; (with_reducible refine HHA.out.mono ?_); rintro e u5 ⟨rfl, rfl⟩))
                    go_roundw
                    all_goals first
                      | exact ⟨z + 1, HLZ.out, by go_num, HBz, HMz, HTz, Lib.hid (fun x hx => by rw [HTK.out, List.mem_append, List.mem_singleton] at hx; exact hx.elim (HVz.out x) (fun e => e ▸ HY.out))⟩
                      | exact meas7t HLZ.out
                      | (rw [hlsz]; exact meas7t HLZ.out)
                · obtain rfl : z = th.length := by omega
                  have hnz : ¬ ((th.length : Int) < (th.length : Int)) := by omega
                  have hv := HVz.out
                  rw [List.take_length] at hv
                  have HVT := Lib.hid hv
                  clear hlz hz hv
                  go_wp2_with fail
                  go_roundw
                  all_goals first
                    | exact ⟨j + 1, HLJ.out, by go_num, HBz, HMz, Lib.hid (by rw [HAC.out, meets_no]; intro x hx; exact (List.mem_append.1 hx).elim (meets_no.1 HVc.out x) (HVT.out x))⟩
                    | exact meas7t HLJ.out
                    | (rw [hlsj]; exact meas7t HLJ.out)
            · obtain rfl : j = i := by omega
              have hnj : ¬ ((j : Int) < (j : Int)) := by omega
              clear hlj hj
              go_wp2_with fail
              go_roundw
              all_goals first
                | exact ⟨j + 1, HLT.out, by go_num, HBc, Lib.hid (by rw [HV.out, HD.out, HVc.out]; simp)⟩
                | exact meas7t HLT.out
                | (rw [hls]; exact meas7t HLT.out)
      · obtain rfl : i = K.len := by omega
        have hnl : ¬ ((K.len : Int) < (K.len : Int)) := by omega
        have HF := Lib.hid (HRS.out true (by rw [HBN.out, HV.out, Fo.drop_end (Nat.le_refl _)]; rfl))
        clear hlt hi
        go_wp2
        go_ret
        exact ⟨by rw [HF.out]; rfl, HE.out _ HB.out⟩
  · have b2 : (d.kind == 2) = false := beq_eq_false_iff_ne.2 h2
    by_cases h3 : d.kind = 3
    · have b3 : (d.kind == 3) = true := beq_iff_eq.2 h3
      have HBN : Hid (bindN d K = bindG K true []) := Lib.hid (by unfold bindN saB; rw [decide_eq_true h3]; simp)
      clear h2 h3
      go_enter Try.func22, Try.ntmps22
      go_wp2_with fail
      rw [← HW.out, ← HP.out]
      obtain ⟨x0, x1, x2, x3, x4⟩ := HX.out _ HR.out
      go_wp2_with fail
      go_loopw [3, 4, 5, 6, 7, 8] (fun iv _ _ _ _ _ wr => ∃ i : Nat, i ≤ K.len ∧ iv = .int .i64 (i : Int) ∧ Hid (Below W.heap.size W wr) ∧ Hid (bindG K true [] = bindG (K.drop i) true (accV K i))) (fun iv _ _ _ _ _ _ => K.len - (intOf iv).toNat)
      case atStart => exact ⟨0, Nat.zero_le _, rfl, HR, Lib.hid (by rw [Fo.drop_zero, accV_zero])⟩
      case round =>
        obtain ⟨i, hi, rfl, HB, HV⟩ := hrel
        clear x0 x1 x2 x3 x4
        obtain ⟨x0, x1, x2, x3, x4⟩ := HX.out _ HB.out
        by_cases hlt : i < K.len
        · have hlti : (i : Int) < (K.len : Int) := by omega
          have hlti' := decide_eq_true hlti
          have hls := wr7t hlt HLEN.out
          have HLT := Lib.hid hlt
          obtain ⟨b, o, d2, k2, rfl, hd, hc⟩ := HK.out i hlt
          obtain ⟨ta2, tc2, ka2, kc2, c0, c1, c2, c3, c4, hcall, _, _⟩ := hc _ HB.out
          have HCV := Lib.hid hc
          have HC := Lib.hid hcall
          have HD := Lib.hid (bindG_drop (sa := true) hd)
          clear hd hc hcall hi
          cases hbn : bindN d2 k2 with
          | false =>
            rw [hbn] at HC HD
            simp only [Bool.false_eq_true, if_false] at HC
            have HF := Lib.hid (HRS.out false (by rw [HBN.out, HV.out, HD.out]; rfl))
            go_wp2_with (first | (go_at_call 22; (with_reducible refine HC.out.mono ?_); rintro e u2 ⟨rfl, hb⟩; have HB2 := Lib.hid hb; clear hb x0 x1 x2 x3 x4 c0 c1 c2 c3 c4))
            go_ret
            exact ⟨by rw [HF.out]; rfl, HE.out _ HB2.out⟩
          | true =>
            rw [hbn] at HC HD
            simp only [if_true] at HC
            clear hbn
            go_wp2_with (first | (go_at_call 22; (with_reducible refine HC.out.mono ?_); rintro e u2 ⟨rfl, hb⟩; have HB2 := Lib.hid hb; clear hb x0 x1 x2 x3 x4 c0 c1 c2 c3 c4; obtain ⟨x0, x1, x2, x3, x4⟩ := HX.out _ HB2.out; obtain ⟨ta3, tc3, ka3, kc3, c0, c1, c2, c3, c4, _, hml, hcall⟩ := HCV.out _ HB2.out; have HC2 := Lib.hid hcall; have HML := Lib.hid hml; clear hcall hml) | (go_at_call 25; (with_reducible refine HC2.out.mono ?_); rintro e u3 ⟨mv, rfl, ho, hb, hbk⟩; have HM3 := Lib.hid ho; have HB3 := Lib.hid hb; clear ho hb hbk x0 x1 x2 x3 x4 c0 c1 c2 c3 c4; obtain ⟨x0, x1, x2, x3, x4⟩ := HX.out _ HB3.out))
            obtain ⟨mo, mc, rfl⟩ := HM3.out.ss.shape
            generalize varsN d2 k2 = m at *
            go_loopw [6, 7, 8] (fun jv _ _ wr => ∃ j : Nat, j ≤ i ∧ jv = .int .i64 (j : Int) ∧ Hid (Below W.heap.size W wr) ∧ Hid (SOwn wr w.heap.size (.slice mo m.length mc) m) ∧ Hid (meets (accV K j) m = false)) (fun jv _ _ _ => i - (intOf jv).toNat)
            case atStart => exact ⟨0, Nat.zero_le _, rfl, HB3, HM3, Lib.hid (by rw [accV_zero]; rfl)⟩
            case round =>
              obtain ⟨j, hj, rfl, HBc, HMc, HVc⟩ := hrel
              clear x0 x1 x2 x3 x4
              obtain ⟨x0, x1, x2, x3, x4⟩ := HX.out _ HBc.out
              by_cases hlj : j < i
              · have hltj : (j : Int) < (i : Int) := by omega
                have hltj' := decide_eq_true hltj
                have hjk : (j : Int) < (K.len : Int) := by omega
                have hlsj := wr7t (show j < K.len by omega) HLEN.out
                have HLJ := Lib.hid hlj
                obtain ⟨b', o', d3, k3, he, hd3, hc3⟩ := HK.out j (by omega)
                simp only [Option.some.injEq, Addr.mk.injEq, and_true] at he
                obtain ⟨rfl, rfl⟩ := he
                obtain ⟨ta4, tc4, ka4, kc4, c0, c1, c2, c3, c4, _, htl, hcall⟩ := hc3 _ HBc.out
                have HC3 := Lib.hid hcall
                have HTL := Lib.hid htl
                have HAC := Lib.hid (accV_succ hd3)
                clear hd3 hc3 hcall htl hj
                go_wp2_with (first | (go_at_call 25; (with_reducible refine HC3.out.mono ?_); rintro e u4 ⟨tv, rfl, ho, hb, hbk⟩; have HT4 := Lib.hid ho; have HB4 := Lib.hid hb; have HM4 := Lib.hid (HMc.out.below hbk); clear ho hb hbk x0 x1 x2 x3 x4 c0 c1 c2 c3 c4; obtain ⟨x0, x1, x2, x3, x4⟩ := HX.out _ HB4.out))
                obtain ⟨to, tc, rfl⟩ := HT4.out.ss.shape
                generalize varsN d3 k3 = th at *
                go_loopw [8] (fun zv wr => ∃ z : Nat, z ≤ th.length ∧ zv = .int .i64 (z : Int) ∧ Hid (Below W.heap.size W wr) ∧ Hid (SOwn wr w.heap.size (.slice mo m.length mc) m) ∧ Hid (SOwn wr w.heap.size (.slice to th.length tc) th) ∧ Hid (∀ x ∈ th.take z, x ∉ m)) (fun zv _ => th.length - (intOf zv).toNat)
                case atStart => exact ⟨0, Nat.zero_le _, rfl, HB4, HM4, HT4, Lib.hid (by simp)⟩
                case round =>
                  obtain ⟨z, hz, rfl, HBz, HMz, HTz, HVz⟩ := hrel
                  clear x0 x1 x2 x3 x4
                  obtain ⟨x0, x1, x2, x3, x4⟩ := HX.out _ HBz.out
                  by_cases hlz : z < th.length
                  · have hltz : (z : Int) < (th.length : Int) := by omega
                    have hltz' := decide_eq_true hltz
                    have hlsz := wr7t hlz HTL.out
                    have HLZ := Lib.hid hlz
                    obtain ⟨ao', cap', he, hh⟩ := HTz.out.ss
                    simp only [Value.slice.injEq, true_and] at he
                    obtain ⟨rfl, rfl⟩ := he
                    obtain ⟨gb, go', rfl, _, hcc⟩ := hh (fun h => by rw [h] at hlz; exact absurd hlz (Nat.not_lt_zero _))
                    have c0 := hcc z _ (List.getElem?_eq_getElem hlz)
                    have HTK : Hid (th.take (z + 1) = th.take z ++ [th[z]]) := Lib.hid (List.take_succ_eq_append_getElem hlz)
                    have HIN : Hid (th[z] ∈ th) := Lib.hid (List.getElem_mem hlz)
                    have HHA := Lib.hid (r7Has_any m (ba th[z]) _ mo mc _ HMz.out.ss (by have := HML.out; omega))
                    rw [nb_ba] at HHA
                    clear hh hcc hz
                    generalize th[z] = y at c0 HTK HIN HHA
                    clear hlz
                    by_cases hy : y ∈ m
                    · rw [decide_eq_true hy] at HHA
                      have HF := Lib.hid (HRS.out false (by
                        have hm : meets (accV K i) m = true := meets_iff.2 ⟨y, accV_mono (show j + 1 ≤ i from HLJ.out) (by rw [HAC.out]; exact List.mem_append.2 (.inr HIN.out)), hy⟩
                        rw [HBN.out, HV.out, HD.out, hm]; simp))
                      clear hy
                      go_wp2_with (first | (go_at_call 52; (with_reducible refine HHA.out.mono ?_); rintro e u5 ⟨rfl, rfl⟩))
                      go_ret
                      exact ⟨by rw [HF.out]; rfl, HE.out _ HBz.out⟩
                    · rw [decide_eq_false hy] at HHA
                      have HY := Lib.hid hy
                      clear hy
                      go_wp2_with (first | (go_at_call 52; (with_reducible refine HHA.out.mono ?_); rintro e u5 ⟨rfl, rfl⟩))
                      go_roundw
                      all_goals first
                        | exact ⟨z + 1, HLZ.out, by go_num, HBz, HMz, HTz, Lib.hid (fun x hx => by rw [HTK.out, List.mem_append, List.mem_singleton] at hx; exact hx.elim (HVz.out x) (fun e => e ▸ HY.out))⟩
                        | exact meas7t HLZ.out
                        | (rw [hlsz]; exact meas7t HLZ.out)
                  · obtain rfl : z = th.length := by omega
                    have hnz : ¬ ((th.length : Int) < (th.length : Int)) := by omega
                    have hv := HVz.out
                    rw [List.take_length] at hv
                    have HVT := Lib.hid hv
                    clear hlz hz hv
                    go_wp2_with fail
                    go_roundw
                    all_goals first
                      | exact ⟨j + 1, HLJ.out, by go_num, HBz, HMz, Lib.hid (by rw [HAC.out, meets_no]; intro x hx; exact (List.mem_append.1 hx).elim (meets_no.1 HVc.out x) (HVT.out x))⟩
                      | exact meas7t HLJ.out
                      | (rw [hlsj]; exact meas7t HLJ.out)
              · obtain rfl : j = i := by omega
                have hnj : ¬ ((j : Int) < (j : Int)) := by omega
                clear hlj hj
                go_wp2_with fail
                go_roundw
                all_goals first
                  | exact ⟨j + 1, HLT.out, by go_num, HBc, Lib.hid (by rw [HV.out, HD.out, HVc.out]; simp)⟩
                  | exact meas7t HLT.out
                  | (rw [hls]; exact meas7t HLT.out)
        · obtain rfl : i = K.len := by omega
          have hnl : ¬ ((K.len : Int) < (K.len : Int)) := by omega
          have HF := Lib.hid (HRS.out true (by rw [HBN.out, HV.out, Fo.drop_end (Nat.le_refl _)]; rfl))
          clear hlt hi
          go_wp2
          go_ret
          exact ⟨by rw [HF.out]; rfl, HE.out _ HB.out⟩
    · have b3 : (d.kind == 3) = false := beq_eq_false_iff_ne.2 h3
      have HBN : Hid (bindN d K = bindG K false []) := Lib.hid (by unfold bindN saB; rw [decide_eq_false h2, decide_eq_false h3]; rfl)
      clear h2 h3
      go_enter Try.func22, Try.ntmps22
      go_wp2_with fail
      rw [← HW.out, ← HP.out]
      obtain ⟨x0, x1, x2, x3, x4⟩ := HX.out _ HR.out
      go_wp2_with fail
      go_loopw [3, 4, 5, 6, 7, 8] (fun iv _ _ _ _ _ wr => ∃ i : Nat, i ≤ K.len ∧ iv = .int .i64 (i : Int) ∧ Hid (Below W.heap.size W wr) ∧ Hid (bindG K false [] = bindG (K.drop i) false (accV K i))) (fun iv _ _ _ _ _ _ => K.len - (intOf iv).toNat)
      case atStart => exact ⟨0, Nat.zero_le _, rfl, HR, Lib.hid (by rw [Fo.drop_zero, accV_zero])⟩
      case round =>
        obtain ⟨i, hi, rfl, HB, HV⟩ := hrel
        clear x0 x1 x2 x3 x4
        obtain ⟨x0, x1, x2, x3, x4⟩ := HX.out _ HB.out
        by_cases hlt : i < K.len
        · have hlti : (i : Int) < (K.len : Int) := by omega
          have hlti' := decide_eq_true hlti
          have hls := wr7t hlt HLEN.out
          have HLT := Lib.hid hlt
          obtain ⟨b, o, d2, k2, rfl, hd, hc⟩ := HK.out i hlt
          obtain ⟨ta2, tc2, ka2, kc2, c0, c1, c2, c3, c4, hcall, _, _⟩ := hc _ HB.out
          have HCV := Lib.hid hc
          have HC := Lib.hid hcall
          have HD := Lib.hid (bindG_drop (sa := false) hd)
          clear hd hc hcall hi
          cases hbn : bindN d2 k2 with
          | false =>
            rw [hbn] at HC HD
            simp only [Bool.false_eq_true, if_false] at HC
            have HF := Lib.hid (HRS.out false (by rw [HBN.out, HV.out, HD.out]; rfl))
            go_wp2_with (first | (go_at_call 22; (with_reducible refine HC.out.mono ?_); rintro e u2 ⟨rfl, hb⟩; have HB2 := Lib.hid hb; clear hb x0 x1 x2 x3 x4 c0 c1 c2 c3 c4))
            go_ret
            exact ⟨by rw [HF.out]; rfl, HE.out _ HB2.out⟩
          | true =>
            rw [hbn] at HC HD
            simp only [if_true] at HC
            clear hbn
            go_wp2_with (first | (go_at_call 22; (with_reducible refine HC.out.mono ?_); rintro e u2 ⟨rfl, hb⟩; have HB2 := Lib.hid hb; clear hb x0 x1 x2 x3 x4 c0 c1 c2 c3 c4; obtain ⟨x0, x1, x2, x3, x4⟩ := HX.out _ HB2.out; obtain ⟨ta3, tc3, ka3, kc3, c0, c1, c2, c3, c4, _, hml, hcall⟩ := HCV.out _ HB2.out; have HC2 := Lib.hid hcall; have HML := Lib.hid hml; clear hcall hml) | (go_at_call 25; (with_reducible refine HC2.out.mono ?_); rintro e u3 ⟨mv, rfl, ho, hb, hbk⟩; have HM3 := Lib.hid ho; have HB3 := Lib.hid hb; clear ho hb hbk x0 x1 x2 x3 x4 c0 c1 c2 c3 c4; obtain ⟨x0, x1, x2, x3, x4⟩ := HX.out _ HB3.out))
            obtain ⟨mo, mc, rfl⟩ := HM3.out.ss.shape
            generalize varsN d2 k2 = m at *
            go_loopw [6, 7, 8] (fun jv _ _ wr => jv = .int .i64 0 ∧ Hid (Below W.heap.size W wr)) (fun _ _ _ _ => 0)
            case atStart => exact ⟨rfl, HB3⟩
            case round =>
              obtain ⟨rfl, HBc⟩ := hrel
              clear x0 x1 x2 x3 x4
              obtain ⟨x0, x1, x2, x3, x4⟩ := HX.out _ HBc.out
              have hi0 : 0 < i ∨ i = 0 := by omega
              rcases hi0 with hi0 | rfl
              · have hi1 : (0 : Int) < (i : Int) := by omega
                have hi1' := decide_eq_true hi1
                go_wp2_with fail
                go_roundw
                all_goals first
                  | exact ⟨i + 1, HLT.out, by go_num, HBc, Lib.hid (by rw [HV.out, HD.out]; simp)⟩
                  | exact meas7t HLT.out
                  | (rw [hls]; exact meas7t HLT.out)
              · go_wp2_with fail
                go_roundw
                all_goals first
                  | exact ⟨0 + 1, HLT.out, by go_num, HBc, Lib.hid (by rw [HV.out, HD.out]; simp)⟩
                  | exact meas7t HLT.out
                  | (rw [hls]; exact meas7t HLT.out)
        · obtain rfl : i = K.len := by omega
          have hnl : ¬ ((K.len : Int) < (K.len : Int)) := by omega
          have HF := Lib.hid (HRS.out true (by rw [HBN.out, HV.out, Fo.drop_end (Nat.le_refl _)]; rfl))
          clear hlt hi
          go_wp2
          go_ret
          exact ⟨by rw [HF.out]; rfl, HE.out _ HB.out⟩
end Go.Proofs.Ytmjajoepgilokaa
