/- Contract: Binds of the program. -/
import Derived.Test.YtnfjodkpapmfkaaSu7
namespace Go.Proofs.Ytnfjodkpapmfkaa
open Go Go.RowKit Go.Maps Go.Sort

theorem meets_congr {A B S T : List Nm} (h1 : ∀ x, x ∈ A ↔ x ∈ S) (h2 : ∀ x, x ∈ B ↔ x ∈ T) : meets A B = meets S T := by
  rw [Bool.eq_iff_iff, meets_iff, meets_iff]
  exact ⟨fun ⟨x, a, b⟩ => ⟨x, (h1 x).1 a, (h2 x).1 b⟩, fun ⟨x, a, b⟩ => ⟨x, (h1 x).2 a, (h2 x).2 b⟩⟩
/-- What the closure of Binds leaves. -/
def ToldB (w : World) (ok : Bool) (M : Nm → Prop) (N : Nat) (e : Ending) (w' : World) : Prop :=
  (ok = true ∧ ∃ m C, e = .returned (.tuple #[.map m, .bool true]) ∧ StV w' m C ∧ (∀ x, x ∈ C ↔ M x) ∧ C.length ≤ N ∧ Below w.heap.size w w' ∧ ∀ b, m = some b → w.heap.size ≤ b) ∨
  (ok = false ∧ e = .returned (.tuple #[.map none, .bool false]) ∧ Below w.heap.size w w')
set_option maxRecDepth 100000 in
set_option maxHeartbeats 4000000 in
theorem cBinds1_any (q : Nat) (G : Nat → Prop) (hGq : G q) (d : Nt) (k : Fo) :
    ∀ (w : World) (b o lv : Nat), (∀ x, G x → x < w.heap.size) → w.cell? ⟨q, 0, none⟩ = some (.func (.func 107) #[] #[.pointer (some ⟨q, 0, none⟩)]) → NdP w G d k b o → G b → lv + deepF k ≤ 1048576 → szD d + szF k ≤ 1048576 →
      Calls Try.prog 107 #[.pointer (some ⟨b, o, none⟩), .int .i64 (lv : Int), .pointer (some ⟨q, 0, none⟩)] w (ToldB w (bindN d k) (fun x => x ∈ varsN d k) (szD d + szF k)) := by
  revert d k
  refine Fo.node_ind (p := fun d k => ∀ (w : World) (b o lv : Nat), (∀ x, G x → x < w.heap.size) → w.cell? ⟨q, 0, none⟩ = some (.func (.func 107) #[] #[.pointer (some ⟨q, 0, none⟩)]) → NdP w G d k b o → G b → lv + deepF k ≤ 1048576 → szD d + szF k ≤ 1048576 →
      Calls Try.prog 107 #[.pointer (some ⟨b, o, none⟩), .int .i64 (lv : Int), .pointer (some ⟨q, 0, none⟩)] w (ToldB w (bindN d k) (fun x => x ∈ varsN d k) (szD d + szF k))) ?_
  intro d K ih w b o lv hG hq hN hb hlv hsz
  obtain ⟨ta, tc, ka, kc, c0, c1, c2, c3, c4, ht, hk⟩ := hN
  clear c2 c3 ht
  have hmx : (1048577 : Nat) ≤ maxLen := by unfold maxLen; omega
  have hlen : K.len ≤ 1048576 := by have := szF_len K; omega
  have hl1 : ¬ (1048576 : Int) < (lv : Int) := by omega
  have hl2 : decide ((1048576 : Int) < (lv : Int)) = false := decide_eq_false hl1
  have hwl : IntKind.i64.wrap ((lv : Int) + 1) = (lv : Int) + 1 := by rw [IntKind.wrap_i64]; omega
  have hcast : ((lv + 1 : Nat) : Int) = (lv : Int) + 1 := by omega
  have HK := Lib.hid (fun (u : World) (hu : Below w.heap.size w u) (i : Nat) (d2 : Nt) (k2 : Fo) (b' o' : Nat) (hka : ka = some ⟨b', o', none⟩) (hi : K.drop i = .cons d2 k2 (K.drop (i + 1))) => (by
      have hne : K.isNil = false := by
        cases hh : K.isNil with
        | false => rfl
        | true =>
          rw [Fo.isNil_len] at hh
          rw [Fo.drop_end (by have := of_decide_eq_true hh; omega)] at hi
          cases hi
      obtain ⟨b1, o1, he, hb', hf⟩ := hk hne
      rw [hka] at he
      obtain ⟨rfl, rfl⟩ : b' = b1 ∧ o' = o1 := by cases he; exact ⟨rfl, rfl⟩
      have h1 := Fo.All.drop i ih
      have h2 := FoAt.drop i (FoAt.keep (fun x hx => hu.block x (hG x hx)) hb' hf)
      have h3 := deepF_drop K i
      have h4 := szF_drop K i
      rw [hi] at h1 h2 h3 h4
      simp only [szF, deepF] at h3 h4
      have := h1.1 u b' (o' + i * 5) (lv + 1) (fun x hx => Nat.lt_of_lt_of_le (hG x hx) hu.size) ((hu.cell (hG q hGq)).trans hq) h2.cons.1 hb' (by omega) (by omega)
      rw [hcast] at this
      exact this :
        Calls Try.prog 107 #[.pointer (some ⟨b', o' + i * 5, none⟩), .int .i64 ((lv : Int) + 1), .pointer (some ⟨q, 0, none⟩)] u (ToldB u (bindN d2 k2) (fun x => x ∈ varsN d2 k2) (szD d2 + szF k2))))
  have HX := Lib.hid (fun (u : World) (hu : Below w.heap.size w u) => (⟨(hu.cell (hG q hGq)).trans hq, (hu.cell (hG b hb)).trans c4, (hu.cell (hG b hb)).trans c0, (hu.cell (hG b hb)).trans c1⟩ : u.cell? ⟨q, 0, none⟩ = some (.func (.func 107) #[] #[.pointer (some ⟨q, 0, none⟩)]) ∧ u.cell? ⟨b, o + 4, none⟩ = some (.slice ka K.len kc) ∧ u.cell? ⟨b, o, none⟩ = some (.int .i64 d.kind) ∧ u.cell? ⟨b, o + 1, none⟩ = some (.string d.var)))
  have HKA := Lib.hid (fun h => (hk h).imp fun _ h => h.imp fun _ h => h.1)
  have HSZ := Lib.hid hsz; have HMX := Lib.hid hmx; have HLEN := Lib.hid hlen
  have HVS : Hid (d.var.size ≤ maxLen) := Lib.hid (by simp only [szD] at hsz; omega)
  clear ih hk hsz hG hq c0 c1 hb hmx hlen hlv
  unfold bindN
  go_enter Try.func107, Try.ntmps107
  go_wp2_with fail
  clear c4
  go_loopw [7, 18] (fun mv iv wr => ∃ (i : Nat) (m : Option Nat) (C A : List Nm), i ≤ K.len ∧ iv = .int .i64 (i : Int) ∧ mv = .map m ∧ Hid (StV wr m C) ∧ Hid (∀ x, x ∈ C ↔ x ∈ A) ∧ Hid (bindG (K.drop i) (saB d.kind) A = bindG K (saB d.kind) []) ∧ Hid (∀ x, inF x K ↔ x ∈ A ∨ inF x (K.drop i)) ∧ Hid (C.length + szF (K.drop i) ≤ szF K) ∧ Hid (Below w.heap.size w wr) ∧ Hid (∀ b, m = some b → w.heap.size ≤ b)) (fun _ iv _ => K.len - (intOf iv).toNat)
  case atStart => exact ⟨0, none, [], [], Nat.zero_le _, rfl, rfl, Lib.hid (StV.nil _), Lib.hid (fun x => Iff.rfl), by rw [Fo.drop_zero]; exact Lib.hid rfl, Lib.hid (fun x => by rw [Fo.drop_zero]; simp), Lib.hid (by rw [Fo.drop_zero]; simp), Lib.hid (Below.refl _ _), Lib.hid (fun b hb => by cases hb)⟩
  case round =>
    obtain ⟨i, m, C, A, hi, rfl, rfl, HV, HM, HT, HI, HN, HB, HQ⟩ := hrel
    obtain ⟨x1, x2, x3, x4⟩ := HX.out wr HB.out
    by_cases hlt : i < K.len
    · have hlti : (i : Int) < (K.len : Int) := by omega
      have hlti' := decide_eq_true hlti
      have hi0 : (0 : Int) ≤ (i : Int) := by omega
      obtain ⟨d2, k2, hd⟩ := Fo.drop_cons hlt
      obtain ⟨b', o', rfl⟩ := HKA.out (by rw [Fo.isNil_len]; exact decide_eq_false (by omega))
      have HCi := Lib.hid (HK.out wr.drew HB.out.drew i d2 k2 b' o' rfl hd)
      have HZi : Hid (szF (K.drop i) = szD d2 + szF k2 + szF (K.drop (i + 1))) := Lib.hid (by rw [hd]; rfl)
      have htt := HT.out
      rw [hd, bindG_cons] at htt
      have HTi := Lib.hid htt
      have HIi := Lib.hid (fun x => by have h := HI.out x; rw [hd, inF_cons] at h; exact h)
      have hls := wr7 hlt (by have := HLEN.out; omega)
      have HLT := Lib.hid hlt
      clear hd hlt hi htt HT HI HK HKA
      unfold ToldB at HCi
      cases hbk : bindN d2 k2 with
      | false =>
        simp only [hbk, Bool.false_eq_true, false_and, false_or, true_and] at HCi
        rw [hbk] at HTi
        have HF : Hid (bindG K (saB d.kind) [] = false) := Lib.hid (by rw [← HTi.out]; rfl)
        clear hbk HTi
        go_wp2_with fail
        go_region_held3 (fun u => u.cell? ⟨q, 0, none⟩ = some (.func (.func 107) #[] #[.pointer (some ⟨q, 0, none⟩)]) ∧ u.cell? ⟨b, o + 4, none⟩ = some (.slice (some ⟨b', o', none⟩) K.len kc)) (first | exact ⟨x1, x2⟩ | exact ⟨y1, y2⟩ | go_keep)
          (first | (go_at_call 107; (with_reducible refine HCi.out.mono ?_); rintro e u2 ⟨rfl, hbl⟩; have HBu := Lib.hid (HB.out.drew.trans (hbl.mono HB.out.size)); obtain ⟨y1, y2, y3, y4⟩ := HX.out _ HBu.out; clear hbl))
        go_wp2
        go_ret2
        exact .inr ⟨HF.out, rfl, HBu.out⟩
      | true =>
        simp only [hbk, true_and, Bool.true_eq_false, false_and, or_false] at HCi
        rw [hbk] at HTi
        clear hbk
        have HREG := HCi
        by_cases h2 : d.kind = 2
        · have g2 : (d.kind == 2) = true := beq_iff_eq.2 h2
          have HSA : Hid (saB d.kind = true) := Lib.hid (by unfold saB; rw [decide_eq_true h2]; rfl)
          clear h2
          cases hme : meets A (varsN d2 k2) with
          | true =>
            rw [hme] at HTi
            have HF : Hid (bindG K (saB d.kind) [] = false) := Lib.hid (by rw [← HTi.out, HSA.out]; rfl)
            go_wp2_with fail
            go_region_held3 (fun u => u.cell? ⟨q, 0, none⟩ = some (.func (.func 107) #[] #[.pointer (some ⟨q, 0, none⟩)]) ∧ u.cell? ⟨b, o + 4, none⟩ = some (.slice (some ⟨b', o', none⟩) K.len kc)) (first | exact ⟨x1, x2⟩ | exact ⟨y1, y2⟩ | go_keep)
              (first | (go_at_call 107; (with_reducible refine HCi.out.mono ?_); rintro e u2 ⟨m2, C2, rfl, hs, hm, hn, hbl, hbk⟩; have HBu := Lib.hid (HB.out.drew.trans (hbl.mono HB.out.size)); have HSo := Lib.hid (HV.out.below (w' := u2) (show Below wr.heap.size wr u2 from (show Below wr.heap.size wr wr.drew from (Below.refl _ _).drew).trans hbl)); obtain ⟨y1, y2, y3, y4⟩ := HX.out _ HBu.out; have HSu := Lib.hid hs; have HMu := Lib.hid hm; have HNu := Lib.hid hn; have HKu := Lib.hid hbk; clear hs hm hn hbl hbk))
            have HME := Lib.hid (cMeet_any m m2 C C2 u2 HSo.out HSu.out)
            rw [meets_congr HM.out HMu.out] at HME
            rw [hme] at HME
            clear hme
            go_wp2_with (first | (go_at_call 108; (with_reducible refine HME.out.mono ?_); rintro e u4 ⟨rfl, hbm⟩; have HMB := Lib.hid hbm; obtain ⟨z1, z2, z3, z4⟩ := HX.out _ (HBu.out.trans (hbm.mono HBu.out.size)); clear hbm))
            go_ret2
            exact .inr ⟨HF.out, rfl, HBu.out.trans (HMB.out.mono HBu.out.size)⟩
          | false =>
            have HGO : Hid ((true && !(saB d.kind && meets A (varsN d2 k2))) = true) := Lib.hid (by rw [hme, HSA.out]; rfl)
            go_wp2_with fail
            go_region_held3 (fun u => u.cell? ⟨q, 0, none⟩ = some (.func (.func 107) #[] #[.pointer (some ⟨q, 0, none⟩)]) ∧ u.cell? ⟨b, o + 4, none⟩ = some (.slice (some ⟨b', o', none⟩) K.len kc)) (first | exact ⟨x1, x2⟩ | exact ⟨y1, y2⟩ | go_keep)
              (first | (go_at_call 107; (with_reducible refine HCi.out.mono ?_); rintro e u2 ⟨m2, C2, rfl, hs, hm, hn, hbl, hbk⟩; have HBu := Lib.hid (HB.out.drew.trans (hbl.mono HB.out.size)); have HSo := Lib.hid (HV.out.below (w' := u2) (show Below wr.heap.size wr u2 from (show Below wr.heap.size wr wr.drew from (Below.refl _ _).drew).trans hbl)); obtain ⟨y1, y2, y3, y4⟩ := HX.out _ HBu.out; have HSu := Lib.hid hs; have HMu := Lib.hid hm; have HNu := Lib.hid hn; have HKu := Lib.hid hbk; clear hs hm hn hbl hbk))
            have HME := Lib.hid (cMeet_any m m2 C C2 u2 HSo.out HSu.out)
            rw [meets_congr HM.out HMu.out] at HME
            rw [hme] at HME
            clear hme
            have HEM := Lib.hid (fun (u : World) (hu : Below u2.heap.size u2 u) => cEither_any m m2 C C2 u (HSo.out.below hu) (HSu.out.below hu) (fun x hx hy => by have h1 := HV.out.lt x hx; have h2 := HKu.out x hy; rw [show wr.drew.heap.size = wr.heap.size from rfl] at h2; omega) (by have := HNu.out; have := HN.out; have := HZi.out; have := HSZ.out; have := HMX.out; omega))
            have HK2 := Lib.hid (fun b (hb : m2 = some b) => (show w.heap.size ≤ b from Nat.le_trans HB.out.size (HKu.out b hb)))
            go_wp2_with (first
              | (go_at_call 108; (with_reducible refine HME.out.mono ?_); rintro e u4 ⟨rfl, hbm⟩; have HMB := Lib.hid hbm; obtain ⟨z1, z2, z3, z4⟩ := HX.out _ (HBu.out.trans (hbm.mono HBu.out.size)); clear hbm)
              | (go_at_call 71; (with_reducible refine (HEM.out _ HMB.out).mono ?_); rintro e u3 ⟨m3, rfl, hm3, ⟨C3, hs, hm, hn⟩, hc⟩; have HS3 := Lib.hid hs; have HM3 := Lib.hid hm; have HN3 := Lib.hid hn; have HB3 := Lib.hid ((HBu.out.trans (HMB.out.mono HBu.out.size)).trans (hc.below (Nat.le_trans HBu.out.size HMB.out.size) (fun j hj => hj.elim (HQ.out j) (HK2.out j)))); have HK3 := Lib.hid (fun b (hb : m3 = some b) => (hm3.elim (fun h => HQ.out b (h ▸ hb)) (fun h => HK2.out b (h ▸ hb)) : w.heap.size ≤ b)); clear hs hm hn hc hm3))
            go_roundw
            all_goals first
              | exact ⟨i + 1, m3, C3, A ++ varsN d2 k2, HLT.out, by go_num, rfl, HS3, Lib.hid (fun x => by rw [HM3.out x, List.mem_append, HM.out x, HMu.out x]), Lib.hid (by rw [← HTi.out, HGO.out]; rfl), Lib.hid (fun x => by rw [HIi.out x, List.mem_append, or_assoc]), Lib.hid (by have := HN3.out; have := HNu.out; have := HN.out; have := HZi.out; omega), HB3, HK3⟩
              | exact meas7 HLT.out
              | (rw [hls]; exact meas7 HLT.out)
        · have g2 : (d.kind == 2) = false := beq_eq_false_iff_ne.2 h2
          by_cases h3 : d.kind = 3
          · have g3 : (d.kind == 3) = true := beq_iff_eq.2 h3
            have HSA : Hid (saB d.kind = true) := Lib.hid (by unfold saB; rw [decide_eq_true h3, Bool.or_true])
            clear h2 h3
            cases hme : meets A (varsN d2 k2) with
            | true =>
              rw [hme] at HTi
              have HF : Hid (bindG K (saB d.kind) [] = false) := Lib.hid (by rw [← HTi.out, HSA.out]; rfl)
              go_wp2_with fail
              go_region_held3 (fun u => u.cell? ⟨q, 0, none⟩ = some (.func (.func 107) #[] #[.pointer (some ⟨q, 0, none⟩)]) ∧ u.cell? ⟨b, o + 4, none⟩ = some (.slice (some ⟨b', o', none⟩) K.len kc)) (first | exact ⟨x1, x2⟩ | exact ⟨y1, y2⟩ | go_keep)
                (first | (go_at_call 107; (with_reducible refine HCi.out.mono ?_); rintro e u2 ⟨m2, C2, rfl, hs, hm, hn, hbl, hbk⟩; have HBu := Lib.hid (HB.out.drew.trans (hbl.mono HB.out.size)); have HSo := Lib.hid (HV.out.below (w' := u2) (show Below wr.heap.size wr u2 from (show Below wr.heap.size wr wr.drew from (Below.refl _ _).drew).trans hbl)); obtain ⟨y1, y2, y3, y4⟩ := HX.out _ HBu.out; have HSu := Lib.hid hs; have HMu := Lib.hid hm; have HNu := Lib.hid hn; have HKu := Lib.hid hbk; clear hs hm hn hbl hbk))
              have HME := Lib.hid (cMeet_any m m2 C C2 u2 HSo.out HSu.out)
              rw [meets_congr HM.out HMu.out] at HME
              rw [hme] at HME
              clear hme
              go_wp2_with (first | (go_at_call 108; (with_reducible refine HME.out.mono ?_); rintro e u4 ⟨rfl, hbm⟩; have HMB := Lib.hid hbm; obtain ⟨z1, z2, z3, z4⟩ := HX.out _ (HBu.out.trans (hbm.mono HBu.out.size)); clear hbm))
              go_ret2
              exact .inr ⟨HF.out, rfl, HBu.out.trans (HMB.out.mono HBu.out.size)⟩
            | false =>
              have HGO : Hid ((true && !(saB d.kind && meets A (varsN d2 k2))) = true) := Lib.hid (by rw [hme, HSA.out]; rfl)
              go_wp2_with fail
              go_region_held3 (fun u => u.cell? ⟨q, 0, none⟩ = some (.func (.func 107) #[] #[.pointer (some ⟨q, 0, none⟩)]) ∧ u.cell? ⟨b, o + 4, none⟩ = some (.slice (some ⟨b', o', none⟩) K.len kc)) (first | exact ⟨x1, x2⟩ | exact ⟨y1, y2⟩ | go_keep)
                (first | (go_at_call 107; (with_reducible refine HCi.out.mono ?_); rintro e u2 ⟨m2, C2, rfl, hs, hm, hn, hbl, hbk⟩; have HBu := Lib.hid (HB.out.drew.trans (hbl.mono HB.out.size)); have HSo := Lib.hid (HV.out.below (w' := u2) (show Below wr.heap.size wr u2 from (show Below wr.heap.size wr wr.drew from (Below.refl _ _).drew).trans hbl)); obtain ⟨y1, y2, y3, y4⟩ := HX.out _ HBu.out; have HSu := Lib.hid hs; have HMu := Lib.hid hm; have HNu := Lib.hid hn; have HKu := Lib.hid hbk; clear hs hm hn hbl hbk))
              have HME := Lib.hid (cMeet_any m m2 C C2 u2 HSo.out HSu.out)
              rw [meets_congr HM.out HMu.out] at HME
              rw [hme] at HME
              clear hme
              have HEM := Lib.hid (fun (u : World) (hu : Below u2.heap.size u2 u) => cEither_any m m2 C C2 u (HSo.out.below hu) (HSu.out.below hu) (fun x hx hy => by have h1 := HV.out.lt x hx; have h2 := HKu.out x hy; rw [show wr.drew.heap.size = wr.heap.size from rfl] at h2; omega) (by have := HNu.out; have := HN.out; have := HZi.out; have := HSZ.out; have := HMX.out; omega))
              have HK2 := Lib.hid (fun b (hb : m2 = some b) => (show w.heap.size ≤ b from Nat.le_trans HB.out.size (HKu.out b hb)))
              go_wp2_with (first
                | (go_at_call 108; (with_reducible refine HME.out.mono ?_); rintro e u4 ⟨rfl, hbm⟩; have HMB := Lib.hid hbm; obtain ⟨z1, z2, z3, z4⟩ := HX.out _ (HBu.out.trans (hbm.mono HBu.out.size)); clear hbm)
                | (go_at_call 71; (with_reducible refine (HEM.out _ HMB.out).mono ?_); rintro e u3 ⟨m3, rfl, hm3, ⟨C3, hs, hm, hn⟩, hc⟩; have HS3 := Lib.hid hs; have HM3 := Lib.hid hm; have HN3 := Lib.hid hn; have HB3 := Lib.hid ((HBu.out.trans (HMB.out.mono HBu.out.size)).trans (hc.below (Nat.le_trans HBu.out.size HMB.out.size) (fun j hj => hj.elim (HQ.out j) (HK2.out j)))); have HK3 := Lib.hid (fun b (hb : m3 = some b) => (hm3.elim (fun h => HQ.out b (h ▸ hb)) (fun h => HK2.out b (h ▸ hb)) : w.heap.size ≤ b)); clear hs hm hn hc hm3))
              go_roundw
              all_goals first
                | exact ⟨i + 1, m3, C3, A ++ varsN d2 k2, HLT.out, by go_num, rfl, HS3, Lib.hid (fun x => by rw [HM3.out x, List.mem_append, HM.out x, HMu.out x]), Lib.hid (by rw [← HTi.out, HGO.out]; rfl), Lib.hid (fun x => by rw [HIi.out x, List.mem_append, or_assoc]), Lib.hid (by have := HN3.out; have := HNu.out; have := HN.out; have := HZi.out; omega), HB3, HK3⟩
                | exact meas7 HLT.out
                | (rw [hls]; exact meas7 HLT.out)
          · have g3 : (d.kind == 3) = false := beq_eq_false_iff_ne.2 h3
            have HSA : Hid (saB d.kind = false) := Lib.hid (by unfold saB; rw [decide_eq_false h2, decide_eq_false h3]; rfl)
            have HGO : Hid ((true && !(saB d.kind && meets A (varsN d2 k2))) = true) := Lib.hid (by rw [HSA.out]; rfl)
            clear h2 h3
            go_wp2_with fail
            go_region_held3 (fun u => u.cell? ⟨q, 0, none⟩ = some (.func (.func 107) #[] #[.pointer (some ⟨q, 0, none⟩)]) ∧ u.cell? ⟨b, o + 4, none⟩ = some (.slice (some ⟨b', o', none⟩) K.len kc)) (first | exact ⟨x1, x2⟩ | exact ⟨y1, y2⟩ | go_keep)
              (first | (go_at_call 107; (with_reducible refine HCi.out.mono ?_); rintro e u2 ⟨m2, C2, rfl, hs, hm, hn, hbl, hbk⟩; have HBu := Lib.hid (HB.out.drew.trans (hbl.mono HB.out.size)); have HSo := Lib.hid (HV.out.below (w' := u2) (show Below wr.heap.size wr u2 from (show Below wr.heap.size wr wr.drew from (Below.refl _ _).drew).trans hbl)); obtain ⟨y1, y2, y3, y4⟩ := HX.out _ HBu.out; have HSu := Lib.hid hs; have HMu := Lib.hid hm; have HNu := Lib.hid hn; have HKu := Lib.hid hbk; clear hs hm hn hbl hbk))
            have HEM := Lib.hid (fun (u : World) (hu : Below u2.heap.size u2 u) => cEither_any m m2 C C2 u (HSo.out.below hu) (HSu.out.below hu) (fun x hx hy => by have h1 := HV.out.lt x hx; have h2 := HKu.out x hy; rw [show wr.drew.heap.size = wr.heap.size from rfl] at h2; omega) (by have := HNu.out; have := HN.out; have := HZi.out; have := HSZ.out; have := HMX.out; omega))
            have HK2 := Lib.hid (fun b (hb : m2 = some b) => (show w.heap.size ≤ b from Nat.le_trans HB.out.size (HKu.out b hb)))
            have HMB := Lib.hid (Below.refl u2.heap.size u2)
            go_wp2_with (first | (go_at_call 71; (with_reducible refine (HEM.out _ HMB.out).mono ?_); rintro e u3 ⟨m3, rfl, hm3, ⟨C3, hs, hm, hn⟩, hc⟩; have HS3 := Lib.hid hs; have HM3 := Lib.hid hm; have HN3 := Lib.hid hn; have HB3 := Lib.hid ((HBu.out.trans (HMB.out.mono HBu.out.size)).trans (hc.below (Nat.le_trans HBu.out.size HMB.out.size) (fun j hj => hj.elim (HQ.out j) (HK2.out j)))); have HK3 := Lib.hid (fun b (hb : m3 = some b) => (hm3.elim (fun h => HQ.out b (h ▸ hb)) (fun h => HK2.out b (h ▸ hb)) : w.heap.size ≤ b)); clear hs hm hn hc hm3))
            go_roundw
            all_goals first
              | exact ⟨i + 1, m3, C3, A ++ varsN d2 k2, HLT.out, by go_num, rfl, HS3, Lib.hid (fun x => by rw [HM3.out x, List.mem_append, HM.out x, HMu.out x]), Lib.hid (by rw [← HTi.out, HGO.out]; rfl), Lib.hid (fun x => by rw [HIi.out x, List.mem_append, or_assoc]), Lib.hid (by have := HN3.out; have := HNu.out; have := HN.out; have := HZi.out; omega), HB3, HK3⟩
              | exact meas7 HLT.out
              | (rw [hls]; exact meas7 HLT.out)
    · obtain rfl : i = K.len := by omega
      have hnl : ¬ ((K.len : Int) < (K.len : Int)) := by omega
      have htt := HT.out
      rw [Fo.drop_end (Nat.le_refl _)] at htt
      have HTT : Hid (bindG K (saB d.kind) [] = true) := Lib.hid (by rw [← htt]; rfl)
      have HII := Lib.hid (fun x => by have h := HI.out x; rw [Fo.drop_end (Nat.le_refl _)] at h; exact h)
      have HWI := Lib.hid (cWith_any m C d.var wr HV.out HVS.out (by have := HN.out; have := HSZ.out; have := HMX.out; omega))
      clear hlt hi htt HT HI HK HKA x1 x3
      go_wp2_with (first | (go_at_call 67; (with_reducible refine HWI.out.mono ?_); rintro e u ⟨m', rfl, hv, hc, hm⟩; have HV2 := Lib.hid hv; have HC2 := Lib.hid hc; have HM2 := Lib.hid hm; clear hv hc hm))
      go_ret2
      refine .inl ⟨HTT.out, m', C ++ v0x d.var, rfl, HV2.out, fun x => ?_, ?_, HB.out.trans (HC2.out.below HB.out.size HQ.out), fun b hb => ?_⟩
      · show _ ↔ x ∈ varsN d K
        rw [List.mem_append, HM.out x, mem_varsN, HII.out x, v0_x]
        simp only [inF, or_false]
        exact or_comm
      · rw [List.length_append, ← v0_x]
        have := v0_len d
        have := HN.out
        simp only [szD]
        omega
      · rcases HM2.out with rfl | ⟨_, h⟩
        · exact HQ.out b hb
        · exact Nat.le_trans HB.out.size (h b hb)
set_option maxRecDepth 100000 in
set_option maxHeartbeats 1000000 in
theorem cBinds_any (d : Nt) (k : Fo) (v : Value) (w : World) (hv : NdV w (fun x => x < w.heap.size) d k v) (hsz : szD d + szF k ≤ 1048576) :
    Calls Try.prog 73 #[v] w fun e w' => e = .returned (.int .i64 (if bindN d k then 0 else 73)) ∧ Below w.heap.size w w' := by
  obtain ⟨ta, tc, ka, kc, rfl⟩ := hv.shape
  obtain ⟨W2, hW2⟩ : ∃ W2, W2 = (w.alloc (.cells #[.int .i64 d.kind, .string d.var, .string d.ty, .slice ta d.tests.length tc, .slice ka k.len kc] 25)).alloc (.cells #[.func (.func 107) #[] #[.pointer (some ⟨w.heap.size + 1, 0, none⟩)]] 107) := ⟨_, rfl⟩
  have hr1 : W2.heap[w.heap.size]? = some (.cells #[.int .i64 d.kind, .string d.var, .string d.ty, .slice ta d.tests.length tc, .slice ka k.len kc] 25 (0, 0)) := by
    rw [hW2]; exact heap_alloc_keeps (heap_alloc_new _ _) _
  have hr2 : W2.heap[w.heap.size + 1]? = some (.cells #[.func (.func 107) #[] #[.pointer (some ⟨w.heap.size + 1, 0, none⟩)]] 107 (0, 0)) := by
    have := heap_alloc_new (w.alloc (.cells #[.int .i64 d.kind, .string d.var, .string d.ty, .slice ta d.tests.length tc, .slice ka k.len kc] 25)) (.cells #[.func (.func 107) #[] #[.pointer (some ⟨w.heap.size + 1, 0, none⟩)]] 107)
    rw [hW2]; rwa [World.size_alloc] at this
  have hb2 : Below w.heap.size w W2 := by rw [hW2]; exact ((Below.refl _ _).alloc (Nat.le_refl _) _).alloc (by simp) _
  have hz2 : W2.heap.size = w.heap.size + 2 := by rw [hW2]; simp
  have hn := hv.boxed W2 hb2 w.heap.size hr1 W2.heap.size hb2.size
  have hdz : 1 + deepF k ≤ 1048576 := by have := deepF_sz k; simp only [szD] at hsz; omega
  have HC := Lib.hid (cBinds1_any (w.heap.size + 1) (fun x => x < W2.heap.size) (by omega) d k W2 w.heap.size 0 1 (fun x hx => hx) (cell_of_one hr2) hn (by omega) hdz hsz)
  rw [show ((1 : Nat) : Int) = 1 from rfl] at HC
  have HW := Lib.hid hW2; have HB := Lib.hid hb2
  clear hW2 hr1 hr2 hb2 hz2 hn hv hsz hdz
  unfold ToldB at HC
  cases hbk : bindN d k with
  | true =>
    simp only [hbk, true_and, Bool.true_eq_false, false_and, or_false] at HC
    rw [if_pos rfl]
    clear hbk
    go_enter Try.func73, Try.ntmps73
    go_wp2_with fail
    rw [← HW.out]
    go_wp2_with (first | (go_at_call 107; (with_reducible refine HC.out.mono ?_); rintro e w2 ⟨m, C, rfl, _, _, _, hb, _⟩; have HF := Lib.hid (HB.out.trans (hb.mono HB.out.size)); clear hb))
    go_ret
    exact ⟨rfl, HF.out⟩
  | false =>
    simp only [hbk, Bool.false_eq_true, false_and, false_or, true_and] at HC
    rw [if_neg (by simp)]
    clear hbk
    go_enter Try.func73, Try.ntmps73
    go_wp2_with fail
    rw [← HW.out]
    go_wp2_with (first | (go_at_call 107; (with_reducible refine HC.out.mono ?_); rintro e w2 ⟨rfl, hb⟩; have HF := Lib.hid (HB.out.trans (hb.mono HB.out.size)); clear hb))
    go_ret
    exact ⟨rfl, HF.out⟩
end Go.Proofs.Ytnfjodkpapmfkaa
