/- Contract: Sure of the program. -/
import Derived.Test.YtnfjodkpapmfkaaVa7
namespace Go.Proofs.Ytnfjodkpapmfkaa
open Go Go.RowKit Go.Maps Go.Sort

theorem nb_len (s : ByteArray) : (nb s).length = s.size := by unfold nb; rw [Array.length_toList]; rfl
theorem inF_wd {x : Nm} : ∀ {f : Fo}, inF x f → x ≠ [] ∧ x.length ≤ szF f
  | .cons d k n, h => by
    simp only [inF] at h
    simp only [szF, szD]
    rcases h with h | h | h
    · unfold v0 at h
      split at h
      · cases h
      · rename_i hs
        rw [List.mem_singleton] at h
        subst h
        refine ⟨fun e => hs (by rw [nb_em.1 e]; rfl), ?_⟩
        have : (nb d.var).length = d.var.size := nb_len d.var
        omega
    · have := inF_wd h; exact ⟨this.1, by omega⟩
    · have := inF_wd h; exact ⟨this.1, by omega⟩
theorem vars_wd {x : Nm} {d : Nt} {k : Fo} (h : x ∈ varsN d k) : x ≠ [] ∧ x.length ≤ szD d + szF k := by
  have := inF_wd (x := x) (f := .cons d k .nil) (inF_cons.2 (.inl h))
  simpa [szF] using this
theorem sure_vars : ∀ (f : Fo) (x : Nm), (∃ m ∈ sureL f, x ∈ m) → inF x f
  | .cons d k n, x, h => by
    obtain ⟨m, hm, hx⟩ := h
    rw [sureL_cons] at hm
    rw [inF_cons, mem_varsN]
    rcases List.mem_cons.1 hm with rfl | hm
    · unfold sureN at hx
      split at hx
      · exact .inl (.inl hx)
      · exact .inl (.inr (sure_vars k x (mem_sureOf.1 hx).1))
    · exact .inr (sure_vars n x ⟨m, hm, hx⟩)
theorem sure_wd {x : Nm} {d : Nt} {k : Fo} (h : x ∈ sureN d k) : x ≠ [] ∧ x.length ≤ szD d + szF k := by
  have := sure_vars (.cons d k .nil) x ⟨_, by rw [sureL_cons]; exact List.mem_cons_self, h⟩
  rw [inF_cons] at this
  exact vars_wd (this.elim id (fun h => h.elim))
theorem sureL_drop : ∀ (f : Fo) (i : Nat), sureL (f.drop i) = (sureL f).drop i
  | f, 0 => by rw [Fo.drop_zero]; rfl
  | .nil, _ + 1 => rfl
  | .cons d k n, i + 1 => by rw [sureL_cons, List.drop_succ_cons]; exact sureL_drop n i
theorem sure_take {f : Fo} {i : Nat} {d : Nt} {k n : Fo} (h : f.drop i = .cons d k n) : (sureL f).take (i + 1) = (sureL f).take i ++ [sureN d k] := by
  have h1 := sureL_drop f i
  rw [h, sureL_cons] at h1
  have h2 : (sureL f)[i]? = some (sureN d k) := by
    have := congrArg (fun l => l[0]?) h1
    simpa using this.symm
  rw [List.take_add_one, h2]; rfl
/-- What is bound by the first i kids. -/
def accB (o : Bool) (L : List (List Nm)) (x : Nm) : Prop := if o = true then ∀ m ∈ L, x ∈ m else ∃ m ∈ L, x ∈ m
theorem accB_snoc {o : Bool} {L : List (List Nm)} {l : List Nm} {x : Nm} : accB o (L ++ [l]) x ↔ if o = true then accB o L x ∧ x ∈ l else accB o L x ∨ x ∈ l := by
  unfold accB
  cases o <;> simp [List.mem_append, or_and_right, exists_or]
  constructor
  · intro h
    exact ⟨fun m hm => h m (.inl hm), h l (.inr rfl)⟩
  · rintro ⟨h1, h2⟩ m (hm | rfl)
    · exact h1 m hm
    · exact h2
theorem accB_all {d : Nt} {k : Fo} (hk : k.isNil = false) {x : Nm} : accB (decide (d.kind = 4)) (sureL k) x ↔ x ∈ sureN d k := by
  unfold sureN
  rw [hk, if_neg (by simp), mem_sureOf]
  unfold accB
  cases k with
  | nil => cases hk
  | cons d' k' n' =>
    rw [sureL_cons]
    by_cases h : d.kind = 4
    · simp only [decide_eq_true h, if_true]
      exact ⟨fun hh => ⟨⟨_, List.mem_cons_self, hh _ List.mem_cons_self⟩, fun _ => hh⟩, fun hh => hh.2 trivial⟩
    · simp only [decide_eq_false h, Bool.false_eq_true, if_false]
      exact ⟨fun hh => ⟨hh, fun h => h.elim⟩, fun hh => hh.1⟩
theorem accB_one {o : Bool} {l : List Nm} {x : Nm} : accB o [l] x ↔ x ∈ l := by
  unfold accB
  cases o <;> simp
/-- What a call that tells a set leaves. -/
def Told7 (w : World) (M : Nm → Prop) (N : Nat) (e : Ending) (w' : World) : Prop :=
  ∃ m C, e = .returned (.map m) ∧ StV w' m C ∧ (∀ x, x ∈ C ↔ M x) ∧ C.length ≤ N ∧ Below w.heap.size w w' ∧ ∀ b, m = some b → w.heap.size ≤ b
set_option maxRecDepth 100000 in
set_option maxHeartbeats 2000000 in
theorem cSure1_any (q : Nat) (G : Nat → Prop) (hGq : G q) (d : Nt) (k : Fo) :
    ∀ (w : World) (b o : Nat), (∀ x, G x → x < w.heap.size) → w.cell? ⟨q, 0, none⟩ = some (.func (.func 69) #[] #[.pointer (some ⟨q, 0, none⟩)]) → NdP w G d k b o → G b → szD d + szF k ≤ 1048576 →
      Calls Try.prog 69 #[.pointer (some ⟨b, o, none⟩), .pointer (some ⟨q, 0, none⟩)] w (Told7 w (fun x => x ∈ sureN d k) (szD d + szF k)) := by
  revert d k
  refine Fo.node_ind (p := fun d k => ∀ (w : World) (b o : Nat), (∀ x, G x → x < w.heap.size) → w.cell? ⟨q, 0, none⟩ = some (.func (.func 69) #[] #[.pointer (some ⟨q, 0, none⟩)]) → NdP w G d k b o → G b → szD d + szF k ≤ 1048576 →
      Calls Try.prog 69 #[.pointer (some ⟨b, o, none⟩), .pointer (some ⟨q, 0, none⟩)] w (Told7 w (fun x => x ∈ sureN d k) (szD d + szF k))) ?_
  intro d k ih w b o hG hq hN hb hsz
  obtain ⟨ta, tc, ka, kc, c0, c1, c2, c3, c4, ht, hk⟩ := hN
  clear c2 c3 ht
  have hmx : (1048577 : Nat) ≤ maxLen := by unfold maxLen; omega
  have hlen : k.len ≤ 1048576 := by have := szF_len k; omega
  cases k with
  | nil =>
    have HC := Lib.hid (cWith_any none [] d.var w (StV.nil w) (by simp only [szD] at hsz; omega) (by simp only [List.length_nil]; omega))
    rw [List.nil_append] at HC
    have HS : Hid (sureN d .nil = v0x d.var) := Lib.hid rfl
    have HN : Hid ((v0x d.var).length ≤ szD d + szF .nil) := by have h1 := v0_len d; rw [v0_x] at h1; exact Lib.hid (by simp only [szD, szF]; omega)
    rw [show Fo.nil.len = 0 from rfl] at c4
    clear ih hk hsz hlen hG hmx
    go_enter Try.func69, Try.ntmps69
    go_wp2_with (first | (go_at_call 67; (with_reducible refine HC.out.mono ?_); rintro e u ⟨m', rfl, hv, hc, hm⟩; have HV := Lib.hid hv; have HCU := Lib.hid hc; have HM := Lib.hid hm; clear hv hc hm))
    go_ret
    refine ⟨m', v0x d.var, rfl, HV.out, fun x => by rw [HS.out], HN.out, HCU.out.below (Nat.le_refl _) (fun k hk => by cases hk), fun b hb => ?_⟩
    rcases HM.out with rfl | ⟨_, h⟩
    · cases hb
    · exact h b hb
  | cons d' k' n' =>
    obtain ⟨b', o', rfl, hb', hf⟩ := hk rfl
    have HK := Lib.hid (fun (u : World) (hu : Below w.heap.size w u) (i : Nat) (d2 : Nt) (k2 : Fo) (hi : (Fo.cons d' k' n').drop i = .cons d2 k2 ((Fo.cons d' k' n').drop (i + 1))) => (by
      have h1 := Fo.All.drop i ih
      have h2 := FoAt.drop i (FoAt.keep (fun x hx => hu.block x (hG x hx)) hb' hf)
      have h4 := szF_drop (.cons d' k' n') i
      rw [hi] at h1 h2 h4
      simp only [szF] at h4 hsz
      exact h1.1 u b' (o' + i * 5) (fun x hx => Nat.lt_of_lt_of_le (hG x hx) hu.size) ((hu.cell (hG q hGq)).trans hq) h2.cons.1 hb' (by omega) :
        Calls Try.prog 69 #[.pointer (some ⟨b', o' + i * 5, none⟩), .pointer (some ⟨q, 0, none⟩)] u (Told7 u (fun x => x ∈ sureN d2 k2) (szD d2 + szF k2))))
    have HX := Lib.hid (fun (u : World) (hu : Below w.heap.size w u) => (⟨(hu.cell (hG q hGq)).trans hq, (hu.cell (hG b hb)).trans c4, (hu.cell (hG b hb)).trans c0⟩ : u.cell? ⟨q, 0, none⟩ = some (.func (.func 69) #[] #[.pointer (some ⟨q, 0, none⟩)]) ∧ u.cell? ⟨b, o + 4, none⟩ = some (.slice (some ⟨b', o', none⟩) (Fo.cons d' k' n').len kc) ∧ u.cell? ⟨b, o, none⟩ = some (.int .i64 d.kind)))
    have hd1 : (Fo.cons d' k' n').drop 1 = n' := by simp [Fo.drop, Fo.drop_zero]
    have HC0 := Lib.hid (HK.out w.drew ((Below.refl _ _).drew) 0 d' k' (by rw [Fo.drop_zero, Nat.zero_add, hd1]))
    rw [Nat.zero_mul, Nat.add_zero] at HC0
    have HT0 : Hid ((sureL (Fo.cons d' k' n')).take 1 = [sureN d' k']) := Lib.hid (by rw [sureL_cons]; rfl)
    have HZ0 : Hid (szD d' + szF k' + szF ((Fo.cons d' k' n').drop 1) = szF (Fo.cons d' k' n')) := Lib.hid (by rw [hd1]; rfl)
    have hlen1 : 1 ≤ (Fo.cons d' k' n').len := by simp [Fo.len]
    have HNIL : Hid ((Fo.cons d' k' n').isNil = false) := Lib.hid rfl
    have HSZ := Lib.hid hsz; have HMX := Lib.hid hmx
    have HLEN := Lib.hid hlen
    obtain ⟨x1, x2, x3⟩ := HX.out w (Below.refl _ _)
    clear ih hk hf hsz hd1 hG hq c0 c1 c4 hb hb' hmx hlen
    generalize Fo.cons d' k' n' = K at HK HX HT0 HZ0 hlen1 HNIL HSZ HLEN x2 ⊢
    have lp : (0 : Int) < (K.len : Int) := by omega
    have lz : (0 : Int) ≤ 0 := by omega
    have lpn : 0 < K.len := by omega
    have lp' := decide_eq_true lp
    have lpn' := decide_eq_true lpn
    have le0 : ((K.len : Int) == 0) = false := beq_eq_false_iff_ne.2 (by omega)
    have le1 : ¬ ((K.len : Int) = 0) := by omega
    go_enter Try.func69, Try.ntmps69
    go_wp2_with fail
    go_region_held3 (fun u => u.cell? ⟨q, 0, none⟩ = some (.func (.func 69) #[] #[.pointer (some ⟨q, 0, none⟩)]) ∧ u.cell? ⟨b, o + 4, none⟩ = some (.slice (some ⟨b', o', none⟩) K.len kc)) (first | exact ⟨x1, x2⟩ | exact ⟨y1, y2⟩ | go_keep)
      (first | (go_at_call 69; (with_reducible refine HC0.out.mono ?_); rintro e u ⟨m, C, rfl, hs, hm, hn, hbl, hbk⟩; have HBu := Lib.hid ((show Below w.heap.size w w.drew from (Below.refl _ _).drew).trans hbl); obtain ⟨y1, y2, y3⟩ := HX.out _ HBu.out; have HSu := Lib.hid hs; have HMu := Lib.hid hm; have HNu := Lib.hid hn; have HKu := Lib.hid hbk; clear hs hm hn hbl hbk))
    all_goals go_wp2_with fail
    go_loopw [4, 5] (fun mv iv wr => ∃ (i : Nat) (m : Option Nat) (C : List Nm), 1 ≤ i ∧ i ≤ K.len ∧ iv = .int .i64 (i : Int) ∧ mv = .map m ∧ Hid (StV wr m C) ∧ Hid (∀ x, x ∈ C ↔ accB (decide (d.kind = 4)) ((sureL K).take i) x) ∧ Hid (C.length + szF (K.drop i) ≤ szF K) ∧ Hid (Below w.heap.size w wr) ∧ Hid (∀ b, m = some b → w.heap.size ≤ b) ∧ Hid (∀ x, x ∈ C → x ≠ [] ∧ x.length ≤ 1048576)) (fun _ iv _ => K.len - (intOf iv).toNat)
    case atStart => exact ⟨1, m, C, Nat.le_refl _, hlen1, rfl, rfl, HSu, Lib.hid (fun x => by rw [HT0.out, accB_one]; exact HMu.out x), Lib.hid (by have := HZ0.out; have := HNu.out; omega), HBu, HKu, Lib.hid (fun x hx => by have h := sure_wd ((HMu.out x).1 hx); have := HZ0.out; have := HSZ.out; exact ⟨h.1, by omega⟩)⟩
    case round =>
      obtain ⟨i, m, C, hi1, hi, rfl, rfl, HV, HM, HN, HB, HQ, HWD⟩ := hrel
      clear HC0 HSu HMu HNu HBu HKu HT0 HZ0 x1 x2 x3 y1 y2 y3
      obtain ⟨x1, x2, x3⟩ := HX.out wr HB.out
      by_cases hlt : i < K.len
      · have hlti : (i : Int) < (K.len : Int) := by omega
        have hlti' := decide_eq_true hlti
        have hi0 : (0 : Int) ≤ (i : Int) := by omega
        obtain ⟨d2, k2, hd⟩ := Fo.drop_cons hlt
        have HCi := Lib.hid (HK.out wr.drew HB.out.drew i d2 k2 hd)
        have HTi := Lib.hid (sure_take hd)
        have HZi : Hid (szF (K.drop i) = szD d2 + szF k2 + szF (K.drop (i + 1))) := Lib.hid (by rw [hd]; rfl)
        have hls := wr7 hlt (by have := HLEN.out; omega)
        have HLT := Lib.hid hlt
        clear hd hlt hi
        by_cases h4 : d.kind = 4
        · have h4' : (d.kind == 4) = true := beq_iff_eq.2 h4
          have HK4 : Hid (decide (d.kind = 4) = true) := Lib.hid (decide_eq_true h4)
          clear h4
          go_wp2_with fail
          go_region_held3 (fun u => u.cell? ⟨q, 0, none⟩ = some (.func (.func 69) #[] #[.pointer (some ⟨q, 0, none⟩)]) ∧ u.cell? ⟨b, o + 4, none⟩ = some (.slice (some ⟨b', o', none⟩) K.len kc)) (first | exact ⟨x1, x2⟩ | exact ⟨y1, y2⟩ | go_keep)
            (first | (go_at_call 69; (with_reducible refine HCi.out.mono ?_); rintro e u2 ⟨m2, C2, rfl, hs, hm, hn, hbl, hbk⟩; have HBu := Lib.hid (HB.out.drew.trans (hbl.mono HB.out.size)); have HSo := Lib.hid (HV.out.below (w' := u2) (show Below wr.heap.size wr u2 from (show Below wr.heap.size wr wr.drew from (Below.refl _ _).drew).trans hbl)); obtain ⟨y1, y2, y3⟩ := HX.out _ HBu.out; have HSu := Lib.hid hs; have HMu := Lib.hid hm; have HNu := Lib.hid hn; have HKu := Lib.hid hbk; clear hs hm hn hbl hbk))
          have HCM := Lib.hid (cCommon_any m m2 C C2 u2 HSo.out HSu.out (fun h => (HWD.out [] h).1 rfl) (fun h => (sure_wd ((HMu.out []).1 h)).1 rfl) (by have := HN.out; have := HSZ.out; have := HMX.out; omega) (by have := HNu.out; have := HN.out; have := HZi.out; have := HSZ.out; have := HMX.out; omega) (fun x hx => by have := (HWD.out x hx).2; have := HMX.out; omega) (fun x hx => by have := (sure_wd ((HMu.out x).1 hx)).2; have := HZi.out; have := HN.out; have := HSZ.out; have := HMX.out; omega))
          go_wp2_with (first | (go_at_call 70; (with_reducible refine HCM.out.mono ?_); rintro e u3 ⟨m3, C3, rfl, hs, hm, hn, hbl, hbk⟩; have HS3 := Lib.hid hs; have HM3 := Lib.hid hm; have HN3 := Lib.hid hn; have HB3 := Lib.hid (HBu.out.trans (hbl.mono HBu.out.size)); have HK3 := Lib.hid (fun b (hb : m3 = some b) => Nat.le_trans HBu.out.size (Nat.le_of_lt (hbk b hb))); clear hs hm hn hbl hbk))
          go_roundw
          all_goals first
            | exact ⟨i + 1, m3, C3, by omega, HLT.out, by go_num, rfl, HS3, Lib.hid (fun x => by rw [HTi.out, accB_snoc, HM3.out x, HM.out x, HMu.out x, HK4.out]; simp), Lib.hid (by have := HN3.out; have := HNu.out; have := HN.out; have := HZi.out; omega), HB3, HK3, Lib.hid (fun x hx => HWD.out x ((HM3.out x).1 hx).1)⟩
            | exact meas7 HLT.out
            | (rw [hls]; exact meas7 HLT.out)
        · have h4' : (d.kind == 4) = false := beq_eq_false_iff_ne.2 h4
          have HK4 : Hid (decide (d.kind = 4) = false) := Lib.hid (decide_eq_false h4)
          clear h4
          go_wp2_with fail
          go_region_held3 (fun u => u.cell? ⟨q, 0, none⟩ = some (.func (.func 69) #[] #[.pointer (some ⟨q, 0, none⟩)]) ∧ u.cell? ⟨b, o + 4, none⟩ = some (.slice (some ⟨b', o', none⟩) K.len kc)) (first | exact ⟨x1, x2⟩ | exact ⟨y1, y2⟩ | go_keep)
            (first | (go_at_call 69; (with_reducible refine HCi.out.mono ?_); rintro e u2 ⟨m2, C2, rfl, hs, hm, hn, hbl, hbk⟩; have HBu := Lib.hid (HB.out.drew.trans (hbl.mono HB.out.size)); have HSo := Lib.hid (HV.out.below (w' := u2) (show Below wr.heap.size wr u2 from (show Below wr.heap.size wr wr.drew from (Below.refl _ _).drew).trans hbl)); obtain ⟨y1, y2, y3⟩ := HX.out _ HBu.out; have HSu := Lib.hid hs; have HMu := Lib.hid hm; have HNu := Lib.hid hn; have HKu := Lib.hid hbk; clear hs hm hn hbl hbk))
          have HEM := Lib.hid (cEither_any m m2 C C2 u2 HSo.out HSu.out (fun x hx hy => by have h1 := HV.out.lt x hx; have h2 := HKu.out x hy; rw [show wr.drew.heap.size = wr.heap.size from rfl] at h2; omega) (by have := HNu.out; have := HN.out; have := HZi.out; have := HSZ.out; have := HMX.out; omega))
          have HK2 := Lib.hid (fun b (hb : m2 = some b) => (show w.heap.size ≤ b from Nat.le_trans HB.out.size (HKu.out b hb)))
          go_wp2_with (first | (go_at_call 71; (with_reducible refine HEM.out.mono ?_); rintro e u3 ⟨m3, rfl, hm3, ⟨C3, hs, hm, hn⟩, hc⟩; have HS3 := Lib.hid hs; have HM3 := Lib.hid hm; have HN3 := Lib.hid hn; have HB3 := Lib.hid (HBu.out.trans (hc.below HBu.out.size (fun j hj => hj.elim (HQ.out j) (HK2.out j)))); have HK3 := Lib.hid (fun b (hb : m3 = some b) => (hm3.elim (fun h => HQ.out b (h ▸ hb)) (fun h => HK2.out b (h ▸ hb)) : w.heap.size ≤ b)); clear hs hm hn hc hm3))
          go_roundw
          all_goals first
            | exact ⟨i + 1, m3, C3, by omega, HLT.out, by go_num, rfl, HS3, Lib.hid (fun x => by rw [HTi.out, accB_snoc, HM3.out x, HM.out x, HMu.out x, HK4.out]; simp), Lib.hid (by have := HN3.out; have := HNu.out; have := HN.out; have := HZi.out; omega), HB3, HK3, Lib.hid (fun x hx => ((HM3.out x).1 hx).elim (HWD.out x) (fun h => by have h := sure_wd ((HMu.out x).1 h); have := HZi.out; have := HN.out; have := HSZ.out; exact ⟨h.1, by omega⟩))⟩
            | exact meas7 HLT.out
            | (rw [hls]; exact meas7 HLT.out)
      · obtain rfl : i = K.len := by omega
        have hnl : ¬ ((K.len : Int) < (K.len : Int)) := by omega
        clear hlt hi
        go_wp2
        go_ret
        refine ⟨m, C, rfl, HV.out, fun x => ?_, by have := HN.out; omega, HB.out, HQ.out⟩
        rw [HM.out x, List.take_of_length_le (by rw [sureL_len]; exact Nat.le_refl _)]
        exact accB_all HNIL.out
set_option maxRecDepth 100000 in
set_option maxHeartbeats 1000000 in
theorem cSure_any (d : Nt) (k : Fo) (v : Value) (w : World) (hv : NdV w (fun x => x < w.heap.size) d k v) (hsz : szD d + szF k ≤ 1048576) :
    Calls Try.prog 19 #[v] w fun e w' => ∃ u, e = .returned u ∧ SsV w' (fun b => w.heap.size ≤ b) u (sureN d k) ∧ Below w.heap.size w w' := by
  obtain ⟨ta, tc, ka, kc, rfl⟩ := hv.shape
  obtain ⟨P, hP⟩ : ∃ P, P = w.heap.size := ⟨_, rfl⟩
  obtain ⟨W1, hW1⟩ : ∃ W1, W1 = w.alloc (.cells #[.int .i64 d.kind, .string d.var, .string d.ty, .slice ta d.tests.length tc, .slice ka k.len kc] 25) := ⟨_, rfl⟩
  have hz1 : W1.heap.size = P + 1 := by rw [hW1, hP]; simp
  have hb1 : Below w.heap.size w W1 := by rw [hW1]; exact (Below.refl _ _).alloc (Nat.le_refl _) _
  have hr1 : W1.heap[P]? = some (.cells #[.int .i64 d.kind, .string d.var, .string d.ty, .slice ta d.tests.length tc, .slice ka k.len kc] 25 (0, 0)) := by rw [hW1, hP]; exact heap_alloc_new _ _
  have hn1 : NdP W1 (fun x => x < W1.heap.size) d k P 0 := hv.boxed W1 hb1 P hr1 W1.heap.size hb1.size
  have HE := Lib.hid (cEnds_any d k P 0 W1 hn1 (by omega) hsz)
  have HS := Lib.hid (fun (u : World) (hu : Below W1.heap.size W1 u) => (by
    have hq : (u.alloc (.cells #[.func (.func 69) #[] #[.pointer (some ⟨u.heap.size, 0, none⟩)]] 79)).heap[u.heap.size]? = some (.cells #[.func (.func 69) #[] #[.pointer (some ⟨u.heap.size, 0, none⟩)]] 79 (0, 0)) := heap_alloc_new _ _
    have hb2 : Below W1.heap.size W1 (u.alloc (.cells #[.func (.func 69) #[] #[.pointer (some ⟨u.heap.size, 0, none⟩)]] 79)) := hu.alloc hu.size _
    have hs2 : (u.alloc (.cells #[.func (.func 69) #[] #[.pointer (some ⟨u.heap.size, 0, none⟩)]] 79)).heap.size = u.heap.size + 1 := by simp
    refine (cSure1_any u.heap.size (fun x => x < W1.heap.size ∨ x = u.heap.size) (.inr rfl) d k _ P 0 (fun x hx => ?_) (cell_of_one hq) ((hn1.keep (fun x hx => hb2.block x hx) (hb2.block P (by omega))).mono (fun x hx => .inl hx)) (.inl (by omega)) hsz).mono ?_
    · rw [hs2]; have := hu.size; rcases hx with hx | hx <;> omega
    · rintro e w' ⟨m, C, he, h1, h2, h3, h4, h5⟩
      exact (⟨m, C, he, h1, h2, h3, hb2.trans (h4.mono hb2.size)⟩ : ∃ m C, e = .returned (.map m) ∧ StV w' m C ∧ (∀ x, x ∈ C ↔ x ∈ sureN d k) ∧ C.length ≤ szD d + szF k ∧ Below W1.heap.size W1 w') :
    Calls Try.prog 69 #[.pointer (some ⟨P, 0, none⟩), .pointer (some ⟨u.heap.size, 0, none⟩)] (u.alloc (.cells #[.func (.func 69) #[] #[.pointer (some ⟨u.heap.size, 0, none⟩)]] 79)) fun e w' => ∃ m C, e = .returned (.map m) ∧ StV w' m C ∧ (∀ x, x ∈ C ↔ x ∈ sureN d k) ∧ C.length ≤ szD d + szF k ∧ Below W1.heap.size W1 w'))
  have HR := Lib.hid (fun (u : World) (m : Option Nat) (C : List Nm) (hu : StV u m C) (hc : C.length ≤ szD d + szF k) => cRising_any m C u hu (by omega))
  have HL := Lib.hid (fun (L C : List Nm) (h1 : Rising L) (h2 : ∀ x, x ∈ L ↔ x ∈ C) (h3 : ∀ x, x ∈ C ↔ x ∈ sureN d k) => rising_ext h1 (sureN_rising d k) (fun x => by rw [h2 x, h3 x]))
  have HB1 := Lib.hid hb1; have HW1 := Lib.hid hW1; have HP := Lib.hid hP
  clear hr1 hn1 hz1 hb1 hv hsz hW1 hP
  go_enter Try.func19, Try.ntmps19
  go_wp2_with fail
  rw [← HW1.out, ← HP.out]
  go_wp2_with (first
    | (go_at_call 53; (with_reducible refine HE.out.mono ?_); rintro e u ⟨rfl, hb⟩; have HU := Lib.hid hb; clear hb)
    | (go_at_call 69; (with_reducible refine (HS.out _ HU.out).mono ?_); rintro e u2 ⟨m, C, rfl, h1, h2, h3, h4⟩; have H1 := Lib.hid h1; have H2 := Lib.hid h2; have H3 := Lib.hid h3; have H4 := Lib.hid h4; clear h1 h2 h3 h4)
    | (go_at_call 68; (with_reducible refine (HR.out _ m C H1.out H3.out).mono ?_); rintro e u3 ⟨v, L, rfl, hs, h1, h2, hb⟩; have HS2 := Lib.hid hs; have HF := Lib.hid (HB1.out.trans ((H4.out.trans (hb.mono H4.out.size)).mono HB1.out.size)); have HM := Lib.hid (Nat.le_trans HB1.out.size H4.out.size); have HE2 := Lib.hid (HL.out L C h1 h2 H2.out); clear hs h1 h2 hb))
  go_ret
  exact ⟨v, rfl, by rw [← HE2.out]; exact HS2.out.mono (fun x hx => Nat.le_trans HM.out hx), HF.out⟩
end Go.Proofs.Ytnfjodkpapmfkaa
