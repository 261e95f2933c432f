/- Contract: the document's Alts. -/
import Derived.Test.YtmjajoepgilokaaRt7
namespace Go.Proofs.Ytmjajoepgilokaa
open Go Go.RowKit

set_option maxRecDepth 100000 in
set_option maxHeartbeats 2000000 in
theorem r7Alts_any (d : Nt) (k : Fo) : ∀ (w : World) (v : Value), NdV w (fun x => x < w.heap.size) d k v → szD d + szF k ≤ 1048576 → Calls Try.prog 18 #[v] w (fun e w' => e = .returned (.int .i64 (altsN d k : Int)) ∧ Below w.heap.size w w') := by
  revert d k
  refine Fo.node_ind (p := fun d k => ∀ (w : World) (v : Value), NdV w (fun x => x < w.heap.size) d k v → szD d + szF k ≤ 1048576 → Calls Try.prog 18 #[v] w (fun e w' => e = .returned (.int .i64 (altsN d k : Int)) ∧ Below w.heap.size w w')) ?_
  intro d K ih w v hv hsz
  obtain ⟨ta, tc, ka, kc, rfl⟩ := hv.shape
  obtain ⟨ht, hk⟩ := hv.inj
  obtain ⟨W, hW⟩ : ∃ W, W = w.alloc (.cells #[.int .i64 d.kind, .string d.var, .string d.ty, .slice ta d.tests.length tc, .slice ka K.len kc] 25) := ⟨_, rfl⟩
  have hq := heap_alloc_new w (.cells #[.int .i64 d.kind, .string d.var, .string d.ty, .slice ta d.tests.length tc, .slice ka K.len kc] 25)
  have hb0 : Below w.heap.size w W := by rw [hW]; exact (Below.refl _ _).alloc (Nat.le_refl _) _
  rw [← hW] at hq
  have hz : W.heap.size = w.heap.size + 1 := by rw [hW]; simp
  obtain ⟨P, hP⟩ : ∃ P, P = w.heap.size := ⟨_, rfl⟩
  have hlen : K.len ≤ 1048576 := by have := szF_len K; omega
  have HK := Lib.hid (fun (i : Nat) (hi : i < K.len) => (by
    obtain ⟨b, o, e, hb, hf⟩ := hk (nil_of_len hi)
    obtain ⟨d2, k2, hd⟩ := Fo.drop_cons hi
    refine ⟨b, o, d2, k2, e, hd, fun u hu => ?_⟩
    obtain ⟨ta, tc, ka, kc, c0, c1, c2, c3, c4, hv2⟩ := kid_val (W := W) (u := u) ((FoAt.keep (Keep.of_below hb0) hb hf).mono (fun x hx => Nat.lt_of_lt_of_le hx hb0.size)) (Nat.lt_of_lt_of_le hb hb0.size) hu hd
    have h1 := Fo.All.drop i ih
    have h4 := szF_drop K i
    rw [hd] at h1 h4
    simp only [szF] at h4
    exact ⟨ta, tc, ka, kc, c0, c1, c2, c3, c4, (h1.1 u _ hv2 (by omega)).mono (fun e w' h => ⟨h.1, hu.trans (h.2.mono hu.size)⟩)⟩ :
      ∃ b o d2 k2, ka = some ⟨b, o, none⟩ ∧ K.drop i = .cons d2 k2 (K.drop (i + 1)) ∧ ∀ u, Below W.heap.size W u → ∃ ta tc ka kc, u.cell? ⟨b, o + i * 5, none⟩ = some (.int .i64 d2.kind) ∧ u.cell? ⟨b, o + i * 5 + 1, none⟩ = some (.string d2.var) ∧ u.cell? ⟨b, o + i * 5 + 2, none⟩ = some (.string d2.ty) ∧
      u.cell? ⟨b, o + i * 5 + 3, none⟩ = some (.slice ta d2.tests.length tc) ∧ u.cell? ⟨b, o + i * 5 + 4, none⟩ = some (.slice ka k2.len kc) ∧ Calls Try.prog 18 #[.agg #[.int .i64 d2.kind, .string d2.var, .string d2.ty, .slice ta d2.tests.length tc, .slice ka k2.len kc]] u (fun e w' => e = .returned (.int .i64 (altsN d2 k2 : Int)) ∧ Below W.heap.size W w')))
  have HX := Lib.hid (fun (u : World) (hu : Below W.heap.size W u) => (by
    have := (hu.block P (by omega)).trans (hP ▸ hq)
    simp [World.cell?, this] : u.cell? ⟨P, 0, none⟩ = some (.int .i64 d.kind) ∧ u.cell? ⟨P, 1, none⟩ = some (.string d.var) ∧ u.cell? ⟨P, 2, none⟩ = some (.string d.ty) ∧ u.cell? ⟨P, 3, none⟩ = some (.slice ta d.tests.length tc) ∧ u.cell? ⟨P, 4, none⟩ = some (.slice ka K.len kc)))
  have HB0 := Lib.hid hb0; have HW := Lib.hid hW; have HP := Lib.hid hP
  have HR := Lib.hid (Below.refl W.heap.size W)
  have HE := Lib.hid (fun (u : World) (hu : Below W.heap.size W u) => hb0.trans (hu.mono hb0.size))
  have HLEN := Lib.hid hlen
  clear hk ih hv hsz hq hb0 hz hW hP hlen ht
  rcases nil_or_len K with hkn | hk1
  · subst hkn
    rw [show Fo.nil.len = 0 from rfl] at HX
    go_enter Try.func18, Try.ntmps18
    go_wp2_with fail
    rw [← HW.out, ← HP.out]
    obtain ⟨x0, x1, x2, x3, x4⟩ := HX.out _ HR.out
    go_wp2
    go_ret
    exact ⟨rfl, by first | exact HE.out _ HR.out | (rw [HP.out]; exact HE.out _ HR.out)⟩
  have hk0 : ((K.len : Int) == 0) = false := beq_eq_false_iff_ne.2 (by omega)
  have hk0' : ¬ ((K.len : Int) = 0) := by omega
  by_cases h4 : d.kind = 4
  · have h4' : (d.kind == 4) = true := beq_iff_eq.2 h4
    have HT : Hid (altsN d K = altsG K true 0) := Lib.hid (by unfold altsN; rw [nil_of_len hk1]; simp only [Bool.false_eq_true, if_false]; rw [if_pos h4])
    clear h4
    go_enter Try.func18, Try.ntmps18
    go_wp2_with fail
    rw [← HW.out, ← HP.out]
    obtain ⟨x0, x1, x2, x3, x4⟩ := HX.out _ HR.out
    go_wp2_with fail
    go_loopw [3, 4, 5] (fun sv iv _ wr => ∃ (i s : Nat), i ≤ K.len ∧ iv = .int .i64 (i : Int) ∧ sv = .int .i64 (s : Int) ∧ Hid (Below W.heap.size W wr) ∧ Hid (altsG (K.drop i) true s = altsG K true 0) ∧ Hid (s ≤ 65)) (fun _ iv _ _ => K.len - (intOf iv).toNat)
    case atStart => exact ⟨0, 0, Nat.zero_le _, rfl, rfl, HR, Lib.hid (by rw [Fo.drop_zero]), Lib.hid (by omega)⟩
    case round =>
      obtain ⟨i, s, hi, rfl, rfl, HB, HV, HS⟩ := hrel
      clear x0 x1 x2 x3 x4
      obtain ⟨x0, x1, x2, x3, x4⟩ := HX.out _ HB.out
      by_cases hlt : i < K.len
      · have hlti : (i : Int) < (K.len : Int) := by omega
        have hlti' := decide_eq_true hlti
        have hls := wr7t hlt HLEN.out
        obtain ⟨b, o, d2, k2, rfl, hd, hc⟩ := HK.out i hlt
        obtain ⟨ta2, tc2, ka2, kc2, c0, c1, c2, c3, c4, hcall⟩ := hc _ HB.out
        have HC := Lib.hid hcall
        have HD : Hid (altsG (K.drop i) true s = altsG (K.drop (i + 1)) true (min (s + altsN d2 k2) 65)) := Lib.hid (by rw [hd, altsG_cons]; rfl)
        have HM := Lib.hid (altsN_le d2 k2)
        have hsum : wrap64 ((s : Int) + (altsN d2 k2 : Int)) = (((s + altsN d2 k2 : Nat)) : Int) := by have h1 := HM.out; have h2 := HS.out; unfold wrap64; omega
        clear hd hc hcall hi
        go_wp2_with (first | (go_at_call 18; (with_reducible refine HC.out.mono ?_); rintro e u2 ⟨rfl, hb⟩; have HB2 := Lib.hid hb; clear hb x0 x1 x2 x3 x4 c0 c1 c2 c3 c4; obtain ⟨x0, x1, x2, x3, x4⟩ := HX.out _ HB2.out))
        go_roundw
        all_goals first
          | exact ⟨i + 1, min (s + altsN d2 k2) 65, hlt, by go_num, by (try rw [hsum]); push_cast; first | rfl | go_num, HB2, Lib.hid (by rw [← HD.out]; exact HV.out), Lib.hid (Nat.min_le_right _ _)⟩
          | exact meas7t hlt
          | (rw [hls]; exact meas7t hlt)
      · obtain rfl : i = K.len := by omega
        have hnl : ¬ ((K.len : Int) < (K.len : Int)) := by omega
        have hv := HV.out
        rw [Fo.drop_end (Nat.le_refl K.len)] at hv
        have hs : s = altsN d K := by rw [HT.out, ← hv]; rfl
        subst hs
        clear hlt hi
        go_wp2
        go_ret
        exact ⟨rfl, HE.out _ HB.out⟩
  · have h4' : (d.kind == 4) = false := beq_eq_false_iff_ne.2 h4
    have HT : Hid (altsN d K = altsG K false 1) := Lib.hid (by unfold altsN; rw [nil_of_len hk1]; simp only [Bool.false_eq_true, if_false]; rw [if_neg h4])
    clear h4
    go_enter Try.func18, Try.ntmps18
    go_wp2_with fail
    rw [← HW.out, ← HP.out]
    obtain ⟨x0, x1, x2, x3, x4⟩ := HX.out _ HR.out
    go_wp2_with fail
    go_loopw [3, 4, 5] (fun sv iv _ wr => ∃ (i s : Nat), i ≤ K.len ∧ iv = .int .i64 (i : Int) ∧ sv = .int .i64 (s : Int) ∧ Hid (Below W.heap.size W wr) ∧ Hid (altsG (K.drop i) false s = altsG K false 1) ∧ Hid (s ≤ 65)) (fun _ iv _ _ => K.len - (intOf iv).toNat)
    case atStart => exact ⟨0, 1, Nat.zero_le _, rfl, rfl, HR, Lib.hid (by rw [Fo.drop_zero]), Lib.hid (by omega)⟩
    case round =>
      obtain ⟨i, s, hi, rfl, rfl, HB, HV, HS⟩ := hrel
      clear x0 x1 x2 x3 x4
      obtain ⟨x0, x1, x2, x3, x4⟩ := HX.out _ HB.out
      by_cases hlt : i < K.len
      · have hlti : (i : Int) < (K.len : Int) := by omega
        have hlti' := decide_eq_true hlti
        have hls := wr7t hlt HLEN.out
        obtain ⟨b, o, d2, k2, rfl, hd, hc⟩ := HK.out i hlt
        obtain ⟨ta2, tc2, ka2, kc2, c0, c1, c2, c3, c4, hcall⟩ := hc _ HB.out
        have HC := Lib.hid hcall
        have HD : Hid (altsG (K.drop i) false s = altsG (K.drop (i + 1)) false (min (s * altsN d2 k2) 65)) := Lib.hid (by rw [hd, altsG_cons]; rfl)
        have HM := Lib.hid (altsN_le d2 k2)
        have hsum : wrap64 ((s : Int) * (altsN d2 k2 : Int)) = (((s * altsN d2 k2 : Nat)) : Int) := by have h1 := HM.out; have h2 := HS.out; have h3 := Nat.mul_le_mul h2 h1; rw [← Int.natCast_mul]; generalize s * altsN d2 k2 = z at h3 ⊢; unfold wrap64; omega
        clear hd hc hcall hi
        go_wp2_with (first | (go_at_call 18; (with_reducible refine HC.out.mono ?_); rintro e u2 ⟨rfl, hb⟩; have HB2 := Lib.hid hb; clear hb x0 x1 x2 x3 x4 c0 c1 c2 c3 c4; obtain ⟨x0, x1, x2, x3, x4⟩ := HX.out _ HB2.out))
        go_roundw
        all_goals first
          | exact ⟨i + 1, min (s * altsN d2 k2) 65, hlt, by go_num, by (try rw [hsum]); push_cast; first | rfl | go_num, HB2, Lib.hid (by rw [← HD.out]; exact HV.out), Lib.hid (Nat.min_le_right _ _)⟩
          | exact meas7t hlt
          | (rw [hls]; exact meas7t hlt)
      · obtain rfl : i = K.len := by omega
        have hnl : ¬ ((K.len : Int) < (K.len : Int)) := by omega
        have hv := HV.out
        rw [Fo.drop_end (Nat.le_refl K.len)] at hv
        have hs : s = altsN d K := by rw [HT.out, ← hv]; rfl
        subst hs
        clear hlt hi
        go_wp2
        go_ret
        exact ⟨rfl, HE.out _ HB.out⟩
end Go.Proofs.Ytmjajoepgilokaa
