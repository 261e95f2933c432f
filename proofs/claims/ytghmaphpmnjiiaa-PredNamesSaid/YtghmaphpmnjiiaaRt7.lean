/- Contracts: the document's Terms and Deep. -/
import Derived.Test.YtghmaphpmnjiiaaSs7
import Derived.WalkKit
namespace Go.Proofs.Ytghmaphpmnjiiaa
open Go Go.RowKit

theorem meas7t {k n : Nat} (h : k < n) : n - ((k : Int) + 1).toNat < n - ((k : Nat) : Int).toNat := by omega
theorem wr7t {k n : Nat} (h : k < n) (hN : n ≤ 1048576) : wrap64 ((k : Int) + 1) = (k : Int) + 1 := by unfold wrap64; omega
/-- A kid, as it is loaded. -/
theorem kid_val {W u : World} {K : Fo} {b o : Nat} (hf : FoAt W (fun x => x < W.heap.size) K b o) (hb : b < W.heap.size) (hu : Below W.heap.size W u) {i : Nat} {d2 : Nt} {k2 n2 : Fo} (hi : K.drop i = .cons d2 k2 n2) :
    ∃ ta tc ka kc, u.cell? ⟨b, o + i * 5, none⟩ = some (.int .i64 d2.kind) ∧ u.cell? ⟨b, o + i * 5 + 1, none⟩ = some (.string d2.var) ∧ u.cell? ⟨b, o + i * 5 + 2, none⟩ = some (.string d2.ty) ∧
      u.cell? ⟨b, o + i * 5 + 3, none⟩ = some (.slice ta d2.tests.length tc) ∧ u.cell? ⟨b, o + i * 5 + 4, none⟩ = some (.slice ka k2.len kc) ∧ NdV u (fun x => x < u.heap.size) d2 k2 (.agg #[.int .i64 d2.kind, .string d2.var, .string d2.ty, .slice ta d2.tests.length tc, .slice ka k2.len kc]) := by
  have h1 := FoAt.drop i (FoAt.keep (Keep.of_below hu) hb hf)
  rw [hi] at h1
  obtain ⟨ta, tc, ka, kc, c0, c1, c2, c3, c4, hv⟩ := h1.cons.1.val
  exact ⟨ta, tc, ka, kc, c0, c1, c2, c3, c4, hv.mono (fun x hx => Nat.lt_of_lt_of_le hx hu.size)⟩
theorem termsF_drop {K : Fo} {i : Nat} {d : Nt} {k : Fo} (h : K.drop i = .cons d k (K.drop (i + 1))) : termsF (K.drop i) = termsN k + termsF (K.drop (i + 1)) := by rw [h]; rfl
theorem deepF_drop7 {K : Fo} {i : Nat} {d : Nt} {k : Fo} (h : K.drop i = .cons d k (K.drop (i + 1))) : deepF (K.drop i) = max (deepF k + 1) (deepF (K.drop (i + 1))) := by rw [h]; rfl
theorem nil_of_len {K : Fo} {i : Nat} (h : i < K.len) : K.isNil = false := by cases K with
  | nil => exact absurd h (Nat.not_lt_zero _)
  | cons => rfl
theorem nil_or_len (K : Fo) : K = .nil ∨ 1 ≤ K.len := by cases K with
  | nil => exact .inl rfl
  | cons => exact .inr (by simp [Fo.len])
set_option maxRecDepth 100000 in
set_option maxHeartbeats 2000000 in
theorem r7Terms_any (d : Nt) (k : Fo) : ∀ (w : World) (v : Value), NdV w (fun x => x < w.heap.size) d k v → szD d + szF k ≤ 1048576 → Calls Try.prog 74 #[v] w (fun e w' => e = .returned (.int .i64 (termsN k : Int)) ∧ Below w.heap.size w w') := by
  revert d k
  refine Fo.node_ind (p := fun d k => ∀ (w : World) (v : Value), NdV w (fun x => x < w.heap.size) d k v → szD d + szF k ≤ 1048576 → Calls Try.prog 74 #[v] w (fun e w' => e = .returned (.int .i64 (termsN k : Int)) ∧ Below w.heap.size w w')) ?_
  intro d K ih w v hv hsz
  obtain ⟨ta, tc, ka, kc, rfl⟩ := hv.shape
  obtain ⟨_, hk⟩ := hv.inj
  obtain ⟨W, hW⟩ : ∃ W, W = w.alloc (.cells #[.int .i64 d.kind, .string d.var, .string d.ty, .slice ta d.tests.length tc, .slice ka K.len kc] 25) := ⟨_, rfl⟩
  have hq := heap_alloc_new w (.cells #[.int .i64 d.kind, .string d.var, .string d.ty, .slice ta d.tests.length tc, .slice ka K.len kc] 25)
  have hb0 : Below w.heap.size w W := by rw [hW]; exact (Below.refl _ _).alloc (Nat.le_refl _) _
  rw [← hW] at hq
  have hz : W.heap.size = w.heap.size + 1 := by rw [hW]; simp
  obtain ⟨P, hP⟩ : ∃ P, P = w.heap.size := ⟨_, rfl⟩
  have hlen : K.len ≤ 1048576 := by have := szF_len K; omega
  have HK := Lib.hid (fun (i : Nat) (hi : i < K.len) => (by
    obtain ⟨b, o, e, hb, hf⟩ := hk (nil_of_len hi)
    obtain ⟨d2, k2, hd⟩ := Fo.drop_cons hi
    refine ⟨b, o, d2, k2, e, hd, fun u hu => ?_⟩
    obtain ⟨ta, tc, ka, kc, c0, c1, c2, c3, c4, hv2⟩ := kid_val (W := W) (u := u) ((FoAt.keep (Keep.of_below hb0) hb hf).mono (fun x hx => Nat.lt_of_lt_of_le hx hb0.size)) (Nat.lt_of_lt_of_le hb hb0.size) hu hd
    have h1 := Fo.All.drop i ih
    have h4 := szF_drop K i
    rw [hd] at h1 h4
    simp only [szF] at h4
    exact ⟨ta, tc, ka, kc, c0, c1, c2, c3, c4, (h1.1 u _ hv2 (by omega)).mono (fun e w' h => ⟨h.1, hu.trans (h.2.mono hu.size)⟩)⟩ :
      ∃ b o d2 k2, ka = some ⟨b, o, none⟩ ∧ K.drop i = .cons d2 k2 (K.drop (i + 1)) ∧ ∀ u, Below W.heap.size W u → ∃ ta tc ka kc, u.cell? ⟨b, o + i * 5, none⟩ = some (.int .i64 d2.kind) ∧ u.cell? ⟨b, o + i * 5 + 1, none⟩ = some (.string d2.var) ∧ u.cell? ⟨b, o + i * 5 + 2, none⟩ = some (.string d2.ty) ∧
      u.cell? ⟨b, o + i * 5 + 3, none⟩ = some (.slice ta d2.tests.length tc) ∧ u.cell? ⟨b, o + i * 5 + 4, none⟩ = some (.slice ka k2.len kc) ∧ Calls Try.prog 74 #[.agg #[.int .i64 d2.kind, .string d2.var, .string d2.ty, .slice ta d2.tests.length tc, .slice ka k2.len kc]] u (fun e w' => e = .returned (.int .i64 (termsN k2 : Int)) ∧ Below W.heap.size W w')))
  have HX := Lib.hid (fun (u : World) (hu : Below W.heap.size W u) => (by
    have := (hu.block P (by omega)).trans (hP ▸ hq)
    simp [World.cell?, this] : u.cell? ⟨P, 4, none⟩ = some (.slice ka K.len kc)))
  have HB0 := Lib.hid hb0; have HW := Lib.hid hW; have HP := Lib.hid hP
  have HR := Lib.hid (Below.refl W.heap.size W)
  have HSZ : Hid (termsN K ≤ 1048577) := Lib.hid (by have h1 := termsF_sz K; have h2 := deepF_sz K; have h3 := termsN_sz K; omega)
  have HE := Lib.hid (fun (u : World) (hu : Below W.heap.size W u) => hb0.trans (hu.mono hb0.size))
  have HLEN := Lib.hid hlen
  clear hk ih hv hsz hq hb0 hz hW hP hlen
  rcases nil_or_len K with hkn | hk1
  · subst hkn
    rw [show Fo.nil.len = 0 from rfl] at HX
    go_enter Try.func74, Try.ntmps74
    go_wp2_with fail
    rw [← HW.out, ← HP.out]
    have x4 := HX.out _ HR.out
    go_wp2
    go_ret
    exact ⟨rfl, by rw [HP.out]; exact HE.out _ HR.out⟩
  have hk0 : ((K.len : Int) == 0) = false := beq_eq_false_iff_ne.2 (by omega)
  have hk0' : ¬ ((K.len : Int) = 0) := by omega
  have HT : Hid (termsN K = termsF K) := Lib.hid (by unfold termsN; rw [nil_of_len hk1]; simp)
  go_enter Try.func74, Try.ntmps74
  go_wp2_with fail
  rw [← HW.out, ← HP.out]
  have x4 := HX.out _ HR.out
  go_loopw [3, 4] (fun sv iv wr => ∃ (i s : Nat), i ≤ K.len ∧ iv = .int .i64 (i : Int) ∧ sv = .int .i64 (s : Int) ∧ Hid (Below W.heap.size W wr) ∧ Hid (s + termsF (K.drop i) = termsF K)) (fun _ iv _ => K.len - (intOf iv).toNat)
  case atStart => exact ⟨0, 0, Nat.zero_le _, rfl, rfl, HR, Lib.hid (by rw [Fo.drop_zero]; omega)⟩
  case round =>
    obtain ⟨i, s, hi, rfl, rfl, HB, HV⟩ := hrel
    clear x4
    have x4 := HX.out _ HB.out
    by_cases hlt : i < K.len
    · have hlti : (i : Int) < (K.len : Int) := by omega
      have hlti' := decide_eq_true hlti
      have hls := wr7t hlt HLEN.out
      obtain ⟨b, o, d2, k2, rfl, hd, hc⟩ := HK.out i hlt
      obtain ⟨ta2, tc2, ka2, kc2, c0, c1, c2, c3, c4, hcall⟩ := hc _ HB.out
      have HC := Lib.hid hcall
      have HD := Lib.hid (termsF_drop hd)
      have hsum : wrap64 ((s : Int) + (termsN k2 : Int)) = (s : Int) + (termsN k2 : Int) := by have h1 := HV.out; have h2 := HD.out; have h3 := HSZ.out; have h4 := HT.out; unfold wrap64; omega
      clear hd hc hcall hi
      go_wp2_with (first | (go_at_call 74; (with_reducible refine HC.out.mono ?_); rintro e u2 ⟨rfl, hb⟩; have HB2 := Lib.hid hb; clear hb x4 c0 c1 c2 c3 c4; have x4 := HX.out _ HB2.out))
      go_roundw
      all_goals first
        | exact ⟨i + 1, s + termsN k2, hlt, by go_num, by push_cast; go_num, HB2, Lib.hid (by have h1 := HV.out; have h2 := HD.out; omega)⟩
        | exact meas7t hlt
        | (rw [hls]; exact meas7t hlt)
    · obtain rfl : i = K.len := by omega
      have hnl : ¬ ((K.len : Int) < (K.len : Int)) := by omega
      have hd := Fo.drop_end (Nat.le_refl K.len)
      have hv := HV.out
      rw [hd] at hv
      have hs : s = termsN K := by have := HT.out; simp only [termsF] at hv; omega
      subst hs
      clear hlt hi
      go_wp2
      go_ret
      exact ⟨rfl, HE.out _ HB.out⟩
set_option maxRecDepth 100000 in
set_option maxHeartbeats 2000000 in
theorem r7Deep_any (d : Nt) (k : Fo) : ∀ (w : World) (v : Value), NdV w (fun x => x < w.heap.size) d k v → szD d + szF k ≤ 1048576 → Calls Try.prog 73 #[v] w (fun e w' => e = .returned (.int .i64 ((deepF k + 1 : Nat) : Int)) ∧ Below w.heap.size w w') := by
  revert d k
  refine Fo.node_ind (p := fun d k => ∀ (w : World) (v : Value), NdV w (fun x => x < w.heap.size) d k v → szD d + szF k ≤ 1048576 → Calls Try.prog 73 #[v] w (fun e w' => e = .returned (.int .i64 ((deepF k + 1 : Nat) : Int)) ∧ Below w.heap.size w w')) ?_
  intro d K ih w v hv hsz
  obtain ⟨ta, tc, ka, kc, rfl⟩ := hv.shape
  obtain ⟨_, hk⟩ := hv.inj
  obtain ⟨W, hW⟩ : ∃ W, W = w.alloc (.cells #[.int .i64 d.kind, .string d.var, .string d.ty, .slice ta d.tests.length tc, .slice ka K.len kc] 25) := ⟨_, rfl⟩
  have hq := heap_alloc_new w (.cells #[.int .i64 d.kind, .string d.var, .string d.ty, .slice ta d.tests.length tc, .slice ka K.len kc] 25)
  have hb0 : Below w.heap.size w W := by rw [hW]; exact (Below.refl _ _).alloc (Nat.le_refl _) _
  rw [← hW] at hq
  have hz : W.heap.size = w.heap.size + 1 := by rw [hW]; simp
  obtain ⟨P, hP⟩ : ∃ P, P = w.heap.size := ⟨_, rfl⟩
  have hlen : K.len ≤ 1048576 := by have := szF_len K; omega
  have HK := Lib.hid (fun (i : Nat) (hi : i < K.len) => (by
    obtain ⟨b, o, e, hb, hf⟩ := hk (nil_of_len hi)
    obtain ⟨d2, k2, hd⟩ := Fo.drop_cons hi
    refine ⟨b, o, d2, k2, e, hd, fun u hu => ?_⟩
    obtain ⟨ta, tc, ka, kc, c0, c1, c2, c3, c4, hv2⟩ := kid_val (W := W) (u := u) ((FoAt.keep (Keep.of_below hb0) hb hf).mono (fun x hx => Nat.lt_of_lt_of_le hx hb0.size)) (Nat.lt_of_lt_of_le hb hb0.size) hu hd
    have h1 := Fo.All.drop i ih
    have h4 := szF_drop K i
    rw [hd] at h1 h4
    simp only [szF] at h4
    exact ⟨ta, tc, ka, kc, c0, c1, c2, c3, c4, (h1.1 u _ hv2 (by omega)).mono (fun e w' h => ⟨h.1, hu.trans (h.2.mono hu.size)⟩)⟩ :
      ∃ b o d2 k2, ka = some ⟨b, o, none⟩ ∧ K.drop i = .cons d2 k2 (K.drop (i + 1)) ∧ ∀ u, Below W.heap.size W u → ∃ ta tc ka kc, u.cell? ⟨b, o + i * 5, none⟩ = some (.int .i64 d2.kind) ∧ u.cell? ⟨b, o + i * 5 + 1, none⟩ = some (.string d2.var) ∧ u.cell? ⟨b, o + i * 5 + 2, none⟩ = some (.string d2.ty) ∧
      u.cell? ⟨b, o + i * 5 + 3, none⟩ = some (.slice ta d2.tests.length tc) ∧ u.cell? ⟨b, o + i * 5 + 4, none⟩ = some (.slice ka k2.len kc) ∧ Calls Try.prog 73 #[.agg #[.int .i64 d2.kind, .string d2.var, .string d2.ty, .slice ta d2.tests.length tc, .slice ka k2.len kc]] u (fun e w' => e = .returned (.int .i64 ((deepF k2 + 1 : Nat) : Int)) ∧ Below W.heap.size W w')))
  have HX := Lib.hid (fun (u : World) (hu : Below W.heap.size W u) => (by
    have := (hu.block P (by omega)).trans (hP ▸ hq)
    simp [World.cell?, this] : u.cell? ⟨P, 4, none⟩ = some (.slice ka K.len kc)))
  have HB0 := Lib.hid hb0; have HW := Lib.hid hW; have HP := Lib.hid hP
  have HR := Lib.hid (Below.refl W.heap.size W)
  have HSZ : Hid (deepF K ≤ 1048576) := Lib.hid (by have h1 := termsF_sz K; have h2 := deepF_sz K; have h3 := termsN_sz K; omega)
  have HE := Lib.hid (fun (u : World) (hu : Below W.heap.size W u) => hb0.trans (hu.mono hb0.size))
  have HLEN := Lib.hid hlen
  clear hk ih hv hsz hq hb0 hz hW hP hlen
  go_enter Try.func73, Try.ntmps73
  go_wp2_with fail
  rw [← HW.out, ← HP.out]
  have x4 := HX.out _ HR.out
  go_loopw [3, 4] (fun sv iv wr => ∃ (i s : Nat), i ≤ K.len ∧ iv = .int .i64 (i : Int) ∧ sv = .int .i64 (s : Int) ∧ Hid (Below W.heap.size W wr) ∧ Hid (max s (deepF (K.drop i)) = deepF K)) (fun _ iv _ => K.len - (intOf iv).toNat)
  case atStart => exact ⟨0, 0, Nat.zero_le _, rfl, rfl, HR, Lib.hid (by rw [Fo.drop_zero]; omega)⟩
  case round =>
    obtain ⟨i, s, hi, rfl, rfl, HB, HV⟩ := hrel
    clear x4
    have x4 := HX.out _ HB.out
    by_cases hlt : i < K.len
    · have hlti : (i : Int) < (K.len : Int) := by omega
      have hlti' := decide_eq_true hlti
      have hls := wr7t hlt HLEN.out
      obtain ⟨b, o, d2, k2, rfl, hd, hc⟩ := HK.out i hlt
      obtain ⟨ta2, tc2, ka2, kc2, c0, c1, c2, c3, c4, hcall⟩ := hc _ HB.out
      have HC := Lib.hid hcall
      have HD := Lib.hid (deepF_drop7 hd)

      clear hd hc hcall hi
      go_wp2_with (first | (go_at_call 73; (with_reducible refine HC.out.mono ?_); rintro e u2 ⟨rfl, hb⟩; have HB2 := Lib.hid hb; clear hb x4 c0 c1 c2 c3 c4; have x4 := HX.out _ HB2.out))
      go_roundw
      all_goals first
        | exact ⟨i + 1, max s (deepF k2 + 1), hlt, by go_num, by push_cast; first | rfl | go_num, HB2, Lib.hid (by have h1 := HV.out; have h2 := HD.out; omega)⟩
        | exact meas7t hlt
        | (rw [hls]; exact meas7t hlt)
    · obtain rfl : i = K.len := by omega
      have hnl : ¬ ((K.len : Int) < (K.len : Int)) := by omega
      have hd := Fo.drop_end (Nat.le_refl K.len)
      have hv := HV.out
      rw [hd] at hv
      have hs : s = deepF K := by simp only [deepF] at hv; omega
      subst hs
      have hsum : wrap64 ((deepF K : Int) + 1) = ((deepF K + 1 : Nat) : Int) := by have h3 := HSZ.out; unfold wrap64; omega
      clear hlt hi
      go_wp2
      go_ret
      exact ⟨rfl, HE.out _ HB.out⟩
end Go.Proofs.Ytghmaphpmnjiiaa
