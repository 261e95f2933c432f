/- The walk of EventOwn. -/
import Derived.Test.YthjhbnfedelniaaTo4
import Derived.Test.YthjhbnfedelniaaNo4
import Derived.Test.YthjhbnfedelniaaBg4
import Derived.Test.YthjhbnfedelniaaRlb
namespace Go.Proofs.Ythjhbnfedelniaa
open Go Go.RowKit Go.Shelf
attribute [local go_sem] Oper.semAt_some

/-- A row of attributes of which the numbers may be written. -/
structure Nrow (g m : Nat) (W w : World) : Prop where
  free : ∀ t, t < m * 4 → w.frozen? ⟨g, t, none⟩ = false
  num : ∀ j, j < m → ∃ u, w.cell? ⟨g, j * 4 + 1 + 1, none⟩ = some (.int .i64 u)
  chg : Chg (fun b => b = g) W w
theorem Nrow.put {g m : Nat} {W w : World} (h : Nrow g m W w) (j : Nat) (u : Int) : Nrow g m W (w.setCell ⟨g, j * 4 + 1 + 1, none⟩ (.int .i64 u)) := by
  refine ⟨fun t ht => ?_, fun i hi => ?_, h.chg.setCell (p := ⟨g, j * 4 + 1 + 1, none⟩) rfl _⟩
  · have := h.free t ht; simpa using this
  · obtain ⟨v, hv⟩ := h.num i hi
    by_cases hij : j = i
    · subst hij; exact ⟨u, World.cell?_setCell_same' _ _ _ (by rw [hv]; rfl)⟩
    · exact ⟨v, by rw [World.cell?_setCell_other _ _ _ _ (by intro e; simp at e <;> omega)]; exact hv⟩
theorem enc4_n (xs : List At) (j : Nat) (hj : j < xs.length) : (xs.flatMap enc4)[j * 4 + 1 + 1]? = some (.int .i64 xs[j]!.n) := flat_at xs j 2 hj _ rfl
theorem Nrow.of_own {w : World} {B : Nat} {v : Value} {xs : List At} (h : w.ownsRow B 57 4 v xs.length (xs.flatMap enc4)) (h0 : 0 < xs.length) : ∃ g cap, v = .slice (some ⟨g, 0, none⟩) xs.length cap ∧ B ≤ g ∧ g < w.heap.size ∧ Nrow g xs.length w w := by
  rcases id h.2 with ⟨_, hn⟩ | ⟨g, cap, cur, rfl, hb, hg, _⟩
  · omega
  · refine ⟨g, cap, rfl, hb, (Array.getElem?_eq_some_iff.1 hg).1, fun t _ => h.frozenAt t, fun j hj => ⟨xs[j]!.n, by rw [h.cellAt _ (by omega)]; exact enc4_n xs j hj⟩, Chg.refl _ _⟩
theorem own_nil {w : World} {B e size n n' cap : Nat} {ao : Option Addr} {xs : List Value} (h : w.ownsRow B e size (.slice ao n' cap) n xs) : ao = none → cap = 0 := by
  rintro rfl
  rcases h.2 with ⟨hv, _⟩ | ⟨g, cap', cur, hv, _⟩
  · cases hv; rfl
  · cases hv

/-- What stands while the streams are asked: what was below B; an event in block P, its attributes; the streams. -/
structure Lv (B : Nat) (Wb : World) (P : Nat) (y : Ev) (v : Value) (F : Nat → Prop) (q : Nat) (sd : List Sd) (evs : List Ev) (W : World) : Prop where
  base : Below B Wb W
  box : W.heap[P]? = some (.cells #[.int .i64 y.src, .int .i64 y.seq, .int .i64 y.time, .string y.ty, v] 35 (0, 0))
  av : Av W W.heap.size v y.ats
  st : StIs W F q 16 sd evs
theorem Lv.chg {B : Nat} {Wb : World} {P : Nat} {y : Ev} {v : Value} {F : Nat → Prop} {q : Nat} {sd : List Sd} {evs : List Ev} {W W' : World} {G : Nat → Prop} (h : Lv B Wb P y v F q sd evs W) (hc : Chg G W W')
    (hG : ∀ b, G b → B ≤ b ∧ b ≠ P ∧ (∀ a n c, v = .slice (some a) n c → a.block ≠ b) ∧ ¬ F b) (hB : B ≤ W.heap.size) : Lv B Wb P y v F q sd evs W' :=
  ⟨h.base.trans (hc.below hB fun b hb => (hG b hb).1), (hc.block P (Array.getElem?_eq_some_iff.1 h.box).1 (fun hb => (hG P hb).2.1 rfl)).trans h.box,
    (h.av.apart (Nat.le_refl _) hc (fun a n c e _ hb => (hG _ hb).2.2.1 a n c e rfl)).mono hc.size, h.st.chg hc (fun b hF hb => (hG b hb).2.2.2 hF)⟩
theorem Lv.below {B : Nat} {Wb : World} {P : Nat} {y : Ev} {v : Value} {F : Nat → Prop} {q : Nat} {sd : List Sd} {evs : List Ev} {W W' : World} (h : Lv B Wb P y v F q sd evs W) (hb : Below W.heap.size W W') (hB : B ≤ W.heap.size) : Lv B Wb P y v F q sd evs W' :=
  h.chg (G := fun _ => False) (Chg.of_below hb) (fun _ h => h.elim) hB
theorem own_ge4 {w : World} {base e size n : Nat} {v : Value} {xs : List Value} (h : w.ownsRow base e size v n xs) : ∀ a n' c, v = .slice (some a) n' c → base ≤ a.block ∧ a.block < w.heap.size := by
  rintro a n' c rfl
  rcases h.2 with ⟨hv, _⟩ | ⟨g, cap, cur, hv, hb, hg, _⟩
  · cases hv
  · cases hv; exact ⟨hb, (Array.getElem?_eq_some_iff.1 hg).1⟩

theorem told_one (Bc : Nat) (y : Ev) (v : Value) (r : Nat) (w : World) (hA : AllAt w w.heap.size Bc [y]) (hrow : w.heap[r]? = some (.cells #[.int .i64 y.src, .int .i64 y.seq, .int .i64 y.time, .string y.ty, v] 35 (0, 0))) (hav : Av w w.heap.size v y.ats) :
    Calls Try.prog 20 #[.func (.func 56) #[] #[.pointer (some ⟨Bc, 0, none⟩)], .slice (some ⟨r, 0, none⟩) 1 1] w fun e w' => e = .returned (.bool true) ∧ Below w.heap.size w w' := by
  have h := told_any Bc [y] (some ⟨r, 0, none⟩) 1 [y] [v] w hA ⟨fun _ => ⟨r, 0, rfl, (Array.getElem?_eq_some_iff.1 hrow).1, fun j hj i u hu => ?_⟩, fun j hj => ?_⟩ (by simp)
  · simpa using h
  · obtain rfl : j = 0 := by simpa using hj
    have : (#[Value.int .i64 y.src, .int .i64 y.seq, .int .i64 y.time, .string y.ty, v])[i]? = some u := by simpa [evCells] using hu
    simp [World.cell?, hrow, this]
  · obtain rfl : j = 0 := by simpa using hj
    exact hav

set_option maxRecDepth 100000 in
set_option maxHeartbeats 16000000 in
theorem own4_walk (ev : Ev) (ao : Option Addr) (n cap : Nat) (w : World) (hx : Av w w.heap.size (.slice ao n cap) ev.ats) (hty : ev.ty.size ≤ maxLen) (hnil : ao = none → cap = 0) :
    Calls Try.prog 4 #[evV ev (.slice ao n cap)] w fun e w' => e = .returned (.bool true) ∧ Below w.heap.size w w' := by
  obtain ⟨s, sq, tm, ty, ats⟩ := ev
  simp only at hx hty
  unfold evV
  simp only
  obtain ⟨P, hP⟩ : ∃ P, P = w.heap.size := ⟨_, rfl⟩
  obtain ⟨W0, hW0⟩ : ∃ W0, W0 = w.alloc (.cells #[.int .i64 s, .int .i64 sq, .int .i64 tm, .string ty, .slice ao n cap] 35) := ⟨_, rfl⟩
  have hb0 : Below P w W0 := by rw [hW0, hP]; exact (Below.refl _ _).alloc (Nat.le_refl _) _
  have hs0 : W0.heap.size = P + 1 := by rw [hW0, hP]; simp
  have hx0 : W0.heap[P]? = some (.cells #[.int .i64 s, .int .i64 sq, .int .i64 tm, .string ty, .slice ao n cap] 35 (0, 0)) := by rw [hW0, hP]; exact heap_alloc_new w _
  have hav0 : Av W0 (P + 1) (.slice ao n cap) ats := (hx.below hb0 (by omega)).mono (by omega)
  have HW0 := hide hW0; have HP := hide hP; have HB0 := hide hb0; have HS0 := hide hs0
  have HX : Hid (∀ W, Below (P + 1) W0 W → W.heap[P]? = some (.cells #[.int .i64 s, .int .i64 sq, .int .i64 tm, .string ty, .slice ao n cap] 35 (0, 0)) ∧ Av W (P + 1) (.slice ao n cap) ats) := fun W hb =>
    ⟨(hb.block P (by omega)).trans hx0, hav0.below hb (Nat.le_refl _)⟩
  have HNIL := hide hnil; have HWD := hide hx.wide; have HLN := hide hx.len; have HTY := hide hty
  have C1 := fun (W : World) (hb : Below (P + 1) W0 W) (hz : P + 1 ≤ W.heap.size) => r4Clone_any ⟨s, sq, tm, ty, ats⟩ (P + 1) ao n cap W (HX.out W hb).2 HNIL.out hz
  have C2 := fun (W : World) (hb : Below (P + 1) W0 W) (hz : P + 1 ≤ W.heap.size) => eClone_any ⟨s, sq, tm, ty, ats⟩ (P + 1) ao n cap W (HX.out W hb).2 hz
  unfold evV at C1 C2
  have HC1 := hide C1; have HC2 := hide C2
  have hb00 : Below (P + 1) W0 W0 := Below.refl _ _
  have HB := hide hb00; have HZ := hide (show P + 1 ≤ W0.heap.size by omega)
  obtain ⟨c0, c1, c2, c3, c4⟩ := cell_of_five (HX.out W0 HB.out).1
  rw [← hP]
  clear hP hW0 hb0 hs0 hx0 hav0 hnil hx hty hb00 C1 C2
  refine (callsIn_wide (n := 12)).1 ?_
  refine callsIn_of_wp_marks Try.func4 rfl trivial ?_ rfl
  simp only [Try.ntmps4, List.size_toArray, List.length_cons, List.length_nil, Nat.reduceAdd, Nat.reduceSub, Array.replicate_succ, Array.replicate_zero, List.push_toArray, List.append_toArray, List.nil_append, List.cons_append]
  refine wpIn_wide.2 ?_
  go_wp2_with fail
  rw [← HW0.out, ← HP.out]
  go_wp2_with (go_at_call 23; (with_reducible refine (HC1.out _ HB.out HZ.out).mono ?_); rintro e w1 ⟨v1, rfl, ho1, hb1⟩; obtain ⟨a1, k1, rfl⟩ := own_slice ho1; have HO1 := hide ho1; have HB := hide (HB.out.trans (hb1.mono HZ.out)); have HZ := hide (Nat.le_trans HZ.out hb1.size); clear ho1 hb1 c0 c1 c2 c3 c4; obtain ⟨c0, c1, c2, c3, c4⟩ := cell_of_five (HX.out (w1.alloc (.cells #[.int .i64 s, .int .i64 sq, .int .i64 tm, .string ty, .slice a1 ats.length k1] 35)) (HB.out.alloc HZ.out _)).1)
  obtain ⟨W1, hW1⟩ : ∃ W1, W1 = w1.alloc (.cells #[.int .i64 s, .int .i64 sq, .int .i64 tm, .string ty, .slice a1 ats.length k1] 35) := ⟨_, rfl⟩
  rw [← hW1]
  obtain ⟨P1, hP1⟩ : ∃ P1, P1 = w1.heap.size := ⟨_, rfl⟩
  have hs1 : W1.heap.size = P1 + 1 := by rw [hW1, hP1]; simp
  have HB := hide (show Below (P + 1) W0 W1 by rw [hW1]; exact HB.out.alloc HZ.out _)
  have HPP := hide (show P + 1 ≤ P1 by rw [hP1]; exact HZ.out)
  have HZ := hide (show P + 1 ≤ W1.heap.size by rw [hs1, hP1]; exact Nat.le_succ_of_le HZ.out)
  have hwas : W1.heap[P1]? = some (.cells #[.int .i64 s, .int .i64 sq, .int .i64 tm, .string ty, .slice a1 ats.length k1] 35 (0, 0)) := by rw [hW1, hP1]; exact heap_alloc_new _ _
  have hawas : Av W1 (P1 + 1) (.slice a1 ats.length k1) ats := by rw [← hs1, hW1]; exact Av.of_own (HO1.out.alloc _) HWD.out HLN.out
  rw [← hP1]
  have HS1 := hide hs1; have HWAS := hide hwas; have HAW := hide hawas; have HP1 := hide hP1
  clear hW1 hs1 hwas hawas hP1 HO1
  clear c0 c1 c2 c3 c4; obtain ⟨c0, c1, c2, c3, c4⟩ := cell_of_five (HX.out W1 HB.out).1
  go_wp2_with (go_at_call 24; (with_reducible refine (HC2.out _ HB.out HZ.out).mono ?_); rintro e w2 ⟨v2, rfl, ho2, hb2⟩; clear HC2; obtain ⟨a2, k2, rfl⟩ := own_slice ho2; have HO2 := hide ho2; have HB2 := hide hb2; clear ho2 hb2 c0 c1 c2 c3 c4)
  obtain ⟨W2, hW2⟩ : ∃ W2, W2 = w2.alloc (.cells #[.int .i64 s, .int .i64 sq, .int .i64 tm, .string ty, .slice a2 ats.length k2] 35) := ⟨_, rfl⟩
  rw [← hW2]
  obtain ⟨P2, hP2⟩ : ∃ P2, P2 = w2.heap.size := ⟨_, rfl⟩
  rw [← hP2]
  have hc2 : W2.heap[P2]? = some (.cells #[.int .i64 s, .int .i64 sq, .int .i64 tm, .string ty, .slice a2 ats.length k2] 35 (0, 0)) := by rw [hW2, hP2]; exact heap_alloc_new _ _
  obtain ⟨m, hm⟩ : ∃ m, m = ats.length := ⟨_, rfl⟩
  have hm63 : m ≤ 9223372036854775807 := by have := HLN.out; omega
  have hL : Below (P1 + 1) W1 W2 ∧ W2.heap[P2]? = some (.cells #[.int .i64 s, .int .i64 sq, .int .i64 tm, .string ty, .slice a2 m k2] 35 (0, 0)) ∧ (0 < m → ∃ g, a2 = some ⟨g, 0, none⟩ ∧ P1 + 1 ≤ g ∧ g ≠ P2 ∧ Nrow g m W2 W2) := by
    rw [hm]
    refine ⟨by rw [hW2, ← HS1.out]; exact HB2.out.alloc HB2.out.size _, hc2, fun h0 => ?_⟩
    obtain ⟨g, cap2, hv, hg1, hg2, hN⟩ := Nrow.of_own HO2.out h0
    cases hv
    exact ⟨g, rfl, by rw [← HS1.out]; exact hg1, by rw [hP2]; omega, by rw [hW2]; exact ⟨fun t ht => (((Below.refl w2.heap.size w2).alloc (Nat.le_refl _) _).frozen (p := ⟨g, t, none⟩) hg2).trans (hN.free t ht), fun j hj => (by obtain ⟨u, hu⟩ := hN.num j hj; exact ⟨u, Lib.cell?_alloc_some _ hu⟩), Chg.refl _ _⟩⟩
  have HL := hide hL
  rw [← hm]
  have HM := hide hm
  clear hW2 hP2 hc2 hL hm HO2 HB2
  go_loopw [24] (fun iv wr => ∃ i : Nat, i ≤ m ∧ iv = .int .i64 i ∧ Hid (Below (P1 + 1) W1 wr ∧ wr.heap[P2]? = some (.cells #[.int .i64 s, .int .i64 sq, .int .i64 tm, .string ty, .slice a2 m k2] 35 (0, 0)) ∧ (0 < m → ∃ g, a2 = some ⟨g, 0, none⟩ ∧ P1 + 1 ≤ g ∧ g ≠ P2 ∧ Nrow g m W2 wr))) (fun iv _ => m - (intOf iv).toNat)
  case atStart => exact ⟨0, Nat.zero_le _, rfl, HL.out⟩
  case round =>
    obtain ⟨i, hi, rfl, HR⟩ := hrel
    by_cases hlt : i < m
    · obtain ⟨hb3, hp3, hg3⟩ := HR.out
      obtain ⟨g, rfl, hg1, hg2, hN⟩ := hg3 (by omega)
      obtain ⟨d0, d1, d2, d3, d4⟩ := cell_of_five hp3
      have hf := hN.free (i * 4 + 1 + 1) (by omega)
      obtain ⟨u, hu⟩ := hN.num i hlt
      have HB3 := hide hb3; have HP3 := hide hp3; have HN := hide hN; have HG1 := hide hg1; have HG2 := hide hg2
      have hiz : (0 : Int) ≤ (i : Int) := by omega
      clear hb3 hp3 hg3 hN hg1 hg2
      go_wp2
      go_roundw
      case rel => exact ⟨i + 1, by omega, by go_num, HB3.out.setCell (p := ⟨g, i * 4 + 1 + 1, none⟩) HG1.out _, heap_setCell_far HP3.out (Ne.symm HG2.out) _, fun _ => ⟨g, rfl, HG1.out, HG2.out, HN.out.put i _⟩⟩
      case measure => simp [intOf]; omega
    · obtain rfl : i = m := by omega
      have HB4 := hide HR.out.1
      have HZ4 := hide (show P1 + 1 ≤ wr.heap.size by have := HB4.out.size; rw [HS1.out] at this; exact this)
      clear hlt hi HR HL
      have HX1 : Hid (∀ W, Below (P1 + 1) W1 W → W.heap[P]? = some (.cells #[.int .i64 s, .int .i64 sq, .int .i64 tm, .string ty, .slice ao n cap] 35 (0, 0)) ∧ Av W (P + 1) (.slice ao n cap) ats ∧ W.heap[P1]? = some (.cells #[.int .i64 s, .int .i64 sq, .int .i64 tm, .string ty, .slice a1 i k1] 35 (0, 0)) ∧ Av W (P1 + 1) (.slice a1 i k1) ats ∧ Below (P + 1) W0 W ∧ P1 + 1 ≤ W.heap.size) := fun W hb => by
        have h1 := HX.out W (HB.out.trans (hb.mono (by have := HPP.out; omega)))
        have h2 := (hb.block P1 (by omega)).trans HWAS.out
        have h3 := HAW.out.below hb (Nat.le_refl _)
        rw [← HM.out] at h2 h3
        exact ⟨h1.1, h1.2, h2, h3, HB.out.trans (hb.mono (by have := HPP.out; omega)), by have := hb.size; rw [HS1.out] at this; exact this⟩
      have C3 := fun w => eNew_ok 16 (by decide) (by decide) w
      have C3 := fun w => show Calls Try.prog 5 #[.int .i64 16] w _ from C3 w
      have C4 := fun (W : World) (hb : Below (P1 + 1) W1 W) => r4Same_any ⟨s, sq, tm, ty, ats⟩ ⟨s, sq, tm, ty, ats⟩ (P + 1) (P1 + 1) ao n cap a1 i k1 W (HX1.out W hb).2.1 (HX1.out W hb).2.2.2.1 (by have := (HX1.out W hb).2.2.2.2.2; have := HPP.out; omega) (HX1.out W hb).2.2.2.2.2
      rw [sameE_refl] at C4
      have C5 := fun (W : World) (hb : Below (P1 + 1) W1 W) => r4Clone_any ⟨s, sq, tm, ty, ats⟩ (P + 1) ao n cap W (HX1.out W hb).2.1 HNIL.out (by have := (HX1.out W hb).2.2.2.2.2; have := HPP.out; omega)
      unfold evV at C4 C5
      have HC3 := hide C3; have HC4 := hide C4; have HC5 := hide C5
      clear C3 C4 C5
      go_wp2_with (first
        | (go_at_call 5; (with_reducible refine (HC3.out _).mono ?_); rintro e w3 ⟨rfl, hst, hb⟩; have HST := hide hst; have HB5 := hide (HB4.out.trans (hb.mono HZ4.out)); have HQ := hide (show wr.heap.size < w3.heap.size from hst.flt _ rfl); clear hst hb)
        | (go_at_call 7; (with_reducible refine (begun4_any _).mono ?_); rintro e w4 ⟨rfl, hb⟩; have HST4 := hide (HST.out.below hb); have HB6 := hide (HB5.out.trans (hb.mono (HX1.out _ HB5.out).2.2.2.2.2)); have HQ4 := hide (Nat.lt_of_lt_of_le HQ.out hb.size); clear hb; obtain ⟨c0, c1, c2, c3, c4⟩ := cell_of_five (HX1.out w4 HB6.out).1; obtain ⟨d0, d1, d2, d3, d4⟩ := cell_of_five (HX1.out w4 HB6.out).2.2.1)
        | (go_at_call 25; (with_reducible refine (HC4.out _ HB6.out).mono ?_); rintro e w5 ⟨rfl, hb⟩; have HST5 := hide (HST4.out.below hb); have HB7 := hide (HB6.out.trans (hb.mono (HX1.out _ HB6.out).2.2.2.2.2)); have HQ5 := hide (Nat.lt_of_lt_of_le HQ4.out hb.size); clear hb; clear c0 c1 c2 c3 c4; obtain ⟨c0, c1, c2, c3, c4⟩ := cell_of_five (HX1.out w5 HB7.out).1; clear d0 d1 d2 d3 d4)
        | (go_at_call 23; (with_reducible refine (HC5.out _ HB7.out).mono ?_); rintro e w6 ⟨v6, rfl, ho6, hb⟩; clear HC5; obtain ⟨a6, k6, rfl⟩ := own_slice ho6; have HO6 := hide ho6; have HST6 := hide (HST5.out.below hb); have HB8 := hide (HB7.out.trans (hb.mono (HX1.out _ HB7.out).2.2.2.2.2)); have HQ6 := hide (Nat.lt_of_lt_of_le HQ5.out hb.size); have HZ6 := hide hb.size; clear hb ho6 c0 c1 c2 c3 c4))
      obtain ⟨W6, hW6⟩ : ∃ W6, W6 = w6.alloc (.cells #[.int .i64 s, .int .i64 0, .int .i64 tm, .string ty, .slice a6 ats.length k6] 35) := ⟨_, rfl⟩
      rw [← hW6]
      obtain ⟨P6, hP6⟩ : ∃ P6, P6 = w6.heap.size := ⟨_, rfl⟩
      rw [← hP6]
      have hs6 : W6.heap.size = P6 + 1 := by rw [hW6, hP6]; simp
      have hy6 : W6.heap[P6]? = some (.cells #[.int .i64 s, .int .i64 0, .int .i64 tm, .string ty, .slice a6 ats.length k6] 35 (0, 0)) := by rw [hW6, hP6]; exact heap_alloc_new _ _
      have ho6 : W6.ownsRow w5.heap.size 57 4 (.slice a6 ats.length k6) ats.length (ats.flatMap enc4) := by rw [hW6]; exact HO6.out.alloc _
      have hay : Av W6 (P6 + 1) (.slice a6 ats.length k6) ats := by rw [← hs6]; exact Av.of_own ho6 HWD.out HLN.out
      have hq6 : wr.heap.size < P6 := by rw [hP6]; exact HQ6.out
      have hz6 : w5.heap.size ≤ P6 := by rw [hP6]; exact HZ6.out
      have hge6 := own_ge4 HO6.out
      have HGE6 := hide (fun a n c (e : Value.slice a6 ats.length k6 = .slice (some a) n c) => (⟨(hge6 a n c e).1, by have := (hge6 a n c e).2; rw [← hP6] at this; exact this⟩ : w5.heap.size ≤ a.block ∧ a.block < P6))
      have HB9 := hide (show Below (P1 + 1) W1 W6 by rw [hW6]; exact HB8.out.alloc (HX1.out _ HB8.out).2.2.2.2.2 _)
      have HST7 := hide (show StIs W6 (fun b => b = wr.heap.size) wr.heap.size 16 sd0 [] by rw [hW6]; exact HST6.out.below ((Below.refl _ _).alloc (Nat.le_refl _) _))
      have C7 := r4Clone_any ⟨s, 0, tm, ty, ats⟩ (P6 + 1) a6 ats.length k6 W6 hay (own_nil ho6) (by omega)
      unfold evV at C7
      rw [hs6] at C7
      have HC7 := hide C7; have HY6 := hide hy6; have HO6 := hide ho6; have HS6 := hide hs6; have HQ7 := hide hq6; have HZ7 := hide hz6; have HAY := hide hay
      obtain ⟨c0, c1, c2, c3, c4⟩ := cell_of_five hy6
      clear hW6 hP6 hs6 hy6 ho6 hay hq6 hz6 hge6 C7
      go_wp2_with (go_at_call 23; (with_reducible refine (HC7.out).mono ?_); rintro e w7 ⟨v7, rfl, ho7, hb⟩; clear HC7; obtain ⟨a7, k7, rfl⟩ := own_slice ho7; have HO7 := hide ho7; have HB7b := hide hb; clear ho7 c0 c1 c2 c3 c4; obtain ⟨c0, c1, c2, c3, c4⟩ := cell_of_five (heap_alloc_keeps ((hb.block P6 (by omega)).trans HY6.out) (.cells #[.int .i64 s, .int .i64 0, .int .i64 tm, .string ty, .slice a7 ats.length k7] 35)); clear hb)
      obtain ⟨W7, hW7⟩ : ∃ W7, W7 = w7.alloc (.cells #[.int .i64 s, .int .i64 0, .int .i64 tm, .string ty, .slice a7 ats.length k7] 35) := ⟨_, rfl⟩
      rw [← hW7]
      obtain ⟨P7, hP7⟩ : ∃ P7, P7 = w7.heap.size := ⟨_, rfl⟩
      rw [← hP7]
      obtain ⟨q, hq⟩ : ∃ q, q = wr.heap.size := ⟨_, rfl⟩
      have hs7 : W7.heap.size = P7 + 1 := by rw [hW7, hP7]; simp
      have hb7 : Below (P6 + 1) W6 W7 := by rw [hW7]; exact HB7b.out.alloc (by have := HB7b.out.size; rw [HS6.out] at this; exact this) _
      have hz7 : P6 + 1 ≤ P7 := by have := HB7b.out.size; rw [HS6.out, ← hP7] at this; exact this
      have hy7 : W7.heap[P7]? = some (.cells #[.int .i64 s, .int .i64 0, .int .i64 tm, .string ty, .slice a7 ats.length k7] 35 (0, 0)) := by rw [hW7, hP7]; exact heap_alloc_new _ _
      have hay7 : Av W7 W7.heap.size (.slice a7 ats.length k7) ats := by rw [hW7]; exact Av.of_own (HO7.out.alloc _) HWD.out HLN.out
      have hge7 : ∀ a n c, Value.slice a7 ats.length k7 = .slice (some a) n c → P6 + 1 ≤ a.block ∧ a.block < P7 := fun a n c e => by have := own_ge4 HO7.out a n c e; rw [← hP7] at this; exact this
      have hP1q : P1 + 1 ≤ q := by rw [hq]; exact HZ4.out
      have hqP6 : q < P6 := by rw [hq]; exact HQ7.out
      have hb9 : Below (P1 + 1) W1 W7 := HB9.out.trans (hb7.mono (by omega))
      have hst7 : StIs W7 (fun b => b = q) q 16 sd0 [] := by rw [hq]; exact HST7.out.below (by rw [HS6.out]; exact hb7)
      have hav6 : Av W7 (P6 + 1) (.slice a6 ats.length k6) ats := HAY.out.below hb7 (Nat.le_refl _)
      have hbx6 : W7.heap[P6]? = some (.cells #[.int .i64 s, .int .i64 0, .int .i64 tm, .string ty, .slice a6 ats.length k6] 35 (0, 0)) := (hb7.block P6 (by omega)).trans HY6.out
      have hno6 : ∀ a, a6 = some a → 0 < ats.length → ¬ a.block = q := fun a e h0 hh => by
        have h1 := (HGE6.out a _ _ (by rw [e])).1
        have h2 := HQ5.out
        rw [← hq] at h2
        omega
      have CA : Calls Try.prog 8 #[.pointer (some ⟨q, 0, none⟩), .agg #[.int .i64 s, .int .i64 0, .int .i64 tm, .string ty, .slice a6 ats.length k6]] W7 fun e w' => ∃ (e0 : Int) (F' : Nat → Prop) (sd' : List Sd) (evs' : List Ev), e = .returned (.int .i64 e0) ∧ StIs w' F' q 16 sd' evs' ∧ Chg (fun b => b = q) W7 w' ∧ (e0 = 0 → evs' = [⟨s, 0, tm, ty, ats⟩]) ∧ (∀ b, F' b → b = q ∨ W7.heap.size ≤ b) := by
        by_cases hacc : accErr 16 sd0 ([] : List Ev).length ⟨s, 0, tm, ty, ats⟩ = 0
        · exact (sAccept_ok (fun b => b = q) q 16 sd0 [] ⟨s, 0, tm, ty, ats⟩ (P6 + 1) a6 ats.length k6 W7 hst7 hav6 (by omega) HTY.out hno6 hacc).mono fun e w' ⟨he, hp⟩ => ⟨0, _, _, _, he, hp.1, hp.2, fun _ => rfl, fun b hb => hb.imp id (fun h => h.1)⟩
        · exact (sAccept_err (fun b => b = q) q 16 sd0 [] ⟨s, 0, tm, ty, ats⟩ (P6 + 1) a6 ats.length k6 W7 hst7 hav6 (by omega) HTY.out hacc).mono fun e w' ⟨he, hp⟩ => ⟨_, _, _, _, he, hst7.below hp, Chg.of_below hp, fun h => absurd h hacc, fun b hb => .inl hb⟩
      have HCA := hide CA; have HGE7 := hide hge7
      have HLA : Hid (∀ F' sd' evs' w', StIs w' F' q 16 sd' evs' → Chg (fun b => b = q) W7 w' → (∀ b, F' b → b = q ∨ W7.heap.size ≤ b) → Lv (P1 + 1) W1 P7 ⟨s, 0, tm, ty, ats⟩ (.slice a7 ats.length k7) F' q sd' evs' w' ∧ P7 + 1 ≤ w'.heap.size ∧ w'.heap[P6]? = some (.cells #[.int .i64 s, .int .i64 0, .int .i64 tm, .string ty, .slice a6 ats.length k6] 35 (0, 0)) ∧
          (0 < ats.length → ∃ g, a6 = some ⟨g, 0, none⟩ ∧ (P1 + 1 ≤ g ∧ g ≠ P6 ∧ g ≠ P7 ∧ (∀ a n c, Value.slice a7 ats.length k7 = .slice (some a) n c → a.block ≠ g) ∧ ¬ F' g) ∧ Nrow g ats.length w' w')) := fun F' sd' evs' w' h1 h2 h3 => by
        refine ⟨⟨hb9.trans (h2.below (by have := (HX1.out _ hb9).2.2.2.2.2; exact this) (fun b hb => by rw [hb]; exact hP1q)), (h2.block P7 (by omega) (by omega)).trans hy7, (hay7.apart (Nat.le_refl _) h2 (fun a n c e _ hb => by have := (hge7 a n c e).1; omega)).mono h2.size, h1⟩, by have := h2.size; omega, (h2.block P6 (by omega) (by omega)).trans hbx6, fun h0 => ?_⟩
        obtain ⟨g, cap6, hv, hg1, hg2, hN⟩ := Nrow.of_own HO6.out h0
        obtain ⟨rfl, -, -⟩ : a6 = some ⟨g, 0, none⟩ ∧ True ∧ True := by cases hv; exact ⟨rfl, trivial, trivial⟩
        have hgP := (HGE6.out ⟨g, 0, none⟩ _ _ rfl)
        simp only at hgP
        have hgq : q < g := by have h2 := HQ5.out; rw [← hq] at h2; omega
        have hc7 : Chg (fun b => b = q) W6 w' := (Chg.of_below (F := fun b => b = q) (by rw [HS6.out]; exact hb7)).trans h2 (fun j hj => .inl hj)
        have hkeep : w'.heap[g]? = W6.heap[g]? := hc7.block g hg2 (by omega)
        refine ⟨g, rfl, ⟨by omega, by omega, by omega, fun a n c e hh => by have := (hge7 a n c e).1; omega, fun hF => ?_⟩, ⟨fun t ht => ?_, fun j hj => ?_, Chg.refl _ _⟩⟩
        · rcases h3 g hF with h | h <;> omega
        · rw [World.frozen?_of_block (a := ⟨g, t, none⟩) hkeep]; exact hN.free t ht
        · obtain ⟨u, hu⟩ := hN.num j hj
          exact ⟨u, (World.cell?_of_block (a := ⟨g, j * 4 + 1 + 1, none⟩) hkeep).trans hu⟩
      have HQQ := hide hq
      rw [← hq]
      clear hW7 hP7 hs7 hb7 hz7 hy7 hay7 hge7 hP1q hqP6 hb9 hst7 hav6 hbx6 hno6 CA hq
      go_wp2_with (go_at_call 8; (with_reducible refine (HCA.out).mono ?_); rintro e w8 ⟨e0, F', sd', evs', rfl, h1, h2, h3, h4⟩; have hl := HLA.out F' sd' evs' w8 h1 h2 h4; have HE0 := hide h3; have HLV := hide hl; obtain ⟨d0, d1, d2, d3, d4⟩ := cell_of_five hl.2.2.1; clear h1 h2 h3 h4 hl HCA HLA c0 c1 c2 c3 c4)
      have hmm : ats.length ≤ 9223372036854775807 := by have := HLN.out; omega
      go_loopw [71] (fun iv wq => ∃ i2 : Nat, i2 ≤ ats.length ∧ iv = .int .i64 i2 ∧ Hid (Lv (P1 + 1) W1 P7 ⟨s, 0, tm, ty, ats⟩ (.slice a7 ats.length k7) F' q sd' evs' wq ∧ P7 + 1 ≤ wq.heap.size ∧ wq.heap[P6]? = some (.cells #[.int .i64 s, .int .i64 0, .int .i64 tm, .string ty, .slice a6 ats.length k6] 35 (0, 0)) ∧
          (0 < ats.length → ∃ g, a6 = some ⟨g, 0, none⟩ ∧ (P1 + 1 ≤ g ∧ g ≠ P6 ∧ g ≠ P7 ∧ (∀ a n c, Value.slice a7 ats.length k7 = .slice (some a) n c → a.block ≠ g) ∧ ¬ F' g) ∧ Nrow g ats.length w8 wq))) (fun iv _ => ats.length - (intOf iv).toNat)
      case atStart => exact ⟨0, Nat.zero_le _, rfl, HLV.out⟩
      case round =>
        obtain ⟨i2, hi2, rfl, HR⟩ := hrel
        by_cases hlt : i2 < ats.length
        · obtain ⟨hl, hz, hp3, hg3⟩ := HR.out
          obtain ⟨g, rfl, hg1, hN⟩ := hg3 (by omega)
          clear d0 d1 d2 d3 d4
          obtain ⟨d0, d1, d2, d3, d4⟩ := cell_of_five hp3
          have hf := hN.free (i2 * 4 + 1 + 1) (by omega)
          obtain ⟨u, hu⟩ := hN.num i2 hlt
          have HLq := hide hl; have HZq := hide hz; have HP3 := hide hp3; have HN := hide hN; have HG1 := hide hg1
          have HBB := hide (HX1.out _ hl.base).2.2.2.2.2
          have hiz : (0 : Int) ≤ (i2 : Int) := by omega
          clear hl hz hp3 hg3 hN hg1
          go_wp2
          go_roundw
          case rel =>
            have hch := fun u => (Chg.refl (fun b => b = g) wr).setCell (p := ⟨g, i2 * 4 + 1 + 1, none⟩) rfl u
            exact ⟨i2 + 1, by omega, by go_num, HLq.out.chg (hch _) (fun b (hb : b = g) => by rw [hb]; exact ⟨HG1.out.1, HG1.out.2.2.1, HG1.out.2.2.2.1, HG1.out.2.2.2.2⟩) HBB.out, by simpa using HZq.out, heap_setCell_far HP3.out (Ne.symm HG1.out.2.1) _, fun _ => ⟨g, rfl, HG1.out, HN.out.put i2 _⟩⟩
          case measure => simp [intOf]; omega
        · obtain rfl : i2 = ats.length := by omega
          have HLr := hide HR.out.1; have HZr := hide HR.out.2.1
          have HBB := hide (HX1.out _ HR.out.1.base).2.2.2.2.2
          clear hlt hi2 HR HLV d0 d1 d2 d3 d4 hmm
          have C8 := sAll_any F' q 16 sd' evs'
          have HC8 := hide C8
          clear C8
          go_wp2_with (go_at_call 21; (with_reducible refine (HC8.out _ HLr.out.st).mono ?_); rintro e w9 ⟨Bc, rfl, hall, hb⟩; have HL9 := hide (HLr.out.below hb HBB.out); have HZ9 := hide (Nat.le_trans HZr.out hb.size); have HALL := hide (hall.up hb.size (Nat.le_refl _)); clear hall hb)
          obtain ⟨N0, hN0⟩ : ∃ N0, N0 = w9.heap.size := ⟨_, rfl⟩
          have HBB9 := hide (HX1.out _ HL9.out.base).2.2.2.2.2
          have HF9 := hide (show ∀ b, F' b → b < N0 from fun b hb => by rw [hN0]; exact HL9.out.st.flt b hb)
          have hP7 : P7 < N0 := by rw [hN0]; exact HZ9.out
          have hP1 : P1 + 1 ≤ N0 := by rw [hN0]; exact HBB9.out
          have hall := HALL.out
          rw [← hN0] at hall
          have HN0 := hide hN0
          have hstops := hall.stops 11 (by decide)
          clear hN0 hall
          refine (wpIn_wide (n := 12)).1 ?_
          refine wpIn_rangeFunc_HB 11 rfl (by decide) (gf := 56) (lb := #[.pointer (some ⟨Bc, 0, none⟩)]) rfl trivial (enters_of Try.func56 (by kernel_rfl) rfl)
            hstops kpY_t (fun W l o o' hl h ho _ => kpY_b o' (by rw [HN0.out]; exact hl) h ho) (Below.refl _ _) (fun _ => rfl)
            (fun (_ : List (Ev × Value)) (W : World) => Lv (P1 + 1) W1 P7 ⟨s, 0, tm, ty, ats⟩ (.slice a7 ats.length k7) F' q sd' evs' W ∧ N0 ≤ W.heap.size)
            (fun _ _ _ => False) ?ownI (fun _ _ _ _ _ hs _ _ => hs) ⟨HL9.out, by rw [HN0.out]; exact Nat.le_refl _⟩
            (fun (x : Ev × Value) (Bx : Nat) (W : World) => ∃ va vk, N0 ≤ Bx ∧ x.2 = .slice va x.1.ats.length vk ∧ W.heap[Bx]? = some (.cells #[.int .i64 x.1.src, .int .i64 x.1.seq, .int .i64 x.1.time, .string x.1.ty, .slice va x.1.ats.length vk] 35 (0, 0)) ∧ HC N0 x W)
            ?ownA ?assign ?body ?done (fun _ _ _ _ _ _ h _ => h.elim)
          case ownI =>
            rintro _ A B row ⟨hs, hz⟩ hg hr
            rw [← HN0.out] at hr
            refine ⟨hs.chg (G := fun b => row = some b) ⟨hg.os, hg.tape, hg.output, hg.size, fun k hk hne => hg.block k hk (fun e => hne e.symm)⟩ (fun b hb => ?_) (by omega), Nat.le_trans hz hg.size⟩
            have hbN := (hr b hb).1
            refine ⟨by omega, by omega, fun a n c e hh => by have := (HGE7.out a n c e).2; omega, fun hF => by have := HF9.out b hF; omega⟩
          case ownA =>
            rintro x Bx _ A B row ⟨va, vk, g1, g2, g3, g4⟩ hg hr
            have hno : ∀ (k : Nat) (cs : Array Value) (t : Nat), A.heap[k]? = some (.cells cs t (0, 0)) → B.heap[k]? = some (.cells cs t (0, 0)) := fun k cs t hk =>
              (hg.block k (Array.getElem?_eq_some_iff.1 hk).1 (fun e => by obtain ⟨_, o, ho, hc⟩ := hr k e.symm; rw [hk] at ho; cases ho; cases hc)).trans hk
            refine ⟨va, vk, g1, g2, hno _ _ _ g3, ⟨⟨g4.1.1, ?_⟩, g4.2⟩⟩
            rcases g4.1.2 with hn | ⟨g, cap, cur, hv, hb, hgg, rest⟩
            · exact .inl hn
            · exact .inr ⟨g, cap, cur, hv, hb, hno _ _ _ hgg, rest⟩
          case assign =>
            rintro l' pre ⟨x, v⟩ W K ⟨hi, hz⟩ hc hK
            obtain ⟨va, vk, hv⟩ := own_slice hc.1
            simp only at hv
            subst hv
            have hK := hide hK
            unfold evV
            gi_wp2
            have hb : Below W.heap.size W (W.alloc (.cells #[.int .i64 x.src, .int .i64 x.seq, .int .i64 x.time, .string x.ty, .slice va x.ats.length vk] 35)) := (Below.refl _ _).alloc (Nat.le_refl _) _
            have hk := hK.out W.heap.size _ ((KeepsOthers.alloc _ _).from _) ⟨hb.mono (by omega), fun k cs fr hk => (hb.block k (Array.getElem?_eq_some_iff.1 hk).1).trans hk⟩ ⟨hi.below hb (HX1.out _ hi.base).2.2.2.2.2, Nat.le_trans hz hb.size⟩ ⟨va, vk, hz, rfl, heap_alloc_new _ _, ⟨hc.1.alloc _, hc.2⟩⟩
            clear hK
            simpa [boxAct, evV] using hk
          case body =>
            rintro l' pre ⟨x, v⟩ Bx W hl' hr ⟨hi, hz⟩ ⟨va, vk, hBx, hv, hx, hC⟩ hlen
            simp only at hv hx
            subst hv
            unfold boxAct
            obtain ⟨M, hM⟩ : ∃ M, M = x.ats.length := ⟨_, rfl⟩
            have hM63 : M ≤ 9223372036854775807 := by have := hC.2.2; simp only at this; omega
            have hG : ∀ b, (0 < M ∧ ∃ o, va = some ⟨b, o, none⟩) → N0 ≤ b ∧ b ≠ Bx ∧ ∃ cur, W.heap[b]? = some (.cells cur 57 (0, 0)) := by
              rintro b ⟨h0, o, rfl⟩
              rcases hC.1.2 with ⟨hv, hn⟩ | ⟨g, cap, cur, hv, hb, hgg, _⟩
              · cases hv
              · cases hv
                exact ⟨hb, (fun e => by rw [e, hx] at hgg; cases hgg), cur, hgg⟩
            have hR : Chg (fun b => 0 < M ∧ ∃ o, va = some ⟨b, o, none⟩) W W ∧ (0 < M → ∃ g, va = some ⟨g, 0, none⟩ ∧ g ≠ Bx ∧ Nrow g M W W) := by
              refine ⟨Chg.refl _ _, fun h0 => ?_⟩
              rw [hM] at h0 ⊢
              obtain ⟨g, cap2, hv, _, _, hN⟩ := Nrow.of_own hC.1 h0
              simp only [Value.slice.injEq] at hv
              exact ⟨g, hv.1, (hG g ⟨by rw [hM]; exact h0, 0, hv.1⟩).2.1, hN⟩
            have HGG := hide hG; have HR := hide hR; have HXB := hide hx; have HI := hide hi; have HZW := hide hz
            have HBW := hide (HX1.out _ hi.base).2.2.2.2.2
            rw [← hM]
            have hx' := hx
            rw [← hM] at hx'
            obtain ⟨d0, d1, d2, d3, d4⟩ := cell_of_five hx'
            clear hG hR hx hi hz hC hM hstops
            gi_wp2
            gi_loopw [92] (fun iv wq => ∃ i3 : Nat, i3 ≤ M ∧ iv = .int .i64 i3 ∧ Hid (Chg (fun b => 0 < M ∧ ∃ o, va = some ⟨b, o, none⟩) W wq ∧ (0 < M → ∃ g, va = some ⟨g, 0, none⟩ ∧ g ≠ Bx ∧ Nrow g M W wq))) (fun iv _ => M - (intOf iv).toNat)
            case atStart => exact ⟨0, Nat.zero_le _, rfl, HR.out⟩
            case round =>
              obtain ⟨i3, hi3, rfl, HR3⟩ := hrel
              by_cases hlt : i3 < M
              · obtain ⟨hc3, hg3⟩ := HR3.out
                obtain ⟨g, rfl, hgB, hN⟩ := hg3 (by omega)
                clear d0 d1 d2 d3 d4
                obtain ⟨d0, d1, d2, d3, d4⟩ := cell_of_five ((hN.chg.block Bx (Array.getElem?_eq_some_iff.1 hx').1 (fun e => hgB e.symm)).trans hx')
                have hf := hN.free (i3 * 4 + 1 + 1) (by omega)
                obtain ⟨u, hu⟩ := hN.num i3 hlt
                have hiz : (0 : Int) ≤ (i3 : Int) := by omega
                have HN := hide hN; have HC3 := hide hc3; have HGB := hide hgB
                clear hc3 hg3 hN hgB
                have hd1 : decide (i3 < M) = true := by simpa using hlt
                gi_wp2
                go_roundw
                case rel => exact ⟨i3 + 1, by omega, by go_num, HC3.out.setCell (p := ⟨g, i3 * 4 + 1 + 1, none⟩) ⟨by omega, 0, rfl⟩ _, fun _ => ⟨g, rfl, HGB.out, HN.out.put i3 _⟩⟩
                case measure => simp [intOf]; omega
              · obtain rfl : i3 = M := by omega
                have HC3 := hide HR3.out.1
                clear hlt hi3 HR3 d0 d1 d2 d3 d4
                have hd1 : decide (i3 < i3) = false := by simp
                gi_wp2
                have hc := HC3.out
                have hbel : Below N0 W wr := hc.below HZW.out (fun k hk => (HGG.out k hk).1)
                have hlv := HI.out.chg hc (fun b hb => by
                  have hbN := (HGG.out b hb).1
                  exact ⟨by omega, by omega, fun a n c e hh => by have := (HGE7.out a n c e).2; omega, fun hF => by have := HF9.out b hF; omega⟩) HBW.out
                refine ⟨⟨hc.size, fun k o hle hk ho => ?_⟩, ⟨hbel, fun k cs fr hk => ?_⟩, hlv, Nat.le_trans HZW.out hc.size⟩
                · exact (hc.block k (Array.getElem?_eq_some_iff.1 hk).1 (fun hb => by obtain ⟨_, _, cur, h⟩ := HGG.out k hb; rw [hk] at h; cases h; cases ho)).trans hk
                · exact (hc.block k (Array.getElem?_eq_some_iff.1 hk).1 (fun hb => by obtain ⟨_, _, cur, h⟩ := HGG.out k hb; rw [hk] at h; cases h)).trans hk
          case done =>
            rintro D xs W hD hS ⟨hi, hz⟩ hK
            obtain ⟨c0, c1, c2, c3, c4⟩ := cell_of_five hi.box
            have HIB := hide hi.base; have HK := hide hK; have HDD := hide hD
            have HBW := hide (HX1.out _ hi.base).2.2.2.2.2
            clear hstops hz hK hS hD
            by_cases he0 : e0 = 0
            · subst he0
              obtain rfl : evs' = [⟨s, 0, tm, ty, ats⟩] := HE0.out rfl
              have HA := hide (fun (W' : World) (hb : Below W.heap.size W W') => (sAll_any F' q 16 sd' [⟨s, 0, tm, ty, ats⟩] W' (hi.st.below hb)))
              have HV := hide (fun (W' : World) (hb : Below W.heap.size W W') => (hb.block P7 (Array.getElem?_eq_some_iff.1 hi.box).1).trans hi.box)
              have HAV := hide (fun (W' : World) (hb : Below W.heap.size W W') => (hi.av.below hb (Nat.le_refl _)).mono hb.size)
              have HROW := hide (fun (w' : World) (hb : Below ((W.alloc (.cells #[.int .i64 s, .int .i64 0, .int .i64 tm, .string ty, .slice a7 ats.length k7] 35)).drew).heap.size ((W.alloc (.cells #[.int .i64 s, .int .i64 0, .int .i64 tm, .string ty, .slice a7 ats.length k7] 35)).drew) w') => (hb.block W.heap.size (by show W.heap.size < (W.alloc _).heap.size; simp)).trans (show ((W.alloc (.cells #[.int .i64 s, .int .i64 0, .int .i64 tm, .string ty, .slice a7 ats.length k7] 35)).drew).heap[W.heap.size]? = some (.cells #[.int .i64 s, .int .i64 0, .int .i64 tm, .string ty, .slice a7 ats.length k7] 35 (0, 0)) from heap_alloc_new W _))
              have hB : Below W.heap.size W W := Below.refl _ _
              have HB := hide hB
              clear hi hB
              go_wp2_with fail
              go_region_held3 (fun w' => w'.cell? ⟨P7, 0, none⟩ = some (.int .i64 s) ∧ w'.cell? ⟨P7, 1, none⟩ = some (.int .i64 0) ∧ w'.cell? ⟨P7, 2, none⟩ = some (.int .i64 tm) ∧ w'.cell? ⟨P7, 3, none⟩ = some (.string ty) ∧ w'.cell? ⟨P7, 4, none⟩ = some (.slice a7 ats.length k7)) (first | exact ⟨c0, c1, c2, c3, c4⟩ | go_keep)
                (first
                  | (go_at_call 21; go_loud ((with_reducible refine (HA.out _ (by first | exact (Below.refl _ _).drew | exact ((Below.refl _ _).alloc (Nat.le_refl _) _).drew | exact ((Below.refl _ _).drew).alloc (Nat.le_refl _) _)).mono ?_); rintro e w10 ⟨Bc2, rfl, hal, hb⟩; have HBA := hide hb; have HB := hide ((show Below W.heap.size W _ from (by first | exact (Below.refl _ _).drew | exact ((Below.refl _ _).alloc (Nat.le_refl _) _).drew | exact ((Below.refl _ _).drew).alloc (Nat.le_refl _) _)).trans (hb.mono (by first | exact Nat.le_refl _ | (show W.heap.size ≤ (W.alloc _).heap.size; simp)))); have HAL := hide (hal.up hb.size (Nat.le_refl _)); clear hal hb c0 c1 c2 c3 c4; obtain ⟨c0, c1, c2, c3, c4⟩ := cell_of_five (HV.out _ HB.out)))
                  | (go_at_call 20; first
                      | ((with_reducible refine (told_one Bc2 ⟨s, 0, tm, ty, ats⟩ _ _ _ ((HAL.out.below ((Below.refl _ _).alloc (Nat.le_refl _) _)).up (by simp) (Nat.le_refl _)) (heap_alloc_new w10 _) (HAV.out _ (HB.out.alloc HB.out.size _))).mono ?_); rintro e w11 ⟨rfl, hb⟩; have HB := hide ((HB.out.alloc HB.out.size _).trans (hb.mono (by have := HB.out.size; simp; omega))); clear hb c0 c1 c2 c3 c4; obtain ⟨c0, c1, c2, c3, c4⟩ := cell_of_five (HV.out _ HB.out))
                      | ((with_reducible refine (told_one Bc2 ⟨s, 0, tm, ty, ats⟩ _ _ _ HAL.out (HROW.out _ HBA.out) (HAV.out _ HB.out)).mono ?_); rintro e w11 ⟨rfl, hb⟩; have HB := hide (HB.out.trans (hb.mono HB.out.size)); clear hb c0 c1 c2 c3 c4; obtain ⟨c0, c1, c2, c3, c4⟩ := cell_of_five (HV.out _ HB.out))))
              all_goals
                clear c0 c1 c2 c3 c4
                have hbx : Below (P1 + 1) W1 w11 := HIB.out.trans (HB.out.mono HBW.out)
                have hkx : w11.heap[D]? = some (.deferred (some [])) := (HB.out.block D (Array.getElem?_eq_some_iff.1 HK.out).1).trans HK.out
                have HBX := hide hbx; have HKX := hide hkx
                clear hbx hkx
                go_wp2_with fail
                go_loopw [121] (fun iv wr => ∃ k : Nat, k ≤ 2 ∧ iv = .int .i64 k ∧ Hid (Below w11.heap.size w11 wr ∧ wr.cell? ⟨w11.heap.size, 0, none⟩ = some (.int .i64 0) ∧ wr.cell? ⟨w11.heap.size + 1, 0, none⟩ = some (.pointer none) ∧ wr.cell? ⟨w11.heap.size + 1, 1, none⟩ = some (.pointer (some ⟨w11.heap.size, 0, none⟩)))) (fun iv _ => 2 - (intOf iv).toNat)
                case atStart =>
                  refine ⟨0, by omega, rfl, ((Below.refl _ _).alloc (Nat.le_refl _) _).alloc (by simp) _, ?_, ?_, ?_⟩
                  · simp [World.cell?, heap_alloc_keeps (heap_alloc_new w11 _) _]
                  · exact (cell_of_two' (heap_alloc_at (by simp) rfl)).1
                  · exact (cell_of_two' (heap_alloc_at (by simp) rfl)).2
                case round =>
                  obtain ⟨k, hk, rfl, HR⟩ := hrel
                  have hbz : Below (P1 + 1) W1 wr := HBX.out.trans (HR.out.1.mono (HX1.out _ HBX.out).2.2.2.2.2)
                  have HBZ := hide hbz
                  clear hbz
                  by_cases hlt : k < 2
                  · have hno : ∃ o, wr.cell? ⟨w11.heap.size + 1, k, none⟩ = some (.pointer o) ∧ NoS o wr := by
                      obtain ⟨h1, h2, h3, h4⟩ := HR.out
                      rcases (by omega : k = 0 ∨ k = 1) with rfl | rfl
                      · exact ⟨none, h3, .inl rfl⟩
                      · exact ⟨some ⟨w11.heap.size, 0, none⟩, h4, .inr ⟨_, rfl, h2⟩⟩
                    obtain ⟨o, hco, hno⟩ := hno
                    have HNO := hide (fun (W' : World) (hb : Below wr.heap.size wr W') => hno.below hb)
                    obtain ⟨c0, c1, c2, c3, c4⟩ := cell_of_five (HX1.out wr HBZ.out).1
                    have C1 := fun (W' : World) (hb : Below wr.heap.size wr W') => sAccept_no o ⟨s, sq, tm, ty, ats⟩ (.slice ao n cap) W' (HNO.out W' hb)
                    unfold evV at C1
                    have HC1 := hide C1
                    have hB0 : Below wr.heap.size wr wr := Below.refl _ _
                    have HBr := hide hB0
                    have hiz : (0 : Int) ≤ (k : Int) := by omega
                    have hi2 : (k : Int) < 2 := by omega
                    clear hno C1 hB0
                    go_wp2_with (first
                      | (go_at_call 8; (with_reducible refine (HC1.out _ HBr.out).mono ?_); rintro e wa ⟨rfl, hb⟩; have HBr := hide (HBr.out.trans (hb.mono HBr.out.size)); clear hb c0 c1 c2 c3 c4)
                      | (go_at_call 10; (with_reducible refine (sClose_no o 0 _ (HNO.out _ HBr.out)).mono ?_); rintro e wa ⟨rfl, rfl⟩)
                      | (go_at_call 15; (with_reducible refine (sMark_no o 0 _ (HNO.out _ HBr.out)).mono ?_); rintro e wa ⟨rfl, hb⟩; have HBr := hide (HBr.out.trans (hb.mono HBr.out.size)); clear hb)
                      | (go_at_call 13; (with_reducible refine (sNext_no o 0 _ (HNO.out _ HBr.out)).mono ?_); rintro e wa ⟨rfl, hb⟩; have HBr := hide (HBr.out.trans (hb.mono HBr.out.size)); clear hb)
                      | (go_at_call 17; (with_reducible refine (sClosed_no o 0 _ (HNO.out _ HBr.out)).mono ?_); rintro e wa ⟨rfl, hb⟩; have HBr := hide (HBr.out.trans (hb.mono HBr.out.size)); clear hb)
                      | (go_at_call 21; (with_reducible refine (sAll_no o _ (HNO.out _ HBr.out)).mono ?_); rintro e wa ⟨rfl, rfl⟩)
                      | (go_at_call 20; (with_reducible refine (told_none _).mono ?_); rintro e wa ⟨rfl, hb⟩; have HBr := hide (HBr.out.trans (hb.mono HBr.out.size)); clear hb)
                      | (go_at_call 19; (with_reducible refine (sLen_no o _ (HNO.out _ HBr.out)).mono ?_); rintro e wa ⟨rfl, rfl⟩)
                      | (go_at_call 22; (with_reducible refine (sSources_no o _ (HNO.out _ HBr.out)).mono ?_); rintro e wa ⟨rfl, rfl⟩)
                      | (go_at_call 12; (with_reducible refine (sCloneS_no o _ (HNO.out _ HBr.out)).mono ?_); rintro e wa ⟨rfl, rfl⟩))
                    go_roundw
                    case rel =>
                      obtain ⟨h1, h2, h3, h4⟩ := HR.out
                      exact ⟨k + 1, by omega, by go_num, h1.trans (HBr.out.mono h1.size), (HBr.out.cell (block_lt_of_cell h2)).trans h2, (HBr.out.cell (block_lt_of_cell h3)).trans h3, (HBr.out.cell (block_lt_of_cell h4)).trans h4⟩
                    case measure => simp [intOf]; omega
                  · obtain rfl : k = 2 := by omega
                    have HBR := hide HR.out.1
                    clear hlt hk HR
                    have C1 := ePut_nil ⟨s, sq, tm, ty, ats⟩ (.slice ao n cap)
                    have C2 := fun (W' : World) => r4Same_any ⟨0, 0, 0, ⟨#[]⟩, []⟩ ⟨0, 0, 0, ⟨#[]⟩, []⟩ 0 0 none 0 0 none 0 0 W' (Av.nil _ _) (Av.nil _ _) (Nat.zero_le _) (Nat.zero_le _)
                    rw [sameE_refl] at C2
                    unfold evV at C1 C2
                    have HC1 := hide C1; have HC2 := hide C2
                    have hB0 : Below wr.heap.size wr wr := Below.refl _ _
                    have HBr := hide hB0
                    clear C1 C2 hB0
                    go_wp2_with (first
                      | (go_at_call 26; (with_reducible refine (eTake_nil _).mono ?_); rintro e wa ⟨rfl, hb⟩; have HBr := hide ((HBr.out.trans (hb.mono HBr.out.size)).alloc (HBr.out.trans (hb.mono HBr.out.size)).size (.cells #[.int .i64 0, .int .i64 0, .int .i64 0, .string ⟨#[]⟩, .slice none 0 0] 35)); obtain ⟨c0, c1, c2, c3, c4⟩ := cell_of_five (HX1.out _ (HBZ.out.trans (HBr.out.mono (HX1.out _ HBZ.out).2.2.2.2.2))).1; have HBt := hide (show Below wa.heap.size wa wa from Below.refl _ _); clear hb)
                      | (go_at_call 27; (with_reducible refine (HC1.out _).mono ?_); rintro e wb ⟨rfl, hb⟩; have HBr := hide (HBr.out.trans (hb.mono HBr.out.size)); clear c0 c1 c2 c3 c4; obtain ⟨c0, c1, c2, c3, c4⟩ := cell_of_five ((hb.block wa.heap.size (by simp)).trans (heap_alloc_new wa _)); clear hb)
                      | (go_at_call 25; (with_reducible refine (HC2.out _).mono ?_); rintro e wc ⟨rfl, hb⟩; have HBr := hide (HBr.out.trans (hb.mono HBr.out.size)); clear hb c0 c1 c2 c3 c4))
                    have hkf : wc.heap[D]? = some (.deferred (some [])) := (HBr.out.block D (by have := (Array.getElem?_eq_some_iff.1 HKX.out).1; have := HBR.out.size; omega)).trans ((HBR.out.block D (Array.getElem?_eq_some_iff.1 HKX.out).1).trans HKX.out)
                    refine ⟨by simp, .inl ⟨_, _, rfl, run_takeDeferred hkf, ?_⟩⟩
                    refine ⟨_, results_tmp rfl _ _ _, rfl, ?_⟩
                    have hz := (HX1.out _ HBZ.out).2.2.2.2.2
                    have hf1 : Below (P + 1) W0 wc := (HX1.out wc (HBZ.out.trans (HBr.out.mono hz))).2.2.2.2.1
                    have hf2 : Below P w wc := HB0.out.trans (hf1.mono (by omega))
                    have hPD : P ≤ D := by have h1 := HDD.out; have h2 := HPP.out; have h3 := HBB9.out; omega
                    first
                      | exact hf2.trans (kpY_b _ hPD hkf rfl).1
                      | (rw [← HP.out]; exact hf2.trans (kpY_b _ hPD hkf rfl).1)
            · have he1 : (e0 == 0) = false := by simpa using he0
              have he2 : decide (e0 = 0) = false := by simpa using he0
              clear hi
              go_wp2_with fail
              go_quiet (fail)
              obtain ⟨w11, hw11⟩ : ∃ w11, w11 = W.drewN nq := ⟨_, rfl⟩
              have HB := hide (show Below W.heap.size W w11 by rw [hw11]; exact Below.drewN' (Below.refl _ _) _)
              rw [← hw11]
              clear hw11
              clear c0 c1 c2 c3 c4
              have hbx : Below (P1 + 1) W1 w11 := HIB.out.trans (HB.out.mono HBW.out)
              have hkx : w11.heap[D]? = some (.deferred (some [])) := (HB.out.block D (Array.getElem?_eq_some_iff.1 HK.out).1).trans HK.out
              have HBX := hide hbx; have HKX := hide hkx
              clear hbx hkx
              go_wp2_with fail
              go_loopw [121] (fun iv wr => ∃ k : Nat, k ≤ 2 ∧ iv = .int .i64 k ∧ Hid (Below w11.heap.size w11 wr ∧ wr.cell? ⟨w11.heap.size, 0, none⟩ = some (.int .i64 0) ∧ wr.cell? ⟨w11.heap.size + 1, 0, none⟩ = some (.pointer none) ∧ wr.cell? ⟨w11.heap.size + 1, 1, none⟩ = some (.pointer (some ⟨w11.heap.size, 0, none⟩)))) (fun iv _ => 2 - (intOf iv).toNat)
              case atStart =>
                refine ⟨0, by omega, rfl, ((Below.refl _ _).alloc (Nat.le_refl _) _).alloc (by simp) _, ?_, ?_, ?_⟩
                · simp [World.cell?, heap_alloc_keeps (heap_alloc_new w11 _) _]
                · exact (cell_of_two' (heap_alloc_at (by simp) rfl)).1
                · exact (cell_of_two' (heap_alloc_at (by simp) rfl)).2
              case round =>
                obtain ⟨k, hk, rfl, HR⟩ := hrel
                have hbz : Below (P1 + 1) W1 wr := HBX.out.trans (HR.out.1.mono (HX1.out _ HBX.out).2.2.2.2.2)
                have HBZ := hide hbz
                clear hbz
                by_cases hlt : k < 2
                · have hno : ∃ o, wr.cell? ⟨w11.heap.size + 1, k, none⟩ = some (.pointer o) ∧ NoS o wr := by
                    obtain ⟨h1, h2, h3, h4⟩ := HR.out
                    rcases (by omega : k = 0 ∨ k = 1) with rfl | rfl
                    · exact ⟨none, h3, .inl rfl⟩
                    · exact ⟨some ⟨w11.heap.size, 0, none⟩, h4, .inr ⟨_, rfl, h2⟩⟩
                  obtain ⟨o, hco, hno⟩ := hno
                  have HNO := hide (fun (W' : World) (hb : Below wr.heap.size wr W') => hno.below hb)
                  obtain ⟨c0, c1, c2, c3, c4⟩ := cell_of_five (HX1.out wr HBZ.out).1
                  have C1 := fun (W' : World) (hb : Below wr.heap.size wr W') => sAccept_no o ⟨s, sq, tm, ty, ats⟩ (.slice ao n cap) W' (HNO.out W' hb)
                  unfold evV at C1
                  have HC1 := hide C1
                  have hB0 : Below wr.heap.size wr wr := Below.refl _ _
                  have HBr := hide hB0
                  have hiz : (0 : Int) ≤ (k : Int) := by omega
                  have hi2 : (k : Int) < 2 := by omega
                  clear hno C1 hB0
                  go_wp2_with (first
                    | (go_at_call 8; (with_reducible refine (HC1.out _ HBr.out).mono ?_); rintro e wa ⟨rfl, hb⟩; have HBr := hide (HBr.out.trans (hb.mono HBr.out.size)); clear hb c0 c1 c2 c3 c4)
                    | (go_at_call 10; (with_reducible refine (sClose_no o 0 _ (HNO.out _ HBr.out)).mono ?_); rintro e wa ⟨rfl, rfl⟩)
                    | (go_at_call 15; (with_reducible refine (sMark_no o 0 _ (HNO.out _ HBr.out)).mono ?_); rintro e wa ⟨rfl, hb⟩; have HBr := hide (HBr.out.trans (hb.mono HBr.out.size)); clear hb)
                    | (go_at_call 13; (with_reducible refine (sNext_no o 0 _ (HNO.out _ HBr.out)).mono ?_); rintro e wa ⟨rfl, hb⟩; have HBr := hide (HBr.out.trans (hb.mono HBr.out.size)); clear hb)
                    | (go_at_call 17; (with_reducible refine (sClosed_no o 0 _ (HNO.out _ HBr.out)).mono ?_); rintro e wa ⟨rfl, hb⟩; have HBr := hide (HBr.out.trans (hb.mono HBr.out.size)); clear hb)
                    | (go_at_call 21; (with_reducible refine (sAll_no o _ (HNO.out _ HBr.out)).mono ?_); rintro e wa ⟨rfl, rfl⟩)
                    | (go_at_call 20; (with_reducible refine (told_none _).mono ?_); rintro e wa ⟨rfl, hb⟩; have HBr := hide (HBr.out.trans (hb.mono HBr.out.size)); clear hb)
                    | (go_at_call 19; (with_reducible refine (sLen_no o _ (HNO.out _ HBr.out)).mono ?_); rintro e wa ⟨rfl, rfl⟩)
                    | (go_at_call 22; (with_reducible refine (sSources_no o _ (HNO.out _ HBr.out)).mono ?_); rintro e wa ⟨rfl, rfl⟩)
                    | (go_at_call 12; (with_reducible refine (sCloneS_no o _ (HNO.out _ HBr.out)).mono ?_); rintro e wa ⟨rfl, rfl⟩))
                  go_roundw
                  case rel =>
                    obtain ⟨h1, h2, h3, h4⟩ := HR.out
                    exact ⟨k + 1, by omega, by go_num, h1.trans (HBr.out.mono h1.size), (HBr.out.cell (block_lt_of_cell h2)).trans h2, (HBr.out.cell (block_lt_of_cell h3)).trans h3, (HBr.out.cell (block_lt_of_cell h4)).trans h4⟩
                  case measure => simp [intOf]; omega
                · obtain rfl : k = 2 := by omega
                  have HBR := hide HR.out.1
                  clear hlt hk HR
                  have C1 := ePut_nil ⟨s, sq, tm, ty, ats⟩ (.slice ao n cap)
                  have C2 := fun (W' : World) => r4Same_any ⟨0, 0, 0, ⟨#[]⟩, []⟩ ⟨0, 0, 0, ⟨#[]⟩, []⟩ 0 0 none 0 0 none 0 0 W' (Av.nil _ _) (Av.nil _ _) (Nat.zero_le _) (Nat.zero_le _)
                  rw [sameE_refl] at C2
                  unfold evV at C1 C2
                  have HC1 := hide C1; have HC2 := hide C2
                  have hB0 : Below wr.heap.size wr wr := Below.refl _ _
                  have HBr := hide hB0
                  clear C1 C2 hB0
                  go_wp2_with (first
                    | (go_at_call 26; (with_reducible refine (eTake_nil _).mono ?_); rintro e wa ⟨rfl, hb⟩; have HBr := hide ((HBr.out.trans (hb.mono HBr.out.size)).alloc (HBr.out.trans (hb.mono HBr.out.size)).size (.cells #[.int .i64 0, .int .i64 0, .int .i64 0, .string ⟨#[]⟩, .slice none 0 0] 35)); obtain ⟨c0, c1, c2, c3, c4⟩ := cell_of_five (HX1.out _ (HBZ.out.trans (HBr.out.mono (HX1.out _ HBZ.out).2.2.2.2.2))).1; have HBt := hide (show Below wa.heap.size wa wa from Below.refl _ _); clear hb)
                    | (go_at_call 27; (with_reducible refine (HC1.out _).mono ?_); rintro e wb ⟨rfl, hb⟩; have HBr := hide (HBr.out.trans (hb.mono HBr.out.size)); clear c0 c1 c2 c3 c4; obtain ⟨c0, c1, c2, c3, c4⟩ := cell_of_five ((hb.block wa.heap.size (by simp)).trans (heap_alloc_new wa _)); clear hb)
                    | (go_at_call 25; (with_reducible refine (HC2.out _).mono ?_); rintro e wc ⟨rfl, hb⟩; have HBr := hide (HBr.out.trans (hb.mono HBr.out.size)); clear hb c0 c1 c2 c3 c4))
                  have hkf : wc.heap[D]? = some (.deferred (some [])) := (HBr.out.block D (by have := (Array.getElem?_eq_some_iff.1 HKX.out).1; have := HBR.out.size; omega)).trans ((HBR.out.block D (Array.getElem?_eq_some_iff.1 HKX.out).1).trans HKX.out)
                  refine ⟨by simp, .inl ⟨_, _, rfl, run_takeDeferred hkf, ?_⟩⟩
                  refine ⟨_, results_tmp rfl _ _ _, rfl, ?_⟩
                  have hz := (HX1.out _ HBZ.out).2.2.2.2.2
                  have hf1 : Below (P + 1) W0 wc := (HX1.out wc (HBZ.out.trans (HBr.out.mono hz))).2.2.2.2.1
                  have hf2 : Below P w wc := HB0.out.trans (hf1.mono (by omega))
                  have hPD : P ≤ D := by have h1 := HDD.out; have h2 := HPP.out; have h3 := HBB9.out; omega
                  first
                    | exact hf2.trans (kpY_b _ hPD hkf rfl).1
                    | (rw [← HP.out]; exact hf2.trans (kpY_b _ hPD hkf rfl).1)
end Go.Proofs.Ythjhbnfedelniaa
