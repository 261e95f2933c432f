/- The walk of ValueOwn. -/
import Derived.Test.YtjllcbgokoacaaaDoorChecks3
namespace Go.Proofs.YtjllcbgokoacaaaDoor
open Go Go.RowKit Go.Lib Go.Sort

/-- How things stand while the names of a row of the call's own are written. -/
structure Ro (W : World) (P : Nat) (g m : Nat) (w : World) : Prop where
  below : Below P W w
  free : ∀ t, t < m * 4 → w.frozen? ⟨g, t, none⟩ = false
  live : ∀ t, t < m * 4 → ∃ u, w.cell? ⟨g, t, none⟩ = some u
theorem Ro.put {W : World} {P g m : Nat} {w : World} (h : Ro W P g m w) (hg : P ≤ g) (t : Nat) (u : Value) : Ro W P g m (w.setCell ⟨g, t, none⟩ u) := by
  refine ⟨h.below.setCell hg _, fun t' ht => ?_, fun t' ht => ?_⟩
  · have := h.free t' ht; simpa using this
  · obtain ⟨v, hv⟩ := h.live t' ht
    exact cell?_setCell_some hv
/-- What Attrs answered may be written to: it is a row of the call's own. -/
theorem AttrsPost.row {w w' : World} {xs : List At} {er : Int} {e : Ending} (h : AttrsPost w xs er e w') :
    ∃ ao cap, e = .returned (.tuple #[.slice ao (ansA xs er).length cap, .int .i64 er]) ∧ Below w.heap.size w w' ∧ (0 < (ansA xs er).length → ∃ g, ao = some ⟨g, 0, none⟩ ∧ w.heap.size ≤ g ∧ Ro w w.heap.size g (ansA xs er).length w') := by
  obtain ⟨v', he, hb, h0, h1⟩ := h
  by_cases hz : er = 0
  · rw [show ansA xs er = sortL xs by unfold ansA; rw [if_pos hz]]
    obtain ⟨ao, cap, rfl, _, _, hH⟩ := h0 hz
    refine ⟨ao, cap, he, hb, fun hn => ?_⟩
    obtain ⟨g, hg, hbg, _, hK⟩ := hH hn
    refine ⟨g, hg, hbg, hb, fun t ht => ?_, fun t ht => ?_⟩
    · have := (hK t (by simpa using ht)).2; rwa [Nat.zero_add] at this
    · have := (hK t (by simpa using ht)).1; rw [Nat.zero_add] at this; exact ⟨_, this⟩
  · rw [show ansA xs er = [] by unfold ansA; rw [if_neg hz]]
    have := h1 hz
    subst this
    exact ⟨none, 0, he, hb, fun hn => by simp at hn⟩
theorem ansA_len (xs : List At) (er : Int) : (ansA xs er).length ≤ xs.length := by
  unfold ansA; split
  · rw [sortL_len]; exact Nat.le_refl _
  · simp

set_option maxRecDepth 100000 in
set_option maxHeartbeats 6400000 in
theorem own3_walk (ao : Option Addr) (n cap : Nat) (xs : List At) (w : World) (h1 : Av w w.heap.size (.slice ao n cap) xs) :
    Calls Tryd.prog 10 #[.slice ao n cap] w fun e w' => e = .returned (.bool true) ∧ Below w.heap.size w w' := by
  obtain ⟨P, hP⟩ : ∃ P, P = w.heap.size := ⟨_, rfl⟩
  rw [← hP] at h1
  have HAl : Hid (∀ w', Below P w w' → Av w' P (.slice ao n cap) xs) := fun w' hb => h1.below hb (Nat.le_refl _)
  have HP := Lib.hid hP; have HWD := Lib.hid h1.wide; have HLN := Lib.hid h1.len
  have C1 := fun (w : World) (h : Av w P (.slice ao n cap) xs) => vAttrs_any P ao n cap xs w h
  have C0 := fun (w : World) (h : Av w P (.slice ao n cap) xs) => cloneAt_any P ao n cap xs w h
  have HE := Lib.hid (rfl : atErr xs = atErr xs)
  obtain ⟨er, her⟩ : ∃ er, er = atErr xs := ⟨_, rfl⟩
  rw [← her] at C1
  have HER := Lib.hid her
  have HC1 := Lib.hid C1; have HC0 := Lib.hid C0
  have HB0 : Hid (Below P w w) := Below.refl _ _
  have HS0 : Hid (P ≤ w.heap.size) := by rw [hP]; exact Nat.le_refl _
  rw [← hP]
  clear hP h1 C1 C0 her HE
  go_enter Tryd.func10, Tryd.ntmps10
  go_wp2_with (go_at_call 32; (with_reducible refine (HC0.out _ (HAl.out _ HB0.out)).mono ?_); rintro e w1 ⟨v1, rfl, ho1, hb1⟩; have hv1 := Av.of_own ho1 HWD.out HLN.out; obtain ⟨ao1, cap1, rfl⟩ := hv1.shape; have HV1 := Lib.hid hv1; have HB1 := Lib.hid (HB0.out.trans (hb1.mono HS0.out)); have HS1 := Lib.hid (Nat.le_trans HS0.out hb1.size); clear ho1 hv1 hb1)
  obtain ⟨P1, hP1⟩ : ∃ P1, P1 = w1.heap.size := ⟨_, rfl⟩
  have HV1 := HV1.out; rw [← hP1] at HV1; have HV1 := Lib.hid HV1
  have HS1 := HS1.out; rw [← hP1] at HS1; have HS1 := Lib.hid HS1
  have HP1 := Lib.hid hP1
  clear hP1
  go_wp2_with (go_at_call 11; (with_reducible refine (HC1.out _ (HAl.out _ HB1.out)).mono ?_); intro e w2 hp2; obtain ⟨ao2, cap2, rfl, hb2, hr2⟩ := hp2.row; rw [← HP1.out] at hb2 hr2; have HB2 := Lib.hid hb2; have HR2 := Lib.hid hr2; clear hp2 hb2 hr2)
  obtain ⟨m, hm⟩ : ∃ m, m = (ansA xs er).length := ⟨_, rfl⟩
  have hm63 : m ≤ 9223372036854775807 := by have := ansA_len xs er; have := HLN.out; omega
  rw [← hm] at HR2 ⊢
  have HM := Lib.hid hm
  clear hm
  go_loopw [20] (fun iv wr => ∃ i : Nat, i ≤ m ∧ iv = .int .i64 i ∧ Hid (Below P1 w1 wr) ∧ Hid (0 < m → ∃ g, ao2 = some ⟨g, 0, none⟩ ∧ P1 ≤ g ∧ Ro w1 P1 g m wr)) (fun iv _ => m - (intOf iv).toNat)
  case atStart => exact ⟨0, Nat.zero_le _, rfl, HB2.out, HR2.out⟩
  case round =>
    obtain ⟨i, hi, rfl, HB3, HR3⟩ := hrel
    by_cases hlt : i < m
    · obtain ⟨g, rfl, hg, hro⟩ := HR3.out (by omega)
      have hf := hro.free (i * 4) (by omega)
      obtain ⟨u, hu⟩ := hro.live (i * 4) (by omega)
      have HRO := Lib.hid hro
      have HG := Lib.hid hg
      clear hro hg
      have hiz : (0 : Int) ≤ (i : Int) := by omega
      go_wp2
      go_roundw
      case rel => exact ⟨i + 1, by omega, by go_num, (HRO.out.put HG.out _ _).below, fun _ => ⟨g, rfl, HG.out, HRO.out.put HG.out _ _⟩⟩
      case measure => simp [intOf]; omega
    · have HS3 : Hid (P1 ≤ wr.heap.size) := by have := HB3.out.size; rw [HP1.out] at *; exact Nat.le_trans (Nat.le_of_eq rfl) this
      have HBw : Hid (∀ w', Below P1 w1 w' → Below P w w') := fun w' hb => HB1.out.trans (hb.mono HS1.out)
      have C2 := r3Attrs_any P1 ao1 xs.length cap1 xs wr (HV1.out.below HB3.out (Nat.le_refl _)) HS3.out
      rw [← HER.out] at C2
      have HC2 := Lib.hid C2
      have b4 : (er == er) = true := by simp
      clear C2
      go_wp2_with (go_at_call 12; (with_reducible refine (HC2.out).mono ?_); intro e w4 hp4; obtain ⟨ao4, cap4, rfl, hv4, hb4⟩ := hp4.av HWD.out HLN.out; have HV4 := Lib.hid hv4; have HB4 := Lib.hid (HB3.out.trans (hb4.mono HS3.out)); have HS4 := Lib.hid (Nat.le_trans HS3.out hb4.size); clear hp4 hv4 hb4)
      go_wp2_with (go_at_call 11; (with_reducible refine (HC1.out _ (HAl.out _ (HBw.out _ HB4.out))).mono ?_); intro e w5 hp5; obtain ⟨ao5, cap5, rfl, hv5, hb5⟩ := hp5.av HWD.out HLN.out; have HV5 := Lib.hid hv5; have HB5 := Lib.hid (HB4.out.trans (hb5.mono HS4.out)); have HS5 := Lib.hid (Nat.le_trans HS4.out hb5.size); have HV4b := Lib.hid (HV4.out.below hb5 (Nat.le_refl _)); have HS45 := Lib.hid hb5.size; clear hp5 hv5 hb5)
      have HLv : Hid (∀ w', Below w5.heap.size w5 w' → Av w' P1 (.slice ao1 xs.length cap1) xs ∧ Av w' P (.slice ao n cap) xs ∧ Av w' w5.heap.size (.slice ao5 (ansA xs er).length cap5) (ansA xs er) ∧ Av w' w5.heap.size (.slice ao4 (ansA xs er).length cap4) (ansA xs er)) := fun w' hb =>
        ⟨(HV1.out.below HB5.out (Nat.le_refl _)).below hb HS5.out, (HAl.out _ (HBw.out _ HB5.out)).below hb (Nat.le_trans HS1.out HS5.out), HV5.out.below hb (Nat.le_refl _), (HV4b.out.mono HS45.out).below hb (Nat.le_refl _)⟩
      have C6 := fun (w : World) (h : Av w P1 (.slice ao1 xs.length cap1) xs) (h' : Av w P (.slice ao n cap) xs) => equalAt_any P P1 ao n cap xs ao1 xs.length cap1 xs w h' h
      have C7 := fun (w : World) (h : Av w w5.heap.size (.slice ao5 (ansA xs er).length cap5) (ansA xs er)) (h' : Av w w5.heap.size (.slice ao4 (ansA xs er).length cap4) (ansA xs er)) => r3SameAttrs_any w5.heap.size w5.heap.size ao5 _ cap5 (ansA xs er) ao4 _ cap4 (ansA xs er) w h h'
      rw [show sameA xs xs = true from decide_eq_true rfl] at C6
      rw [show sameA (ansA xs er) (ansA xs er) = true from decide_eq_true rfl] at C7
      have HC6 := Lib.hid C6; have HC7 := Lib.hid C7
      have HB : Hid (Below w5.heap.size w5 w5) := Below.refl _ _
      have HS : Hid (w5.heap.size ≤ w5.heap.size) := Nat.le_refl _
      clear C6 C7
      go_wp2_with (first
        | (go_at_call 13; (with_reducible refine (live_any _).mono ?_); rintro e w6 ⟨rfl, hb⟩; have HB := Lib.hid (HB.out.trans (hb.mono HS.out)); have HS := Lib.hid (Nat.le_trans HS.out hb.size); clear hb)
        | (go_at_call 37; (with_reducible refine (HC6.out _ (HLv.out _ HB.out).1 (HLv.out _ HB.out).2.1).mono ?_); rintro e w7 ⟨rfl, hb⟩; have HB := Lib.hid (HB.out.trans (hb.mono HS.out)); have HS := Lib.hid (Nat.le_trans HS.out hb.size); clear hb)
        | (go_at_call 20; (with_reducible refine (HC7.out _ (HLv.out _ HB.out).2.2.1 (HLv.out _ HB.out).2.2.2).mono ?_); rintro e w8 ⟨rfl, hb⟩; have HB := Lib.hid (HB.out.trans (hb.mono HS.out)); have HS := Lib.hid (Nat.le_trans HS.out hb.size); clear hb))
      all_goals go_ret
      all_goals exact ⟨rfl, (HBw.out _ HB5.out).trans (HB.out.mono (Nat.le_trans HS1.out HS5.out))⟩
end Go.Proofs.YtjllcbgokoacaaaDoor
