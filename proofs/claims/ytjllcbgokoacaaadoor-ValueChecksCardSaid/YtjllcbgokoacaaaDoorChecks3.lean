/- The walk of ValueChecks. -/
import Derived.Test.YtjllcbgokoacaaaDoorAra
import Derived.Test.YtjllcbgokoacaaaDoorVx
namespace Go.Proofs.YtjllcbgokoacaaaDoor
open Go Go.RowKit

/-- What Attrs answers reads as attributes: none beside an error. -/
def ansA (xs : List At) (er : Int) : List At := if er = 0 then sortL xs else []
theorem AttrsPost.av {w w' : World} {xs : List At} {er : Int} {e : Ending} (h : AttrsPost w xs er e w') (hw : ∀ x ∈ xs, x.name.size ≤ maxLen ∧ x.s.size ≤ maxLen) (hl : xs.length * 48 ≤ 140737488355328) :
    ∃ ao cap, e = .returned (.tuple #[.slice ao (ansA xs er).length cap, .int .i64 er]) ∧ Av w' w'.heap.size (.slice ao (ansA xs er).length cap) (ansA xs er) ∧ Below w.heap.size w w' := by
  obtain ⟨v', he, hb, h0, h1⟩ := h
  by_cases hz : er = 0
  · have hv := (h0 hz).av (fun x hx => hw x (sortL_mem xs x hx)) (by rw [sortL_len]; exact hl)
    rw [show ansA xs er = sortL xs by unfold ansA; rw [if_pos hz]]
    obtain ⟨ao, cap, rfl⟩ := hv.shape
    exact ⟨ao, cap, he, hv, hb⟩
  · rw [show ansA xs er = [] by unfold ansA; rw [if_neg hz]]
    have := h1 hz
    subst this
    exact ⟨none, 0, he, Av.nil _ _, hb⟩

set_option maxRecDepth 100000 in
set_option maxHeartbeats 6400000 in
theorem checks3_walk (k1 n1 : Int) (s1 : ByteArray) (nm : ByteArray) (ao : Option Addr) (n cap : Nat) (xs : List At) (w : World) (hs : s1.size ≤ maxLen) (hnm : nm.size ≤ maxLen) (h1 : Av w w.heap.size (.slice ao n cap) xs) :
    Calls Tryd.prog 3 #[.agg #[.int .i64 k1, .int .i64 n1, .string s1], .string nm, .slice ao n cap] w fun e w' => e = .returned (.bool true) ∧ Below w.heap.size w w' := by
  obtain ⟨P, hP⟩ : ∃ P, P = w.heap.size := ⟨_, rfl⟩
  obtain ⟨W, hW⟩ : ∃ W, W = w.alloc (.cells #[.int .i64 k1, .int .i64 n1, .string s1] 23) := ⟨_, rfl⟩
  have HX : Hid (Vx w P [vcs k1 n1 s1] W) := by rw [hW, hP]; exact (Vx.start w).box (by simp) _
  rw [← hP] at h1
  have HAl : Hid (∀ w', Below P w w' → Av w' P (.slice ao n cap) xs) := fun w' hb => h1.below hb (Nat.le_refl _)
  have HW := Lib.hid hW; have HP := Lib.hid hP; have HWD := Lib.hid h1.wide; have HLN := Lib.hid h1.len
  have C1 := fun (w : World) (h : Av w P (.slice ao n cap) xs) => vAttrs_any P ao n cap xs w h
  have C2 := fun (w : World) (h : Av w P (.slice ao n cap) xs) (hB : P ≤ w.heap.size) => r3Attrs_any P ao n cap xs w h hB
  have C3 := fun w => vCheck_any k1 n1 s1 w hs
  have C4 := fun w => r3Check_any k1 n1 s1 w hs
  have C5 := fun w => vName_any nm w hnm
  have C6 := fun w => r3Name_any nm w hnm
  have C7 := fun (w : World) (h : Av w P (.slice ao n cap) xs) (hB : P ≤ w.heap.size) => vCheckAttrs_any P ao n cap xs w h hB
  have C8 := fun (w : World) (h : Av w P (.slice ao n cap) xs) (hB : P ≤ w.heap.size) => r3CheckAttrs_any P ao n cap xs w h hB
  generalize atErr xs = er at C1 C2
  generalize ckI k1 n1 s1.data.toList = ci at C3 C4
  generalize nameB nm.data.toList = nb at C5 C6
  generalize ckAll xs = ca at C7 C8
  have HC1 := Lib.hid C1; have HC2 := Lib.hid C2; have HC3 := Lib.hid C3; have HC4 := Lib.hid C4; have HC5 := Lib.hid C5; have HC6 := Lib.hid C6; have HC7 := Lib.hid C7; have HC8 := Lib.hid C8
  rw [← hP]
  clear hP hW h1 hs hnm C1 C2 C3 C4 C5 C6 C7 C8
  go_enter Tryd.func3, Tryd.ntmps3
  go_wp2_with fail
  rw [← HW.out, ← HP.out]
  go_wp2_with (go_at_call 11; (with_reducible refine (HC1.out _ (HAl.out _ HX.out.below)).mono ?_); intro e w1 hp1; obtain ⟨ao1, cap1, rfl, hv1, hb1⟩ := hp1.av HWD.out HLN.out; have HV1 := Lib.hid hv1; have HX1 := Lib.hid (HX.out.call hb1); clear hp1 hv1 hb1)
  go_wp2_with (go_at_call 12; (with_reducible refine (HC2.out _ (HAl.out _ HX1.out.below) (by have := HX1.out.sz; omega)).mono ?_); intro e w2 hp2; obtain ⟨ao2, cap2, rfl, hv2, hb2⟩ := hp2.av HWD.out HLN.out; have HV2 := Lib.hid hv2; have HV1b := Lib.hid (HV1.out.below hb2 (Nat.le_refl _)); have HX2 := Lib.hid (HX1.out.call hb2); have HS12 := Lib.hid hb2.size; clear hp2 hv2 hb2)
  obtain ⟨P2, hP2⟩ : ∃ P2, P2 = w2.heap.size := ⟨_, rfl⟩
  have HVX : Hid (∀ w', Below P2 w2 w' → w'.cell? ⟨P, 0, none⟩ = some (.int .i64 k1) ∧ w'.cell? ⟨P, 1, none⟩ = some (.int .i64 n1) ∧ w'.cell? ⟨P, 2, none⟩ = some (.string s1)) := fun w' hb => (HX2.out.call (by rw [← hP2]; exact hb)).c0
  have HAl2 : Hid (∀ w', Below P2 w2 w' → Av w' P (.slice ao n cap) xs) := fun w' hb => HAl.out _ (HX2.out.call (by rw [← hP2]; exact hb)).below
  have HV : Hid (∀ w', Below P2 w2 w' → Av w' P2 (.slice ao1 (ansA xs er).length cap1) (ansA xs er) ∧ Av w' P2 (.slice ao2 (ansA xs er).length cap2) (ansA xs er)) := fun w' hb =>
    ⟨(HV1b.out.mono (by rw [hP2]; exact HS12.out)).below hb (Nat.le_refl _), (by rw [hP2]; exact HV2.out.below hb (by rw [hP2]; exact Nat.le_refl _))⟩
  have HFin : Hid (∀ w', Below P2 w2 w' → Below P w w') := fun w' hb => (HX2.out.call (by rw [← hP2]; exact hb)).below
  have HPP : Hid (P ≤ P2) := by rw [hP2]; have := HX2.out.sz; show P ≤ _; omega
  have HB : Hid (Below P2 w2 w2) := Below.refl _ _
  have HS : Hid (P2 ≤ w2.heap.size) := by rw [hP2]; exact Nat.le_refl _
  have C9 := fun (w : World) (h : Av w P2 (.slice ao1 (ansA xs er).length cap1) (ansA xs er) ∧ Av w P2 (.slice ao2 (ansA xs er).length cap2) (ansA xs er)) => r3SameAttrs_any P2 P2 ao1 _ cap1 (ansA xs er) ao2 _ cap2 (ansA xs er) w h.1 h.2
  rw [show sameA (ansA xs er) (ansA xs er) = true from decide_eq_true rfl] at C9
  have HC9 := Lib.hid C9
  obtain ⟨c0, c1, c2⟩ := HVX.out _ HB.out
  have b1 : (ci == ci) = true := by simp
  have b2 : (nb == nb) = true := by simp
  have b3 : (ca == ca) = true := by simp
  have b4 : (er == er) = true := by simp
  clear hP2 C9
  go_region_held3 (fun w' => w'.cell? ⟨P, 0, none⟩ = some (.int .i64 k1) ∧ w'.cell? ⟨P, 1, none⟩ = some (.int .i64 n1) ∧ w'.cell? ⟨P, 2, none⟩ = some (.string s1)) (first | exact ⟨c0, c1, c2⟩ | go_keep)
    (first
      | (go_at_call 13; (with_reducible refine (live_any _).mono ?_); rintro e w3 ⟨rfl, hb⟩; have HB := Lib.hid (HB.out.drew.trans (hb.mono HS.out)); have HS := Lib.hid (Nat.le_trans HS.out hb.size); clear hb c0 c1 c2; obtain ⟨c0, c1, c2⟩ := HVX.out _ HB.out)
      | (go_at_call 14; (with_reducible refine (HC3.out _).mono ?_); rintro e w4 ⟨rfl, hb⟩; have HB := Lib.hid (HB.out.trans (hb.mono HS.out)); have HS := Lib.hid (Nat.le_trans HS.out hb.size); clear hb c0 c1 c2; obtain ⟨c0, c1, c2⟩ := HVX.out _ HB.out)
      | (go_at_call 15; (with_reducible refine (HC4.out _).mono ?_); rintro e w5 ⟨rfl, hb⟩; have HB := Lib.hid (HB.out.trans (hb.mono HS.out)); have HS := Lib.hid (Nat.le_trans HS.out hb.size); clear hb c0 c1 c2; obtain ⟨c0, c1, c2⟩ := HVX.out _ HB.out)
      | (go_at_call 16; (with_reducible refine (HC5.out _).mono ?_); rintro e w6 ⟨rfl, rfl⟩)
      | (go_at_call 17; (with_reducible refine (HC6.out _).mono ?_); rintro e w6 ⟨rfl, rfl⟩)
      | (go_at_call 18; (with_reducible refine (HC7.out _ (HAl2.out _ HB.out) (Nat.le_trans HPP.out HS.out)).mono ?_); rintro e w7 ⟨rfl, hb⟩; have HB := Lib.hid (HB.out.trans (hb.mono HS.out)); have HS := Lib.hid (Nat.le_trans HS.out hb.size); clear hb c0 c1 c2; obtain ⟨c0, c1, c2⟩ := HVX.out _ HB.out)
      | (go_at_call 19; (with_reducible refine (HC8.out _ (HAl2.out _ HB.out) (Nat.le_trans HPP.out HS.out)).mono ?_); rintro e w8 ⟨rfl, hb⟩; have HB := Lib.hid (HB.out.trans (hb.mono HS.out)); have HS := Lib.hid (Nat.le_trans HS.out hb.size); clear hb c0 c1 c2; obtain ⟨c0, c1, c2⟩ := HVX.out _ HB.out)
      | (go_at_call 20; (with_reducible refine (HC9.out _ (HV.out _ HB.out)).mono ?_); rintro e w9 ⟨rfl, hb⟩; have HB := Lib.hid (HB.out.trans (hb.mono HS.out)); have HS := Lib.hid (Nat.le_trans HS.out hb.size); clear hb c0 c1 c2; obtain ⟨c0, c1, c2⟩ := HVX.out _ HB.out))
  all_goals go_wp2
  all_goals go_ret
  all_goals exact ⟨rfl, HFin.out _ HB.out⟩
end Go.Proofs.YtjllcbgokoacaaaDoor
