/- The walk of ValueGets. -/
import Derived.Test.YtjllcbgokoacaaaDoorAcl
import Derived.Test.YtjllcbgokoacaaaDoorLive3
namespace Go.Proofs.YtjllcbgokoacaaaDoor
open Go Go.RowKit

theorem getV_form (xs : List At) (nm : ByteArray) : ∃ k n s, getV xs nm = .agg #[.int .i64 k, .int .i64 n, .string s] := by
  unfold getV
  split
  · exact ⟨_, _, _, rfl⟩
  · exact ⟨_, _, _, rfl⟩

set_option maxRecDepth 100000 in
set_option maxHeartbeats 3200000 in
theorem gets_walk (ao : Option Addr) (n cap : Nat) (xs : List At) (ao2 : Option Addr) (n2 cap2 : Nat) (ys : List At) (nm : ByteArray) (w : World) (h1 : Av w w.heap.size (.slice ao n cap) xs) (h2 : Av w w.heap.size (.slice ao2 n2 cap2) ys) :
    Calls Tryd.prog 5 #[.slice ao n cap, .slice ao2 n2 cap2, .string nm] w fun e w' => e = .returned (.bool true) ∧ Below w.heap.size w w' := by
  obtain ⟨P, hP⟩ : ∃ P, P = w.heap.size := ⟨_, rfl⟩
  rw [← hP] at h1 h2
  have HP := Lib.hid hP
  have C1 := fun (w : World) (h : Av w P (.slice ao n cap) xs) (hB : P ≤ w.heap.size) => vGet_any P ao n cap xs nm w h hB
  have C2 := fun (w : World) (h : Av w P (.slice ao n cap) xs) (hB : P ≤ w.heap.size) => r3Get_any P ao n cap xs nm w h hB
  have C3 := fun (w : World) (h : Av w P (.slice ao n cap) xs) (h' : Av w P (.slice ao2 n2 cap2) ys) => vSameAttrs_any P P ao n cap xs ao2 n2 cap2 ys w h h'
  have C4 := fun (w : World) (h : Av w P (.slice ao n cap) xs) (h' : Av w P (.slice ao2 n2 cap2) ys) => r3SameAttrs_any P P ao n cap xs ao2 n2 cap2 ys w h h'
  have C5 := fun (w : World) (h : Av w P (.slice ao n cap) xs) => cloneAt_any P ao n cap xs w h
  have C6 := fun (w : World) (ao3 : Option Addr) (cap3 : Nat) (h : Av w P (.slice ao n cap) xs) (h' : Av w w.heap.size (.slice ao3 xs.length cap3) xs) => vSameAttrs_any P w.heap.size ao n cap xs ao3 xs.length cap3 xs w h h'
  rw [show sameA xs xs = true from decide_eq_true rfl] at C6
  obtain ⟨gk, gn, gs, hg⟩ := getV_form xs nm
  rw [hg] at C1 C2
  generalize getB xs nm = gb at C1 C2
  generalize sameA xs ys = sb at C3 C4
  have HW := Lib.hid h1.wide; have HL := Lib.hid h1.len
  have H1 : Hid (∀ w', Below P w w' → Av w' P (.slice ao n cap) xs) := fun w' hb => h1.below hb (Nat.le_refl _)
  have H2 : Hid (∀ w', Below P w w' → Av w' P (.slice ao2 n2 cap2) ys) := fun w' hb => h2.below hb (Nat.le_refl _)
  have HC1 := Lib.hid C1; have HC2 := Lib.hid C2; have HC3 := Lib.hid C3; have HC4 := Lib.hid C4; have HC5 := Lib.hid C5; have HC6 := Lib.hid C6
  have he : ∀ w : World, (binOp .eql 23 (.agg #[.int .i64 gk, .int .i64 gn, .string gs]) (.agg #[.int .i64 gk, .int .i64 gn, .string gs])).run Tryd.prog w = .ok (.bool true) w := fun w => by rw [vEq_run, vEq_iff.2 ⟨rfl, rfl, rfl⟩]
  have hgd := fun (op : BinOp) (x y : Operand) (w : World) => vGuard op x y gk gn gs gk gn gs w
  have HB : Hid (Below P w w) := Below.refl _ _
  have HS : Hid (P ≤ w.heap.size) := by rw [hP]; exact Nat.le_refl _
  rw [← hP]
  clear h1 h2 hg hP C1 C2 C3 C4 C5 C6
  have HE := Lib.hid he; have HGD := Lib.hid hgd
  clear he hgd
  go_enter Tryd.func5, Tryd.ntmps5
  go_wp2_with (go_at_call 29; (with_reducible refine (HC1.out _ (H1.out _ HB.out) HS.out).mono ?_); rintro e w1 ⟨rfl, hb1⟩; have HB1 := Lib.hid (HB.out.trans (hb1.mono HS.out)); have HS1 := Lib.hid (Nat.le_trans HS.out hb1.size); clear hb1)
  go_wp2_with (go_at_call 30; (with_reducible refine (HC2.out _ (H1.out _ (HB1.out.alloc HS1.out _)) (by have := HS1.out; simp; omega)).mono ?_); rintro e w2 ⟨rfl, hb2⟩; have HB2 := Lib.hid ((HB1.out.alloc HS1.out _).trans (hb2.mono (by have := HS1.out; simp; omega))); have HS2 := Lib.hid (show P ≤ w2.heap.size by have := HS1.out; have := hb2.size; simp at this; omega); obtain ⟨hc2, hf2⟩ := bcell hb2; have hz2 : w1.heap.size < w2.heap.size := (by have := hb2.size; simp at this; omega); clear hb2)
  have he := HE.out; have hgd := HGD.out
  go_wp2_with (first
    | (go_at_call 13; (with_reducible refine (live_any _).mono ?_); rintro e w3 ⟨rfl, hb3⟩; have HB3 := Lib.hid ((HB2.out.alloc HS2.out _).trans (hb3.mono (by have := HS2.out; simp; omega))); have HS3 := Lib.hid (show P ≤ w3.heap.size by have := HS2.out; have := hb3.size; simp at this; omega); obtain ⟨hc3, hf3⟩ := bcell hb3; have hz3 : w2.heap.size < w3.heap.size := (by have := hb3.size; simp at this; omega); clear hb3)
    | (go_at_call 31; (with_reducible refine (HC3.out _ (H1.out _ HB3.out) (H2.out _ HB3.out)).mono ?_); rintro e w4 ⟨rfl, hb4⟩; have HB4 := Lib.hid (HB3.out.trans (hb4.mono HS3.out)); have HS4 := Lib.hid (Nat.le_trans HS3.out hb4.size); clear hb4)
    | (go_at_call 20; (with_reducible refine (HC4.out _ (H1.out _ HB4.out) (H2.out _ HB4.out)).mono ?_); rintro e w5 ⟨rfl, hb5⟩; have HB5 := Lib.hid (HB4.out.trans (hb5.mono HS4.out)); have HS5 := Lib.hid (Nat.le_trans HS4.out hb5.size); clear hb5)
    | (go_at_call 32; (with_reducible refine (HC5.out _ (H1.out _ HB5.out)).mono ?_); rintro e w6 ⟨v6, rfl, ho6, hb6⟩; have HB6 := Lib.hid (HB5.out.trans (hb6.mono HS5.out)); have HS6 := Lib.hid (Nat.le_trans HS5.out hb6.size); have hv6 := Av.of_own ho6 HW.out HL.out; obtain ⟨ao6, cap6, rfl⟩ := hv6.shape; have HV6 := Lib.hid hv6; clear hb6 ho6 hv6)
    | (go_at_call 31; (with_reducible refine (HC6.out _ _ _ (H1.out _ HB6.out) HV6.out).mono ?_); rintro e w7 ⟨rfl, hb7⟩; have HB7 := Lib.hid (HB6.out.trans (hb7.mono HS6.out)); clear hb7))
  all_goals go_ret
  all_goals exact ⟨rfl, HB7.out⟩
end Go.Proofs.YtjllcbgokoacaaaDoor
