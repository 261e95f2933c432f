/- Contract: begun answers true. -/
import Derived.Test.YthjhbnfedelniaaSa
namespace Go.Proofs.Ythjhbnfedelniaa
open Go Go.RowKit

def evT (q t : Int) : Ev := ⟨0, q, t, ⟨#[116]⟩, []⟩
theorem begun41_any (q t : Int) (w : World) : Calls Try.prog 28 #[.int .i64 q, .int .i64 t] w fun e w' => e = .returned (evV (evT q t) (.slice none 0 0)) ∧ Below w.heap.size w w' := by
  have hx : (w.alloc (.cells #[.int .i64 0, .int .i64 0, .int .i64 0, .string ⟨#[]⟩, .slice none 0 0] 35)).heap[w.heap.size]? = some (.cells #[.int .i64 0, .int .i64 0, .int .i64 0, .string ⟨#[]⟩, .slice none 0 0] 35 (0, 0)) := heap_alloc_new w _
  have HX := hide hx
  obtain ⟨f0, f1, f2, f3, f4⟩ := cell_of_five hx
  have g0 := free_of_st hx 0; have g1 := free_of_st hx 1; have g2 := free_of_st hx 2; have g3 := free_of_st hx 3; have g4 := free_of_st hx 4
  clear hx
  go_enter Try.func28, Try.ntmps28
  go_wp2
  refine bodyPost_ret (v := .agg #[.int .i64 0, .int .i64 q, .int .i64 t, .string ⟨#[116]⟩, .slice none 0 0]) (by simp [results, Try.results28, go_sem]) rfl ⟨rfl, ?_⟩
  exact (Below.refl _ _).alloc (Nat.le_refl _) _

theorem acc_t1 : accErr 2 sd0 0 (evT 0 5) = 0 := by decide +kernel
def sd1 : List Sd := accSd sd0 (evT 0 5)
theorem acc_t2 : accErr 2 sd1 1 (evT 1 4) = 41 := by decide +kernel
theorem acc_t3 : accErr 2 sd1 1 (evT 2 6) = 42 := by decide +kernel
theorem acc_t4 : accErr 2 sd1 1 (evT 1 5) = 0 := by decide +kernel
def sd2 : List Sd := accSd sd1 (evT 1 5)
theorem mark_t : markI (saidAt 2 sd2 0) = 5 := by decide +kernel


set_option maxRecDepth 100000 in
set_option maxHeartbeats 3200000 in
theorem begun4_any (w : World) : Calls Try.prog 7 #[] w fun e w' => e = .returned (.bool true) ∧ Below w.heap.size w w' := by
  obtain ⟨q, hq⟩ : ∃ q, q = w.heap.size := ⟨_, rfl⟩
  have CN := eNew_ok 2 (by decide) (by decide) w
  rw [← hq] at CN ⊢
  have ht : (evT 0 0).ty.size ≤ maxLen := by decide
  have C1 := fun (F : Nat → Prop) (w : World) (h : StIs w F q 2 sd0 []) => sAccept_ok F q 2 sd0 [] (evT 0 5) 0 none 0 0 w h (Av.nil _ _) (Nat.zero_le _) ht (fun a h => by cases h) acc_t1
  have C2 := fun (F : Nat → Prop) (w : World) (h : StIs w F q 2 sd1 [evT 0 5]) => sAccept_err F q 2 sd1 [evT 0 5] (evT 1 4) 0 none 0 0 w h (Av.nil _ _) (Nat.zero_le _) ht (by rw [show [evT 0 5].length = 1 from rfl, acc_t2]; decide)
  have C3 := fun (F : Nat → Prop) (w : World) (h : StIs w F q 2 sd1 [evT 0 5]) => sAccept_err F q 2 sd1 [evT 0 5] (evT 2 6) 0 none 0 0 w h (Av.nil _ _) (Nat.zero_le _) ht (by rw [show [evT 0 5].length = 1 from rfl, acc_t3]; decide)
  have C4 := fun (F : Nat → Prop) (w : World) (h : StIs w F q 2 sd1 [evT 0 5]) => sAccept_ok F q 2 sd1 [evT 0 5] (evT 1 5) 0 none 0 0 w h (Av.nil _ _) (Nat.zero_le _) ht (fun a h => by cases h) acc_t4
  have C5 := fun (F : Nat → Prop) (w : World) (h : StIs w F q 2 sd2 [evT 0 5, evT 1 5]) => sMark_any F q 2 sd2 [evT 0 5, evT 1 5] 0 w h
  have C6 := fun (F : Nat → Prop) (w : World) (h : StIs w F q 2 sd2 [evT 0 5, evT 1 5]) => sLen_any F q 2 sd2 [evT 0 5, evT 1 5] w h
  rw [mark_t] at C5
  simp only [show [evT 0 5].length = 1 from rfl, acc_t2] at C2
  simp only [show [evT 0 5].length = 1 from rfl, acc_t3] at C3
  simp only [show [evT 0 5, evT 1 5].length = 2 from rfl] at C6
  rw [show accSd sd0 (evT 0 5) = sd1 from rfl] at C1
  rw [show accSd sd1 (evT 1 5) = sd2 from rfl] at C4
  have CO := begun41_any
  unfold evV evT at CO
  have hb := CO
  simp only at CO
  have HC1 := hide C1; have HC2 := hide C2; have HC3 := hide C3; have HC4 := hide C4; have HC5 := hide C5; have HC6 := hide C6; have HCO := hide CO; have HCN := hide CN
  have HQ := hide hq
  clear CN C1 C2 C3 C4 C5 C6 CO hb ht hq
  go_enter Try.func7, Try.ntmps7
  go_wp2_with fail
  refine HCN.out.mono ?_
  rintro e w1 ⟨rfl, hs1, hb1⟩
  have HS1 := hide hs1; have HB1 := hide hb1
  clear hs1 hb1
  go_wp2_with fail
  refine (HCO.out _ _ _).mono ?_
  rintro e w2 ⟨rfl, hb2⟩
  have HB2 := hide (HB1.out.trans (hb2.mono (by have := HB1.out.size; rw [HQ.out]; exact this)))
  have HS2 := hide (HS1.out.below hb2)
  clear hb2
  go_wp2_with fail
  refine (HC1.out _ _ HS2.out).mono ?_
  rintro e w3 ⟨rfl, hs3, hc3⟩
  have hq2 : q ≤ w2.heap.size := by rw [HQ.out]; exact HB2.out.size
  have HF3 : Hid (∀ b, Fnew (fun b => b = q) w2.heap.size w3.heap.size b → q ≤ b) := fun b hb => hb.elim (fun h => by rw [h]; exact Nat.le_refl _) (fun h => Nat.le_trans hq2 h.1)
  have HB3 := hide (HB2.out.trans (hc3.below hq2 (fun b hb => by rw [hb]; exact Nat.le_refl _)))
  have HS3 := hide (show StIs w3 _ q 2 sd1 [evT 0 5] from hs3)
  clear hs3 hc3
  go_wp2_with fail
  refine (HCO.out _ _ _).mono ?_
  rintro e w4 ⟨rfl, hb⟩
  have HB4 := hide (HB3.out.trans (hb.mono (by rw [HQ.out]; exact HB3.out.size)))
  have HS4 := hide (HS3.out.below hb)
  clear hb
  go_wp2_with fail
  refine (HC2.out _ _ HS4.out).mono ?_
  rintro e w5 ⟨rfl, hb⟩
  have HB5 := hide (HB4.out.trans (hb.mono (by rw [HQ.out]; exact HB4.out.size)))
  have HS5 := hide (HS4.out.below hb)
  clear hb
  go_wp2_with fail
  refine (HCO.out _ _ _).mono ?_
  rintro e w6 ⟨rfl, hb⟩
  have HB6 := hide (HB5.out.trans (hb.mono (by rw [HQ.out]; exact HB5.out.size)))
  have HS6 := hide (HS5.out.below hb)
  clear hb
  go_wp2_with fail
  refine (HC3.out _ _ HS6.out).mono ?_
  rintro e w7 ⟨rfl, hb⟩
  have HB7 := hide (HB6.out.trans (hb.mono (by rw [HQ.out]; exact HB6.out.size)))
  have HS7 := hide (HS6.out.below hb)
  clear hb
  go_wp2_with fail
  refine (HCO.out _ _ _).mono ?_
  rintro e w8 ⟨rfl, hb⟩
  have HB8 := hide (HB7.out.trans (hb.mono (by rw [HQ.out]; exact HB7.out.size)))
  have HS8 := hide (HS7.out.below hb)
  clear hb
  go_wp2_with fail
  refine (HC4.out _ _ HS8.out).mono ?_
  rintro e w9 ⟨rfl, hs9, hc9⟩
  have HB9 := hide (HB8.out.trans (hc9.below (by rw [HQ.out]; exact HB8.out.size) HF3.out))
  have HS9 := hide (show StIs w9 _ q 2 sd2 [evT 0 5, evT 1 5] from hs9)
  clear hs9 hc9
  go_wp2_with fail
  refine (HC5.out _ _ HS9.out).mono ?_
  rintro e w10 ⟨rfl, hb⟩
  have HB10 := hide (HB9.out.trans (hb.mono (by rw [HQ.out]; exact HB9.out.size)))
  have HS10 := hide (HS9.out.below hb)
  clear hb
  go_wp2_with fail
  refine (HC6.out _ _ HS10.out).mono ?_
  rintro e w11 ⟨rfl, rfl⟩
  go_wp2
  go_ret
  exact ⟨rfl, HB10.out⟩
end Go.Proofs.Ythjhbnfedelniaa
