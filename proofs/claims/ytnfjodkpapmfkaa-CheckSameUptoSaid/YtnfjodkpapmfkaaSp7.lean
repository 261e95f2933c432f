/- Contract: Shape of the program. -/
import Derived.Test.YtnfjodkpapmfkaaAl7
namespace Go.Proofs.Ytnfjodkpapmfkaa
open Go Go.RowKit

/-- The closure of Shape: a box that holds the last error. -/
def IE (P : Nat) (w0 : World) (s : Int) (u : World) : Prop := IB P w0 (.int .i64 s) 40 u
set_option maxRecDepth 100000 in
set_option maxHeartbeats 1000000 in
theorem cShape1_any (P : Nat) (w0 : World) (s : Int) (w : World) (G : Nat → Prop) (d : Nt) (k : Fo) (b o : Nat) (q : Value) (hI : IE P w0 s w) (hG : ∀ x, G x → x < w0.heap.size) (hn : NdP w G d k b o) (hsz : szD d + szF k ≤ 1048576) :
    Calls Try.prog 63 #[.pointer (some ⟨b, o, none⟩), q, .pointer (some ⟨P, 0, none⟩)] w fun e w' => e = .returned (.bool (decide (nodeE d k.len = 0))) ∧ IE P w0 (nodeE d k.len) w' := by
  have HC := Lib.hid (cNode_any d k b o w (hn.mono fun x hx => Nat.lt_of_lt_of_le (hG x hx) hI.chg.size) hsz)
  have HI := Lib.hid hI
  clear hn hsz hG hI
  generalize nodeE d k.len = r at HC ⊢
  by_cases h : r = 0
  · subst h
    go_enter Try.func63, Try.ntmps63
    go_wp2_with (first | (go_at_call 64; (with_reducible refine HC.out.mono ?_); rintro e w2 ⟨rfl, hb⟩; have HI2 := Lib.hid (IB.below HI.out hb); have hf := free_of_one HI2.out.box; have hc := cell_of_one HI2.out.box; clear hb))
    go_ret
    exact ⟨rfl, IB.set HI2.out⟩
  · have h1 : (r == 0) = false := beq_eq_false_iff_ne.2 h
    have h2 := decide_eq_false h
    clear h
    rw [h2]
    go_enter Try.func63, Try.ntmps63
    go_wp2_with (first | (go_at_call 64; (with_reducible refine HC.out.mono ?_); rintro e w2 ⟨rfl, hb⟩; have HI2 := Lib.hid (IB.below HI.out hb); have hf := free_of_one HI2.out.box; have hc := cell_of_one HI2.out.box; clear hb))
    go_ret
    exact ⟨rfl, IB.set HI2.out⟩
theorem moN (P : Nat) (w0 : World) (G : Nat → Prop) (hG : ∀ x, G x → x < w0.heap.size ∧ x ≠ P) : Mo gN 63 #[.pointer (some ⟨P, 0, none⟩)] (IE P w0) (fun _ _ => True) G w0 where
  eg := enters_of Try.func63 (by kernel_rfl) rfl
  keep := fun _ _ h => IB.keep h hG
  dr := fun _ _ n h => IB.drew h n
  qs := fun _ _ _ _ _ h => h
  call := fun s u d k b o lv _ hI _ hn _ _ hsz => cShape1_any P w0 s u G d k b o (.int .i64 (lv : Int)) hI (fun x hx => (hG x hx).1) hn hsz

set_option maxRecDepth 100000 in
set_option maxHeartbeats 2000000 in
theorem cShape_any (d : Nt) (k : Fo) (v : Value) (w : World) (hv : NdV w (fun x => x < w.heap.size) d k v) (hsz : szD d + szF k ≤ 1048576) :
    Calls Try.prog 17 #[v] w fun e w' => e = .returned (.int .i64 (shapeN d k)) ∧ Below w.heap.size w w' := by
  obtain ⟨ta, tc, ka, kc, rfl⟩ := hv.shape
  obtain ⟨W1, hW1⟩ : ∃ W1, W1 = w.alloc (.cells #[.int .i64 d.kind, .string d.var, .string d.ty, .slice ta d.tests.length tc, .slice ka k.len kc] 25) := ⟨_, rfl⟩
  obtain ⟨P, hP⟩ : ∃ P, P = w.heap.size := ⟨_, rfl⟩
  have hr1 : W1.heap[P]? = some (.cells #[.int .i64 d.kind, .string d.var, .string d.ty, .slice ta d.tests.length tc, .slice ka k.len kc] 25 (0, 0)) := by rw [hW1, hP]; exact heap_alloc_new _ _
  have hb1 : Below w.heap.size w W1 := by rw [hW1]; exact (Below.refl _ _).alloc (Nat.le_refl _) _
  have hz1 : W1.heap.size = P + 1 := by rw [hW1, hP]; simp
  have hn1 : NdP W1 (fun x => x < W1.heap.size) d k P 0 := hv.boxed W1 hb1 P hr1 W1.heap.size hb1.size
  have HS := Lib.hid (cSmall_any d k P 0 W1 hn1 (by omega) hsz)
  -- behind isSmall: the box of the error is laid in u
  have HE := Lib.hid (fun (u : World) (hu : Below W1.heap.size W1 u) => (by
    have hr2 : (u.alloc (.cells #[.int .i64 0] 40)).heap[u.heap.size]? = some (.cells #[.int .i64 0] 40 (0, 0)) := heap_alloc_new _ _
    have hb2 : Below W1.heap.size W1 (u.alloc (.cells #[.int .i64 0] 40)) := hu.alloc hu.size _
    have hn2 : NdP (u.alloc (.cells #[.int .i64 0] 40)) (fun x => x < W1.heap.size) d k P 0 := hn1.keep (fun x hx => hb2.block x hx) (hb2.block P (by omega))
    have hs2 : (u.alloc (.cells #[.int .i64 0] 40)).heap.size = u.heap.size + 1 := by simp
    have := each_any (g := gN) (gf := 63) (caps := #[.pointer (some ⟨u.heap.size, 0, none⟩)]) (fun w0 => IE u.heap.size w0) (fun _ _ => True) (fun x => x < W1.heap.size) d k P 0 0 (u.alloc (.cells #[.int .i64 0] 40)) (fun x hx => by have := hu.size; omega) hn2 (by omega) hsz trivial
      (fun w0 hb hs => ⟨moN u.heap.size w0 _ (fun x hx => by have := hu.size; exact ⟨by omega, by omega⟩), IB.start hr2 hb⟩)
    rw [walkN_gN] at this
    exact this.mono (fun e w' h => by
      obtain ⟨w0, h1, h2, h3⟩ := h
      have hb3 : Below W1.heap.size W1 w' := (hb2.trans (h1.mono (by rw [hs2]; have := hu.size; omega))).trans (h3.chg.below (Nat.le_trans hb2.size h1.size) (fun j hj => by rw [hj]; exact hu.size))
      exact (⟨h2, h3.box, hb3⟩ : e = .returned (.bool (decide (nodeN d k = 0))) ∧ w'.heap[u.heap.size]? = some (.cells #[.int .i64 (nodeN d k)] 40 (0, 0)) ∧ Below W1.heap.size W1 w')) :
    Calls Try.prog 62 #[.pointer (some ⟨P, 0, none⟩), .func (.func 63) #[] #[.pointer (some ⟨u.heap.size, 0, none⟩)]] (u.alloc (.cells #[.int .i64 0] 40)) fun e w' => e = .returned (.bool (decide (nodeN d k = 0))) ∧ w'.heap[u.heap.size]? = some (.cells #[.int .i64 (nodeN d k)] 40 (0, 0)) ∧ Below W1.heap.size W1 w'))
  have HA := Lib.hid (fun (u : World) (hu : Below W1.heap.size W1 u) => cAlts_any d k _ u ((hv.keep (fun x hx => (hu.block x (Nat.lt_of_lt_of_le hx hb1.size)).trans (hb1.block x hx))).mono (fun x hx => Nat.lt_of_lt_of_le hx (Nat.le_trans hb1.size hu.size))) hsz)
  have HC := Lib.hid (fun (u : World) (hu : Below W1.heap.size W1 u) => cell_of_five ((hu.block P (by omega)).trans hr1))
  have HB := Lib.hid (fun (u : World) (hu : Below W1.heap.size W1 u) => hb1.trans (hu.mono hb1.size))
  have HW := Lib.hid hW1; have HP := Lib.hid hP
  clear hr1 hb1 hz1 hn1 hv hsz hW1 hP
  unfold shapeN
  by_cases hs : 8 < deepF k + 1 ∨ 12 < termsN k
  · rw [if_pos hs]
    have hsm : (decide (deepF k + 1 ≤ 8) && decide (termsN k ≤ 12)) = false := by
      rw [Bool.and_eq_false_iff, decide_eq_false_iff_not, decide_eq_false_iff_not]; omega
    rw [hsm] at HS
    clear hs hsm HE HA HC
    go_enter Try.func17, Try.ntmps17
    go_wp2_with fail
    rw [← HW.out, ← HP.out]
    go_wp2_with (first | (go_at_call 61; (with_reducible refine HS.out.mono ?_); rintro e u ⟨rfl, hb⟩; have HU := Lib.hid hb; clear hb))
    go_ret
    exact ⟨rfl, HB.out _ HU.out⟩
  · rw [if_neg hs]
    have hsm : (decide (deepF k + 1 ≤ 8) && decide (termsN k ≤ 12)) = true := by
      rw [Bool.and_eq_true, decide_eq_true_eq, decide_eq_true_eq]; omega
    rw [hsm] at HS
    clear hs hsm
    by_cases hn : nodeN d k = 0
    · rw [if_neg (by rw [hn]; simp)]
      rw [hn] at HE
      clear hn
      simp only [decide_true] at HE
      by_cases h64 : 64 < altsN d k
      · rw [if_pos h64]
        have g1 : (64 : Int) < (altsN d k : Int) := by omega
        have g1' := decide_eq_true g1
        generalize altsN d k = m at HA g1 g1'
        clear h64
        go_enter Try.func17, Try.ntmps17
        go_wp2_with fail
        rw [← HW.out, ← HP.out]
        go_wp2_with (first
          | (go_at_call 61; (with_reducible refine HS.out.mono ?_); rintro e u ⟨rfl, hb⟩; have HU := Lib.hid hb; clear hb)
          | (go_at_call 62; (with_reducible refine (HE.out _ HU.out).mono ?_); rintro e u2 ⟨rfl, hbx, hb⟩; have HU2 := Lib.hid hb; obtain ⟨x0, x1, x2, x3, x4⟩ := HC.out _ hb; have HX := Lib.hid hbx; have hcx := cell_of_one hbx; clear hb hbx)
          | (go_at_call 65; (with_reducible refine (HA.out _ HU2.out).mono ?_); rintro e u3 ⟨rfl, hb⟩; have HX3 := Lib.hid ((hb.block _ (Array.getElem?_eq_some_iff.1 HX.out).1).trans HX.out); have hfx := free_of_one HX3.out; have hcx3 := cell_of_one HX3.out; have HU3 := Lib.hid (HU2.out.trans (hb.mono HU2.out.size)); clear hb))
        go_ret
        exact ⟨rfl, HB.out _ (HU3.out.setCell (p := ⟨u.heap.size, 0, none⟩) HU.out.size _)⟩
      · rw [if_neg h64]
        have g1 : ¬ (64 : Int) < (altsN d k : Int) := by omega
        have g1' := decide_eq_false g1
        generalize altsN d k = m at HA g1 g1'
        clear h64
        go_enter Try.func17, Try.ntmps17
        go_wp2_with fail
        rw [← HW.out, ← HP.out]
        go_wp2_with (first
          | (go_at_call 61; (with_reducible refine HS.out.mono ?_); rintro e u ⟨rfl, hb⟩; have HU := Lib.hid hb; clear hb)
          | (go_at_call 62; (with_reducible refine (HE.out _ HU.out).mono ?_); rintro e u2 ⟨rfl, hbx, hb⟩; have HU2 := Lib.hid hb; obtain ⟨x0, x1, x2, x3, x4⟩ := HC.out _ hb; have HX := Lib.hid hbx; have hcx := cell_of_one hbx; clear hb hbx)
          | (go_at_call 65; (with_reducible refine (HA.out _ HU2.out).mono ?_); rintro e u3 ⟨rfl, hb⟩; have HX3 := Lib.hid ((hb.block _ (Array.getElem?_eq_some_iff.1 HX.out).1).trans HX.out); have hfx := free_of_one HX3.out; have hcx3 := cell_of_one HX3.out; have HU3 := Lib.hid (HU2.out.trans (hb.mono HU2.out.size)); clear hb))
        go_ret
        exact ⟨rfl, HB.out _ HU3.out⟩
    · rw [if_pos hn]
      generalize nodeN d k = r at HE hn ⊢
      have g1 : (r == 0) = false := beq_eq_false_iff_ne.2 hn
      have g2 := decide_eq_false hn
      rw [g2] at HE
      clear hn HA
      go_enter Try.func17, Try.ntmps17
      go_wp2_with fail
      rw [← HW.out, ← HP.out]
      go_wp2_with (first
        | (go_at_call 61; (with_reducible refine HS.out.mono ?_); rintro e u ⟨rfl, hb⟩; have HU := Lib.hid hb; clear hb)
        | (go_at_call 62; (with_reducible refine (HE.out _ HU.out).mono ?_); rintro e u2 ⟨rfl, hbx, hb⟩; have HU2 := Lib.hid hb; obtain ⟨x0, x1, x2, x3, x4⟩ := HC.out _ hb; have HX := Lib.hid hbx; have hcx := cell_of_one hbx; clear hb hbx))
      go_ret
      exact ⟨rfl, HB.out _ HU2.out⟩
end Go.Proofs.Ytnfjodkpapmfkaa
