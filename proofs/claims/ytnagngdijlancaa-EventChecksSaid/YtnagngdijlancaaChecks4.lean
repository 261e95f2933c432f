/- The walk of EventChecks. -/
import Derived.Test.YtnagngdijlancaaBg4
import Derived.Deep.RegionHeld3
namespace Go.Proofs.Ytnagngdijlancaa
open Go Go.RowKit

/-- How things stand within a law over two events: their boxes at blocks P and Q, their attributes. -/
structure Ex (w0 : World) (P Q : Nat) (cs ds : Array Value) (va vb : Value) (x y : List At) (w : World) : Prop where
  below : Below P w0 w
  lt : P < Q
  sz : Q < w.heap.size
  bx : w.heap[P]? = some (.cells cs 26 (0, 0))
  by_ : w.heap[Q]? = some (.cells ds 26 (0, 0))
  hx : Av w P va x
  hy : Av w P vb y
theorem Ex.call {w0 : World} {P Q : Nat} {cs ds : Array Value} {va vb : Value} {x y : List At} {w w' : World} (h : Ex w0 P Q cs ds va vb x y w) (hb : Below w.heap.size w w') : Ex w0 P Q cs ds va vb x y w' := by
  have h1 := h.sz; have h2 := h.lt
  exact ⟨h.below.trans (hb.mono (by omega)), h.lt, Nat.lt_of_lt_of_le h.sz hb.size, (hb.block P (by omega)).trans h.bx, (hb.block Q h.sz).trans h.by_, h.hx.below hb (by omega), h.hy.below hb (by omega)⟩
theorem Ex.drew {w0 : World} {P Q : Nat} {cs ds : Array Value} {va vb : Value} {x y : List At} {w : World} (h : Ex w0 P Q cs ds va vb x y w) : Ex w0 P Q cs ds va vb x y w.drew := h.call ((Below.refl _ _).drew)
theorem Ex.le {w0 : World} {P Q : Nat} {cs ds : Array Value} {va vb : Value} {x y : List At} {w : World} (h : Ex w0 P Q cs ds va vb x y w) : P ≤ w.heap.size := by
  have h1 := h.sz; have h2 := h.lt; omega

set_option maxRecDepth 100000 in
set_option maxHeartbeats 3200000 in
theorem checks_walk (a b : Ev) (ao ao' : Option Addr) (n cap n' cap' : Nat) (w : World) (hx : Av w w.heap.size (.slice ao n cap) a.ats) (hy : Av w w.heap.size (.slice ao' n' cap') b.ats) (ha : a.ty.size ≤ maxLen) :
    Calls Try.prog 3 #[evV a (.slice ao n cap), evV b (.slice ao' n' cap')] w fun e w' => e = .returned (.bool true) ∧ Below w.heap.size w w' := by
  obtain ⟨P, hP⟩ : ∃ P, P = w.heap.size := ⟨_, rfl⟩
  obtain ⟨W, hW⟩ : ∃ W, W = (w.alloc (.cells #[.int .i64 a.src, .int .i64 a.seq, .int .i64 a.time, .string a.ty, .slice ao n cap] 26)).alloc (.cells #[.int .i64 b.src, .int .i64 b.seq, .int .i64 b.time, .string b.ty, .slice ao' n' cap'] 26) := ⟨_, rfl⟩
  have hbel : Below P w W := by rw [hW, hP]; exact ((Below.refl _ _).alloc (Nat.le_refl _) _).alloc (by simp) _
  have HB : Hid (Ex w P (P + 1) #[.int .i64 a.src, .int .i64 a.seq, .int .i64 a.time, .string a.ty, .slice ao n cap] #[.int .i64 b.src, .int .i64 b.seq, .int .i64 b.time, .string b.ty, .slice ao' n' cap'] (.slice ao n cap) (.slice ao' n' cap') a.ats b.ats W) := by
    refine hide ⟨hbel, by omega, by rw [hW, hP]; simp, ?_, ?_, ?_, ?_⟩
    · rw [hW, hP]; exact heap_alloc_keeps (heap_alloc_new _ _) _
    · rw [hW, hP]; exact heap_alloc_at (by simp) rfl
    · rw [hP]; exact hx.below hbel (by rw [hP]; exact Nat.le_refl _)
    · rw [hP]; exact hy.below hbel (by rw [hP]; exact Nat.le_refl _)
  have HW := hide hW; have HP := hide hP
  obtain ⟨ce, hce⟩ : ∃ ce, ce = ckE a := ⟨_, rfl⟩
  obtain ⟨sb, hsb⟩ : ∃ sb, sb = sameE a b := ⟨_, rfl⟩
  obtain ⟨cc, hcc⟩ : ∃ cc, cc = cmpID a.src a.seq b.src b.seq := ⟨_, rfl⟩
  have C1 := fun (w : World) (h1 : Av w P (.slice ao n cap) a.ats) (h3 : P ≤ w.heap.size) => eCheck_any a P ao n cap w h1 h3 ha
  have C2 := fun (w : World) (h1 : Av w P (.slice ao n cap) a.ats) (h3 : P ≤ w.heap.size) => r4Check_any a P ao n cap w h1 h3 ha
  have C3 := fun (w : World) (h1 : Av w P (.slice ao n cap) a.ats) (h2 : Av w P (.slice ao' n' cap') b.ats) (h3 : P ≤ w.heap.size) => eSame_any a b P P ao n cap ao' n' cap' w h1 h2 h3 h3
  have C4 := fun (w : World) (h1 : Av w P (.slice ao n cap) a.ats) (h2 : Av w P (.slice ao' n' cap') b.ats) (h3 : P ≤ w.heap.size) => r4Same_any a b P P ao n cap ao' n' cap' w h1 h2 h3 h3
  have C5 := fun (w : World) (h1 : Av w P (.slice ao n cap) a.ats) (h3 : P ≤ w.heap.size) => eSame_any a a P P ao n cap ao n cap w h1 h1 h3 h3
  have C6 := fun (w : World) (h1 : Av w P (.slice ao n cap) a.ats) (h3 : P ≤ w.heap.size) => eClone_any a P ao n cap w h1 h3
  have C7 := fun (w : World) (ao2 : Option Addr) (cap2 : Nat) (h0 : Av w w.heap.size (.slice ao2 a.ats.length cap2) a.ats) (h1 : Av w P (.slice ao n cap) a.ats) (h3 : P ≤ w.heap.size) => r4Same_any a a w.heap.size P ao2 a.ats.length cap2 ao n cap w h0 h1 (Nat.le_refl _) h3
  have C8 := fun w => eCompare_any a.src a.seq b.src b.seq w
  have C9 := fun w => r4Compare_any a.src a.seq b.src b.seq w
  have Hxs := hide hx.wide; have Hxl := hide hx.len
  rw [← hce] at C1 C2
  rw [← hsb] at C3 C4
  rw [← hcc] at C8 C9
  simp only [sameE_refl] at C5 C7
  unfold evV at C1 C2 C3 C4 C5 C6 C7 ⊢
  rw [← hP]
  obtain ⟨s, q, t, ty, ats⟩ := a
  obtain ⟨s', q', t', ty', ats'⟩ := b
  simp only at *
  obtain ⟨c0, c1, c2, c3, c4⟩ := cell_of_five HB.out.bx
  obtain ⟨d0, d1, d2, d3, d4⟩ := cell_of_five HB.out.by_
  have HC1 := hide C1; have HC2 := hide C2; have HC3 := hide C3; have HC4 := hide C4; have HC5 := hide C5; have HC6 := hide C6; have HC7 := hide C7; have HC8 := hide C8; have HC9 := hide C9
  clear hx hy hbel hW hP C1 C2 C3 C4 C5 C6 C7 C8 C9 hce hsb hcc ha
  go_enter Try.func3, Try.ntmps3
  go_wp2_with fail
  rw [← HW.out, ← HP.out]
  go_region_held3 (fun w' => w'.cell? ⟨P, 0, none⟩ = some (.int .i64 s) ∧ w'.cell? ⟨P, 1, none⟩ = some (.int .i64 q) ∧ w'.cell? ⟨P, 2, none⟩ = some (.int .i64 t) ∧ w'.cell? ⟨P, 3, none⟩ = some (.string ty) ∧ w'.cell? ⟨P, 4, none⟩ = some (.slice ao n cap) ∧ w'.cell? ⟨P + 1, 0, none⟩ = some (.int .i64 s') ∧ w'.cell? ⟨P + 1, 1, none⟩ = some (.int .i64 q') ∧ w'.cell? ⟨P + 1, 2, none⟩ = some (.int .i64 t') ∧ w'.cell? ⟨P + 1, 3, none⟩ = some (.string ty') ∧ w'.cell? ⟨P + 1, 4, none⟩ = some (.slice ao' n' cap'))
    (first | exact ⟨c0, c1, c2, c3, c4, d0, d1, d2, d3, d4⟩ | go_keep)
    (first
      | (go_at_call 11; (with_reducible refine (begun4_any _).mono ?_); rintro e w1 ⟨rfl, hb⟩; have HB := hide (HB.out.drew.call hb); clear hb c0 c1 c2 c3 c4 d0 d1 d2 d3 d4; obtain ⟨c0, c1, c2, c3, c4⟩ := cell_of_five HB.out.bx; obtain ⟨d0, d1, d2, d3, d4⟩ := cell_of_five HB.out.by_)
      | (go_at_call 12; (with_reducible refine (HC1.out _ HB.out.hx HB.out.le).mono ?_); rintro e w1 ⟨rfl, hb⟩; have HB := hide (HB.out.call hb); clear hb c0 c1 c2 c3 c4 d0 d1 d2 d3 d4; obtain ⟨c0, c1, c2, c3, c4⟩ := cell_of_five HB.out.bx; obtain ⟨d0, d1, d2, d3, d4⟩ := cell_of_five HB.out.by_)
      | (go_at_call 13; (with_reducible refine (HC2.out _ HB.out.hx HB.out.le).mono ?_); rintro e w1 ⟨rfl, hb⟩; have HB := hide (HB.out.call hb); clear hb c0 c1 c2 c3 c4 d0 d1 d2 d3 d4; obtain ⟨c0, c1, c2, c3, c4⟩ := cell_of_five HB.out.bx; obtain ⟨d0, d1, d2, d3, d4⟩ := cell_of_five HB.out.by_)
      | (go_at_call 14; (with_reducible refine (HC3.out _ HB.out.hx HB.out.hy HB.out.le).mono ?_); rintro e w1 ⟨rfl, hb⟩; have HB := hide (HB.out.call hb); clear hb c0 c1 c2 c3 c4 d0 d1 d2 d3 d4; obtain ⟨c0, c1, c2, c3, c4⟩ := cell_of_five HB.out.bx; obtain ⟨d0, d1, d2, d3, d4⟩ := cell_of_five HB.out.by_)
      | (go_at_call 14; (with_reducible refine (HC5.out _ HB.out.hx HB.out.le).mono ?_); rintro e w1 ⟨rfl, hb⟩; have HB := hide (HB.out.call hb); clear hb c0 c1 c2 c3 c4 d0 d1 d2 d3 d4; obtain ⟨c0, c1, c2, c3, c4⟩ := cell_of_five HB.out.bx; obtain ⟨d0, d1, d2, d3, d4⟩ := cell_of_five HB.out.by_)
      | (go_at_call 15; (with_reducible refine (HC4.out _ HB.out.hx HB.out.hy HB.out.le).mono ?_); rintro e w1 ⟨rfl, hb⟩; have HB := hide (HB.out.call hb); clear hb c0 c1 c2 c3 c4 d0 d1 d2 d3 d4; obtain ⟨c0, c1, c2, c3, c4⟩ := cell_of_five HB.out.bx; obtain ⟨d0, d1, d2, d3, d4⟩ := cell_of_five HB.out.by_)
      | (go_at_call 18; (with_reducible refine (HC6.out _ HB.out.hx HB.out.le).mono ?_); rintro e w1 ⟨v7, rfl, ho, hb⟩; obtain ⟨ao7, cap7, rfl⟩ := own_slice ho; have HV7 := hide (Av.of_own ho Hxs.out Hxl.out); clear ho; have HB := hide (HB.out.call hb); clear hb c0 c1 c2 c3 c4 d0 d1 d2 d3 d4; obtain ⟨c0, c1, c2, c3, c4⟩ := cell_of_five HB.out.bx; obtain ⟨d0, d1, d2, d3, d4⟩ := cell_of_five HB.out.by_)
      | (go_at_call 15; (with_reducible refine (HC7.out _ _ _ HV7.out HB.out.hx HB.out.le).mono ?_); rintro e w1 ⟨rfl, hb⟩; have HB := hide (HB.out.call hb); clear hb c0 c1 c2 c3 c4 d0 d1 d2 d3 d4; obtain ⟨c0, c1, c2, c3, c4⟩ := cell_of_five HB.out.bx; obtain ⟨d0, d1, d2, d3, d4⟩ := cell_of_five HB.out.by_)
      | (go_at_call 16; (with_reducible refine (HC8.out _).mono ?_); rintro e w1 ⟨rfl, hb⟩; have HB := hide (HB.out.call hb); clear hb c0 c1 c2 c3 c4 d0 d1 d2 d3 d4; obtain ⟨c0, c1, c2, c3, c4⟩ := cell_of_five HB.out.bx; obtain ⟨d0, d1, d2, d3, d4⟩ := cell_of_five HB.out.by_)
      | (go_at_call 17; (with_reducible refine (HC9.out _).mono ?_); rintro e w1 ⟨rfl, hb⟩; have HB := hide (HB.out.call hb); clear hb c0 c1 c2 c3 c4 d0 d1 d2 d3 d4; obtain ⟨c0, c1, c2, c3, c4⟩ := cell_of_five HB.out.bx; obtain ⟨d0, d1, d2, d3, d4⟩ := cell_of_five HB.out.by_))
  all_goals go_wp2
  all_goals go_ret
  all_goals exact ⟨rfl, HB.out.below⟩
end Go.Proofs.Ytnagngdijlancaa
