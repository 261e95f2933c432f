/- The walk of FrameChecks. -/
import Derived.Test.YtebojmjbolphfaaFsm
import Derived.Test.YtebojmjbolphfaaFcl
import Derived.Test.YtebojmjbolphfaaBeg
import Derived.Deep.RegionHeld3
namespace Go.Proofs.Ytebojmjbolphfaa
open Go Go.RowKit

/-- How things stand within a law over two datagrams: their boxes at blocks P and Q, their bodies. -/
structure Bx (w0 : World) (P Q : Nat) (cs ds : Array Value) (va vb : Value) (x y : List Nat) (w : World) : Prop where
  below : Below P w0 w
  lt : P < Q
  sz : Q < w.heap.size
  bx : w.heap[P]? = some (.cells cs 24 (0, 0))
  by_ : w.heap[Q]? = some (.cells ds 24 (0, 0))
  hx : Bv w P va x
  hy : Bv w P vb y
theorem Bx.call {w0 : World} {P Q : Nat} {cs ds : Array Value} {va vb : Value} {x y : List Nat} {w w' : World} (h : Bx w0 P Q cs ds va vb x y w) (hb : Below w.heap.size w w') : Bx w0 P Q cs ds va vb x y w' := by
  have h1 := h.sz; have h2 := h.lt
  exact ⟨h.below.trans (hb.mono (by omega)), h.lt, Nat.lt_of_lt_of_le h.sz hb.size, (hb.block P (by omega)).trans h.bx, (hb.block Q h.sz).trans h.by_, h.hx.below hb (by omega), h.hy.below hb (by omega)⟩
theorem Bx.drew {w0 : World} {P Q : Nat} {cs ds : Array Value} {va vb : Value} {x y : List Nat} {w : World} (h : Bx w0 P Q cs ds va vb x y w) : Bx w0 P Q cs ds va vb x y w.drew :=
  ⟨h.below.drew, h.lt, h.sz, h.bx, h.by_, ⟨h.hx.small, h.hx.len, h.hx.row⟩, ⟨h.hy.small, h.hy.len, h.hy.row⟩⟩
theorem Bx.le {w0 : World} {P Q : Nat} {cs ds : Array Value} {va vb : Value} {x y : List Nat} {w : World} (h : Bx w0 P Q cs ds va vb x y w) : P ≤ w.heap.size := by
  have h1 := h.sz; have h2 := h.lt; omega

set_option maxRecDepth 100000 in
set_option maxHeartbeats 3200000 in
theorem checks_walk (f t k s a f' t' k' s' a' : Int) (ao ao' : Option Addr) (n cap n' cap' : Nat) (x y : List Nat) (w : World) (hx : Bv w w.heap.size (.slice ao n cap) x) (hy : Bv w w.heap.size (.slice ao' n' cap') y) :
    Calls Try.prog 3 #[.agg #[.int .i64 f, .int .i64 t, .int .i64 k, .int .i64 s, .int .i64 a, .slice ao n cap], .agg #[.int .i64 f', .int .i64 t', .int .i64 k', .int .i64 s', .int .i64 a', .slice ao' n' cap']] w fun e w' => e = .returned (.bool true) ∧ Below w.heap.size w w' := by
  obtain ⟨P, hP⟩ : ∃ P, P = w.heap.size := ⟨_, rfl⟩
  obtain ⟨W, hW⟩ : ∃ W, W = (w.alloc (.cells #[.int .i64 f, .int .i64 t, .int .i64 k, .int .i64 s, .int .i64 a, .slice ao n cap] 24)).alloc (.cells #[.int .i64 f', .int .i64 t', .int .i64 k', .int .i64 s', .int .i64 a', .slice ao' n' cap'] 24) := ⟨_, rfl⟩
  have hbel : Below P w W := by rw [hW, hP]; exact ((Below.refl _ _).alloc (Nat.le_refl _) _).alloc (by simp) _
  have HB : Hid (Bx w P (P + 1) #[.int .i64 f, .int .i64 t, .int .i64 k, .int .i64 s, .int .i64 a, .slice ao n cap] #[.int .i64 f', .int .i64 t', .int .i64 k', .int .i64 s', .int .i64 a', .slice ao' n' cap'] (.slice ao n cap) (.slice ao' n' cap') x y W) := by
    refine hide ⟨hbel, by omega, by rw [hW, hP]; simp, ?_, ?_, ?_, ?_⟩
    · rw [hW, hP]; exact heap_alloc_keeps (heap_alloc_new _ _) _
    · rw [hW, hP]; exact heap_alloc_at (by simp) rfl
    · rw [hP]; exact hx.below hbel (by rw [hP]; exact Nat.le_refl _)
    · rw [hP]; exact hy.below hbel (by rw [hP]; exact Nat.le_refl _)
  have hn : n ≤ 140737488355328 := by have := hx.bytesIn.1; have := hx.len; omega
  have HW := hide hW; have HP := hide hP; have Hxs := hide hx.small; have Hxl := hide hx.len
  obtain ⟨c0, c1, c2, c3, c4, c5⟩ := cell_of_six HB.out.bx
  obtain ⟨d0, d1, d2, d3, d4, d5⟩ := cell_of_six HB.out.by_
  obtain ⟨ce, hce⟩ : ∃ ce, ce = ckErr f t k s a n := ⟨_, rfl⟩
  obtain ⟨sb, hsb⟩ : ∃ sb, sb = sameB f t k s a f' t' k' s' a' x y := ⟨_, rfl⟩
  have C1 := fun w => fCheck_any f t k s a ao n cap w hn
  have C2 := fun w => r2Check_any f t k s a ao n cap w hn
  have C3 := fun (w : World) (h1 : Bv w P (.slice ao n cap) x) (h2 : Bv w P (.slice ao' n' cap') y) (h3 : P ≤ w.heap.size) => fSame_any f t k s a f' t' k' s' a' ao ao' n cap n' cap' P P x y w h1 h2 h3 h3
  have C4 := fun (w : World) (h1 : Bv w P (.slice ao n cap) x) (h2 : Bv w P (.slice ao' n' cap') y) (h3 : P ≤ w.heap.size) => r2Same_any f t k s a f' t' k' s' a' ao ao' n cap n' cap' P P x y w h1 h2 h3 h3
  have C5 := fun (w : World) (h1 : Bv w P (.slice ao n cap) x) (h3 : P ≤ w.heap.size) => fSame_any f t k s a f t k s a ao ao n cap n cap P P x x w h1 h1 h3 h3
  have C6 := fun (w : World) (h1 : Bv w P (.slice ao n cap) x) (h3 : P ≤ w.heap.size) => fClone_any f t k s a ao n cap P x w h1 h3
  have C7 := fun (w : World) (ao2 : Option Addr) (cap2 : Nat) (h0 : Bv w w.heap.size (.slice ao2 x.length cap2) x) (h1 : Bv w P (.slice ao n cap) x) (h3 : P ≤ w.heap.size) => r2Same_any f t k s a f t k s a ao2 ao x.length cap2 n cap w.heap.size P x x w h0 h1 (Nat.le_refl _) h3
  rw [← hce] at C1 C2
  rw [← hsb] at C3 C4
  simp only [sameB_refl] at C5 C7
  have HC1 := hide C1; have HC2 := hide C2; have HC3 := hide C3; have HC4 := hide C4; have HC5 := hide C5; have HC6 := hide C6; have HC7 := hide C7
  rw [← hP]
  clear hx hy hbel hW hP C1 C2 C3 C4 C5 C6 C7 hce hsb hn
  go_enter Try.func3, Try.ntmps3
  go_wp2_with fail
  rw [← HW.out, ← HP.out]
  go_region_held3 (fun w' => w'.cell? ⟨P, 0, none⟩ = some (.int .i64 f) ∧ w'.cell? ⟨P, 1, none⟩ = some (.int .i64 t) ∧ w'.cell? ⟨P, 2, none⟩ = some (.int .i64 k) ∧ w'.cell? ⟨P, 3, none⟩ = some (.int .i64 s) ∧ w'.cell? ⟨P, 4, none⟩ = some (.int .i64 a) ∧ w'.cell? ⟨P, 5, none⟩ = some (.slice ao n cap) ∧ w'.cell? ⟨P + 1, 0, none⟩ = some (.int .i64 f') ∧ w'.cell? ⟨P + 1, 1, none⟩ = some (.int .i64 t') ∧ w'.cell? ⟨P + 1, 2, none⟩ = some (.int .i64 k') ∧ w'.cell? ⟨P + 1, 3, none⟩ = some (.int .i64 s') ∧ w'.cell? ⟨P + 1, 4, none⟩ = some (.int .i64 a') ∧ w'.cell? ⟨P + 1, 5, none⟩ = some (.slice ao' n' cap'))
    (first | exact ⟨c0, c1, c2, c3, c4, c5, d0, d1, d2, d3, d4, d5⟩ | go_keep)
    (first
      | (go_at_call 10; (with_reducible refine (begun_any _).mono ?_); rintro e w1 ⟨rfl, hb⟩; have HB := hide (HB.out.drew.call hb); clear hb c0 c1 c2 c3 c4 c5 d0 d1 d2 d3 d4 d5; obtain ⟨c0, c1, c2, c3, c4, c5⟩ := cell_of_six HB.out.bx; obtain ⟨d0, d1, d2, d3, d4, d5⟩ := cell_of_six HB.out.by_)
      | (go_at_call 11; (with_reducible refine (HC1.out _).mono ?_); rintro e w2 ⟨rfl, hb⟩; have HB := hide (HB.out.call hb); clear hb c0 c1 c2 c3 c4 c5 d0 d1 d2 d3 d4 d5; obtain ⟨c0, c1, c2, c3, c4, c5⟩ := cell_of_six HB.out.bx; obtain ⟨d0, d1, d2, d3, d4, d5⟩ := cell_of_six HB.out.by_)
      | (go_at_call 12; (with_reducible refine (HC2.out _).mono ?_); rintro e w3 ⟨rfl, hb⟩; have HB := hide (HB.out.call hb); clear hb c0 c1 c2 c3 c4 c5 d0 d1 d2 d3 d4 d5; obtain ⟨c0, c1, c2, c3, c4, c5⟩ := cell_of_six HB.out.bx; obtain ⟨d0, d1, d2, d3, d4, d5⟩ := cell_of_six HB.out.by_)
      | (go_at_call 13; (with_reducible refine (HC3.out _ HB.out.hx HB.out.hy HB.out.le).mono ?_); rintro e w4 ⟨rfl, hb⟩; have HB := hide (HB.out.call hb); clear hb c0 c1 c2 c3 c4 c5 d0 d1 d2 d3 d4 d5; obtain ⟨c0, c1, c2, c3, c4, c5⟩ := cell_of_six HB.out.bx; obtain ⟨d0, d1, d2, d3, d4, d5⟩ := cell_of_six HB.out.by_)
      | (go_at_call 13; (with_reducible refine (HC5.out _ HB.out.hx HB.out.le).mono ?_); rintro e w6 ⟨rfl, hb⟩; have HB := hide (HB.out.call hb); clear hb c0 c1 c2 c3 c4 c5 d0 d1 d2 d3 d4 d5; obtain ⟨c0, c1, c2, c3, c4, c5⟩ := cell_of_six HB.out.bx; obtain ⟨d0, d1, d2, d3, d4, d5⟩ := cell_of_six HB.out.by_)
      | (go_at_call 14; (with_reducible refine (HC4.out _ HB.out.hx HB.out.hy HB.out.le).mono ?_); rintro e w5 ⟨rfl, hb⟩; have HB := hide (HB.out.call hb); clear hb c0 c1 c2 c3 c4 c5 d0 d1 d2 d3 d4 d5; obtain ⟨c0, c1, c2, c3, c4, c5⟩ := cell_of_six HB.out.bx; obtain ⟨d0, d1, d2, d3, d4, d5⟩ := cell_of_six HB.out.by_)
      | (go_at_call 15; (with_reducible refine (HC6.out _ HB.out.hx HB.out.le).mono ?_); rintro e w7 ⟨v7, rfl, ho, hb⟩; obtain ⟨ao7, cap7, rfl⟩ := own_slice ho; have HV7 := hide (Bv.of_own ho Hxs.out Hxl.out); have HB := hide (HB.out.call hb); clear ho hb c0 c1 c2 c3 c4 c5 d0 d1 d2 d3 d4 d5; obtain ⟨c0, c1, c2, c3, c4, c5⟩ := cell_of_six HB.out.bx; obtain ⟨d0, d1, d2, d3, d4, d5⟩ := cell_of_six HB.out.by_)
      | (go_at_call 14; (with_reducible refine (HC7.out _ _ _ HV7.out HB.out.hx HB.out.le).mono ?_); rintro e w8 ⟨rfl, hb⟩; have HB := hide (HB.out.call hb); clear hb c0 c1 c2 c3 c4 c5 d0 d1 d2 d3 d4 d5; obtain ⟨c0, c1, c2, c3, c4, c5⟩ := cell_of_six HB.out.bx; obtain ⟨d0, d1, d2, d3, d4, d5⟩ := cell_of_six HB.out.by_))
  all_goals go_wp2
  all_goals go_ret
  all_goals exact ⟨rfl, HB.out.below⟩
end Go.Proofs.Ytebojmjbolphfaa
