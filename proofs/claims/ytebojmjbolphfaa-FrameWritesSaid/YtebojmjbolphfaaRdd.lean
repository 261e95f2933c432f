/- Contract: the reader's datagram. -/
import Derived.Test.YtebojmjbolphfaaRdb
import Derived.Test.YtebojmjbolphfaaDcm
namespace Go.Proofs.Ytebojmjbolphfaa
open Go Go.RowKit

theorem bitsVal_lt (l : List Bool) (n : Nat) : bitsVal l n < 2 ^ n := by
  unfold bitsVal
  split
  · have h := valBits_lt (l.take n)
    have hl : (l.take n).length ≤ n := List.length_take_le _ _
    have := Nat.pow_le_pow_right (n := 2) (by omega) hl
    rw [show ((n : Int)).toNat = n from rfl]
    omega
  · exact Nat.two_pow_pos n
theorem rdB_lt (n : Nat) (s : St) : (rdB n s).1 < 2 ^ n := by
  unfold rdB
  split
  · exact bitsVal_lt _ _
  · exact Nat.two_pow_pos n
theorem RdIs.kept {w w' : World} {B B' p q : Nat} {bytes : List Nat} {s : St} {T : Nat → Bool} (h : RdIs w B p q bytes s) (hk : Kept B' T w w') (h1 : T 84 = false) (h2 : T 5 = false) (h3 : T 74 = false) : RdIs w' B p q bytes s := by
  obtain ⟨l, a, b⟩ := h.src
  exact ⟨h.from_, hk.typed _ _ _ _ h.box h3, l, a.kept hk h1 h2, b⟩

theorem RdIs.kept_six {w : World} {B p q R : Nat} {bytes : List Nat} {s : St} (h : RdIs w B p q bytes s) {c0 c1 c2 c3 c4 c5 : Value} (hq : w.heap[R]? = some (.cells #[c0, c1, c2, c3, c4, c5] 24 (0, 0))) (e0 e1 e2 e3 e4 e5 : Value) :
    RdIs ((((((w.setCell ⟨R, 0, none⟩ e0).setCell ⟨R, 1, none⟩ e1).setCell ⟨R, 2, none⟩ e2).setCell ⟨R, 3, none⟩ e3).setCell ⟨R, 4, none⟩ e4).setCell ⟨R, 5, none⟩ e5) B p q bytes s := by
  have a0 := heap_setCell_same (k := 0) hq e0
  have a1 := heap_setCell_same (k := 1) a0 e1
  have a2 := heap_setCell_same (k := 2) a1 e2
  have a3 := heap_setCell_same (k := 3) a2 e3
  have a4 := heap_setCell_same (k := 4) a3 e4
  have k0 : Kept 0 (fun e => e == 24) w (w.setCell ⟨R, 0, none⟩ e0) := (Kept.refl _ _ _).setCell (p := ⟨R, 0, none⟩) (Nat.zero_le _) hq rfl e0
  have k1 := k0.setCell (p := ⟨R, 1, none⟩) (Nat.zero_le _) a0 rfl e1
  have k2 := k1.setCell (p := ⟨R, 2, none⟩) (Nat.zero_le _) a1 rfl e2
  have k3 := k2.setCell (p := ⟨R, 3, none⟩) (Nat.zero_le _) a2 rfl e3
  have k4 := k3.setCell (p := ⟨R, 4, none⟩) (Nat.zero_le _) a3 rfl e4
  have k5 := k4.setCell (p := ⟨R, 5, none⟩) (Nat.zero_le _) a4 rfl e5
  exact h.kept k5 (by decide) (by decide) (by decide)

/-- How things stand within datagram: the reader, the datagram at block D, the result at block R. -/
structure DgSt (w0 : World) (B R D p q : Nat) (bytes : List Nat) (w : World) (s : St) (cs : Array Value) : Prop where
  below : Below B w0 w
  ofD : B ≤ D
  ofR : B ≤ R
  ne : R ≠ D
  dg : w.heap[D]? = some (.cells cs 24 (0, 0))
  res : w.heap[R]? = some (.cells #[.int .i64 0, .int .i64 0, .int .i64 0, .int .i64 0, .int .i64 0, .slice none 0 0] 24 (0, 0))
  rd : RdIs w B p q bytes s
theorem DgSt.call {w0 : World} {B R D p q : Nat} {bytes : List Nat} {w w' : World} {s s' : St} {cs : Array Value} (h : DgSt w0 B R D p q bytes w s cs) (hk : Kept B rbT w w') (hr : RdIs w' B p q bytes s') : DgSt w0 B R D p q bytes w' s' cs :=
  ⟨h.below.trans hk.below, h.ofD, h.ofR, h.ne, hk.typed _ _ _ _ h.dg (by decide), hk.typed _ _ _ _ h.res (by decide), hr⟩
theorem DgSt.set {w0 : World} {B R D p q : Nat} {bytes : List Nat} {w : World} {s : St} {cs : Array Value} (h : DgSt w0 B R D p q bytes w s cs) (i : Nat) (u : Value) : DgSt w0 B R D p q bytes (w.setCell ⟨D, i, none⟩ u) s (cs.setIfInBounds i u) :=
  ⟨h.below.setCell (p := ⟨D, i, none⟩) h.ofD u, h.ofD, h.ofR, h.ne, heap_setCell_same h.dg u, heap_setCell_far h.res h.ne u,
    h.rd.kept ((Kept.refl B (fun e => e == 24) w).setCell (p := ⟨D, i, none⟩) h.ofD h.dg rfl u) (by decide) (by decide) (by decide)⟩
theorem DgSt.err {w0 : World} {B R D p q : Nat} {bytes : List Nat} {w : World} {s : St} {cs : Array Value} (h : DgSt w0 B R D p q bytes w s cs) : DgSt w0 B R D p q bytes (w.setCell ⟨p, 1, none⟩ (.int .i64 21)) (21, []) cs := by
  obtain ⟨l, hl, _⟩ := h.rd.src
  have hx := RdIs.setErr (e := 21) h.rd.from_ h.rd.box hl [] (fun h => by cases h)
  exact h.call (kept_rd hx.2) hx.1

set_option maxRecDepth 100000 in
set_option maxHeartbeats 3200000 in
theorem fdDatagram_any (B p q : Nat) (bytes : List Nat) (l : List Bool) (w : World) (h : RdIs w B p q bytes (0, l)) (hB : B ≤ w.heap.size) :
    Calls Try.prog 51 #[.pointer (some ⟨p, 0, none⟩)] w fun e w' => ∃ v, e = .returned (.agg #[.int .i64 (((r3 l).1 : Nat) : Int), .int .i64 (((r4 l).1 : Nat) : Int), .int .i64 (((r1 l).1 : Nat) : Int), .int .i64 (dS l), .int .i64 (wrap64 (((r5 l).1 : Nat) : Int)), v]) ∧
      w'.ownsRow w.heap.size 5 1 v (dX l).length (byteVs (dX l)) ∧ RdIs w' B p q bytes (rEnd l) ∧ Below B w w' := by
  obtain ⟨R, hR⟩ : ∃ R, R = w.heap.size := ⟨_, rfl⟩
  obtain ⟨W, hW⟩ : ∃ W, W = (w.alloc (.cells #[.int .i64 0, .int .i64 0, .int .i64 0, .int .i64 0, .int .i64 0, .slice none 0 0] 24)).alloc (.cells #[.int .i64 0, .int .i64 0, .int .i64 0, .int .i64 0, .int .i64 0, .slice none 0 0] 24) := ⟨_, rfl⟩
  have hD : Hid (DgSt w B R (R + 1) p q bytes W (0, l) #[.int .i64 0, .int .i64 0, .int .i64 0, .int .i64 0, .int .i64 0, .slice none 0 0]) := by
    refine hide ⟨?_, by omega, by omega, by omega, ?_, ?_, ?_⟩
    · rw [hW]; exact ((Below.refl _ _).alloc hB _).alloc (by simp; omega) _
    · rw [hW, hR]; exact heap_alloc_at (by simp) rfl
    · rw [hW, hR]; exact heap_alloc_keeps (heap_alloc_new _ _) _
    · rw [hW]; exact h.below (((Below.refl w.heap.size _).alloc (Nat.le_refl _) _).alloc (by simp) _) (Nat.le_refl _)
  have hWs : R ≤ W.heap.size := by rw [hW, hR]; simp; omega
  have HWs := hide hWs; have HW := hide hW; have HR := hide hR
  have C1 : ∀ w', RdIs w' B p q bytes (0, l) → Calls Try.prog 60 #[.pointer (some ⟨p, 0, none⟩), .int .i64 2] w' fun e w'' => e = .returned (.int .u64 (((r1 l).1 : Nat) : Int)) ∧ RdIs w'' B p q bytes (r1 l).2 ∧ Kept B rdT w' w'' := fun w' hh => fdBits_any B p q 2 bytes (0, l) w' hh (by omega)
  have C3 : ∀ w', RdIs w' B p q bytes (s2 l) → Calls Try.prog 60 #[.pointer (some ⟨p, 0, none⟩), .int .i64 4] w' fun e w'' => e = .returned (.int .u64 (((r3 l).1 : Nat) : Int)) ∧ RdIs w'' B p q bytes (r3 l).2 ∧ Kept B rdT w' w'' := fun w' hh => fdBits_any B p q 4 bytes (s2 l) w' hh (by omega)
  have C4 : ∀ w', RdIs w' B p q bytes (r3 l).2 → Calls Try.prog 60 #[.pointer (some ⟨p, 0, none⟩), .int .i64 4] w' fun e w'' => e = .returned (.int .u64 (((r4 l).1 : Nat) : Int)) ∧ RdIs w'' B p q bytes (r4 l).2 ∧ Kept B rdT w' w'' := fun w' hh => fdBits_any B p q 4 bytes (r3 l).2 w' hh (by omega)
  have C5 : ∀ w', RdIs w' B p q bytes (r4 l).2 → Calls Try.prog 61 #[.pointer (some ⟨p, 0, none⟩)] w' fun e w'' => e = .returned (.int .i64 (wrap64 (((r5 l).1 : Nat) : Int))) ∧ RdIs w'' B p q bytes (r5 l).2 ∧ Kept B rdT w' w'' := fun w' hh => fdCount_any B p q bytes (r4 l).2 w' hh
  have C6 : ∀ w', RdIs w' B p q bytes (r5 l).2 → Calls Try.prog 61 #[.pointer (some ⟨p, 0, none⟩)] w' fun e w'' => e = .returned (.int .i64 (wrap64 (((r6 l).1 : Nat) : Int))) ∧ RdIs w'' B p q bytes (r6 l).2 ∧ Kept B rdT w' w'' := fun w' hh => fdCount_any B p q bytes (r5 l).2 w' hh
  have C7 : ∀ w', RdIs w' B p q bytes (r6 l).2 → B ≤ w'.heap.size → Calls Try.prog 62 #[.pointer (some ⟨p, 0, none⟩)] w' fun e w'' => ∃ v, e = .returned v ∧ w''.ownsRow w'.heap.size 5 1 v (r7 l).1.length (byteVs (r7 l).1) ∧ RdIs w'' B p q bytes (r7 l).2 ∧ Kept B rbT w' w'' := fun w' hh hb => fdBody_any B p q bytes (r6 l).2 w' hh hb
  have b1 : (r1 l).1 < 2 ^ 2 := rdB_lt 2 _
  have b3 : (r3 l).1 < 2 ^ 4 := rdB_lt 4 _
  have b4 : (r4 l).1 < 2 ^ 4 := rdB_lt 4 _
  have hs2 : s2 l = if (r1 l).2.1 = 0 ∧ kdB (r1 l).1 = false then (21, []) else (r1 l).2 := rfl
  have hE : rEnd l = if (r1 l).1 = 1 then (r7 l).2 else (r5 l).2 := rfl
  have hS : dS l = if (r1 l).1 = 1 then wrap64 (((r6 l).1 : Nat) : Int) else 0 := rfl
  have hX : dX l = if (r1 l).1 = 1 then (r7 l).1 else [] := rfl
  obtain ⟨K, hK⟩ : ∃ K, K = (r1 l).1 := ⟨_, rfl⟩
  obtain ⟨S1, hS1⟩ : ∃ S1, S1 = (r1 l).2 := ⟨_, rfl⟩
  obtain ⟨S2, hS2⟩ : ∃ S2, S2 = s2 l := ⟨_, rfl⟩
  obtain ⟨F, hF⟩ : ∃ F, F = (r3 l).1 := ⟨_, rfl⟩
  obtain ⟨S3, hS3⟩ : ∃ S3, S3 = (r3 l).2 := ⟨_, rfl⟩
  obtain ⟨T, hT⟩ : ∃ T, T = (r4 l).1 := ⟨_, rfl⟩
  obtain ⟨S4, hS4⟩ : ∃ S4, S4 = (r4 l).2 := ⟨_, rfl⟩
  obtain ⟨A, hA⟩ : ∃ A : Int, A = wrap64 (((r5 l).1 : Nat) : Int) := ⟨_, rfl⟩
  obtain ⟨S5, hS5⟩ : ∃ S5, S5 = (r5 l).2 := ⟨_, rfl⟩
  obtain ⟨S, hSS⟩ : ∃ S : Int, S = wrap64 (((r6 l).1 : Nat) : Int) := ⟨_, rfl⟩
  obtain ⟨S6, hS6⟩ : ∃ S6, S6 = (r6 l).2 := ⟨_, rfl⟩
  obtain ⟨X, hXX⟩ : ∃ X, X = (r7 l).1 := ⟨_, rfl⟩
  obtain ⟨S7, hS7⟩ : ∃ S7, S7 = (r7 l).2 := ⟨_, rfl⟩
  rw [← hK, ← hS1] at C1
  rw [← hK, ← hS1, ← hS2] at hs2
  rw [← hS2, ← hF, ← hS3] at C3
  rw [← hS3, ← hT, ← hS4] at C4
  rw [← hS4, ← hA, ← hS5] at C5
  rw [← hS5, ← hSS, ← hS6] at C6
  rw [← hS6, ← hXX, ← hS7] at C7
  rw [← hK] at b1; rw [← hF] at b3; rw [← hT] at b4
  rw [← hK, ← hS7, ← hS5] at hE
  rw [← hK, ← hSS] at hS
  rw [← hK, ← hXX] at hX
  rw [hE, hS, hX, ← hF, ← hT, ← hK, ← hA]
  have HS2 := hide hs2
  have HC1 := hide C1; have HC3 := hide C3; have HC4 := hide C4; have HC5 := hide C5; have HC6 := hide C6; have HC7 := hide C7
  rw [← hR]
  clear hK hS1 hS2 hF hS3 hT hS4 hA hS5 hSS hS6 hXX hS7 C1 C3 C4 C5 C6 C7 hE hS hX hs2 hW hR hWs h
  go_enter Try.func51, Try.ntmps51
  go_wp2_with fail
  rw [← HW.out, ← HR.out]
  refine (HC1.out _ hD.out.rd).mono ?_
  rintro e w1 ⟨rfl, hr1, k1⟩
  have HD1 := hide (hD.out.call (kept_rd k1) hr1)
  obtain ⟨d0, d1, d2, d3, d4, d5⟩ := cell_of_six HD1.out.dg
  obtain ⟨f0, f1, f2, f3, f4, f5⟩ := free_of_six HD1.out.dg
  obtain ⟨p0, p1⟩ := cell_of_two hr1.box
  have HD2 := hide (HD1.out.set 2 (.int .i64 (K : Int)))
  obtain ⟨q0, q1⟩ := cell_of_two HD2.out.rd.box
  obtain ⟨g0, g1⟩ := free_of_two HD2.out.rd.box
  obtain ⟨E1, L1⟩ := S1
  simp only at p1 q1
  clear hr1 k1
  have hcase : (¬ E1 = 0 ∧ S2 = (E1, L1)) ∨ (E1 = 0 ∧ kdB K = true ∧ S2 = (E1, L1)) ∨ (E1 = 0 ∧ kdB K = false ∧ S2 = (21, [])) := by
    have := HS2.out
    simp only at this
    by_cases h1 : E1 = 0
    · cases h2 : kdB K with
      | true => exact .inr (.inl ⟨h1, rfl, by rw [this, if_neg (by simp [h2])]⟩)
      | false => exact .inr (.inr ⟨h1, rfl, by rw [this, if_pos ⟨h1, h2⟩]⟩)
    · exact .inl ⟨h1, by rw [this, if_neg (fun h => h1 h.1)]⟩
  have HKD := hide hcase
  by_cases he1 : E1 = 0
  case' pos =>
    have eB : ((E1 : Int) == 0) = true := by simp [he1]
    have hcase : (kdB K = true ∧ S2 = (E1, L1)) ∨ (kdB K = false ∧ S2 = (21, [])) := by
      rcases hcase with h | h | h
      · exact absurd he1 h.1
      · exact .inl h.2
      · exact .inr h.2
    clear HKD he1
    rcases hcase with ⟨hkd, hst⟩ | ⟨hkd, hst⟩
  case' neg =>
    have eB : ((E1 : Int) == 0) = false := by simp [he1]
    have hst : S2 = (E1, L1) := by
      rcases hcase with h | h | h
      · exact h.2
      · exact absurd h.1 he1
      · exact absurd h.1 he1
    clear HKD he1 hcase
  case' pos.inl =>
    subst hst
    have HDx := hide HD2.out
    go_wp2_with (go_at_call 27; refine (isKind_any _ _).mono ?_; rintro e w' ⟨rfl, rfl⟩)
    clear d0 d1 d2 d3 d4 d5 f0 f1 f2 f3 f4 f5 p0 p1 q0 q1 g0 g1 eB hkd
  case' pos.inr =>
    subst hst
    have HDx := hide HD2.out.err
    go_wp2_with (go_at_call 27; refine (isKind_any _ _).mono ?_; rintro e w' ⟨rfl, rfl⟩)
    clear d0 d1 d2 d3 d4 d5 f0 f1 f2 f3 f4 f5 p0 p1 q0 q1 g0 g1 eB hkd
  case' neg =>
    subst hst
    have HDx := hide HD2.out
    go_wp2_with fail
    clear d0 d1 d2 d3 d4 d5 f0 f1 f2 f3 f4 f5 p0 p1 q0 q1 g0 g1 eB
  all_goals
    refine (HC3.out _ HDx.out.rd).mono ?_
    rintro e w3 ⟨rfl, hr3, k3⟩
    have HDy := hide (HDx.out.call (kept_rd k3) hr3)
    obtain ⟨d0, d1, d2, d3, d4, d5⟩ := cell_of_six HDy.out.dg
    obtain ⟨f0, f1, f2, f3, f4, f5⟩ := free_of_six HDy.out.dg
    have HDx := hide (HDy.out.set 0 (.int .i64 (F : Int)))
    clear hr3 k3 HDy
    go_wp2_with fail
    clear d0 d1 d2 d3 d4 d5 f0 f1 f2 f3 f4 f5
    refine (HC4.out _ HDx.out.rd).mono ?_
    rintro e w4 ⟨rfl, hr4, k4⟩
    have HDy := hide (HDx.out.call (kept_rd k4) hr4)
    obtain ⟨d0, d1, d2, d3, d4, d5⟩ := cell_of_six HDy.out.dg
    obtain ⟨f0, f1, f2, f3, f4, f5⟩ := free_of_six HDy.out.dg
    have HDx := hide (HDy.out.set 1 (.int .i64 (T : Int)))
    clear hr4 k4 HDy
    go_wp2_with fail
    clear d0 d1 d2 d3 d4 d5 f0 f1 f2 f3 f4 f5
    refine (HC5.out _ HDx.out.rd).mono ?_
    rintro e w5 ⟨rfl, hr5, k5⟩
    have HDy := hide (HDx.out.call (kept_rd k5) hr5)
    obtain ⟨d0, d1, d2, d3, d4, d5⟩ := cell_of_six HDy.out.dg
    obtain ⟨f0, f1, f2, f3, f4, f5⟩ := free_of_six HDy.out.dg
    have HDx := hide (HDy.out.set 4 (.int .i64 A))
    clear hr5 k5 HDy
    by_cases hk1 : K = 1
    · have kB : ((K : Int) == 1) = true := by simp [hk1]
      have HK1 := hide hk1
      clear hk1
      go_wp2_with fail
      clear d0 d1 d2 d3 d4 d5 f0 f1 f2 f3 f4 f5
      refine (HC6.out _ HDx.out.rd).mono ?_
      rintro e w6 ⟨rfl, hr6, k6⟩
      have HDy := hide (HDx.out.call (kept_rd k6) hr6)
      obtain ⟨d0, d1, d2, d3, d4, d5⟩ := cell_of_six HDy.out.dg
      obtain ⟨f0, f1, f2, f3, f4, f5⟩ := free_of_six HDy.out.dg
      have HDx := hide (HDy.out.set 3 (.int .i64 S))
      clear hr6 k6 HDy
      go_wp2_with fail
      clear d0 d1 d2 d3 d4 d5 f0 f1 f2 f3 f4 f5
      refine (HC7.out _ HDx.out.rd (Nat.le_trans HDx.out.ofR (Nat.le_of_lt (lt_of_block HDx.out.res)))).mono ?_
      rintro e w7 ⟨v7, rfl, ho7, hr7, k7⟩
      obtain ⟨ao7, c7, rfl⟩ := own_slice ho7
      have HO7 := hide (ownsRow_lower ho7 (Nat.le_of_lt (lt_of_block HDx.out.res)))
      have HDy := hide (HDx.out.call k7 hr7)
      obtain ⟨d0, d1, d2, d3, d4, d5⟩ := cell_of_six HDy.out.dg
      obtain ⟨f0, f1, f2, f3, f4, f5⟩ := free_of_six HDy.out.dg
      have HO7 := hide (ownsRow_setCell_typed (a := ⟨R + 1, 5, none⟩) HO7.out HDy.out.dg (by decide) (.slice ao7 X.length c7))
      have HDx := hide (HDy.out.set 5 (.slice ao7 X.length c7))
      obtain ⟨x0, x1, x2, x3, x4, x5⟩ := cell_of_six HDx.out.res
      obtain ⟨y0, y1, y2, y3, y4, y5⟩ := free_of_six HDx.out.res
      clear ho7 hr7 k7 HDy
      go_wp2
      have hz := cell_of_six (six_set HDx.out.res (.int .i64 (F : Int)) (.int .i64 (T : Int)) (.int .i64 1) (.int .i64 S) (.int .i64 A) (.slice ao7 X.length c7))
      have hbel := below_six HDx.out.below HDx.out.ofR (.int .i64 (F : Int)) (.int .i64 (T : Int)) (.int .i64 1) (.int .i64 S) (.int .i64 A) (.slice ao7 X.length c7)
      have hown := own_six HO7.out HDx.out.res (by decide) (.int .i64 (F : Int)) (.int .i64 (T : Int)) (.int .i64 1) (.int .i64 S) (.int .i64 A) (.slice ao7 X.length c7)
      have hrd := RdIs.kept_six HDx.out.rd HDx.out.res (.int .i64 (F : Int)) (.int .i64 (T : Int)) (.int .i64 1) (.int .i64 S) (.int .i64 A) (.slice ao7 X.length c7)
      refine bodyPost_ret (v := .agg #[.int .i64 (F : Int), .int .i64 (T : Int), .int .i64 1, .int .i64 S, .int .i64 A, .slice ao7 X.length c7]) (by simp [results, Try.results51, go_sem, hz]) rfl ?_
      exact ⟨_, rfl, hown, hrd, hbel⟩
    · have kB : ((K : Int) == 1) = false := by simp; omega
      have HK1 := hide hk1
      clear hk1
      obtain ⟨x0, x1, x2, x3, x4, x5⟩ := cell_of_six HDx.out.res
      obtain ⟨y0, y1, y2, y3, y4, y5⟩ := free_of_six HDx.out.res
      go_wp2
      have hz := cell_of_six (six_set HDx.out.res (.int .i64 (F : Int)) (.int .i64 (T : Int)) (.int .i64 (K : Int)) (.int .i64 0) (.int .i64 A) (.slice none 0 0))
      have hbel := below_six HDx.out.below HDx.out.ofR (.int .i64 (F : Int)) (.int .i64 (T : Int)) (.int .i64 (K : Int)) (.int .i64 0) (.int .i64 A) (.slice none 0 0)
      have hrd := RdIs.kept_six HDx.out.rd HDx.out.res (.int .i64 (F : Int)) (.int .i64 (T : Int)) (.int .i64 (K : Int)) (.int .i64 0) (.int .i64 A) (.slice none 0 0)
      refine bodyPost_ret (v := .agg #[.int .i64 (F : Int), .int .i64 (T : Int), .int .i64 (K : Int), .int .i64 0, .int .i64 A, .slice none 0 0]) (by simp [results, Try.results51, go_sem, hz]) rfl ?_
      first
        | exact ⟨_, rfl, World.ownsRow_nil _ _ _ _, hrd, hbel⟩
        | (simp only [if_neg HK1.out]; exact ⟨_, rfl, World.ownsRow_nil _ _ _ _, hrd, hbel⟩)
end Go.Proofs.Ytebojmjbolphfaa
