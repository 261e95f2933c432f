/- Contracts: whether a condition, or all of some, hold of bound events: the program's calls (All: of few conditions) and the document's. -/
import Derived.Test.YtpbloplbpkedcaaVl9
namespace Go.Proofs.Ytpbloplbpkedcaa
open Go Go.RowKit Go.Sort

/-- The boxes of a call of Cond: a condition, a partial match. -/
def BoxC (w : World) (P : Nat) (c : Cnd) (bv : Value) (u : World) : Prop :=
  u.heap[P]? = some (.cells #[.string c.left.var, .string c.left.attr, .int .i64 c.left.vk, .int .i64 c.left.vn, .string c.left.vs, .int .i64 c.rel, .string c.right.var, .string c.right.attr, .int .i64 c.right.vk, .int .i64 c.right.vn, .string c.right.vs] 27 (0, 0)) ∧
  u.heap[P + 1]? = some (.cells #[bv] 43 (0, 0)) ∧ P + 1 + 1 ≤ u.heap.size ∧ Below P w u
theorem BoxC.low {w : World} {P : Nat} {c : Cnd} {bv : Value} {u : World} (h : BoxC w P c bv u) : Below P w u := h.2.2.2
theorem BoxC.size {w : World} {P : Nat} {c : Cnd} {bv : Value} {u : World} (h : BoxC w P c bv u) : P + 1 + 1 ≤ u.heap.size := h.2.2.1
theorem BoxC.below {w : World} {P : Nat} {c : Cnd} {bv : Value} {u u' : World} (h : BoxC w P c bv u) (hb : Below u.heap.size u u') : BoxC w P c bv u' := by
  obtain ⟨h1, h2, h4, h5⟩ := h
  exact ⟨(hb.block _ (by omega)).trans h1, (hb.block _ (by omega)).trans h2, Nat.le_trans h4 hb.size, h5.trans (hb.mono (by omega))⟩
theorem BoxC.cells {w : World} {P : Nat} {c : Cnd} {bv : Value} {u : World} (h : BoxC w P c bv u) :
    (u.cell? ⟨P, 0, none⟩ = some (.string c.left.var) ∧ u.cell? ⟨P, 1, none⟩ = some (.string c.left.attr) ∧ u.cell? ⟨P, 2, none⟩ = some (.int .i64 c.left.vk) ∧ u.cell? ⟨P, 3, none⟩ = some (.int .i64 c.left.vn) ∧ u.cell? ⟨P, 4, none⟩ = some (.string c.left.vs) ∧
    u.cell? ⟨P, 5, none⟩ = some (.int .i64 c.rel) ∧ u.cell? ⟨P, 6, none⟩ = some (.string c.right.var) ∧ u.cell? ⟨P, 7, none⟩ = some (.string c.right.attr) ∧ u.cell? ⟨P, 8, none⟩ = some (.int .i64 c.right.vk) ∧ u.cell? ⟨P, 9, none⟩ = some (.int .i64 c.right.vn) ∧ u.cell? ⟨P, 10, none⟩ = some (.string c.right.vs)) ∧
    u.cell? ⟨P + 1, 0, none⟩ = some bv ∧ P < u.heap.size ∧ P + 1 < u.heap.size ∧ P ≠ u.heap.size ∧ P + 1 ≠ u.heap.size :=
  ⟨cell_of_eleven h.1, cell_of_one h.2.1, by have := h.2.2.1; omega⟩
theorem condB_left {c : Cnd} {bs : List Bd} (h : valL c.left bs = none) : condB c bs = true := by unfold condB; rw [h]
theorem condB_right {c : Cnd} {bs : List Bd} (h : valL c.right bs = none) : condB c bs = true := by unfold condB; rw [h]; cases valL c.left bs <;> rfl
theorem condB_both {c : Cnd} {bs : List Bd} {x y : Vl} (h1 : valL c.left bs = some x) (h : valL c.right bs = some y) : condB c bs = holdL c.rel x y := by unfold condB; rw [h, h1]
/-- A box of three cells that a call has laid. -/
def Val3 (Q : Nat) (k n : Int) (s : ByteArray) (u : World) : Prop := u.heap[Q]? = some (.cells #[.int .i64 k, .int .i64 n, .string s] 23 (0, 0))
theorem Val3.cells {Q : Nat} {k n : Int} {s : ByteArray} {u : World} (h : Val3 Q k n s u) : (u.cell? ⟨Q, 0, none⟩ = some (.int .i64 k) ∧ u.cell? ⟨Q, 1, none⟩ = some (.int .i64 n) ∧ u.cell? ⟨Q, 2, none⟩ = some (.string s)) ∧ Q < u.heap.size ∧ Q ≠ u.heap.size :=
  ⟨cell_of_three h, lt_of_block h, by have := lt_of_block h; omega⟩

set_option maxRecDepth 100000 in
set_option maxHeartbeats 4000000 in
theorem pCond_any (c : Cnd) (B : Nat) (ao : Option Addr) (n cap : Nat) (bs : List Bd) (w : World) (h : BsV w B (.slice ao n cap) bs) (hB : B ≤ w.heap.size) (hn : n ≤ 140737488355328) :
    Calls Try.prog 15 #[cdV c, .agg #[.slice ao n cap]] w fun e w' => e = .returned (.bool (condB c bs)) ∧ Below w.heap.size w w' := by
  unfold cdV
  obtain ⟨P, hP⟩ : ∃ P, P = w.heap.size := ⟨_, rfl⟩
  obtain ⟨W, hW⟩ : ∃ W, W = (w.alloc (.cells #[.string c.left.var, .string c.left.attr, .int .i64 c.left.vk, .int .i64 c.left.vn, .string c.left.vs, .int .i64 c.rel, .string c.right.var, .string c.right.attr, .int .i64 c.right.vk, .int .i64 c.right.vn, .string c.right.vs] 27)).alloc (.cells #[.slice ao n cap] 43) := ⟨_, rfl⟩
  have HX : Hid (BoxC w P c (.slice ao n cap) W) := by
    rw [hW, hP]
    refine ⟨?_, ?_, ?_, ?_⟩
    · rw [heap_alloc_old _ _ (by simp)]; exact heap_alloc_new _ _
    · have := heap_alloc_new (w.alloc (.cells #[.string c.left.var, .string c.left.attr, .int .i64 c.left.vk, .int .i64 c.left.vn, .string c.left.vs, .int .i64 c.rel, .string c.right.var, .string c.right.attr, .int .i64 c.right.vk, .int .i64 c.right.vn, .string c.right.vs] 27)) (.cells #[.slice ao n cap] 43)
      simpa using this
    · simp
    · exact ((Below.refl _ _).alloc (Nat.le_refl _) _).alloc (by simp) _
  have HL := Lib.hid (fun (u : World) (hu : Below P w u) (hs : P + 1 + 1 ≤ u.heap.size) => pValue_any c.left B ao n cap bs u (h.below hu (by omega)) (by omega) hn)
  have HR := Lib.hid (fun (u : World) (hu : Below P w u) (hs : P + 1 + 1 ≤ u.heap.size) => pValue_any c.right B ao n cap bs u (h.below hu (by omega)) (by omega) hn)
  have HP := Lib.hid hP; have HW := Lib.hid hW
  unfold opV at HL HR
  clear h hB hP hW hn
  cases hl : valL c.left bs with
  | none =>
    rw [condB_left hl]
    rw [hl] at HL
    have hR : ∃ k n s b, resL (valL c.right bs) = .tuple #[.agg #[.int .i64 k, .int .i64 n, .string s], .bool b] := ⟨_, _, _, _, rfl⟩
    obtain ⟨qk, qn, qs, qb, hR⟩ := hR
    rw [hR] at HR
    unfold resL Vl.v zeroL at HL
    simp only [Option.getD_none, Option.isSome_none] at HL
    clear hR hl
    go_enter Try.func15, Try.ntmps15
    go_wp2_with fail
    rw [← HW.out, ← HP.out]
    obtain ⟨⟨c0, c1, c2, c3, c4, c5, c6, c7, c8, c9, c10⟩, x0, l0, l1, l2, l3⟩ := HX.out.cells
    go_wp2_with (go_at_call 13; (with_reducible refine (HL.out _ HX.out.low HX.out.size).mono ?_); rintro e u1 ⟨rfl, hb⟩; have HX1 := Lib.hid (HX.out.below hb); clear hb c0 c1 c2 c3 c4 c5 c6 c7 c8 c9 c10 x0 l0 l1 l2 l3; obtain ⟨⟨c0, c1, c2, c3, c4, c5, c6, c7, c8, c9, c10⟩, x0, l0, l1, l2, l3⟩ := HX1.out.cells)
    have HX2 := Lib.hid (HX1.out.below ((Below.refl u1.heap.size u1).alloc (Nat.le_refl _) (.cells #[.int .i64 zeroL.k, .int .i64 zeroL.n, .string zeroL.s] 23)))
    have HV := Lib.hid (show Val3 u1.heap.size zeroL.k zeroL.n zeroL.s (u1.alloc (.cells #[.int .i64 zeroL.k, .int .i64 zeroL.n, .string zeroL.s] 23)) from heap_alloc_new _ _)
    unfold zeroL at HX2 HV
    simp only at HX2 HV
    go_wp2_with (go_at_call 13; (with_reducible refine (HR.out _ HX2.out.low HX2.out.size).mono ?_); rintro e u2 ⟨rfl, hb⟩; have HX3 := Lib.hid (HX2.out.below hb); have HV3 := Lib.hid (show Val3 u1.heap.size _ _ _ u2 from (hb.block _ HV.out.cells.2.1).trans HV.out); clear hb c0 c1 c2 c3 c4 c5 c6 c7 c8 c9 c10 x0 l0 l1 l2 l3; obtain ⟨⟨c0, c1, c2, c3, c4, c5, c6, c7, c8, c9, c10⟩, x0, l0, l1, l2, l3⟩ := HX3.out.cells; obtain ⟨⟨y0, y1, y2⟩, m0, m1⟩ := HV3.out.cells)
    go_wp2
    go_ret
    rw [← HP.out]
    refine ⟨rfl, ?_⟩
    exact HX3.out.low.trans (((Below.refl u2.heap.size u2).alloc (Nat.le_refl _) _).mono (by have := HX3.out.size; omega))
  | some x =>
    obtain ⟨pk, pn, ps⟩ := x
    rw [hl] at HL
    unfold resL Vl.v at HL
    simp only [Option.getD_some, Option.isSome_some] at HL
    cases hr : valL c.right bs with
    | none =>
      rw [condB_right hr]
      rw [hr] at HR
      unfold resL Vl.v zeroL at HR
      simp only [Option.getD_none, Option.isSome_none] at HR
      clear hl hr
      go_enter Try.func15, Try.ntmps15
      go_wp2_with fail
      rw [← HW.out, ← HP.out]
      obtain ⟨⟨c0, c1, c2, c3, c4, c5, c6, c7, c8, c9, c10⟩, x0, l0, l1, l2, l3⟩ := HX.out.cells
      go_wp2_with (go_at_call 13; (with_reducible refine (HL.out _ HX.out.low HX.out.size).mono ?_); rintro e u1 ⟨rfl, hb⟩; have HX1 := Lib.hid (HX.out.below hb); clear hb c0 c1 c2 c3 c4 c5 c6 c7 c8 c9 c10 x0 l0 l1 l2 l3; obtain ⟨⟨c0, c1, c2, c3, c4, c5, c6, c7, c8, c9, c10⟩, x0, l0, l1, l2, l3⟩ := HX1.out.cells)
      have HX2 := Lib.hid (HX1.out.below ((Below.refl u1.heap.size u1).alloc (Nat.le_refl _) (.cells #[.int .i64 (⟨pk, pn, ps⟩ : Vl).k, .int .i64 (⟨pk, pn, ps⟩ : Vl).n, .string (⟨pk, pn, ps⟩ : Vl).s] 23)))
      have HV := Lib.hid (show Val3 u1.heap.size (⟨pk, pn, ps⟩ : Vl).k (⟨pk, pn, ps⟩ : Vl).n (⟨pk, pn, ps⟩ : Vl).s (u1.alloc (.cells #[.int .i64 (⟨pk, pn, ps⟩ : Vl).k, .int .i64 (⟨pk, pn, ps⟩ : Vl).n, .string (⟨pk, pn, ps⟩ : Vl).s] 23)) from heap_alloc_new _ _)
      unfold zeroL at HX2 HV
      simp only at HX2 HV
      go_wp2_with (go_at_call 13; (with_reducible refine (HR.out _ HX2.out.low HX2.out.size).mono ?_); rintro e u2 ⟨rfl, hb⟩; have HX3 := Lib.hid (HX2.out.below hb); have HV3 := Lib.hid (show Val3 u1.heap.size _ _ _ u2 from (hb.block _ HV.out.cells.2.1).trans HV.out); clear hb c0 c1 c2 c3 c4 c5 c6 c7 c8 c9 c10 x0 l0 l1 l2 l3; obtain ⟨⟨c0, c1, c2, c3, c4, c5, c6, c7, c8, c9, c10⟩, x0, l0, l1, l2, l3⟩ := HX3.out.cells; obtain ⟨⟨y0, y1, y2⟩, m0, m1⟩ := HV3.out.cells)
      go_wp2
      go_ret
      rw [← HP.out]
      refine ⟨rfl, ?_⟩
      exact HX3.out.low.trans (((Below.refl u2.heap.size u2).alloc (Nat.le_refl _) _).mono (by have := HX3.out.size; omega))
    | some y =>
      obtain ⟨qk, qn, qs⟩ := y
      rw [condB_both hl hr]
      rw [hr] at HR
      unfold resL Vl.v at HR
      unfold holdL
      simp only [Option.getD_some, Option.isSome_some] at HR ⊢
      have HH := Lib.hid (fun (u : World) => vHolds_any c.rel pk pn ps qk qn qs u)
      clear hl hr
      go_enter Try.func15, Try.ntmps15
      go_wp2_with fail
      rw [← HW.out, ← HP.out]
      obtain ⟨⟨c0, c1, c2, c3, c4, c5, c6, c7, c8, c9, c10⟩, x0, l0, l1, l2, l3⟩ := HX.out.cells
      go_wp2_with (go_at_call 13; (with_reducible refine (HL.out _ HX.out.low HX.out.size).mono ?_); rintro e u1 ⟨rfl, hb⟩; have HX1 := Lib.hid (HX.out.below hb); clear hb c0 c1 c2 c3 c4 c5 c6 c7 c8 c9 c10 x0 l0 l1 l2 l3; obtain ⟨⟨c0, c1, c2, c3, c4, c5, c6, c7, c8, c9, c10⟩, x0, l0, l1, l2, l3⟩ := HX1.out.cells)
      have HX2 := Lib.hid (HX1.out.below ((Below.refl u1.heap.size u1).alloc (Nat.le_refl _) (.cells #[.int .i64 (⟨pk, pn, ps⟩ : Vl).k, .int .i64 (⟨pk, pn, ps⟩ : Vl).n, .string (⟨pk, pn, ps⟩ : Vl).s] 23)))
      have HV := Lib.hid (show Val3 u1.heap.size (⟨pk, pn, ps⟩ : Vl).k (⟨pk, pn, ps⟩ : Vl).n (⟨pk, pn, ps⟩ : Vl).s (u1.alloc (.cells #[.int .i64 (⟨pk, pn, ps⟩ : Vl).k, .int .i64 (⟨pk, pn, ps⟩ : Vl).n, .string (⟨pk, pn, ps⟩ : Vl).s] 23)) from heap_alloc_new _ _)
      unfold zeroL at HX2 HV
      simp only at HX2 HV
      go_wp2_with (go_at_call 13; (with_reducible refine (HR.out _ HX2.out.low HX2.out.size).mono ?_); rintro e u2 ⟨rfl, hb⟩; have HX3 := Lib.hid (HX2.out.below hb); have HV3 := Lib.hid (show Val3 u1.heap.size _ _ _ u2 from (hb.block _ HV.out.cells.2.1).trans HV.out); clear hb c0 c1 c2 c3 c4 c5 c6 c7 c8 c9 c10 x0 l0 l1 l2 l3; obtain ⟨⟨c0, c1, c2, c3, c4, c5, c6, c7, c8, c9, c10⟩, x0, l0, l1, l2, l3⟩ := HX3.out.cells; obtain ⟨⟨y0, y1, y2⟩, m0, m1⟩ := HV3.out.cells)
      go_wp2_with (go_at_call 35; (with_reducible refine (HH.out _).mono ?_); rintro e u3 ⟨rfl, hb⟩; have HB3 := Lib.hid hb; clear hb)
      go_ret
      rw [← HP.out]
      refine ⟨rfl, ?_⟩
      exact HX3.out.low.trans ((((Below.refl u2.heap.size u2).alloc (Nat.le_refl _) _).trans (HB3.out.mono (by simp))).mono (by have := HX3.out.size; omega))
set_option maxRecDepth 100000 in
set_option maxHeartbeats 4000000 in
theorem r9Cond_any (c : Cnd) (B : Nat) (ao : Option Addr) (n cap : Nat) (bs : List Bd) (w : World) (h : BsV w B (.slice ao n cap) bs) (hB : B ≤ w.heap.size) (hn : n ≤ 140737488355328) :
    Calls Try.prog 16 #[cdV c, .agg #[.slice ao n cap]] w fun e w' => e = .returned (.bool (condB c bs)) ∧ Below w.heap.size w w' := by
  unfold cdV
  obtain ⟨P, hP⟩ : ∃ P, P = w.heap.size := ⟨_, rfl⟩
  obtain ⟨W, hW⟩ : ∃ W, W = (w.alloc (.cells #[.string c.left.var, .string c.left.attr, .int .i64 c.left.vk, .int .i64 c.left.vn, .string c.left.vs, .int .i64 c.rel, .string c.right.var, .string c.right.attr, .int .i64 c.right.vk, .int .i64 c.right.vn, .string c.right.vs] 27)).alloc (.cells #[.slice ao n cap] 43) := ⟨_, rfl⟩
  have HX : Hid (BoxC w P c (.slice ao n cap) W) := by
    rw [hW, hP]
    refine ⟨?_, ?_, ?_, ?_⟩
    · rw [heap_alloc_old _ _ (by simp)]; exact heap_alloc_new _ _
    · have := heap_alloc_new (w.alloc (.cells #[.string c.left.var, .string c.left.attr, .int .i64 c.left.vk, .int .i64 c.left.vn, .string c.left.vs, .int .i64 c.rel, .string c.right.var, .string c.right.attr, .int .i64 c.right.vk, .int .i64 c.right.vn, .string c.right.vs] 27)) (.cells #[.slice ao n cap] 43)
      simpa using this
    · simp
    · exact ((Below.refl _ _).alloc (Nat.le_refl _) _).alloc (by simp) _
  have HL := Lib.hid (fun (u : World) (hu : Below P w u) (hs : P + 1 + 1 ≤ u.heap.size) => r9Value_any c.left B ao n cap bs u (h.below hu (by omega)) (by omega) hn)
  have HR := Lib.hid (fun (u : World) (hu : Below P w u) (hs : P + 1 + 1 ≤ u.heap.size) => r9Value_any c.right B ao n cap bs u (h.below hu (by omega)) (by omega) hn)
  have HP := Lib.hid hP; have HW := Lib.hid hW
  unfold opV at HL HR
  clear h hB hP hW hn
  cases hl : valL c.left bs with
  | none =>
    rw [condB_left hl]
    rw [hl] at HL
    have hR : ∃ k n s b, resL (valL c.right bs) = .tuple #[.agg #[.int .i64 k, .int .i64 n, .string s], .bool b] := ⟨_, _, _, _, rfl⟩
    obtain ⟨qk, qn, qs, qb, hR⟩ := hR
    rw [hR] at HR
    unfold resL Vl.v zeroL at HL
    simp only [Option.getD_none, Option.isSome_none] at HL
    clear hR hl
    go_enter Try.func16, Try.ntmps16
    go_wp2_with fail
    rw [← HW.out, ← HP.out]
    obtain ⟨⟨c0, c1, c2, c3, c4, c5, c6, c7, c8, c9, c10⟩, x0, l0, l1, l2, l3⟩ := HX.out.cells
    go_wp2_with (go_at_call 14; (with_reducible refine (HL.out _ HX.out.low HX.out.size).mono ?_); rintro e u1 ⟨rfl, hb⟩; have HX1 := Lib.hid (HX.out.below hb); clear hb c0 c1 c2 c3 c4 c5 c6 c7 c8 c9 c10 x0 l0 l1 l2 l3; obtain ⟨⟨c0, c1, c2, c3, c4, c5, c6, c7, c8, c9, c10⟩, x0, l0, l1, l2, l3⟩ := HX1.out.cells)
    have HX2 := Lib.hid (HX1.out.below ((Below.refl u1.heap.size u1).alloc (Nat.le_refl _) (.cells #[.int .i64 zeroL.k, .int .i64 zeroL.n, .string zeroL.s] 23)))
    have HV := Lib.hid (show Val3 u1.heap.size zeroL.k zeroL.n zeroL.s (u1.alloc (.cells #[.int .i64 zeroL.k, .int .i64 zeroL.n, .string zeroL.s] 23)) from heap_alloc_new _ _)
    unfold zeroL at HX2 HV
    simp only at HX2 HV
    go_wp2_with (go_at_call 14; (with_reducible refine (HR.out _ HX2.out.low HX2.out.size).mono ?_); rintro e u2 ⟨rfl, hb⟩; have HX3 := Lib.hid (HX2.out.below hb); have HV3 := Lib.hid (show Val3 u1.heap.size _ _ _ u2 from (hb.block _ HV.out.cells.2.1).trans HV.out); clear hb c0 c1 c2 c3 c4 c5 c6 c7 c8 c9 c10 x0 l0 l1 l2 l3; obtain ⟨⟨c0, c1, c2, c3, c4, c5, c6, c7, c8, c9, c10⟩, x0, l0, l1, l2, l3⟩ := HX3.out.cells; obtain ⟨⟨y0, y1, y2⟩, m0, m1⟩ := HV3.out.cells)
    go_wp2
    go_ret
    rw [← HP.out]
    refine ⟨rfl, ?_⟩
    exact HX3.out.low.trans (((Below.refl u2.heap.size u2).alloc (Nat.le_refl _) _).mono (by have := HX3.out.size; omega))
  | some x =>
    obtain ⟨pk, pn, ps⟩ := x
    rw [hl] at HL
    unfold resL Vl.v at HL
    simp only [Option.getD_some, Option.isSome_some] at HL
    cases hr : valL c.right bs with
    | none =>
      rw [condB_right hr]
      rw [hr] at HR
      unfold resL Vl.v zeroL at HR
      simp only [Option.getD_none, Option.isSome_none] at HR
      clear hl hr
      go_enter Try.func16, Try.ntmps16
      go_wp2_with fail
      rw [← HW.out, ← HP.out]
      obtain ⟨⟨c0, c1, c2, c3, c4, c5, c6, c7, c8, c9, c10⟩, x0, l0, l1, l2, l3⟩ := HX.out.cells
      go_wp2_with (go_at_call 14; (with_reducible refine (HL.out _ HX.out.low HX.out.size).mono ?_); rintro e u1 ⟨rfl, hb⟩; have HX1 := Lib.hid (HX.out.below hb); clear hb c0 c1 c2 c3 c4 c5 c6 c7 c8 c9 c10 x0 l0 l1 l2 l3; obtain ⟨⟨c0, c1, c2, c3, c4, c5, c6, c7, c8, c9, c10⟩, x0, l0, l1, l2, l3⟩ := HX1.out.cells)
      have HX2 := Lib.hid (HX1.out.below ((Below.refl u1.heap.size u1).alloc (Nat.le_refl _) (.cells #[.int .i64 (⟨pk, pn, ps⟩ : Vl).k, .int .i64 (⟨pk, pn, ps⟩ : Vl).n, .string (⟨pk, pn, ps⟩ : Vl).s] 23)))
      have HV := Lib.hid (show Val3 u1.heap.size (⟨pk, pn, ps⟩ : Vl).k (⟨pk, pn, ps⟩ : Vl).n (⟨pk, pn, ps⟩ : Vl).s (u1.alloc (.cells #[.int .i64 (⟨pk, pn, ps⟩ : Vl).k, .int .i64 (⟨pk, pn, ps⟩ : Vl).n, .string (⟨pk, pn, ps⟩ : Vl).s] 23)) from heap_alloc_new _ _)
      unfold zeroL at HX2 HV
      simp only at HX2 HV
      go_wp2_with (go_at_call 14; (with_reducible refine (HR.out _ HX2.out.low HX2.out.size).mono ?_); rintro e u2 ⟨rfl, hb⟩; have HX3 := Lib.hid (HX2.out.below hb); have HV3 := Lib.hid (show Val3 u1.heap.size _ _ _ u2 from (hb.block _ HV.out.cells.2.1).trans HV.out); clear hb c0 c1 c2 c3 c4 c5 c6 c7 c8 c9 c10 x0 l0 l1 l2 l3; obtain ⟨⟨c0, c1, c2, c3, c4, c5, c6, c7, c8, c9, c10⟩, x0, l0, l1, l2, l3⟩ := HX3.out.cells; obtain ⟨⟨y0, y1, y2⟩, m0, m1⟩ := HV3.out.cells)
      go_wp2
      go_ret
      rw [← HP.out]
      refine ⟨rfl, ?_⟩
      exact HX3.out.low.trans (((Below.refl u2.heap.size u2).alloc (Nat.le_refl _) _).mono (by have := HX3.out.size; omega))
    | some y =>
      obtain ⟨qk, qn, qs⟩ := y
      rw [condB_both hl hr]
      rw [hr] at HR
      unfold resL Vl.v at HR
      unfold holdL
      simp only [Option.getD_some, Option.isSome_some] at HR ⊢
      have HH := Lib.hid (fun (u : World) => r3Holds_any c.rel pk pn ps qk qn qs u)
      clear hl hr
      go_enter Try.func16, Try.ntmps16
      go_wp2_with fail
      rw [← HW.out, ← HP.out]
      obtain ⟨⟨c0, c1, c2, c3, c4, c5, c6, c7, c8, c9, c10⟩, x0, l0, l1, l2, l3⟩ := HX.out.cells
      go_wp2_with (go_at_call 14; (with_reducible refine (HL.out _ HX.out.low HX.out.size).mono ?_); rintro e u1 ⟨rfl, hb⟩; have HX1 := Lib.hid (HX.out.below hb); clear hb c0 c1 c2 c3 c4 c5 c6 c7 c8 c9 c10 x0 l0 l1 l2 l3; obtain ⟨⟨c0, c1, c2, c3, c4, c5, c6, c7, c8, c9, c10⟩, x0, l0, l1, l2, l3⟩ := HX1.out.cells)
      have HX2 := Lib.hid (HX1.out.below ((Below.refl u1.heap.size u1).alloc (Nat.le_refl _) (.cells #[.int .i64 (⟨pk, pn, ps⟩ : Vl).k, .int .i64 (⟨pk, pn, ps⟩ : Vl).n, .string (⟨pk, pn, ps⟩ : Vl).s] 23)))
      have HV := Lib.hid (show Val3 u1.heap.size (⟨pk, pn, ps⟩ : Vl).k (⟨pk, pn, ps⟩ : Vl).n (⟨pk, pn, ps⟩ : Vl).s (u1.alloc (.cells #[.int .i64 (⟨pk, pn, ps⟩ : Vl).k, .int .i64 (⟨pk, pn, ps⟩ : Vl).n, .string (⟨pk, pn, ps⟩ : Vl).s] 23)) from heap_alloc_new _ _)
      unfold zeroL at HX2 HV
      simp only at HX2 HV
      go_wp2_with (go_at_call 14; (with_reducible refine (HR.out _ HX2.out.low HX2.out.size).mono ?_); rintro e u2 ⟨rfl, hb⟩; have HX3 := Lib.hid (HX2.out.below hb); have HV3 := Lib.hid (show Val3 u1.heap.size _ _ _ u2 from (hb.block _ HV.out.cells.2.1).trans HV.out); clear hb c0 c1 c2 c3 c4 c5 c6 c7 c8 c9 c10 x0 l0 l1 l2 l3; obtain ⟨⟨c0, c1, c2, c3, c4, c5, c6, c7, c8, c9, c10⟩, x0, l0, l1, l2, l3⟩ := HX3.out.cells; obtain ⟨⟨y0, y1, y2⟩, m0, m1⟩ := HV3.out.cells)
      go_wp2_with (go_at_call 37; (with_reducible refine (HH.out _).mono ?_); rintro e u3 ⟨rfl, hb⟩; have HB3 := Lib.hid hb; clear hb)
      go_ret
      rw [← HP.out]
      refine ⟨rfl, ?_⟩
      exact HX3.out.low.trans ((((Below.refl u2.heap.size u2).alloc (Nat.le_refl _) _).trans (HB3.out.mono (by simp))).mono (by have := HX3.out.size; omega))

set_option maxRecDepth 100000 in
theorem pAll1_any (c : Cnd) (B : Nat) (ao : Option Addr) (n cap : Nat) (bs : List Bd) (q : Nat) (w : World) (h : BsV w B (.slice ao n cap) bs) (hB : B ≤ w.heap.size) (hn : n ≤ 140737488355328)
    (hq : w.heap[q]? = some (.cells #[.slice ao n cap] 43 (0, 0))) :
    Calls Try.prog 45 #[cdV c, .pointer (some ⟨q, 0, none⟩)] w fun e w' => e = .returned (.bool (condB c bs)) ∧ Below w.heap.size w w' := by
  obtain ⟨W, hW⟩ : ∃ W, W = w.alloc (.cells #[.string c.left.var, .string c.left.attr, .int .i64 c.left.vk, .int .i64 c.left.vn, .string c.left.vs, .int .i64 c.rel, .string c.right.var, .string c.right.attr, .int .i64 c.right.vk, .int .i64 c.right.vn, .string c.right.vs] 27) := ⟨_, rfl⟩
  have hb : Below w.heap.size w W := by rw [hW]; exact (Below.refl _ _).alloc (Nat.le_refl _) _
  have hql := lt_of_block hq
  have d0 := cell_of_one hq
  have hne : q ≠ w.heap.size := by omega
  have HC := Lib.hid (pCond_any c B ao n cap bs W (h.below hb hB) (Nat.le_trans hB hb.size) hn)
  have HB := Lib.hid hb
  rw [hW] at HC HB
  unfold cdV at HC ⊢
  clear h hB hb hW hq hn
  go_enter Try.func45, Try.ntmps45
  go_wp2_with (first | (go_at_call 15; (with_reducible refine HC.out.mono ?_); rintro e u2 ⟨rfl, hb2⟩))
  go_ret
  exact ⟨rfl, HB.out.trans (hb2.mono HB.out.size)⟩
set_option maxRecDepth 100000 in
set_option maxHeartbeats 2000000 in
theorem pAll_few (l : List Cnd) (ta : Option Addr) (tc : Nat) (B : Nat) (ao : Option Addr) (n cap : Nat) (bs : List Bd) (w : World) (h : BsV w B (.slice ao n cap) bs) (hB : B ≤ w.heap.size) (hn : n ≤ 140737488355328)
    (hc : CdV w (fun x => x < w.heap.size) (.slice ta l.length tc) l) (hf : l.length ≤ 16) :
    Calls Try.prog 17 #[.slice ta l.length tc, .agg #[.slice ao n cap]] w fun e w' => e = .returned (.bool (allB l bs)) ∧ Below w.heap.size w w' := by
  obtain ⟨P, hP⟩ : ∃ P, P = w.heap.size := ⟨_, rfl⟩
  obtain ⟨W, hW⟩ : ∃ W, W = w.alloc (.cells #[.slice ao n cap] 43) := ⟨_, rfl⟩
  have hq : W.heap[P]? = some (.cells #[.slice ao n cap] 43 (0, 0)) := by rw [hW, hP]; exact heap_alloc_new _ _
  have hb : Below P w W := by rw [hW, hP]; exact (Below.refl _ _).alloc (Nat.le_refl _) _
  have hs : P + 1 ≤ W.heap.size := lt_of_block hq
  have hcW : CdV W (fun x => x < W.heap.size) (.slice ta l.length tc) l := (hc.keep (fun b hx => hb.block b (by omega))).mono (fun x hx => by omega)
  have eg := enters_of Try.func45 (by kernel_rfl) rfl
  have HE := Lib.hid (pEvery_cap 45 (.pointer (some ⟨P, 0, none⟩)) (fun c => condB c bs) l ta tc W eg (by omega) hcW (fun c _ u hu =>
    pAll1_any c B ao n cap bs P u ((h.below hb (by omega)).below hu (by omega)) (by have := hu.size; omega) hn ((hu.block P (by omega)).trans hq)))
  have f1 : ((l.length : Nat) : Int) ≤ 16 := by omega
  have f2 : decide (((l.length : Nat) : Int) ≤ 16) = true := decide_eq_true f1
  have HP := Lib.hid hP; have HW := Lib.hid hW; have HB := Lib.hid hb; have HS := Lib.hid hs
  clear h hB hn hc hcW hf hP hb hs hq hW
  go_enter Try.func17, Try.ntmps17
  go_wp2_with fail
  rw [← HW.out, ← HP.out]
  go_wp2_with (first | (go_at_call 39; (with_reducible refine HE.out.mono ?_); rintro e u2 ⟨rfl, hb2⟩))
  go_ret
  rw [← HP.out]
  exact ⟨rfl, HB.out.trans (hb2.mono (by have := HS.out; omega))⟩
set_option maxRecDepth 100000 in
set_option maxHeartbeats 2000000 in
theorem r9All_any (l : List Cnd) (ta : Option Addr) (tc : Nat) (B : Nat) (ao : Option Addr) (n cap : Nat) (bs : List Bd) (w : World) (h : BsV w B (.slice ao n cap) bs) (hB : B ≤ w.heap.size) (hn : n ≤ 140737488355328)
    (hc : CdV w (fun x => x < w.heap.size) (.slice ta l.length tc) l) (hf : l.length ≤ 140737488355328) :
    Calls Try.prog 18 #[.slice ta l.length tc, .agg #[.slice ao n cap]] w fun e w' => e = .returned (.bool (allB l bs)) ∧ Below w.heap.size w w' := by
  unfold allB
  obtain ⟨P, hP⟩ : ∃ P, P = w.heap.size := ⟨_, rfl⟩
  obtain ⟨W, hW⟩ : ∃ W, W = w.alloc (.cells #[.slice ao n cap] 43) := ⟨_, rfl⟩
  have hq : W.heap[P]? = some (.cells #[.slice ao n cap] 43 (0, 0)) := by rw [hW, hP]; exact heap_alloc_new _ _
  have hb : Below P w W := by rw [hW, hP]; exact (Below.refl _ _).alloc (Nat.le_refl _) _
  have hs : P + 1 ≤ W.heap.size := lt_of_block hq
  have hcW : CdV W (fun x => x < W.heap.size) (.slice ta l.length tc) l := (hc.keep (fun b hx => hb.block b (by omega))).mono (fun x hx => by omega)
  have HC := Lib.hid (fun (u : World) (hu : Below W.heap.size W u) => (⟨hcW.keep (fun b hb => hu.block b hb), (cell_of_one ((hu.block P (by omega)).trans hq))⟩ : CdV u (fun x => x < W.heap.size) (.slice ta l.length tc) l ∧ _))
  have HT := Lib.hid (fun (u : World) (hu : Below W.heap.size W u) (c : Cnd) => r9Cond_any c B ao n cap bs u ((h.below hb (by omega)).below hu (by omega)) (by have := hu.size; omega) hn)
  have HP := Lib.hid hP; have HW := Lib.hid hW; have HN := Lib.hid hf; have HB0 := Lib.hid hb; have HS := Lib.hid hs
  clear h hB hn hc hcW hf hP hb hs hq hW
  go_enter Try.func18, Try.ntmps18
  go_wp2_with fail
  rw [← HW.out, ← HP.out]
  go_loopw [5] (fun iv wr => ∃ k : Nat, k ≤ l.length ∧ iv = .int .i64 k ∧ Hid (∀ c ∈ l.take k, condB c bs = true) ∧ Hid (Below W.heap.size W wr)) (fun iv _ => l.length - (intOf iv).toNat)
  case atStart => exact ⟨0, Nat.zero_le _, rfl, Lib.hid (by simp), Lib.hid (Below.refl _ _)⟩
  case round =>
    obtain ⟨k, hk, rfl, HA, HB⟩ := hrel
    obtain ⟨hcd, x0⟩ := HC.out _ HB.out
    by_cases hlt : k < l.length
    · have hlti : (k : Int) < (l.length : Int) := by omega
      have hls := wr7 hlt HN.out
      have hwI := wrI7 hlt HN.out
      have hne : l ≠ [] := fun h => by rw [h] at hlt; exact absurd hlt (Nat.not_lt_zero _)
      obtain ⟨ta', tc', he, hh⟩ := hcd
      simp only [Value.slice.injEq, true_and] at he
      obtain ⟨rfl, rfl⟩ := he
      obtain ⟨b, o, rfl, hb, hat⟩ := hh hne
      obtain ⟨d0, d1, d2, d3, d4, d5, d6, d7, d8, d9, d10⟩ := hat.cells hlt
      have hm : l[k] ∈ l := List.getElem_mem _
      have HCk := Lib.hid (fun (u : World) (hu : Below W.heap.size W u) => HT.out u hu l[k])
      have HHM := Lib.hid hm
      have HAK : Hid (condB l[k] bs = true → ∀ c ∈ l.take (k + 1), condB c bs = true) := Lib.hid (fun ho c hc => by
        rw [List.take_succ_eq_append_getElem hlt, List.mem_append, List.mem_singleton] at hc
        rcases hc with hc | rfl
        · exact HA.out c hc
        · exact ho)
      unfold cdV at HCk
      clear hh hne hm hat hk hb
      generalize l[k] = x at d0 d1 d2 d3 d4 d5 d6 d7 d8 d9 d10 HCk HHM HAK
      have k0 := cell_regrown d0; have k1' := cell_regrown d1; have k2' := cell_regrown d2; have k3 := cell_regrown d3; have k4 := cell_regrown d4; have k5 := cell_regrown d5
      have k6 := cell_regrown d6; have k7 := cell_regrown d7; have k8 := cell_regrown d8; have k9 := cell_regrown d9; have k10 := cell_regrown d10
      have m0 := cell_regrown x0
      have C1 := rg (w := wr) (fun u hu => HCk.out u (HB.out.trans (hu.mono HB.out.size)))
      have hk0 : (0 : Int) ≤ (k : Int) := by omega
      cases hok : condB x bs with
      | true =>
        simp only [hok] at C1
        go_wp2_with fail
        refine wp_region_quiet_below (by kernel_rfl) (by kernel_rfl) ?_
        repeat (quiet_step (first | (with_reducible exact C1 _ _)))
        refine wpQuiet_nil ?_
        intro _ hw'
        obtain ⟨⟨dq, osq⟩, hw''⟩ := hw'
        subst hw''
        have HB2 := Lib.hid (HB.out.trans ((below_regrown wr dq osq).mono HB.out.size))
        go_wp2
        go_roundw
        all_goals first
          | exact ⟨k + 1, hlt, by go_num, Lib.hid (HAK.out hok), HB2⟩
          | exact meas7 hlt
          | (rw [hls]; exact meas7 hlt)
      | false =>
        simp only [hok] at C1
        go_wp2_with fail
        refine wp_region_quiet_below (by kernel_rfl) (by kernel_rfl) ?_
        repeat (quiet_step (first | (with_reducible exact C1 _ _)))
        refine wpQuiet_nil ?_
        intro _ hw'
        obtain ⟨⟨dq, osq⟩, hw''⟩ := hw'
        subst hw''
        have HB2 := Lib.hid (HB.out.trans ((below_regrown wr dq osq).mono HB.out.size))
        go_wp2
        go_ret
        rw [← HP.out]
        refine ⟨show Ending.returned (Value.bool false) = _ from ?_, HB0.out.trans (HB2.out.mono (by have := HS.out; omega))⟩
        rw [show (l.all fun c => condB c bs) = false from ?_]
        rw [Bool.eq_false_iff]
        intro hall
        have := List.all_eq_true.1 hall x HHM.out
        rw [hok] at this
        cases this
    · obtain rfl : k = l.length := by omega
      have hnl : ¬ ((l.length : Int) < (l.length : Int)) := by omega
      clear hlt hk hcd
      go_wp2
      go_ret
      rw [← HP.out]
      refine ⟨show Ending.returned (Value.bool true) = _ from ?_, HB0.out.trans (HB.out.mono (by have := HS.out; omega))⟩
      rw [show (l.all fun c => condB c bs) = true from ?_]
      rw [List.all_eq_true]
      intro c hc
      exact HA.out c (by rw [List.take_length]; exact hc)
end Go.Proofs.Ytpbloplbpkedcaa
