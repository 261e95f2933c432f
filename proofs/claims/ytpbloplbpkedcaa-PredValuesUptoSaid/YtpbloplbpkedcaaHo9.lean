/- Contract: holds: whether a condition holds, as the index tells it. -/
import Derived.Test.YtpbloplbpkedcaaFh9
namespace Go.Proofs.Ytpbloplbpkedcaa
open Go Go.RowKit Go.Sort Go.Maps Go.WideMaps

def okF (o : Opd) (F : Nm → Option Nat) : Bool := decide (o.attr = em) || (F (nb o.var)).isSome
theorem find_ok {o : Opd} {F : Nm → Option Nat} {G : Nat → ByteArray → Option (Vl × Vl)} {p : Vl × Vl} {ok : Bool} (h : FindP o F G p ok) : ok = okF o F := by
  unfold FindP at h
  unfold okF
  by_cases ha : o.attr = em
  · rw [if_pos ha] at h; rw [decide_eq_true ha]; exact h.2
  · rw [if_neg ha] at h
    rw [decide_eq_false ha]
    cases hF : F (nb o.var) with
    | none => rw [hF] at h; exact h
    | some i => rw [hF] at h; exact h.2
/-- What holds says, of what find tells. -/
def holdI (c : Cnd) (F : Nm → Option Nat) (p q : Vl × Vl) : Bool :=
  if okF c.left F && okF c.right F then (if decide (c.left.attr = em) || decide (c.right.attr = em) then holdL c.rel p.1 q.1 else holdL c.rel p.2 q.2) else true
def HoldP (c : Cnd) (F : Nm → Option Nat) (G : Nat → ByteArray → Option (Vl × Vl)) (b : Bool) : Prop := ∃ p q, FindP c.left F G p (okF c.left F) ∧ FindP c.right F G q (okF c.right F) ∧ b = holdI c F p q
theorem pFind_ok (o : Opd) (M1 M2 : Nat) (F : Nm → Option Nat) (G : Nat → ByteArray → Option (Vl × Vl)) (w : World) (h : IdxAt w M1 M2 F G) (hv : o.var.size ≤ maxLen) (ha : o.attr.size ≤ maxLen) :
    Calls Try.prog 81 #[.agg #[.map (some M1), .map (some M2)], opV o] w fun e w' => ∃ x y, e = .returned (.tuple #[.agg #[.int .i64 x.k, .int .i64 x.n, .string x.s, .int .i64 y.k, .int .i64 y.n, .string y.s], .bool (okF o F)]) ∧ FindP o F G (x, y) (okF o F) ∧ Below w.heap.size w w' :=
  (pFind_any o M1 M2 F G w h hv ha).mono fun e w' ⟨p, ok, he, hp, hb⟩ => by
    have := find_ok hp
    subst this
    exact ⟨p.1, p.2, he, hp, hb⟩
theorem hold_post {c : Cnd} {F : Nm → Option Nat} {G : Nat → ByteArray → Option (Vl × Vl)} {x1 y1 x2 y2 : Vl} (h1 : FindP c.left F G (x1, y1) (okF c.left F)) (h2 : FindP c.right F G (x2, y2) (okF c.right F)) {b : Bool} (hb : b = holdI c F (x1, y1) (x2, y2)) : HoldP c F G b := ⟨_, _, h1, h2, hb⟩
/-- A box of six cells. -/
def Val6 (Q : Nat) (x y : Vl) (u : World) : Prop := u.heap[Q]? = some (.cells #[.int .i64 x.k, .int .i64 x.n, .string x.s, .int .i64 y.k, .int .i64 y.n, .string y.s] 127 (0, 0))
theorem Val6.cells {Q : Nat} {x y : Vl} {u : World} (h : Val6 Q x y u) : (u.cell? ⟨Q, 0, none⟩ = some (.int .i64 x.k) ∧ u.cell? ⟨Q, 1, none⟩ = some (.int .i64 x.n) ∧ u.cell? ⟨Q, 2, none⟩ = some (.string x.s) ∧ u.cell? ⟨Q, 3, none⟩ = some (.int .i64 y.k) ∧ u.cell? ⟨Q, 4, none⟩ = some (.int .i64 y.n) ∧ u.cell? ⟨Q, 5, none⟩ = some (.string y.s)) ∧ Q < u.heap.size ∧ Q ≠ u.heap.size :=
  ⟨(cell_of_six9 h).1, lt_of_block h, by have := lt_of_block h; omega⟩

set_option maxRecDepth 100000 in
set_option maxHeartbeats 4000000 in
theorem pHolds_any (c : Cnd) (M1 M2 : Nat) (F : Nm → Option Nat) (G : Nat → ByteArray → Option (Vl × Vl)) (w : World) (h : IdxAt w M1 M2 F G) (hwd : wdC c) :
    Calls Try.prog 43 #[.agg #[.map (some M1), .map (some M2)], cdV c] w fun e w' => ∃ b, e = .returned (.bool b) ∧ Hid (HoldP c F G b) ∧ Below w.heap.size w w' := by
  unfold cdV
  obtain ⟨P, hP⟩ : ∃ P, P = w.heap.size := ⟨_, rfl⟩
  obtain ⟨W, hW⟩ : ∃ W, W = (w.alloc (.cells #[.map (some M1), .map (some M2)] 88)).alloc (.cells #[.string c.left.var, .string c.left.attr, .int .i64 c.left.vk, .int .i64 c.left.vn, .string c.left.vs, .int .i64 c.rel, .string c.right.var, .string c.right.attr, .int .i64 c.right.vk, .int .i64 c.right.vn, .string c.right.vs] 27) := ⟨_, rfl⟩
  have hq0 : W.heap[P]? = some (.cells #[.map (some M1), .map (some M2)] 88 (0, 0)) := by
    rw [hW, hP, heap_alloc_old _ _ (by simp)]; exact heap_alloc_new _ _
  have hq1 : W.heap[P + 1]? = some (.cells #[.string c.left.var, .string c.left.attr, .int .i64 c.left.vk, .int .i64 c.left.vn, .string c.left.vs, .int .i64 c.rel, .string c.right.var, .string c.right.attr, .int .i64 c.right.vk, .int .i64 c.right.vn, .string c.right.vs] 27 (0, 0)) := by
    rw [hW, hP]
    have := heap_alloc_new (w.alloc (.cells #[.map (some M1), .map (some M2)] 88)) (.cells #[.string c.left.var, .string c.left.attr, .int .i64 c.left.vk, .int .i64 c.left.vn, .string c.left.vs, .int .i64 c.rel, .string c.right.var, .string c.right.attr, .int .i64 c.right.vk, .int .i64 c.right.vn, .string c.right.vs] 27)
    simpa using this
  have hb : Below P w W := by rw [hW, hP]; exact ((Below.refl _ _).alloc (Nat.le_refl _) _).alloc (by simp) _
  have hz : P + 2 ≤ W.heap.size := lt_of_block hq1
  have HX := Lib.hid (fun (u : World) (hu : Below W.heap.size W u) => (⟨cell_of_two9 ((hu.block P (by omega)).trans hq0), cell_of_eleven ((hu.block (P + 1) (by omega)).trans hq1), by have := hu.size; omega⟩ : _ ∧ _ ∧ (P < u.heap.size ∧ P + 1 < u.heap.size ∧ P ≠ u.heap.size ∧ P + 1 ≠ u.heap.size)))
  have HL := Lib.hid (fun (u : World) (hu : Below W.heap.size W u) => pFind_ok c.left M1 M2 F G u (h.below (hP ▸ (hb.trans (hu.mono (by omega))))) hwd.1.1 hwd.1.2.1)
  have HR := Lib.hid (fun (u : World) (hu : Below W.heap.size W u) => pFind_ok c.right M1 M2 F G u (h.below (hP ▸ (hb.trans (hu.mono (by omega))))) hwd.2.1 hwd.2.2.1)
  have CL := Lib.hid (fun u : World => pConst_any c.left.var c.left.attr c.left.vk c.left.vn c.left.vs u)
  have CR := Lib.hid (fun u : World => pConst_any c.right.var c.right.attr c.right.vk c.right.vn c.right.vs u)
  have HV := Lib.hid (fun (x y : Vl) (u : World) => vHolds_any c.rel x.k x.n x.s y.k y.n y.s u)
  have HB := Lib.hid hb; have HP := Lib.hid hP; have HW := Lib.hid hW; have HZ := Lib.hid hz
  have B2 := Lib.hid (Below.refl W.heap.size W)
  have HPOST := Lib.hid (fun (x1 y1 x2 y2 : Vl) (b : Bool) (h1 : FindP c.left F G (x1, y1) (okF c.left F)) (h2 : FindP c.right F G (x2, y2) (okF c.right F)) (hb : b = holdI c F (x1, y1) (x2, y2)) => Lib.hid (hold_post h1 h2 hb))
  unfold opV at HL HR
  clear h hwd hq0 hq1 hb hz hP hW
  cases hl : okF c.left F <;> cases hr : okF c.right F <;> cases hcl : decide (c.left.attr = em) <;> cases hcr : decide (c.right.attr = em)
  all_goals
    have HHI : Hid (∀ p q, holdI c F p q = _) := Lib.hid (fun p q => (by unfold holdI; rw [hl, hr, hcl, hcr] : holdI c F p q = _))
    rw [hl] at HL
    rw [hr] at HR
    rw [hl, hr] at HPOST
    rw [hcl] at CL
    rw [hcr] at CR
    clear hl hr hcl hcr
    go_enter Try.func43, Try.ntmps43
    go_wp2_with fail
    rw [← HW.out, ← HP.out]
    obtain ⟨⟨i1', i2'⟩, ⟨c0, c1, c2, c3, c4, c5, c6, c7, c8, c9, c10⟩, l0, l1, l2, l3⟩ := HX.out _ B2.out
    go_wp2_with (go_at_call 81; (with_reducible refine (HL.out _ B2.out).mono ?_); rintro e u1 ⟨x1, y1, rfl, hf, hb⟩; have HF1 := Lib.hid hf; have B2 := Lib.hid (B2.out.trans (hb.mono B2.out.size)); clear hf hb i1' i2' c0 c1 c2 c3 c4 c5 c6 c7 c8 c9 c10 l0 l1 l2 l3; obtain ⟨⟨i1', i2'⟩, ⟨c0, c1, c2, c3, c4, c5, c6, c7, c8, c9, c10⟩, l0, l1, l2, l3⟩ := HX.out _ B2.out)
    have B3 := Lib.hid (B2.out.alloc B2.out.size (.cells #[.int .i64 x1.k, .int .i64 x1.n, .string x1.s, .int .i64 y1.k, .int .i64 y1.n, .string y1.s] 127))
    have V1 := Lib.hid (show Val6 u1.heap.size x1 y1 (u1.alloc (.cells #[.int .i64 x1.k, .int .i64 x1.n, .string x1.s, .int .i64 y1.k, .int .i64 y1.n, .string y1.s] 127)) from heap_alloc_new _ _)
    go_wp2_with (go_at_call 81; (with_reducible refine (HR.out _ B3.out).mono ?_); rintro e u2 ⟨x2, y2, rfl, hf, hb⟩; have HF2 := Lib.hid hf; have B4 := Lib.hid (B3.out.trans (hb.mono B3.out.size)); have V2 := Lib.hid (show Val6 u1.heap.size x1 y1 u2 from (hb.block _ V1.out.cells.2.1).trans V1.out); clear hf hb i1' i2' c0 c1 c2 c3 c4 c5 c6 c7 c8 c9 c10 l0 l1 l2 l3; obtain ⟨⟨i1', i2'⟩, ⟨c0, c1, c2, c3, c4, c5, c6, c7, c8, c9, c10⟩, l0, l1, l2, l3⟩ := HX.out _ B4.out; obtain ⟨⟨y0', y1', y2', y3', y4', y5'⟩, m0, m1⟩ := V2.out.cells)
    have B5 := Lib.hid (B4.out.alloc B4.out.size (.cells #[.int .i64 x2.k, .int .i64 x2.n, .string x2.s, .int .i64 y2.k, .int .i64 y2.n, .string y2.s] 127))
    have V3 := Lib.hid (show Val6 u2.heap.size x2 y2 (u2.alloc (.cells #[.int .i64 x2.k, .int .i64 x2.n, .string x2.s, .int .i64 y2.k, .int .i64 y2.n, .string y2.s] 127)) from heap_alloc_new _ _)
    have V4 := Lib.hid (show Val6 u1.heap.size x1 y1 (u2.alloc (.cells #[.int .i64 x2.k, .int .i64 x2.n, .string x2.s, .int .i64 y2.k, .int .i64 y2.n, .string y2.s] 127)) from (heap_alloc_old _ _ V2.out.cells.2.1).trans V2.out)
    have K := Lib.hid (fun (u : World) (hu : Below (u2.alloc (.cells #[.int .i64 x2.k, .int .i64 x2.n, .string x2.s, .int .i64 y2.k, .int .i64 y2.n, .string y2.s] 127)).heap.size (u2.alloc (.cells #[.int .i64 x2.k, .int .i64 x2.n, .string x2.s, .int .i64 y2.k, .int .i64 y2.n, .string y2.s] 127)) u) => (⟨HX.out u (B5.out.trans (hu.mono B5.out.size)), Val6.cells (show Val6 u1.heap.size x1 y1 u from (hu.block _ V4.out.cells.2.1).trans V4.out), Val6.cells (show Val6 u2.heap.size x2 y2 u from (hu.block _ V3.out.cells.2.1).trans V3.out)⟩ : _ ∧ _ ∧ _))
    have B6 := Lib.hid (Below.refl (u2.alloc (.cells #[.int .i64 x2.k, .int .i64 x2.n, .string x2.s, .int .i64 y2.k, .int .i64 y2.n, .string y2.s] 127)).heap.size (u2.alloc (.cells #[.int .i64 x2.k, .int .i64 x2.n, .string x2.s, .int .i64 y2.k, .int .i64 y2.n, .string y2.s] 127)))
    have B7 := Lib.hid (fun (u : World) (hu : Below (u2.alloc (.cells #[.int .i64 x2.k, .int .i64 x2.n, .string x2.s, .int .i64 y2.k, .int .i64 y2.n, .string y2.s] 127)).heap.size (u2.alloc (.cells #[.int .i64 x2.k, .int .i64 x2.n, .string x2.s, .int .i64 y2.k, .int .i64 y2.n, .string y2.s] 127)) u) => B5.out.trans (hu.mono B5.out.size))
    clear i1' i2' c0 c1 c2 c3 c4 c5 c6 c7 c8 c9 c10 l0 l1 l2 l3 y0' y1' y2' y3' y4' y5' m0 m1
    obtain ⟨⟨⟨i1', i2'⟩, ⟨c0, c1, c2, c3, c4, c5, c6, c7, c8, c9, c10⟩, l0, l1, l2, l3⟩, ⟨⟨p0, p1, p2, p3, p4, p5⟩, m0, m1⟩, ⟨q0, q1, q2, q3, q4, q5⟩, m2, m3⟩ := K.out _ B6.out
    try go_wp2_with (first
      | (go_at_call 44; (with_reducible refine (CL.out _).mono ?_); rintro e u3 ⟨rfl, hb⟩; have B6 := Lib.hid (B6.out.trans (hb.mono B6.out.size)); clear hb i1' i2' c0 c1 c2 c3 c4 c5 c6 c7 c8 c9 c10 l0 l1 l2 l3 p0 p1 p2 p3 p4 p5 m0 m1 q0 q1 q2 q3 q4 q5 m2 m3; obtain ⟨⟨⟨i1', i2'⟩, ⟨c0, c1, c2, c3, c4, c5, c6, c7, c8, c9, c10⟩, l0, l1, l2, l3⟩, ⟨⟨p0, p1, p2, p3, p4, p5⟩, m0, m1⟩, ⟨q0, q1, q2, q3, q4, q5⟩, m2, m3⟩ := K.out _ B6.out)
      | (go_at_call 44; (with_reducible refine (CR.out _).mono ?_); rintro e u3 ⟨rfl, hb⟩; have B6 := Lib.hid (B6.out.trans (hb.mono B6.out.size)); clear hb i1' i2' c0 c1 c2 c3 c4 c5 c6 c7 c8 c9 c10 l0 l1 l2 l3 p0 p1 p2 p3 p4 p5 m0 m1 q0 q1 q2 q3 q4 q5 m2 m3; obtain ⟨⟨⟨i1', i2'⟩, ⟨c0, c1, c2, c3, c4, c5, c6, c7, c8, c9, c10⟩, l0, l1, l2, l3⟩, ⟨⟨p0, p1, p2, p3, p4, p5⟩, m0, m1⟩, ⟨q0, q1, q2, q3, q4, q5⟩, m2, m3⟩ := K.out _ B6.out)
      | (go_at_call 35; (with_reducible refine (HV.out x1 x2 _).mono ?_); rintro e u3 ⟨rfl, hb⟩; have B6 := Lib.hid (B6.out.trans (hb.mono B6.out.size)); clear hb)
      | (go_at_call 35; (with_reducible refine (HV.out y1 y2 _).mono ?_); rintro e u3 ⟨rfl, hb⟩; have B6 := Lib.hid (B6.out.trans (hb.mono B6.out.size)); clear hb))
    go_ret
    exact ⟨_, rfl, HPOST.out _ _ _ _ _ HF1.out HF2.out (by rw [HHI.out]; rfl), by rw [← HP.out]; exact HB.out.trans ((B7.out _ B6.out).mono (by have := HZ.out; omega))⟩
end Go.Proofs.Ytpbloplbpkedcaa
