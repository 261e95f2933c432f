/- The walk of ValueTexts. -/
import Derived.Test.YthmdnlcinlmjkaaDoorPd
import Derived.Test.YthmdnlcinlmjkaaDoorVx
namespace Go.Proofs.YthmdnlcinlmjkaaDoor
open Go Go.RowKit

/-- How things stand before the comparison: three values' boxes lie at P, Q and R. -/
structure Tw (w0 : World) (P Q R : Nat) (k n : Int) (s : ByteArray) (k2 n2 : Int) (t : ByteArray) (w : World) : Prop where
  below : Below P w0 w
  pq : P < Q
  qr : Q < R
  lt : R < w.heap.size
  bp : w.heap[P]? = some (.cells #[.int .i64 k, .int .i64 n, .string s] 23 (0, 0))
  bq : w.heap[Q]? = some (.cells #[.int .i64 k2, .int .i64 n2, .string t] 23 (0, 0))
  br : w.heap[R]? = some (.cells #[.int .i64 k2, .int .i64 n2, .string t] 23 (0, 0))
  err : ErrV w
theorem Tw.call {w0 : World} {P Q R : Nat} {k n : Int} {s : ByteArray} {k2 n2 : Int} {t : ByteArray} {w w' : World} (h : Tw w0 P Q R k n s k2 n2 t w) (hb : Below w.heap.size w w') : Tw w0 P Q R k n s k2 n2 t w' := by
  have h1 := h.pq; have h2 := h.qr; have h3 := h.lt
  exact ⟨h.below.trans (hb.mono (by omega)), h1, h2, Nat.lt_of_lt_of_le h3 hb.size, (hb.block P (by omega)).trans h.bp, (hb.block Q (by omega)).trans h.bq, (hb.block R h3).trans h.br, h.err.keep hb⟩
theorem Tw.drew {w0 : World} {P Q R : Nat} {k n : Int} {s : ByteArray} {k2 n2 : Int} {t : ByteArray} {w : World} (h : Tw w0 P Q R k n s k2 n2 t w) : Tw w0 P Q R k n s k2 n2 t w.drew :=
  h.call (Below.refl _ _).drew
/-- One box, and the errors. -/
structure Tx1 (w0 : World) (P : Nat) (k n : Int) (s : ByteArray) (w : World) : Prop where
  below : Below P w0 w
  lt : P < w.heap.size
  bp : w.heap[P]? = some (.cells #[.int .i64 k, .int .i64 n, .string s] 23 (0, 0))
  err : ErrV w
theorem Tx1.call {w0 : World} {P : Nat} {k n : Int} {s : ByteArray} {w w' : World} (h : Tx1 w0 P k n s w) (hb : Below w.heap.size w w') : Tx1 w0 P k n s w' :=
  ⟨h.below.trans (hb.mono (Nat.le_of_lt h.lt)), Nat.lt_of_lt_of_le h.lt hb.size, (hb.block P h.lt).trans h.bp, h.err.keep hb⟩
theorem Tx1.start (w : World) (k n : Int) (s : ByteArray) (hE : ErrV w) : Tx1 w w.heap.size k n s (w.alloc (.cells #[.int .i64 k, .int .i64 n, .string s] 23)) :=
  ⟨(Below.refl _ _).alloc (Nat.le_refl _) _, by simp, heap_alloc_new _ _, hE.keep ((Below.refl _ _).alloc (Nat.le_refl _) _)⟩
theorem Tx1.two {w0 : World} {P : Nat} {k n : Int} {s : ByteArray} {w1 w2 : World} (h : Tx1 w0 P k n s w1) {k2 n2 : Int} {t : ByteArray}
    (hb : Below (w1.alloc (.cells #[.int .i64 k2, .int .i64 n2, .string t] 23)).heap.size (w1.alloc (.cells #[.int .i64 k2, .int .i64 n2, .string t] 23)) w2) :
    Tw w0 P w1.heap.size w2.heap.size k n s k2 n2 t (w2.alloc (.cells #[.int .i64 k2, .int .i64 n2, .string t] 23)) := by
  have h1 := h.call ((Below.refl _ _).alloc (Nat.le_refl _) (.cells #[.int .i64 k2, .int .i64 n2, .string t] 23))
  have h2 := h1.call hb
  have h3 := h2.call ((Below.refl _ _).alloc (Nat.le_refl _) (.cells #[.int .i64 k2, .int .i64 n2, .string t] 23))
  have hs : w1.heap.size < w2.heap.size := by have := hb.size; simp at this; omega
  have hq : w2.heap[w1.heap.size]? = some (.cells #[.int .i64 k2, .int .i64 n2, .string t] 23 (0, 0)) := (hb.block w1.heap.size (by simp)).trans (heap_alloc_new _ _)
  exact ⟨h3.below, h.lt, hs, by simp, h3.bp, (Below.heap_alloc _ _ _ hs).trans hq, heap_alloc_new _ _, h3.err⟩

set_option maxRecDepth 100000 in
set_option maxHeartbeats 3200000 in
theorem texts_walk (k n : Int) (s1 s : ByteArray) (hn : inI n) (h1 : 4 * s1.size + 2 ≤ 140737488355328) (h2 : 4 * s.size + 2 ≤ 140737488355328) (w : World) (hE : ErrV w) :
    Calls Tryd.prog 3 #[.agg #[.int .i64 k, .int .i64 n, .string s1], .string s] w fun e w' => e = .returned (.bool true) ∧ Below w.heap.size w w' := by
  have HC1 := Lib.hid (fun w hE => vParse_anyZ s (by omega) w hE)
  have HC2 := Lib.hid (fun w => r3Parse_any s h2 w)
  have C3 := fun w hE => vText_any k n s1 hn h1 w hE
  have C4 := fun w => r3Text_any k n s1 hn h1 w
  generalize (⟨(textL k n s1.data.toList).toArray⟩ : ByteArray) = T at C3 C4
  have HC3 := Lib.hid C3; have HC4 := Lib.hid C4
  have B0 := Lib.hid (Tx1.start w k n s1 hE)
  clear C3 C4 hE hn h1 h2
  have hse : (T.toList == T.toList) = true := by simp
  go_enter Tryd.func3, Tryd.ntmps3
  go_wp2_with (first
    | (go_at_call 5; refine (HC1.out _ B0.out.err).mono ?_; rintro e w1 ⟨hz, hb⟩; have HZ := Lib.hid hz; obtain ⟨k2, n2, t2, ok2, rfl, _⟩ := hz; have B1 := Lib.hid (B0.out.call hb); clear hb)
    | (go_at_call 6; refine (HC2.out _).mono ?_; rintro e w2 ⟨hz, hb⟩; obtain rfl := ParseZ.one HZ.out hz; have B2 := Lib.hid (B1.out.two hb); clear hb))
  have bo : (ok2 == ok2) = true := by simp
  obtain ⟨c0, c1, c2⟩ := cell_of_three B2.out.bp
  obtain ⟨d0, d1, d2⟩ := cell_of_three B2.out.bq
  obtain ⟨e0, e1, e2⟩ := cell_of_three B2.out.br
  generalize w2.alloc (.cells #[.int .i64 k2, .int .i64 n2, .string t2] 23) = W3 at B2 c0 c1 c2 d0 d1 d2 e0 e1 e2 ⊢
  generalize hP : w.heap.size = P at B2 c0 c1 c2 ⊢
  have HP := Lib.hid hP
  clear hP
  generalize w1.heap.size = Q at B2 d0 d1 d2 ⊢
  generalize w2.heap.size = R at B2 e0 e1 e2 ⊢
  have he : ∀ w : World, (binOp .eql 23 (.agg #[.int .i64 k2, .int .i64 n2, .string t2]) (.agg #[.int .i64 k2, .int .i64 n2, .string t2])).run Tryd.prog w = .ok (.bool true) w := fun w => by rw [vEq_run, vEq_iff.2 ⟨rfl, rfl, rfl⟩]
  have hgd := fun (op : BinOp) (x y : Operand) (w : World) => vGuard op x y k2 n2 t2 k2 n2 t2 w
  go_region_held3 (fun w' => w'.cell? ⟨P, 0, none⟩ = some (.int .i64 k) ∧ w'.cell? ⟨P, 1, none⟩ = some (.int .i64 n) ∧ w'.cell? ⟨P, 2, none⟩ = some (.string s1) ∧ w'.cell? ⟨Q, 0, none⟩ = some (.int .i64 k2) ∧ w'.cell? ⟨Q, 1, none⟩ = some (.int .i64 n2) ∧ w'.cell? ⟨Q, 2, none⟩ = some (.string t2) ∧ w'.cell? ⟨R, 0, none⟩ = some (.int .i64 k2) ∧ w'.cell? ⟨R, 1, none⟩ = some (.int .i64 n2) ∧ w'.cell? ⟨R, 2, none⟩ = some (.string t2)) (first | exact ⟨c0, c1, c2, d0, d1, d2, e0, e1, e2⟩ | go_keep)
    (first
      | (go_at_call 7; (with_reducible refine (live_any _).mono ?_); rintro e w3 ⟨rfl, hb⟩; have B2 := Lib.hid (B2.out.drew.call hb); clear hb c0 c1 c2 d0 d1 d2 e0 e1 e2; obtain ⟨c0, c1, c2⟩ := cell_of_three B2.out.bp; obtain ⟨d0, d1, d2⟩ := cell_of_three B2.out.bq; obtain ⟨e0, e1, e2⟩ := cell_of_three B2.out.br)
      | (go_at_call 8; (with_reducible refine (HC3.out _ B2.out.err).mono ?_); rintro e w4 ⟨rfl, hb⟩; have B2 := Lib.hid (B2.out.call hb); clear hb c0 c1 c2 d0 d1 d2 e0 e1 e2; obtain ⟨c0, c1, c2⟩ := cell_of_three B2.out.bp; obtain ⟨d0, d1, d2⟩ := cell_of_three B2.out.bq; obtain ⟨e0, e1, e2⟩ := cell_of_three B2.out.br)
      | (go_at_call 9; (with_reducible refine (HC4.out _).mono ?_); rintro e w5 ⟨rfl, hb⟩; have B2 := Lib.hid (B2.out.call hb); clear hb c0 c1 c2 d0 d1 d2 e0 e1 e2; obtain ⟨c0, c1, c2⟩ := cell_of_three B2.out.bp; obtain ⟨d0, d1, d2⟩ := cell_of_three B2.out.bq; obtain ⟨e0, e1, e2⟩ := cell_of_three B2.out.br))
  all_goals go_wp2
  all_goals go_ret
  all_goals exact ⟨rfl, by rw [HP.out]; exact B2.out.below⟩
end Go.Proofs.YthmdnlcinlmjkaaDoor
