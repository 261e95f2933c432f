/- Contracts: the document's own reading of a value and of an event. -/
import Derived.Test.YtiljekpfkkocnaaTk
import Derived.Test.YtiljekpfkkocnaaSt
namespace Go.Proofs.Ytiljekpfkkocnaa
open Go Go.RowKit

theorem qB_ok {n : Nat} {s : Qs} (h : s.1 = 0) : qB n s = (bitsVal s.2 n, (bitsErr n s.2.length, bitsRest s.2 n)) := by unfold qB; rw [if_pos h]
theorem qN_ok {s : Qs} (h : s.1 = 0) : qN s = (natValL s.2, (natErrL s.2, natRestL s.2)) := by unfold qN; rw [if_pos h]
theorem qI_ok {s : Qs} (h : s.1 = 0) : qI s = (numValL s.2, (natErrL s.2, natRestL s.2)) := by unfold qI; rw [if_pos h]
theorem qT_ok {s : Qs} (h : s.1 = 0) : qT s = (textStr s.2, (textErrL s.2, textRestL s.2)) := by unfold qT; rw [if_pos h]
theorem rqB (B q n : Nat) (s : Qs) (w : World) (h0 : s.1 = 0) (h : RefIs w B q s.2) (hn : n ≤ 64) :
    Calls Try.prog 112 #[.pointer (some ⟨q, 0, none⟩), .int .i64 (n : Int)] w fun e w' => e = .returned (.tuple #[.int .u64 (((qB n s).1 : Nat) : Int), .int .i64 (((qB n s).2.1 : Nat) : Int)]) ∧ RefIs w' B q (qB n s).2.2 ∧ KeptR B q w w' := by
  rw [qB_ok h0]
  exact rsBits_any B q (n : Int) s.2 w h (by simp [Lit.wf, IntKind.min, IntKind.max, IntKind.signed, IntKind.bits]; omega)
theorem rqN (B q : Nat) (s : Qs) (w : World) (h0 : s.1 = 0) (h : RefIs w B q s.2) :
    Calls Try.prog 113 #[.pointer (some ⟨q, 0, none⟩)] w fun e w' => e = .returned (.tuple #[.int .u64 (((qN s).1 : Nat) : Int), .int .i64 (((qN s).2.1 : Nat) : Int)]) ∧ RefIs w' B q (qN s).2.2 ∧ KeptR B q w w' := by
  rw [qN_ok h0]
  exact rsNat_any B q s.2 w h
theorem rqI (B q : Nat) (s : Qs) (w : World) (h0 : s.1 = 0) (h : RefIs w B q s.2) :
    Calls Try.prog 126 #[.pointer (some ⟨q, 0, none⟩)] w fun e w' => e = .returned (.tuple #[.int .i64 (qI s).1, .int .i64 (((qI s).2.1 : Nat) : Int)]) ∧ RefIs w' B q (qI s).2.2 ∧ KeptR B q w w' := by
  rw [qI_ok h0]
  exact rsNum_any B q s.2 w h
theorem rqT (B q : Nat) (s : Qs) (w : World) (h0 : s.1 = 0) (h : RefIs w B q s.2) :
    Calls Try.prog 114 #[.pointer (some ⟨q, 0, none⟩)] w fun e w' => e = .returned (.tuple #[.string (qT s).1, .int .i64 (((qT s).2.1 : Nat) : Int)]) ∧ RefIs w' B q (qT s).2.2 ∧ KeptR B q w w' := by
  rw [qT_ok h0]
  exact rsText_any B q s.2 w h

/-- A value off bits, behind a name. -/
structure Vv where
  k : Int
  n : Int
  s : ByteArray
def qVk (s : Qs) := qB 2 s
def qV (s : Qs) : Vv × Qs :=
  if (qVk s).2.1 ≠ 0 then (⟨0, 0, ⟨#[]⟩⟩, (qVk s).2)
  else if (qVk s).1 = 1 then (⟨1, (qI (qVk s).2).1, ⟨#[]⟩⟩, (qI (qVk s).2).2)
  else if (qVk s).1 = 2 then (⟨2, 0, (qT (qVk s).2).1⟩, (qT (qVk s).2).2)
  else (⟨0, 0, ⟨#[]⟩⟩, (40, (qVk s).2.2))
theorem qAttr_qV (s : Qs) : (qAttr s).2 = (qV (qName s).2).2 ∧ ((qAttr s).2.1 = 0 → (qAttr s).1 = ⟨(qName s).1, (qV (qName s).2).1.k, (qV (qName s).2).1.n, (qV (qName s).2).1.s⟩) := by
  have e : qKind s = qVk (qName s).2 := rfl
  unfold qAttr qV qVal
  rw [← e]
  by_cases h : (qKind s).2.1 = 0
  · have hn : ¬ ((qKind s).2.1 ≠ 0) := by simp [h]
    rw [if_neg hn, if_neg hn]
    by_cases h1 : (qKind s).1 = 1
    · rw [if_pos h1, if_pos h1]; exact ⟨rfl, fun _ => rfl⟩
    · rw [if_neg h1, if_neg h1]
      by_cases h2 : (qKind s).1 = 2
      · rw [if_pos h2, if_pos h2]; exact ⟨rfl, fun _ => rfl⟩
      · rw [if_neg h2, if_neg h2]; exact ⟨rfl, fun h => by cases h⟩
  · rw [if_pos h, if_pos h]; exact ⟨rfl, fun h2 => absurd h2 h⟩
theorem qAttr_name {s : Qs} (h : (qName s).2.1 ≠ 0) : (qAttr s).2 = (qName s).2 := by
  have e : qKind s = (0, (qName s).2) := qB_err h
  unfold qAttr
  rw [e, if_pos h]

/-- A call's result box R, and a box D that it fills; and the document's source. -/
structure Rk (w0 : World) (B q R D t : Nat) (cr cs : Array Value) (l : List Bool) (w : World) : Prop where
  kept : KeptR B q w0 w
  ref : RefIs w B q l
  hB : B ≤ w0.heap.size
  hR : w0.heap.size ≤ R
  hD : w0.heap.size ≤ D
  ne : R ≠ D
  br : w.heap[R]? = some (.cells cr t (0, 0))
  bd : w.heap[D]? = some (.cells cs t (0, 0))
theorem RefIs.other {w : World} {B q D t : Nat} {l : List Bool} {cs : Array Value} {fr : Nat × Nat} (h : RefIs w B q l) (hD : w.heap[D]? = some (.cells cs t fr)) (h1 : t ≠ 60) (h2 : t ≠ 4) (i : Nat) (u : Value) : RefIs (w.setCell ⟨D, i, none⟩ u) B q l := by
  have k : Kept 0 (fun e => e == t) w (w.setCell ⟨D, i, none⟩ u) := (Kept.refl _ _ _).setCell (p := ⟨D, i, none⟩) (Nat.zero_le _) hD (by simp) u
  exact h.kept k (by simp only [beq_eq_false_iff_ne]; exact fun e => h1 e.symm) (by simp only [beq_eq_false_iff_ne]; exact fun e => h2 e.symm)
theorem Rk.call {w0 : World} {B q R D t : Nat} {cr cs : Array Value} {l l' : List Bool} {w w' : World} (h : Rk w0 B q R D t cr cs l w) (ht : refT t = false) (hk : KeptR B q w w') (he : RefIs w' B q l') : Rk w0 B q R D t cr cs l' w' :=
  ⟨h.kept.trans hk, he, h.hB, h.hR, h.hD, h.ne, hk.typed _ _ _ _ h.br ht, hk.typed _ _ _ _ h.bd ht⟩
theorem Rk.set {w0 : World} {B q R D t : Nat} {cr cs : Array Value} {l : List Bool} {w : World} (h : Rk w0 B q R D t cr cs l w) (h1 : t ≠ 60) (h2 : t ≠ 4) (i : Nat) (u : Value) : Rk w0 B q R D t cr (cs.setIfInBounds i u) l (w.setCell ⟨D, i, none⟩ u) :=
  ⟨h.kept.setCell_fresh (p := ⟨D, i, none⟩) (Nat.le_trans h.hB h.hD) h.hD u, h.ref.other h.bd h1 h2 i u, h.hB, h.hR, h.hD, h.ne, heap_setCell_far (p := ⟨D, i, none⟩) h.br h.ne u, by rw [heap_setCell_same h.bd]⟩
theorem Rk.setR {w0 : World} {B q R D t : Nat} {cr cs : Array Value} {l : List Bool} {w : World} (h : Rk w0 B q R D t cr cs l w) (h1 : t ≠ 60) (h2 : t ≠ 4) (i : Nat) (u : Value) : Rk w0 B q R D t (cr.setIfInBounds i u) cs l (w.setCell ⟨R, i, none⟩ u) :=
  ⟨h.kept.setCell_fresh (p := ⟨R, i, none⟩) (Nat.le_trans h.hB h.hR) h.hR u, h.ref.other h.br h1 h2 i u, h.hB, h.hR, h.hD, h.ne, by rw [heap_setCell_same h.br], heap_setCell_far (p := ⟨R, i, none⟩) h.bd (fun e => h.ne e.symm) u⟩
theorem Rk.five {w0 : World} {B q R D t : Nat} {cr cs : Array Value} {l : List Bool} {w : World} (h : Rk w0 B q R D t cr cs l w) (h1 : t ≠ 60) (h2 : t ≠ 4) (d0 d1 d2 d3 d4 : Value) :
    Rk w0 B q R D t (((((cr.setIfInBounds 0 d0).setIfInBounds 1 d1).setIfInBounds 2 d2).setIfInBounds 3 d3).setIfInBounds 4 d4) cs l (((((w.setCell ⟨R, 0, none⟩ d0).setCell ⟨R, 1, none⟩ d1).setCell ⟨R, 2, none⟩ d2).setCell ⟨R, 3, none⟩ d3).setCell ⟨R, 4, none⟩ d4) :=
  ((((h.setR h1 h2 0 d0).setR h1 h2 1 d1).setR h1 h2 2 d2).setR h1 h2 3 d3).setR h1 h2 4 d4
theorem Rk.alloc {w0 : World} {B q R D t : Nat} {cr cs : Array Value} {l : List Bool} {w : World} (h : Rk w0 B q R D t cr cs l w) (o : Obj) : Rk w0 B q R D t cr cs l (w.alloc o) :=
  ⟨h.kept.alloc (Nat.le_trans h.hB h.kept.below.size) o, h.ref.alloc o, h.hB, h.hR, h.hD, h.ne, heap_alloc_keeps h.br o, heap_alloc_keeps h.bd o⟩
theorem Rk.grown {w0 : World} {B q R D t : Nat} {cr cs : Array Value} {l : List Bool} {w w' : World} (h : Rk w0 B q R D t cr cs l w) {e size n : Nat} {v : Value} {xs : List Value} (hown : w.ownsRow w0.heap.size e size v n xs) (h1 : 60 ≠ e) (h2 : 4 ≠ e) (h3 : t ≠ e) (hg : w.grownBy w' v.ownBlock) : Rk w0 B q R D t cr cs l w' :=
  ⟨h.kept.grown_fresh hown hg (Nat.le_trans h.hB h.kept.below.size) h.hB (Nat.le_refl _), h.ref.grown hown h1 h2 hg, h.hB, h.hR, h.hD, h.ne, grow_keeps h.br hown h3 hg rfl, grow_keeps h.bd hown h3 hg rfl⟩
/-- A store into another box, one that was made since. -/
theorem Rk.far {w0 : World} {B q R D t : Nat} {cr cs : Array Value} {l : List Bool} {w : World} (h : Rk w0 B q R D t cr cs l w) {X t2 : Nat} {c2 : Array Value} (hX : w.heap[X]? = some (.cells c2 t2 (0, 0))) (hs : w0.heap.size ≤ X) (h1 : t2 ≠ 60) (h2 : t2 ≠ 4) (h3 : t ≠ t2) (i : Nat) (u : Value) : Rk w0 B q R D t cr cs l (w.setCell ⟨X, i, none⟩ u) :=
  ⟨h.kept.setCell_fresh (p := ⟨X, i, none⟩) (Nat.le_trans h.hB hs) hs u, h.ref.other hX h1 h2 i u, h.hB, h.hR, h.hD, h.ne,
    heap_setCell_far (p := ⟨X, i, none⟩) h.br (fun e => by have hb := h.br; rw [show R = X from e, hX] at hb; simp only [Option.some.injEq, Obj.cells.injEq] at hb; exact h3 hb.2.1.symm) u,
    heap_setCell_far (p := ⟨X, i, none⟩) h.bd (fun e => by have hb := h.bd; rw [show D = X from e, hX] at hb; simp only [Option.some.injEq, Obj.cells.injEq] at hb; exact h3 hb.2.1.symm) u⟩

def r4vPost (s : Qs) (B q : Nat) (w : World) (e : Ending) (w' : World) : Prop :=
  ∃ (k n : Int) (t : ByteArray) (l : List Bool), e = .returned (.tuple #[.agg #[.int .i64 k, .int .i64 n, .string t], .int .i64 (((qV s).2.1 : Nat) : Int)]) ∧ RefIs w' B q l ∧ KeptR B q w w' ∧ ((qV s).2.1 = 0 → k = (qV s).1.k ∧ n = (qV s).1.n ∧ t = (qV s).1.s ∧ l = (qV s).2.2)
theorem three_fresh {B q : Nat} {a w : World} (h : KeptR B q a w) {R : Nat} (hB : B ≤ R) (hR : a.heap.size ≤ R) (d0 d1 d2 : Value) : KeptR B q a (((w.setCell ⟨R, 0, none⟩ d0).setCell ⟨R, 1, none⟩ d1).setCell ⟨R, 2, none⟩ d2) :=
  ((h.setCell_fresh (p := ⟨R, 0, none⟩) hB hR d0).setCell_fresh (p := ⟨R, 1, none⟩) hB hR d1).setCell_fresh (p := ⟨R, 2, none⟩) hB hR d2
theorem RefIs.three {w : World} {B q R t : Nat} {l : List Bool} {cs : Array Value} (h : RefIs w B q l) (hR : w.heap[R]? = some (.cells cs t (0, 0))) (h1 : t ≠ 60) (h2 : t ≠ 4) (d0 d1 d2 : Value) : RefIs (((w.setCell ⟨R, 0, none⟩ d0).setCell ⟨R, 1, none⟩ d1).setCell ⟨R, 2, none⟩ d2) B q l :=
  (((h.other hR h1 h2 0 d0).other (heap_setCell_same hR d0) h1 h2 1 d1).other (heap_setCell_same (heap_setCell_same hR d0) d1) h1 h2 2 d2)

set_option maxRecDepth 100000 in
set_option maxHeartbeats 1600000 in
theorem r4value_any (B q : Nat) (s : Qs) (w : World) (h0 : s.1 = 0) (h : RefIs w B q s.2) (hB : B ≤ w.heap.size) :
    Calls Try.prog 115 #[.pointer (some ⟨q, 0, none⟩)] w (r4vPost s B q w) := by
  obtain ⟨R, hR⟩ : ∃ R, R = w.heap.size := ⟨_, rfl⟩
  obtain ⟨W, hW⟩ : ∃ W, W = w.alloc (.cells #[.int .i64 0, .int .i64 0, .string ⟨#[]⟩] 89) := ⟨_, rfl⟩
  have hrW : W.heap[R]? = some (.cells #[.int .i64 0, .int .i64 0, .string ⟨#[]⟩] 89 (0, 0)) := by rw [hW, hR]; exact heap_alloc_new _ _
  have hkW : KeptR B q w W := by rw [hW]; exact (KeptR.refl _ _ _).alloc hB _
  have C1 : Calls Try.prog 112 #[.pointer (some ⟨q, 0, none⟩), .int .i64 2] W fun e w' => e = .returned (.tuple #[.int .u64 (((qVk s).1 : Nat) : Int), .int .i64 (((qVk s).2.1 : Nat) : Int)]) ∧ RefIs w' B q (qVk s).2.2 ∧ KeptR B q W w' := rqB B q 2 s W h0 (by rw [hW]; exact h.alloc _) (by decide)
  have C2 := fun (h0 : (qVk s).2.1 = 0) (w : World) (h : RefIs w B q (qVk s).2.2) => rqI B q (qVk s).2 w h0 h
  have C3 := fun (h0 : (qVk s).2.1 = 0) (w : World) (h : RefIs w B q (qVk s).2.2) => rqT B q (qVk s).2 w h0 h
  have hK : (qVk s).1 < 2 ^ 2 := qB_lt 2 s
  have hV : qV s = if (qVk s).2.1 ≠ 0 then (⟨0, 0, ⟨#[]⟩⟩, (qVk s).2) else if (qVk s).1 = 1 then (⟨1, (qI (qVk s).2).1, ⟨#[]⟩⟩, (qI (qVk s).2).2) else if (qVk s).1 = 2 then (⟨2, 0, (qT (qVk s).2).1⟩, (qT (qVk s).2).2) else (⟨0, 0, ⟨#[]⟩⟩, (40, (qVk s).2.2)) := rfl
  obtain ⟨K, hKK⟩ : ∃ K, K = (qVk s).1 := ⟨_, rfl⟩
  obtain ⟨s2, hs2⟩ : ∃ s2, s2 = (qVk s).2 := ⟨_, rfl⟩
  rw [← hKK, ← hs2] at C1 hV
  rw [← hs2] at C2 C3
  rw [← hKK] at hK
  have HC1 := hide C1; have HC2 := hide C2; have HC3 := hide C3; have HRW := hide hrW; have HKW := hide hkW; have HB := hide hB; have HW := hide hW; have HR := hide hR; have HV := hide hV
  have hKz : (0 : Int) ≤ (K : Int) := by omega
  have hK3 : (K : Int) ≤ 3 := by omega
  unfold r4vPost
  clear C1 C2 C3 hrW hkW hB hW hR hV h h0 hKK hs2 hK
  go_enter Try.func115, Try.ntmps115
  go_wp2_with fail
  rw [← HW.out, ← HR.out]
  refine HC1.out.mono ?_
  rintro e w1 ⟨rfl, hs1, k1⟩
  have HS1 := hide hs1; have HK1 := hide (HKW.out.trans k1); have HR1 := hide (k1.typed _ _ _ _ HRW.out (by decide))
  obtain ⟨r0, r1, r2⟩ := cell_of_three HR1.out
  have g0 := free_cells_of HR1.out 0; have g1 := free_cells_of HR1.out 1; have g2 := free_cells_of HR1.out 2
  clear hs1 k1
  by_cases hE : s2.1 = 0
  · have HE := hide hE
    have hv := HV.out
    rw [if_neg (by simp [hE])] at hv
    have HV := hide hv
    rw [hE]
    clear hv hE
    by_cases hK1 : K = 1
    · have hv := HV.out
      rw [if_pos hK1] at hv
      have b1 : ((K : Int) == 1) = true := by simp [hK1]
      have C := HC2.out HE.out w1 HS1.out
      obtain ⟨n, hn⟩ : ∃ n, n = (qI s2).1 := ⟨_, rfl⟩
      obtain ⟨s3, hs3⟩ : ∃ s3, s3 = (qI s2).2 := ⟨_, rfl⟩
      rw [← hn, ← hs3] at C hv
      have HC := hide C; have HV := hide hv
      clear r0 r1 r2 g0 g1 g2 C hv hn hs3 hK1
      go_wp2_with fail
      refine HC.out.mono ?_
      rintro e w2 ⟨rfl, hs2, k2⟩
      have HS2 := hide hs2; have HK2 := hide (HK1.out.trans k2); have HR2 := hide (k2.typed _ _ _ _ HR1.out (by decide))
      obtain ⟨r0, r1, r2⟩ := cell_of_three HR2.out
      have g0 := free_cells_of HR2.out 0; have g1 := free_cells_of HR2.out 1; have g2 := free_cells_of HR2.out 2
      clear hs2 k2
      go_wp2
      have hz := cell_of_three (three_set HR2.out (.int .i64 1) (.int .i64 n) (.string ⟨#[]⟩))
      refine bodyPost_ret (v := .tuple #[.agg #[.int .i64 1, .int .i64 n, .string ⟨#[]⟩], .int .i64 ((s3.1 : Nat) : Int)]) (by simp [results, Try.results115, go_sem, hz]) rfl ?_
      refine ⟨1, n, ⟨#[]⟩, s3.2, by rw [HV.out], HS2.out.three HR2.out (by decide) (by decide) _ _ _, three_fresh HK2.out (by rw [HR.out]; exact HB.out) (by rw [HR.out]; exact Nat.le_refl _) _ _ _, fun _ => by rw [HV.out]; exact ⟨rfl, rfl, rfl, rfl⟩⟩
    · have b1 : ((K : Int) == 1) = false := by simp; omega
      have hv := HV.out
      rw [if_neg hK1] at hv
      by_cases hK2 : K = 2
      · rw [if_pos hK2] at hv
        have b2 : ((K : Int) == 2) = true := by simp [hK2]
        have C := HC3.out HE.out w1 HS1.out
        obtain ⟨n, hn⟩ : ∃ n, n = (qT s2).1 := ⟨_, rfl⟩
        obtain ⟨s3, hs3⟩ : ∃ s3, s3 = (qT s2).2 := ⟨_, rfl⟩
        rw [← hn, ← hs3] at C hv
        have HC := hide C; have HV := hide hv
        clear r0 r1 r2 g0 g1 g2 C hv hn hs3 hK1 hK2
        go_wp2_with fail
        refine HC.out.mono ?_
        rintro e w2 ⟨rfl, hs2, k2⟩
        have HS2 := hide hs2; have HK2 := hide (HK1.out.trans k2); have HR2 := hide (k2.typed _ _ _ _ HR1.out (by decide))
        obtain ⟨r0, r1, r2⟩ := cell_of_three HR2.out
        have g0 := free_cells_of HR2.out 0; have g1 := free_cells_of HR2.out 1; have g2 := free_cells_of HR2.out 2
        clear hs2 k2
        go_wp2
        have hz := cell_of_three (three_set HR2.out (.int .i64 2) (.int .i64 0) (.string n))
        refine bodyPost_ret (v := .tuple #[.agg #[.int .i64 2, .int .i64 0, .string n], .int .i64 ((s3.1 : Nat) : Int)]) (by simp [results, Try.results115, go_sem, hz]) rfl ?_
        refine ⟨2, 0, n, s3.2, by rw [HV.out], HS2.out.three HR2.out (by decide) (by decide) _ _ _, three_fresh HK2.out (by rw [HR.out]; exact HB.out) (by rw [HR.out]; exact Nat.le_refl _) _ _ _, fun _ => by rw [HV.out]; exact ⟨rfl, rfl, rfl, rfl⟩⟩
      · have b2 : ((K : Int) == 2) = false := by simp; omega
        rw [if_neg hK2] at hv
        have HV := hide hv
        clear hv hK1 hK2
        go_wp2
        have hz := cell_of_three (three_set HR1.out (.int .i64 0) (.int .i64 0) (.string ⟨#[]⟩))
        refine bodyPost_ret (v := .tuple #[.agg #[.int .i64 0, .int .i64 0, .string ⟨#[]⟩], .int .i64 40]) (by simp [results, Try.results115, go_sem, hz]) rfl ?_
        refine ⟨0, 0, ⟨#[]⟩, s2.2, by rw [HV.out]; rfl, HS1.out.three HR1.out (by decide) (by decide) _ _ _, three_fresh HK1.out (by rw [HR.out]; exact HB.out) (by rw [HR.out]; exact Nat.le_refl _) _ _ _, fun _ => by rw [HV.out]; exact ⟨rfl, rfl, rfl, rfl⟩⟩
  · have b1 : (((s2.1 : Nat) : Int) != 0) = true := by simp; omega
    have hv := HV.out
    rw [if_pos hE] at hv
    have HV := hide hv
    clear hv hE
    go_wp2
    have hz := cell_of_three (three_set HR1.out (.int .i64 0) (.int .i64 0) (.string ⟨#[]⟩))
    refine bodyPost_ret (v := .tuple #[.agg #[.int .i64 0, .int .i64 0, .string ⟨#[]⟩], .int .i64 ((s2.1 : Nat) : Int)]) (by simp [results, Try.results115, go_sem, hz]) rfl ?_
    refine ⟨0, 0, ⟨#[]⟩, s2.2, by rw [HV.out], HS1.out.three HR1.out (by decide) (by decide) _ _ _, three_fresh HK1.out (by rw [HR.out]; exact HB.out) (by rw [HR.out]; exact Nat.le_refl _) _ _ _, fun _ => by rw [HV.out]; exact ⟨rfl, rfl, rfl, rfl⟩⟩
end Go.Proofs.Ytiljekpfkkocnaa
