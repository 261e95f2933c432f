/- Contracts: an operand's value of an event, and whether a condition holds of it: the program's calls and the document's. -/
import Derived.Test.YtpbloplbpkedcaaPm9
import Derived.Test.YtpbloplbpkedcaaCo7
import Derived.Test.YtpbloplbpkedcaaEa7
namespace Go.Proofs.Ytpbloplbpkedcaa
open Go Go.RowKit Go.Sort

theorem pConst_any (v a : ByteArray) (k n : Int) (s : ByteArray) (w : World) : Calls Try.prog 44 #[.agg #[.string v, .string a, .int .i64 k, .int .i64 n, .string s]] w fun e w' => e = .returned (.bool (decide (a = em))) ∧ Below w.heap.size w w' := by
  by_cases h : a = em
  · subst h
    unfold em
    go_enter Try.func44, Try.ntmps44
    go_wp2
    go_ret
    exact ⟨by simp, (Below.refl _ _).alloc (Nat.le_refl _) _⟩
  · have h1 := ne_em2 h; have h2 := ne_em3 h
    rw [decide_eq_false h]
    go_enter Try.func44, Try.ntmps44
    go_wp2
    go_ret
    exact ⟨rfl, (Below.refl _ _).alloc (Nat.le_refl _) _⟩

/-- The three boxes of a call: an operand, an event, a value. -/
def Box3 (w : World) (P : Nat) (v a : ByteArray) (k m : Int) (s : ByteArray) (src seq time : Int) (ty : ByteArray) (av z0 z1 z2 : Value) (u : World) : Prop :=
  u.heap[P]? = some (.cells #[.string v, .string a, .int .i64 k, .int .i64 m, .string s] 25 (0, 0)) ∧
  u.heap[P + 1]? = some (.cells #[.int .i64 src, .int .i64 seq, .int .i64 time, .string ty, av] 36 (0, 0)) ∧
  u.heap[P + 1 + 1]? = some (.cells #[z0, z1, z2] 23 (0, 0)) ∧ P + 1 + 1 + 1 ≤ u.heap.size ∧ Below P w u
theorem Box3.low {w : World} {P : Nat} {v a : ByteArray} {k m : Int} {s : ByteArray} {src seq time : Int} {ty : ByteArray} {av z0 z1 z2 : Value} {u : World} (h : Box3 w P v a k m s src seq time ty av z0 z1 z2 u) : Below P w u := h.2.2.2.2
theorem Box3.below {w : World} {P : Nat} {v a : ByteArray} {k m : Int} {s : ByteArray} {src seq time : Int} {ty : ByteArray} {av z0 z1 z2 : Value} {u u' : World} (h : Box3 w P v a k m s src seq time ty av z0 z1 z2 u) (hb : Below u.heap.size u u') : Box3 w P v a k m s src seq time ty av z0 z1 z2 u' := by
  obtain ⟨h1, h2, h3, h4, h5⟩ := h
  exact ⟨(hb.block _ (by omega)).trans h1, (hb.block _ (by omega)).trans h2, (hb.block _ (by omega)).trans h3, Nat.le_trans h4 hb.size, h5.trans (hb.mono (by omega))⟩
theorem Box3.cells {w : World} {P : Nat} {v a : ByteArray} {k m : Int} {s : ByteArray} {src seq time : Int} {ty : ByteArray} {av z0 z1 z2 : Value} {u : World} (h : Box3 w P v a k m s src seq time ty av z0 z1 z2 u) :
    (u.cell? ⟨P, 0, none⟩ = some (.string v) ∧ u.cell? ⟨P, 1, none⟩ = some (.string a) ∧ u.cell? ⟨P, 2, none⟩ = some (.int .i64 k) ∧ u.cell? ⟨P, 3, none⟩ = some (.int .i64 m) ∧ u.cell? ⟨P, 4, none⟩ = some (.string s)) ∧
    u.cell? ⟨P + 1, 4, none⟩ = some av ∧
    (u.cell? ⟨P + 1 + 1, 0, none⟩ = some z0 ∧ u.cell? ⟨P + 1 + 1, 1, none⟩ = some z1 ∧ u.cell? ⟨P + 1 + 1, 2, none⟩ = some z2) ∧ (u.frozen? ⟨P + 1 + 1, 0, none⟩ = false ∧ u.frozen? ⟨P + 1 + 1, 1, none⟩ = false ∧ u.frozen? ⟨P + 1 + 1, 2, none⟩ = false) ∧ (P < u.heap.size ∧ P + 1 < u.heap.size ∧ P + 1 + 1 < u.heap.size ∧ P ≠ u.heap.size ∧ P + 1 ≠ u.heap.size ∧ P + 1 + 1 ≠ u.heap.size) :=
  ⟨cell_of_five h.1, (cell_of_five h.2.1).2.2.2.2, cell_of_three h.2.2.1, free_of_three h.2.2.1, by have := h.2.2.2.1; omega⟩

set_option maxRecDepth 100000 in
set_option maxHeartbeats 2000000 in
theorem pOwn_any (o : Opd) (src seq time : Int) (ty : ByteArray) (B : Nat) (ao : Option Addr) (n cap : Nat) (xs : List At) (w : World) (h : Av w B (.slice ao n cap) xs) (hB : B ≤ w.heap.size) :
    Calls Try.prog 36 #[opV o, .agg #[.int .i64 src, .int .i64 seq, .int .i64 time, .string ty, .slice ao n cap]] w fun e w' => e = .returned (ownL o xs).v ∧ Below w.heap.size w w' := by
  obtain ⟨v, a, k, m, s⟩ := o
  unfold opV
  simp only
  obtain ⟨P, hP⟩ : ∃ P, P = w.heap.size := ⟨_, rfl⟩
  obtain ⟨W, hW⟩ : ∃ W, W = ((w.alloc (.cells #[.string v, .string a, .int .i64 k, .int .i64 m, .string s] 25)).alloc (.cells #[.int .i64 src, .int .i64 seq, .int .i64 time, .string ty, .slice ao n cap] 36)).alloc (.cells #[.int .i64 0, .int .i64 0, .string ⟨#[]⟩] 23) := ⟨_, rfl⟩
  have HX : Hid (Box3 w P v a k m s src seq time ty (.slice ao n cap) (.int .i64 0) (.int .i64 0) (.string ⟨#[]⟩) W) := by
    rw [hW, hP]
    refine ⟨?_, ?_, ?_, ?_, ?_⟩
    · rw [heap_alloc_old _ _ (by simp; omega), heap_alloc_old _ _ (by simp)]; exact heap_alloc_new _ _
    · rw [heap_alloc_old _ _ (by simp)]
      have := heap_alloc_new (w.alloc (.cells #[.string v, .string a, .int .i64 k, .int .i64 m, .string s] 25)) (.cells #[.int .i64 src, .int .i64 seq, .int .i64 time, .string ty, .slice ao n cap] 36)
      simpa using this
    · have := heap_alloc_new ((w.alloc (.cells #[.string v, .string a, .int .i64 k, .int .i64 m, .string s] 25)).alloc (.cells #[.int .i64 src, .int .i64 seq, .int .i64 time, .string ty, .slice ao n cap] 36)) (.cells #[.int .i64 0, .int .i64 0, .string ⟨#[]⟩] 23)
      simpa using this
    · simp
    · exact (((Below.refl _ _).alloc (Nat.le_refl _) _).alloc (by simp) _).alloc (by simp; omega) _
  have HG := Lib.hid (fun (u : World) (hu : Below P w u) => vGet_any B ao n cap xs a u (h.below hu (by omega)) (Nat.le_trans hB (by have := hu.size; omega)))
  have HP := Lib.hid hP; have HW := Lib.hid hW
  have HC0 := Lib.hid (fun u : World => pConst_any v a k m s u)
  clear h hB hP hW
  unfold ownL
  simp only
  by_cases ha : a = em
  · rw [if_pos ha]
    subst ha
    simp only [decide_true] at HC0
    unfold em at *
    go_enter Try.func36, Try.ntmps36
    go_wp2_with fail
    rw [← HW.out, ← HP.out]
    obtain ⟨⟨c0, c1, c2, c3, c4⟩, x4, ⟨z0, z1, z2⟩, ⟨f0, f1, f2⟩, l0, l1, l2, l3, l4, l5⟩ := HX.out.cells
    go_wp2_with (go_at_call 44; (with_reducible refine (HC0.out _).mono ?_); rintro e u ⟨rfl, hb⟩; have HX1 := Lib.hid (HX.out.below hb); clear hb c0 c1 c2 c3 c4 x4 z0 z1 z2 f0 f1 f2 l0 l1 l2 l3 l4 l5; obtain ⟨⟨c0, c1, c2, c3, c4⟩, x4, ⟨z0, z1, z2⟩, ⟨f0, f1, f2⟩, l0, l1, l2, l3, l4, l5⟩ := HX1.out.cells)
    refine bodyPost_ret (v := (constL ⟨v, ⟨#[]⟩, k, m, s⟩).v) (by simp [results, Try.results36, go_sem, constL, Vl.v, z0, z1, z2, l2]) rfl ⟨rfl, ?_⟩
    have hb := HX1.out.2.2.2.2
    have hs := HX1.out.2.2.2.1
    rw [← HP.out]
    repeat (first | exact hb | refine Below.setCell ?_ (by show P ≤ P + 1 + 1; omega) _)
  · rw [if_neg ha]
    have n1 := ne_em2 ha; have n2 := ne_em3 ha
    simp only [decide_eq_false ha] at HC0
    rw [show getL xs a = getL xs a from rfl]
    have hg : getV xs a = .agg #[.int .i64 (getL xs a).k, .int .i64 (getL xs a).n, .string (getL xs a).s] := getV_eq xs a
    rw [hg] at HG
    obtain ⟨g, hg2⟩ : ∃ g, g = getL xs a := ⟨_, rfl⟩
    rw [← hg2] at HG ⊢
    clear hg hg2
    obtain ⟨gk, gn, gs⟩ := g
    simp only at HG
    go_enter Try.func36, Try.ntmps36
    go_wp2_with fail
    rw [← HW.out, ← HP.out]
    obtain ⟨⟨c0, c1, c2, c3, c4⟩, x4, ⟨z0, z1, z2⟩, ⟨f0, f1, f2⟩, l0, l1, l2, l3, l4, l5⟩ := HX.out.cells
    go_wp2_with (first
      | (go_at_call 44; (with_reducible refine (HC0.out _).mono ?_); rintro e u ⟨rfl, hb⟩; have HX1 := Lib.hid (HX.out.below hb); clear hb c0 c1 c2 c3 c4 x4 z0 z1 z2 f0 f1 f2 l0 l1 l2 l3 l4 l5; obtain ⟨⟨c0, c1, c2, c3, c4⟩, x4, ⟨z0, z1, z2⟩, ⟨f0, f1, f2⟩, l0, l1, l2, l3, l4, l5⟩ := HX1.out.cells)
      | (go_at_call 75; (with_reducible refine (HG.out _ HX1.out.low).mono ?_); rintro e u2 ⟨rfl, hb⟩; have HX2 := Lib.hid (HX1.out.below hb); clear hb c0 c1 c2 c3 c4 x4 z0 z1 z2 f0 f1 f2 l0 l1 l2 l3 l4 l5; obtain ⟨⟨c0, c1, c2, c3, c4⟩, x4, ⟨z0, z1, z2⟩, ⟨f0, f1, f2⟩, l0, l1, l2, l3, l4, l5⟩ := HX2.out.cells))
    refine bodyPost_ret (v := (⟨gk, gn, gs⟩ : Vl).v) (by simp [results, Try.results36, go_sem, Vl.v, z0, z1, z2, l2]) rfl ⟨rfl, ?_⟩
    have hb := HX2.out.2.2.2.2
    have hs := HX2.out.2.2.2.1
    rw [← HP.out]
    repeat (first | exact hb | exact hb.alloc (by omega) _ | refine Below.alloc ?_ (by simp; omega) _ | refine Below.setCell ?_ (by first | (show P ≤ P + 1 + 1; omega) | (show P ≤ u2.heap.size; omega)) _)
set_option maxRecDepth 100000 in
set_option maxHeartbeats 2000000 in
theorem r9of_any (o : Opd) (src seq time : Int) (ty : ByteArray) (B : Nat) (ao : Option Addr) (n cap : Nat) (xs : List At) (w : World) (h : Av w B (.slice ao n cap) xs) (hB : B ≤ w.heap.size) :
    Calls Try.prog 38 #[opV o, .agg #[.int .i64 src, .int .i64 seq, .int .i64 time, .string ty, .slice ao n cap]] w fun e w' => e = .returned (ownL o xs).v ∧ Below w.heap.size w w' := by
  obtain ⟨v, a, k, m, s⟩ := o
  unfold opV
  simp only
  obtain ⟨P, hP⟩ : ∃ P, P = w.heap.size := ⟨_, rfl⟩
  obtain ⟨W, hW⟩ : ∃ W, W = ((w.alloc (.cells #[.string v, .string a, .int .i64 k, .int .i64 m, .string s] 25)).alloc (.cells #[.int .i64 src, .int .i64 seq, .int .i64 time, .string ty, .slice ao n cap] 36)).alloc (.cells #[.int .i64 0, .int .i64 0, .string ⟨#[]⟩] 23) := ⟨_, rfl⟩
  have HX : Hid (Box3 w P v a k m s src seq time ty (.slice ao n cap) (.int .i64 0) (.int .i64 0) (.string ⟨#[]⟩) W) := by
    rw [hW, hP]
    refine ⟨?_, ?_, ?_, ?_, ?_⟩
    · rw [heap_alloc_old _ _ (by simp; omega), heap_alloc_old _ _ (by simp)]; exact heap_alloc_new _ _
    · rw [heap_alloc_old _ _ (by simp)]
      have := heap_alloc_new (w.alloc (.cells #[.string v, .string a, .int .i64 k, .int .i64 m, .string s] 25)) (.cells #[.int .i64 src, .int .i64 seq, .int .i64 time, .string ty, .slice ao n cap] 36)
      simpa using this
    · have := heap_alloc_new ((w.alloc (.cells #[.string v, .string a, .int .i64 k, .int .i64 m, .string s] 25)).alloc (.cells #[.int .i64 src, .int .i64 seq, .int .i64 time, .string ty, .slice ao n cap] 36)) (.cells #[.int .i64 0, .int .i64 0, .string ⟨#[]⟩] 23)
      simpa using this
    · simp
    · exact (((Below.refl _ _).alloc (Nat.le_refl _) _).alloc (by simp) _).alloc (by simp; omega) _
  have HG := Lib.hid (fun (u : World) (hu : Below P w u) => r3Get_any B ao n cap xs a u (h.below hu (by omega)) (Nat.le_trans hB (by have := hu.size; omega)))
  have HP := Lib.hid hP; have HW := Lib.hid hW
  clear h hB hP hW
  unfold ownL
  simp only
  by_cases ha : a = em
  · rw [if_pos ha]
    subst ha
    unfold em at *
    go_enter Try.func38, Try.ntmps38
    go_wp2_with fail
    refine bodyPost_ret (v := (constL ⟨v, ⟨#[]⟩, k, m, s⟩).v) (by simp [results, Try.results38, go_sem, constL, Vl.v]) rfl ⟨rfl, ?_⟩
    exact (((Below.refl _ _).alloc (Nat.le_refl _) _).alloc (by simp) _).alloc (by simp; omega) _
  · rw [if_neg ha]
    have n1 := ne_em2 ha; have n2 := ne_em3 ha
    rw [show getL xs a = getL xs a from rfl]
    have hg : getV xs a = .agg #[.int .i64 (getL xs a).k, .int .i64 (getL xs a).n, .string (getL xs a).s] := getV_eq xs a
    rw [hg] at HG
    obtain ⟨g, hg2⟩ : ∃ g, g = getL xs a := ⟨_, rfl⟩
    rw [← hg2] at HG ⊢
    clear hg hg2
    obtain ⟨gk, gn, gs⟩ := g
    simp only at HG
    go_enter Try.func38, Try.ntmps38
    go_wp2_with fail
    rw [← HW.out, ← HP.out]
    obtain ⟨⟨c0, c1, c2, c3, c4⟩, x4, ⟨z0, z1, z2⟩, ⟨f0, f1, f2⟩, l0, l1, l2, l3, l4, l5⟩ := HX.out.cells
    go_wp2_with (first
      | (go_at_call 78; (with_reducible refine (HG.out _ HX.out.low).mono ?_); rintro e u2 ⟨rfl, hb⟩; have HX2 := Lib.hid (HX.out.below hb); clear hb c0 c1 c2 c3 c4 x4 z0 z1 z2 f0 f1 f2 l0 l1 l2 l3 l4 l5; obtain ⟨⟨c0, c1, c2, c3, c4⟩, x4, ⟨z0, z1, z2⟩, ⟨f0, f1, f2⟩, l0, l1, l2, l3, l4, l5⟩ := HX2.out.cells))
    refine bodyPost_ret (v := (⟨gk, gn, gs⟩ : Vl).v) (by simp [results, Try.results38, go_sem, Vl.v, z0, z1, z2, l2]) rfl ⟨rfl, ?_⟩
    have hb := HX2.out.2.2.2.2
    have hs := HX2.out.2.2.2.1
    rw [← HP.out]
    repeat (first | exact hb | exact hb.alloc (by omega) _ | refine Below.alloc ?_ (by simp; omega) _ | refine Below.setCell ?_ (by first | (show P ≤ P + 1 + 1; omega) | (show P ≤ u2.heap.size; omega)) _)
set_option maxRecDepth 100000 in
set_option maxHeartbeats 2000000 in
theorem pTest_any (c : Cnd) (src seq time : Int) (ty : ByteArray) (B : Nat) (ao : Option Addr) (n cap : Nat) (xs : List At) (w : World) (h : Av w B (.slice ao n cap) xs) (hB : B ≤ w.heap.size) :
    Calls Try.prog 9 #[cdV c, .agg #[.int .i64 src, .int .i64 seq, .int .i64 time, .string ty, .slice ao n cap]] w fun e w' => e = .returned (.bool (testB c xs)) ∧ Below w.heap.size w w' := by
  have mixed : Try.prog.follows .mixedOrders = true := by kernel_rfl
  obtain ⟨⟨v1, a1, k1, m1, s1⟩, rel, ⟨v2, a2, k2, m2, s2⟩⟩ := c
  unfold cdV
  simp only
  obtain ⟨P, hP⟩ : ∃ P, P = w.heap.size := ⟨_, rfl⟩
  obtain ⟨W, hW⟩ : ∃ W, W = (w.alloc (.cells #[.string v1, .string a1, .int .i64 k1, .int .i64 m1, .string s1, .int .i64 rel, .string v2, .string a2, .int .i64 k2, .int .i64 m2, .string s2] 27)).alloc (.cells #[.int .i64 src, .int .i64 seq, .int .i64 time, .string ty, .slice ao n cap] 36) := ⟨_, rfl⟩
  have hq0 : W.heap[P]? = some (.cells #[.string v1, .string a1, .int .i64 k1, .int .i64 m1, .string s1, .int .i64 rel, .string v2, .string a2, .int .i64 k2, .int .i64 m2, .string s2] 27 (0, 0)) := by
    rw [hW, hP, heap_alloc_old _ _ (by simp)]; exact heap_alloc_new _ _
  have hq1 : W.heap[P + 1]? = some (.cells #[.int .i64 src, .int .i64 seq, .int .i64 time, .string ty, .slice ao n cap] 36 (0, 0)) := by
    rw [hW, hP]
    have := heap_alloc_new (w.alloc (.cells #[.string v1, .string a1, .int .i64 k1, .int .i64 m1, .string s1, .int .i64 rel, .string v2, .string a2, .int .i64 k2, .int .i64 m2, .string s2] 27)) (.cells #[.int .i64 src, .int .i64 seq, .int .i64 time, .string ty, .slice ao n cap] 36)
    simpa using this
  have hWb : Below P w W := by rw [hW, hP]; exact ((Below.refl _ _).alloc (Nat.le_refl _) _).alloc (by simp) _
  have hWs : P + 2 = W.heap.size := by rw [hW, hP]; simp
  obtain ⟨c0, c1, c2, c3, c4, c5, c6, c7, c8, c9, c10⟩ := cell_of_eleven hq0
  obtain ⟨d0, d1, d2, d3, d4⟩ := cell_of_five hq1
  have k0 := cell_regrown c0; have k1' := cell_regrown c1; have k2' := cell_regrown c2; have k3 := cell_regrown c3; have k4 := cell_regrown c4; have k5 := cell_regrown c5
  have k6 := cell_regrown c6; have k7 := cell_regrown c7; have k8 := cell_regrown c8; have k9 := cell_regrown c9; have k10 := cell_regrown c10
  have e0 := cell_regrown d0; have e1 := cell_regrown d1; have e2 := cell_regrown d2; have e3 := cell_regrown d3; have e4 := cell_regrown d4
  have hAW := h.below hWb (by omega)
  have C1 := rg (w := W) (fun u hu => pOwn_any ⟨v1, a1, k1, m1, s1⟩ src seq time ty B ao n cap xs u (hAW.below hu (by omega)) (by have := hu.size; omega))
  have C2 := rg (w := W) (fun u hu => pOwn_any ⟨v2, a2, k2, m2, s2⟩ src seq time ty B ao n cap xs u (hAW.below hu (by omega)) (by have := hu.size; omega))
  unfold opV at C1 C2
  unfold testB
  simp only at C1 C2 ⊢
  obtain ⟨p, hp⟩ : ∃ p, p = ownL ⟨v1, a1, k1, m1, s1⟩ xs := ⟨_, rfl⟩
  obtain ⟨q, hq⟩ : ∃ q, q = ownL ⟨v2, a2, k2, m2, s2⟩ xs := ⟨_, rfl⟩
  rw [← hp] at C1; rw [← hq] at C2
  rw [← hp, ← hq]
  obtain ⟨pk, pn, ps⟩ := p
  obtain ⟨qk, qn, qs⟩ := q
  unfold Vl.v at C1 C2
  unfold holdL
  simp only at C1 C2 ⊢
  have C3 := rg (w := W) (fun u _ => vHolds_any rel pk pn ps qk qn qs u)
  have HW := Lib.hid hW; have HP := Lib.hid hP; have HB := Lib.hid hWb; have HS := Lib.hid hWs
  clear hW hP h hB hq0 hq1 hWb hWs c0 c1 c2 c3 c4 c5 c6 c7 c8 c9 c10 d0 d1 d2 d3 d4 hAW hp hq
  go_enter Try.func9, Try.ntmps9
  go_wp2_with fail
  rw [← HW.out, ← HP.out]
  refine wp_region_quiet_below (by assumption) (by kernel_rfl) ?_
  repeat (quiet_step (first | (with_reducible exact C1 _ _) | (with_reducible exact C2 _ _) | (with_reducible exact C3 _ _)))
  refine wpQuiet_nil ?_
  intro _ hw'
  obtain ⟨⟨dq, osq⟩, hw''⟩ := hw'
  subst hw''
  go_wp2
  go_ret
  rw [← HP.out]
  exact ⟨rfl, HB.out.trans ((below_regrown W dq osq).mono (by have := HS.out; omega))⟩
set_option maxRecDepth 100000 in
set_option maxHeartbeats 2000000 in
theorem r9Test_any (c : Cnd) (src seq time : Int) (ty : ByteArray) (B : Nat) (ao : Option Addr) (n cap : Nat) (xs : List At) (w : World) (h : Av w B (.slice ao n cap) xs) (hB : B ≤ w.heap.size) :
    Calls Try.prog 10 #[cdV c, .agg #[.int .i64 src, .int .i64 seq, .int .i64 time, .string ty, .slice ao n cap]] w fun e w' => e = .returned (.bool (testB c xs)) ∧ Below w.heap.size w w' := by
  have mixed : Try.prog.follows .mixedOrders = true := by kernel_rfl
  obtain ⟨⟨v1, a1, k1, m1, s1⟩, rel, ⟨v2, a2, k2, m2, s2⟩⟩ := c
  unfold cdV
  simp only
  obtain ⟨P, hP⟩ : ∃ P, P = w.heap.size := ⟨_, rfl⟩
  obtain ⟨W, hW⟩ : ∃ W, W = (w.alloc (.cells #[.string v1, .string a1, .int .i64 k1, .int .i64 m1, .string s1, .int .i64 rel, .string v2, .string a2, .int .i64 k2, .int .i64 m2, .string s2] 27)).alloc (.cells #[.int .i64 src, .int .i64 seq, .int .i64 time, .string ty, .slice ao n cap] 36) := ⟨_, rfl⟩
  have hq0 : W.heap[P]? = some (.cells #[.string v1, .string a1, .int .i64 k1, .int .i64 m1, .string s1, .int .i64 rel, .string v2, .string a2, .int .i64 k2, .int .i64 m2, .string s2] 27 (0, 0)) := by
    rw [hW, hP, heap_alloc_old _ _ (by simp)]; exact heap_alloc_new _ _
  have hq1 : W.heap[P + 1]? = some (.cells #[.int .i64 src, .int .i64 seq, .int .i64 time, .string ty, .slice ao n cap] 36 (0, 0)) := by
    rw [hW, hP]
    have := heap_alloc_new (w.alloc (.cells #[.string v1, .string a1, .int .i64 k1, .int .i64 m1, .string s1, .int .i64 rel, .string v2, .string a2, .int .i64 k2, .int .i64 m2, .string s2] 27)) (.cells #[.int .i64 src, .int .i64 seq, .int .i64 time, .string ty, .slice ao n cap] 36)
    simpa using this
  have hWb : Below P w W := by rw [hW, hP]; exact ((Below.refl _ _).alloc (Nat.le_refl _) _).alloc (by simp) _
  have hWs : P + 2 = W.heap.size := by rw [hW, hP]; simp
  obtain ⟨c0, c1, c2, c3, c4, c5, c6, c7, c8, c9, c10⟩ := cell_of_eleven hq0
  obtain ⟨d0, d1, d2, d3, d4⟩ := cell_of_five hq1
  have k0 := cell_regrown c0; have k1' := cell_regrown c1; have k2' := cell_regrown c2; have k3 := cell_regrown c3; have k4 := cell_regrown c4; have k5 := cell_regrown c5
  have k6 := cell_regrown c6; have k7 := cell_regrown c7; have k8 := cell_regrown c8; have k9 := cell_regrown c9; have k10 := cell_regrown c10
  have e0 := cell_regrown d0; have e1 := cell_regrown d1; have e2 := cell_regrown d2; have e3 := cell_regrown d3; have e4 := cell_regrown d4
  have hAW := h.below hWb (by omega)
  have C1 := rg (w := W) (fun u hu => r9of_any ⟨v1, a1, k1, m1, s1⟩ src seq time ty B ao n cap xs u (hAW.below hu (by omega)) (by have := hu.size; omega))
  have C2 := rg (w := W) (fun u hu => r9of_any ⟨v2, a2, k2, m2, s2⟩ src seq time ty B ao n cap xs u (hAW.below hu (by omega)) (by have := hu.size; omega))
  unfold opV at C1 C2
  unfold testB
  simp only at C1 C2 ⊢
  obtain ⟨p, hp⟩ : ∃ p, p = ownL ⟨v1, a1, k1, m1, s1⟩ xs := ⟨_, rfl⟩
  obtain ⟨q, hq⟩ : ∃ q, q = ownL ⟨v2, a2, k2, m2, s2⟩ xs := ⟨_, rfl⟩
  rw [← hp] at C1; rw [← hq] at C2
  rw [← hp, ← hq]
  obtain ⟨pk, pn, ps⟩ := p
  obtain ⟨qk, qn, qs⟩ := q
  unfold Vl.v at C1 C2
  unfold holdL
  simp only at C1 C2 ⊢
  have C3 := rg (w := W) (fun u _ => r3Holds_any rel pk pn ps qk qn qs u)
  have HW := Lib.hid hW; have HP := Lib.hid hP; have HB := Lib.hid hWb; have HS := Lib.hid hWs
  clear hW hP h hB hq0 hq1 hWb hWs c0 c1 c2 c3 c4 c5 c6 c7 c8 c9 c10 d0 d1 d2 d3 d4 hAW hp hq
  go_enter Try.func10, Try.ntmps10
  go_wp2_with fail
  rw [← HW.out, ← HP.out]
  refine wp_region_quiet_below (by assumption) (by kernel_rfl) ?_
  repeat (quiet_step (first | (with_reducible exact C1 _ _) | (with_reducible exact C2 _ _) | (with_reducible exact C3 _ _)))
  refine wpQuiet_nil ?_
  intro _ hw'
  obtain ⟨⟨dq, osq⟩, hw''⟩ := hw'
  subst hw''
  go_wp2
  go_ret
  rw [← HP.out]
  exact ⟨rfl, HB.out.trans ((below_regrown W dq osq).mono (by have := HS.out; omega))⟩
end Go.Proofs.Ytpbloplbpkedcaa
