/- Contracts: whether a term takes an event: the program's call (few tests) and the document's. -/
import Derived.Test.YtpbloplbpkedcaaEy9
namespace Go.Proofs.Ytpbloplbpkedcaa
open Go Go.RowKit Go.Sort

/-- The two boxes of a call: a node, an event. -/
def Box2 (w : World) (P : Nat) (d : Nt) (ta : Option Addr) (tc : Nat) (kv : Value) (src seq time : Int) (ty : ByteArray) (av : Value) (u : World) : Prop :=
  u.heap[P]? = some (.cells #[.int .i64 d.kind, .string d.var, .string d.ty, .slice ta d.tests.length tc, kv] 31 (0, 0)) ∧
  u.heap[P + 1]? = some (.cells #[.int .i64 src, .int .i64 seq, .int .i64 time, .string ty, av] 36 (0, 0)) ∧ P + 1 + 1 ≤ u.heap.size ∧ Below P w u
theorem Box2.low {w : World} {P : Nat} {d : Nt} {ta : Option Addr} {tc : Nat} {kv : Value} {src seq time : Int} {ty : ByteArray} {av : Value} {u : World} (h : Box2 w P d ta tc kv src seq time ty av u) : Below P w u := h.2.2.2
theorem Box2.below {w : World} {P : Nat} {d : Nt} {ta : Option Addr} {tc : Nat} {kv : Value} {src seq time : Int} {ty : ByteArray} {av : Value} {u u' : World} (h : Box2 w P d ta tc kv src seq time ty av u) (hb : Below u.heap.size u u') : Box2 w P d ta tc kv src seq time ty av u' := by
  obtain ⟨h1, h2, h4, h5⟩ := h
  exact ⟨(hb.block _ (by omega)).trans h1, (hb.block _ (by omega)).trans h2, Nat.le_trans h4 hb.size, h5.trans (hb.mono (by omega))⟩
theorem Box2.cells {w : World} {P : Nat} {d : Nt} {ta : Option Addr} {tc : Nat} {kv : Value} {src seq time : Int} {ty : ByteArray} {av : Value} {u : World} (h : Box2 w P d ta tc kv src seq time ty av u) :
    (u.cell? ⟨P, 0, none⟩ = some (.int .i64 d.kind) ∧ u.cell? ⟨P, 1, none⟩ = some (.string d.var) ∧ u.cell? ⟨P, 2, none⟩ = some (.string d.ty) ∧ u.cell? ⟨P, 3, none⟩ = some (.slice ta d.tests.length tc) ∧ u.cell? ⟨P, 4, none⟩ = some kv) ∧
    (u.cell? ⟨P + 1, 0, none⟩ = some (.int .i64 src) ∧ u.cell? ⟨P + 1, 1, none⟩ = some (.int .i64 seq) ∧ u.cell? ⟨P + 1, 2, none⟩ = some (.int .i64 time) ∧ u.cell? ⟨P + 1, 3, none⟩ = some (.string ty) ∧ u.cell? ⟨P + 1, 4, none⟩ = some av) ∧ P < u.heap.size ∧ P + 1 < u.heap.size :=
  ⟨cell_of_five h.1, cell_of_five h.2.1, by have := h.2.2.1; omega⟩

set_option maxRecDepth 100000 in
theorem pTerm1_any (c : Cnd) (src seq time : Int) (ty : ByteArray) (B : Nat) (ao : Option Addr) (n cap : Nat) (xs : List At) (q : Nat) (w : World) (h : Av w B (.slice ao n cap) xs) (hB : B ≤ w.heap.size)
    (hq : w.heap[q]? = some (.cells #[.int .i64 src, .int .i64 seq, .int .i64 time, .string ty, .slice ao n cap] 36 (0, 0))) :
    Calls Try.prog 40 #[cdV c, .pointer (some ⟨q, 0, none⟩)] w fun e w' => e = .returned (.bool (testB c xs)) ∧ Below w.heap.size w w' := by
  obtain ⟨W, hW⟩ : ∃ W, W = w.alloc (.cells #[.string c.left.var, .string c.left.attr, .int .i64 c.left.vk, .int .i64 c.left.vn, .string c.left.vs, .int .i64 c.rel, .string c.right.var, .string c.right.attr, .int .i64 c.right.vk, .int .i64 c.right.vn, .string c.right.vs] 27) := ⟨_, rfl⟩
  have hb : Below w.heap.size w W := by rw [hW]; exact (Below.refl _ _).alloc (Nat.le_refl _) _
  have hql := lt_of_block hq
  obtain ⟨d0, d1, d2, d3, d4⟩ := cell_of_five hq
  have hne : q ≠ w.heap.size := by omega
  have HC := Lib.hid (pTest_any c src seq time ty B ao n cap xs W (h.below hb hB) (Nat.le_trans hB hb.size))
  have HB := Lib.hid hb
  rw [hW] at HC HB
  unfold cdV at HC ⊢
  clear h hB hb hW hq
  go_enter Try.func40, Try.ntmps40
  go_wp2_with (first | (go_at_call 9; (with_reducible refine HC.out.mono ?_); rintro e u2 ⟨rfl, hb2⟩))
  go_ret
  exact ⟨rfl, HB.out.trans (hb2.mono HB.out.size)⟩

theorem neq_i {x y : Int} (h : x ≠ y) : (x == y) = false ∧ (x != y) = true := ⟨beq_eq_false_iff_ne.2 h, by simp [h]⟩
theorem eq_i {x y : Int} (h : x = y) : (x == y) = true ∧ (x != y) = false := ⟨beq_iff_eq.2 h, by simp [h]⟩
theorem toList_ne {x y : ByteArray} (h : x ≠ y) : x.toList ≠ y.toList := fun hh => h (by apply ByteArray.ext; apply Array.toList_inj.1; rw [← Lib.toList_data, ← Lib.toList_data]; exact hh)
theorem neq_s {x y : ByteArray} (h : x ≠ y) : (x.toList == y.toList) = false ∧ (x.toList != y.toList) = true := ⟨by simpa using toList_ne h, by simpa using toList_ne h⟩
theorem eq_s {x y : ByteArray} (h : x = y) : (x.toList == y.toList) = true ∧ (x.toList != y.toList) = false := by subst h; simp
theorem termB_kind {d : Nt} {ty : ByteArray} {xs : List At} (h : d.kind ≠ 1) : termB d ty xs = false := by unfold termB; rw [decide_eq_false h]; rfl
theorem termB_ty {d : Nt} {ty : ByteArray} {xs : List At} (h : d.ty ≠ ty) : termB d ty xs = false := by unfold termB; rw [decide_eq_false h]; simp
theorem termB_ok {d : Nt} {ty : ByteArray} {xs : List At} (h1 : d.kind = 1) (h : d.ty = ty) : termB d ty xs = d.tests.all fun c => testB c xs := by unfold termB; rw [decide_eq_true h, decide_eq_true h1]; simp

set_option maxRecDepth 100000 in
set_option maxHeartbeats 2000000 in
theorem pTerm_few (d : Nt) (ta : Option Addr) (tc : Nat) (kv : Value) (src seq time : Int) (ty : ByteArray) (B : Nat) (ao : Option Addr) (n cap : Nat) (xs : List At) (w : World) (h : Av w B (.slice ao n cap) xs) (hB : B ≤ w.heap.size)
    (hc : CdV w (fun x => x < w.heap.size) (.slice ta d.tests.length tc) d.tests) (hf : d.tests.length ≤ 16) :
    Calls Try.prog 11 #[.agg #[.int .i64 d.kind, .string d.var, .string d.ty, .slice ta d.tests.length tc, kv], .agg #[.int .i64 src, .int .i64 seq, .int .i64 time, .string ty, .slice ao n cap]] w fun e w' => e = .returned (.bool (termB d ty xs)) ∧ Below w.heap.size w w' := by
  obtain ⟨P, hP⟩ : ∃ P, P = w.heap.size := ⟨_, rfl⟩
  obtain ⟨W, hW⟩ : ∃ W, W = (w.alloc (.cells #[.int .i64 d.kind, .string d.var, .string d.ty, .slice ta d.tests.length tc, kv] 31)).alloc (.cells #[.int .i64 src, .int .i64 seq, .int .i64 time, .string ty, .slice ao n cap] 36) := ⟨_, rfl⟩
  have hX : Box2 w P d ta tc kv src seq time ty (.slice ao n cap) W := by
    rw [hW, hP]
    refine ⟨?_, ?_, ?_, ?_⟩
    · rw [heap_alloc_old _ _ (by simp)]; exact heap_alloc_new _ _
    · have := heap_alloc_new (w.alloc (.cells #[.int .i64 d.kind, .string d.var, .string d.ty, .slice ta d.tests.length tc, kv] 31)) (.cells #[.int .i64 src, .int .i64 seq, .int .i64 time, .string ty, .slice ao n cap] 36)
      simpa using this
    · simp
    · exact ((Below.refl _ _).alloc (Nat.le_refl _) _).alloc (by simp) _
  have hcW : CdV W (fun x => x < W.heap.size) (.slice ta d.tests.length tc) d.tests := (hc.keep (fun b hb => hX.2.2.2.block b (by omega))).mono (fun x hx => by have := hX.2.2.1; omega)
  have hAW := h.below hX.2.2.2 (by omega)
  by_cases hk : d.kind = 1
  case neg =>
    rw [termB_kind hk]
    obtain ⟨g1, g2⟩ := neq_i hk
    clear h hc hB hX hcW hAW hW hk
    go_enter Try.func11, Try.ntmps11
    go_wp2_with fail
    go_ret
    exact ⟨rfl, ((Below.refl _ _).alloc (Nat.le_refl _) _).alloc (by simp) _⟩
  obtain ⟨g1, g2⟩ := eq_i hk
  by_cases ht : d.ty = ty
  case neg =>
    rw [termB_ty ht]
    obtain ⟨t1, t2⟩ := neq_s ht
    clear h hc hB hX hcW hAW hW hk ht
    go_enter Try.func11, Try.ntmps11
    go_wp2_with fail
    go_ret
    exact ⟨rfl, ((Below.refl _ _).alloc (Nat.le_refl _) _).alloc (by simp) _⟩
  obtain ⟨t1, t2⟩ := eq_s ht
  rw [termB_ok hk ht]
  have HX := Lib.hid hX
  have eg := enters_of Try.func40 (by kernel_rfl) rfl
  have HE := Lib.hid (pEvery_cap 40 (.pointer (some ⟨P + 1, 0, none⟩)) (fun c => testB c xs) d.tests ta tc W eg (by omega) hcW (fun c _ u hu => by
    have hu2 := hX.below hu
    exact pTerm1_any c src seq time ty B ao n cap xs (P + 1) u (h.below hu2.low (by omega)) (by have := hu2.low.size; omega) hu2.2.1))
  have f1 : ((d.tests.length : Nat) : Int) ≤ 16 := by omega
  have f2 : decide (((d.tests.length : Nat) : Int) ≤ 16) = true := decide_eq_true f1
  have HP := Lib.hid hP; have HW := Lib.hid hW
  clear h hc hB hX hcW hAW hW hk ht hf hP
  go_enter Try.func11, Try.ntmps11
  go_wp2_with fail
  rw [← HW.out, ← HP.out]
  obtain ⟨⟨c0, c1, c2, c3, c4⟩, ⟨d0, d1, d2, d3, d4⟩, l0, l1⟩ := HX.out.cells
  go_wp2_with (first | (go_at_call 39; (with_reducible refine HE.out.mono ?_); rintro e u2 ⟨rfl, hb2⟩))
  go_ret
  rw [← HP.out]
  exact ⟨rfl, HX.out.low.trans (hb2.mono (by have := HX.out.2.2.1; omega))⟩
set_option maxRecDepth 100000 in
set_option maxHeartbeats 2000000 in
theorem r9Term_any (d : Nt) (ta : Option Addr) (tc : Nat) (kv : Value) (src seq time : Int) (ty : ByteArray) (B : Nat) (ao : Option Addr) (n cap : Nat) (xs : List At) (w : World) (h : Av w B (.slice ao n cap) xs) (hB : B ≤ w.heap.size)
    (hc : CdV w (fun x => x < w.heap.size) (.slice ta d.tests.length tc) d.tests) (hf : d.tests.length ≤ 140737488355328) :
    Calls Try.prog 12 #[.agg #[.int .i64 d.kind, .string d.var, .string d.ty, .slice ta d.tests.length tc, kv], .agg #[.int .i64 src, .int .i64 seq, .int .i64 time, .string ty, .slice ao n cap]] w fun e w' => e = .returned (.bool (termB d ty xs)) ∧ Below w.heap.size w w' := by
  obtain ⟨P, hP⟩ : ∃ P, P = w.heap.size := ⟨_, rfl⟩
  obtain ⟨W, hW⟩ : ∃ W, W = (w.alloc (.cells #[.int .i64 d.kind, .string d.var, .string d.ty, .slice ta d.tests.length tc, kv] 31)).alloc (.cells #[.int .i64 src, .int .i64 seq, .int .i64 time, .string ty, .slice ao n cap] 36) := ⟨_, rfl⟩
  have hX : Box2 w P d ta tc kv src seq time ty (.slice ao n cap) W := by
    rw [hW, hP]
    refine ⟨?_, ?_, ?_, ?_⟩
    · rw [heap_alloc_old _ _ (by simp)]; exact heap_alloc_new _ _
    · have := heap_alloc_new (w.alloc (.cells #[.int .i64 d.kind, .string d.var, .string d.ty, .slice ta d.tests.length tc, kv] 31)) (.cells #[.int .i64 src, .int .i64 seq, .int .i64 time, .string ty, .slice ao n cap] 36)
      simpa using this
    · simp
    · exact ((Below.refl _ _).alloc (Nat.le_refl _) _).alloc (by simp) _
  have hcW : CdV W (fun x => x < W.heap.size) (.slice ta d.tests.length tc) d.tests := (hc.keep (fun b hb => hX.2.2.2.block b (by omega))).mono (fun x hx => by have := hX.2.2.1; omega)
  have hAW := h.below hX.2.2.2 (by omega)
  by_cases hk : d.kind = 1
  case neg =>
    rw [termB_kind hk]
    obtain ⟨g1, g2⟩ := neq_i hk
    clear h hc hB hX hcW hAW hW hk
    go_enter Try.func12, Try.ntmps12
    go_wp2_with fail
    go_ret
    exact ⟨rfl, ((Below.refl _ _).alloc (Nat.le_refl _) _).alloc (by simp) _⟩
  obtain ⟨g1, g2⟩ := eq_i hk
  by_cases ht : d.ty = ty
  case neg =>
    rw [termB_ty ht]
    obtain ⟨t1, t2⟩ := neq_s (Ne.symm ht)
    clear h hc hB hX hcW hAW hW hk ht
    go_enter Try.func12, Try.ntmps12
    go_wp2_with fail
    go_ret
    exact ⟨rfl, ((Below.refl _ _).alloc (Nat.le_refl _) _).alloc (by simp) _⟩
  obtain ⟨t1, t2⟩ := eq_s ht.symm
  rw [termB_ok hk ht]
  have HX := Lib.hid hX
  have HC := Lib.hid (fun (u : World) (hu : Below W.heap.size W u) => hcW.keep (fun b hb => hu.block b hb))
  have HT := Lib.hid (fun (u : World) (hu : Below W.heap.size W u) (c : Cnd) => r9Test_any c src seq time ty B ao n cap xs u ((hAW.below hu (by have := hX.2.2.1; omega))) (by have := hX.2.2.1; have := hu.size; omega))
  have HP := Lib.hid hP; have HW := Lib.hid hW; have HN := Lib.hid hf
  clear h hc hB hX hcW hAW hW hk ht hf hP
  go_enter Try.func12, Try.ntmps12
  go_wp2_with fail
  rw [← HW.out, ← HP.out]
  go_loopw [5] (fun iv wr => ∃ k : Nat, k ≤ d.tests.length ∧ iv = .int .i64 k ∧ Hid (∀ c ∈ d.tests.take k, testB c xs = true) ∧ Hid (Below W.heap.size W wr)) (fun iv _ => d.tests.length - (intOf iv).toNat)
  case atStart => exact ⟨0, Nat.zero_le _, rfl, Lib.hid (by simp), Lib.hid (Below.refl _ _)⟩
  case round =>
    obtain ⟨k, hk, rfl, HA, HB⟩ := hrel
    have HX1 := Lib.hid (HX.out.below HB.out)
    obtain ⟨⟨c0, c1, c2, c3, c4⟩, ⟨e0, e1, e2, e3, e4⟩, l0, l1⟩ := HX1.out.cells
    by_cases hlt : k < d.tests.length
    · have hlti : (k : Int) < (d.tests.length : Int) := by omega
      have hls := wr7 hlt HN.out
      have hwI := wrI7 hlt HN.out
      have hne : d.tests ≠ [] := fun h => by rw [h] at hlt; exact absurd hlt (Nat.not_lt_zero _)
      obtain ⟨ta', tc', he, hh⟩ := HC.out _ HB.out
      simp only [Value.slice.injEq, true_and] at he
      obtain ⟨rfl, rfl⟩ := he
      obtain ⟨b, o, rfl, hb, hat⟩ := hh hne
      obtain ⟨d0, d1, d2, d3, d4, d5, d6, d7, d8, d9, d10⟩ := hat.cells hlt
      have hm : d.tests[k] ∈ d.tests := List.getElem_mem _
      have HCk := Lib.hid (fun (u : World) (hu : Below W.heap.size W u) => HT.out u hu d.tests[k])
      have HHM := Lib.hid hm
      have HAK : Hid (testB d.tests[k] xs = true → ∀ c ∈ d.tests.take (k + 1), testB c xs = true) := Lib.hid (fun ho c hc => by
        rw [List.take_succ_eq_append_getElem hlt, List.mem_append, List.mem_singleton] at hc
        rcases hc with hc | rfl
        · exact HA.out c hc
        · exact ho)
      have HBW : Hid (b < wr.heap.size) := Lib.hid (Nat.lt_of_lt_of_le hb HB.out.size)
      unfold cdV at HCk
      clear hh hne hm hat hk hb
      generalize d.tests[k] = x at d0 d1 d2 d3 d4 d5 d6 d7 d8 d9 d10 HCk HHM HAK
      obtain ⟨L, hL⟩ : ∃ L, L = d.tests.length := ⟨_, rfl⟩
      have k0 := cell_regrown d0; have k1' := cell_regrown d1; have k2' := cell_regrown d2; have k3 := cell_regrown d3; have k4 := cell_regrown d4; have k5 := cell_regrown d5
      have k6 := cell_regrown d6; have k7 := cell_regrown d7; have k8 := cell_regrown d8; have k9 := cell_regrown d9; have k10 := cell_regrown d10
      have m3 := cell_regrown c3
      have n0 := cell_regrown e0; have n1 := cell_regrown e1; have n2 := cell_regrown e2; have n3 := cell_regrown e3; have n4 := cell_regrown e4
      have C1 := rg (w := wr) (fun u hu => HCk.out u (HB.out.trans (hu.mono HB.out.size)))
      have hk0 : (0 : Int) ≤ (k : Int) := by omega
      cases hok : testB x xs with
      | true =>
        simp only [hok] at C1
        go_wp2_with fail
        refine wp_region_quiet_below (by kernel_rfl) (by kernel_rfl) ?_
        repeat (quiet_step (first | (with_reducible exact C1 _ _)))
        refine wpQuiet_nil ?_
        intro _ hw'
        obtain ⟨⟨dq, osq⟩, hw''⟩ := hw'
        subst hw''
        have HB2 := Lib.hid (HB.out.trans ((below_regrown wr dq osq).mono HB.out.size))
        go_wp2
        go_roundw
        all_goals first
          | exact ⟨k + 1, hlt, by go_num, Lib.hid (HAK.out hok), HB2⟩
          | exact meas7 hlt
          | (rw [hls]; exact meas7 hlt)
      | false =>
        simp only [hok] at C1
        go_wp2_with fail
        refine wp_region_quiet_below (by kernel_rfl) (by kernel_rfl) ?_
        repeat (quiet_step (first | (with_reducible exact C1 _ _)))
        refine wpQuiet_nil ?_
        intro _ hw'
        obtain ⟨⟨dq, osq⟩, hw''⟩ := hw'
        subst hw''
        have HB2 := Lib.hid (HB.out.trans ((below_regrown wr dq osq).mono HB.out.size))
        go_wp2
        go_ret
        rw [← HP.out]
        refine ⟨show Ending.returned (Value.bool false) = _ from ?_, HX.out.low.trans (HB2.out.mono (by have := HX.out.2.2.1; omega))⟩
        rw [show (d.tests.all fun c => testB c xs) = false from ?_]
        rw [Bool.eq_false_iff]
        intro hall
        have := List.all_eq_true.1 hall x HHM.out
        rw [hok] at this
        cases this
    · obtain rfl : k = d.tests.length := by omega
      have hnl : ¬ ((d.tests.length : Int) < (d.tests.length : Int)) := by omega
      clear hlt hk
      go_wp2
      go_ret
      rw [← HP.out]
      refine ⟨show Ending.returned (Value.bool true) = _ from ?_, HX.out.low.trans (HB.out.mono (by have := HX.out.2.2.1; omega))⟩
      rw [show (d.tests.all fun c => testB c xs) = true from ?_]
      rw [List.all_eq_true]
      intro c hc
      exact HA.out c (by rw [List.take_length]; exact hc)
end Go.Proofs.Ytpbloplbpkedcaa
