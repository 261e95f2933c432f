/- Contract: the variables of a condition, as the document tells them. -/
import Derived.Test.YtghmaphpmnjiiaaSx9
import Derived.Deep.RegionHeld3
namespace Go.Proofs.Ytghmaphpmnjiiaa
open Go Go.RowKit Go.Sort

theorem comp_nil : compS [] = [] := rfl
theorem comp_one (x : Nm) : compS [x] = [x] := by
  simp [compS, Lib.compact, Lib.compactUpTo, Lib.keeps, List.range_succ]
theorem comp_same (x : Nm) : compS [x, x] = [x] := by
  simp [compS, Lib.compact, Lib.compactUpTo, Lib.keeps, List.range_succ]
theorem comp_two {x y : Nm} (h : x ≠ y) : compS [x, y] = [x, y] := by
  have h2 : ¬ y = x := fun e => h e.symm
  simp [compS, Lib.compact, Lib.compactUpTo, Lib.keeps, List.range_succ, h2]
theorem sort_le {x y : Nm} (h : x ≤ y) : sortS [x, y] = [x, y] := by
  simp [sortS, List.mergeSort, List.MergeSort.Internal.splitInTwo, h]
theorem sort_gt {x y : Nm} (h : ¬ x ≤ y) : sortS [x, y] = [y, x] := by
  simp [sortS, List.mergeSort, List.MergeSort.Internal.splitInTwo, h]
theorem sort_one (x : Nm) : sortS [x] = [x] := by simp [sortS]
theorem sort_nil : sortS [] = [] := by simp [sortS]
theorem names_none {c : Cnd} (h1 : c.left.attr = em) (h2 : c.right.attr = em) : namesC c = [] := by
  unfold namesC varsC; rw [v1_const h1, v1_const h2, List.nil_append, sort_nil]; rfl
theorem names_left {c : Cnd} (h1 : c.left.attr ≠ em) (h2 : c.right.attr = em) : namesC c = [nb c.left.var] := by
  unfold namesC varsC; rw [v1_var h1, v1_const h2, List.append_nil, sort_one, comp_one]
theorem names_right {c : Cnd} (h1 : c.left.attr = em) (h2 : c.right.attr ≠ em) : namesC c = [nb c.right.var] := by
  unfold namesC varsC; rw [v1_const h1, v1_var h2, List.nil_append, sort_one, comp_one]
theorem names_same {c : Cnd} (h1 : c.left.attr ≠ em) (h2 : c.right.attr ≠ em) (h : c.left.var = c.right.var) : namesC c = [nb c.left.var] := by
  unfold namesC varsC; rw [v1_var h1, v1_var h2, h, List.cons_append, List.nil_append, sort_le (List.le_refl _), comp_same]
theorem nb_inj {x y : ByteArray} (h : nb x = nb y) : x = y := by rw [← ba_nb x, ← ba_nb y, h]
theorem names_lt {c : Cnd} (h1 : c.left.attr ≠ em) (h2 : c.right.attr ≠ em) (h : nb c.left.var < nb c.right.var) : namesC c = [nb c.left.var, nb c.right.var] := by
  unfold namesC varsC; rw [v1_var h1, v1_var h2, List.cons_append, List.nil_append, sort_le (List.le_of_lt h), comp_two (fun e => by rw [e] at h; exact List.lt_irrefl _ h)]
theorem names_gt {c : Cnd} (h1 : c.left.attr ≠ em) (h2 : c.right.attr ≠ em) (hne : c.left.var ≠ c.right.var) (h : ¬ nb c.left.var < nb c.right.var) : namesC c = [nb c.right.var, nb c.left.var] := by
  have hle : ¬ nb c.left.var ≤ nb c.right.var := fun hle => by
    rcases List.le_iff_lt_or_eq.1 hle with h3 | h3
    · exact h h3
    · exact hne (nb_inj h3)
  unfold namesC varsC; rw [v1_var h1, v1_var h2, List.cons_append, List.nil_append, sort_gt hle, comp_two (fun e => hne (nb_inj e).symm)]
theorem ss_one {w : World} {q : Nat} {x : ByteArray} {t : Nat} (h : w.heap[q]? = some (.cells #[.string x] t (0, 0))) : SsV w (fun b => b < w.heap.size) (.slice (some ⟨q, 0, none⟩) 1 1) [nb x] :=
  ⟨_, 1, rfl, fun _ => ⟨q, 0, rfl, lt_of_block h, fun j y hj => by
    cases j with
    | zero => cases hj; rw [ba_nb]; exact cell_of_one h
    | succ j => simp at hj⟩⟩
theorem cell_of_two8 {w : World} {q : Nat} {c0 c1 : Value} {t : Nat} (h : w.heap[q]? = some (.cells #[c0, c1] t (0, 0))) : w.cell? ⟨q, 0, none⟩ = some c0 ∧ w.cell? ⟨q, 1, none⟩ = some c1 := by simp [World.cell?, h]
theorem ss_two {w : World} {q : Nat} {x y : ByteArray} {t : Nat} (h : w.heap[q]? = some (.cells #[.string x, .string y] t (0, 0))) : SsV w (fun b => b < w.heap.size) (.slice (some ⟨q, 0, none⟩) 2 2) [nb x, nb y] :=
  ⟨_, 2, rfl, fun _ => ⟨q, 0, rfl, lt_of_block h, fun j z hj => by
    match j, hj with
    | 0, hj => cases hj; rw [ba_nb]; exact (cell_of_two8 h).1
    | 1, hj => cases hj; rw [ba_nb]; exact (cell_of_two8 h).2
    | j + 2, hj => simp at hj⟩⟩

theorem below_two9 {w W : World} {P : Nat} (h : Below P w W) (hs : P ≤ W.heap.size) (x y : Obj) : Below P w ((W.alloc x).alloc y).drew := ((h.alloc hs _).alloc (by simp; omega) _).drew
theorem below_fin9 {w W : World} {P : Nat} (h : Below P w W) (hs : P ≤ W.heap.size) (x y z : Obj) : Below P w (((W.alloc x).alloc y).alloc z).drew := (((h.alloc hs _).alloc (by simp; omega) _).alloc (by simp; omega) _).drew
theorem ss_new9 (W : World) (x y : Obj) (z : ByteArray) : SsV (((W.alloc x).alloc y).alloc (.cells #[.string z] 9)).drew (fun b => b < (((W.alloc x).alloc y).alloc (.cells #[.string z] 9)).drew.heap.size) (.slice (some ⟨W.heap.size + 1 + 1, 0, none⟩) 1 1) [nb z] := by
  have := ss_one (heap_alloc_new ((W.alloc x).alloc y) (.cells #[.string z] 9))
  simp only [World.size_alloc] at this
  exact (this.keep (w' := (((W.alloc x).alloc y).alloc (.cells #[.string z] 9)).drew) (fun _ _ => rfl)).mono fun b hb => by
    show b < (((W.alloc x).alloc y).alloc (.cells #[.string z] 9)).heap.size
    simpa using hb
theorem ss_new9b (W : World) (x y : Obj) (z1 z2 : ByteArray) : SsV (((W.alloc x).alloc y).alloc (.cells #[.string z1, .string z2] 9)).drew (fun b => b < (((W.alloc x).alloc y).alloc (.cells #[.string z1, .string z2] 9)).drew.heap.size) (.slice (some ⟨W.heap.size + 1 + 1, 0, none⟩) 2 2) [nb z1, nb z2] := by
  have := ss_two (heap_alloc_new ((W.alloc x).alloc y) (.cells #[.string z1, .string z2] 9))
  simp only [World.size_alloc] at this
  exact (this.keep (w' := (((W.alloc x).alloc y).alloc (.cells #[.string z1, .string z2] 9)).drew) (fun _ _ => rfl)).mono fun b hb => by
    show b < (((W.alloc x).alloc y).alloc (.cells #[.string z1, .string z2] 9)).heap.size
    simpa using hb
set_option maxRecDepth 100000 in
set_option maxHeartbeats 4000000 in
theorem r9Names_any (c : Cnd) (w : World) :
    Calls Try.prog 51 #[cdV c] w fun e w' => ∃ v', e = .returned v' ∧ SsV w' (fun b => b < w'.heap.size) v' (namesC c) ∧ Below w.heap.size w w' := by
  obtain ⟨⟨lv, la, lk, ln, ls⟩, rel, ⟨rv, ra, rk, rn, rs⟩⟩ := c
  obtain ⟨P, hP⟩ : ∃ P, P = w.heap.size := ⟨_, rfl⟩
  obtain ⟨W, hW⟩ : ∃ W, W = w.alloc (.cells #[.string lv, .string la, .int .i64 lk, .int .i64 ln, .string ls, .int .i64 rel, .string rv, .string ra, .int .i64 rk, .int .i64 rn, .string rs] 56) := ⟨_, rfl⟩
  have hq : W.heap[P]? = some (.cells #[.string lv, .string la, .int .i64 lk, .int .i64 ln, .string ls, .int .i64 rel, .string rv, .string ra, .int .i64 rk, .int .i64 rn, .string rs] 56 (0, 0)) := by rw [hW, hP]; exact heap_alloc_new _ _
  have hb : Below P w W := by rw [hW, hP]; exact (Below.refl _ _).alloc (Nat.le_refl _) _
  obtain ⟨k0, k1, k2, k3, k4, k5, k6, k7, k8, k9, k10⟩ := cell_of_eleven hq
  have hne : P < W.heap.size := lt_of_block hq
  have HSZ := Lib.hid (Nat.le_of_lt hne)
  have HP := Lib.hid hP; have HW := Lib.hid hW; have HB := Lib.hid hb
  clear hq hb hP hW
  unfold cdV
  by_cases ha : la = em
  · by_cases hb : ra = em
    · have HNM := Lib.hid (names_none (c := ⟨⟨lv, la, lk, ln, ls⟩, rel, ⟨rv, ra, rk, rn, rs⟩⟩) ha hb)
      subst ha hb
      unfold em at *
      go_enter Try.func51, Try.ntmps51
      go_wp2_with fail
      rw [← HW.out, ← HP.out]
      go_region_held3 (fun u => u.cell? ⟨P, 0, none⟩ = some (.string lv) ∧ u.cell? ⟨P, 1, none⟩ = some (.string ⟨#[]⟩) ∧ u.cell? ⟨P, 2, none⟩ = some (.int .i64 lk) ∧ u.cell? ⟨P, 3, none⟩ = some (.int .i64 ln) ∧ u.cell? ⟨P, 4, none⟩ = some (.string ls) ∧ u.cell? ⟨P, 6, none⟩ = some (.string rv) ∧ u.cell? ⟨P, 7, none⟩ = some (.string ⟨#[]⟩) ∧ u.cell? ⟨P, 8, none⟩ = some (.int .i64 rk) ∧ u.cell? ⟨P, 9, none⟩ = some (.int .i64 rn) ∧ u.cell? ⟨P, 10, none⟩ = some (.string rs)) (first | exact ⟨k0, k1, k2, k3, k4, k6, k7, k8, k9, k10⟩ | go_keep)
        (first | fail)
      all_goals
        go_wp2_with fail
        go_ret
        exact ⟨_, rfl, by rw [HNM.out]; exact SsV.nil _ _, by rw [← HP.out]; exact below_two9 HB.out HSZ.out _ _⟩
    · have HNM := Lib.hid (names_right (c := ⟨⟨lv, la, lk, ln, ls⟩, rel, ⟨rv, ra, rk, rn, rs⟩⟩) ha hb)
      have n1 := ne_em2 hb; have n2 := ne_em3 hb
      subst ha
      unfold em at *
      clear hb
      go_enter Try.func51, Try.ntmps51
      go_wp2_with fail
      rw [← HW.out, ← HP.out]
      go_region_held3 (fun u => u.cell? ⟨P, 0, none⟩ = some (.string lv) ∧ u.cell? ⟨P, 1, none⟩ = some (.string ⟨#[]⟩) ∧ u.cell? ⟨P, 2, none⟩ = some (.int .i64 lk) ∧ u.cell? ⟨P, 3, none⟩ = some (.int .i64 ln) ∧ u.cell? ⟨P, 4, none⟩ = some (.string ls) ∧ u.cell? ⟨P, 6, none⟩ = some (.string rv) ∧ u.cell? ⟨P, 7, none⟩ = some (.string ra) ∧ u.cell? ⟨P, 8, none⟩ = some (.int .i64 rk) ∧ u.cell? ⟨P, 9, none⟩ = some (.int .i64 rn) ∧ u.cell? ⟨P, 10, none⟩ = some (.string rs)) (first | exact ⟨k0, k1, k2, k3, k4, k6, k7, k8, k9, k10⟩ | go_keep)
        (first | fail)
      all_goals
        go_wp2_with fail
        go_ret
        exact ⟨_, rfl, by rw [HNM.out]; exact ss_new9 _ _ _ _, by rw [← HP.out]; exact below_fin9 HB.out HSZ.out _ _ _⟩
  · by_cases hb : ra = em
    · have HNM := Lib.hid (names_left (c := ⟨⟨lv, la, lk, ln, ls⟩, rel, ⟨rv, ra, rk, rn, rs⟩⟩) ha hb)
      have n1 := ne_em2 ha; have n2 := ne_em3 ha
      subst hb
      unfold em at *
      clear ha
      go_enter Try.func51, Try.ntmps51
      go_wp2_with fail
      rw [← HW.out, ← HP.out]
      go_region_held3 (fun u => u.cell? ⟨P, 0, none⟩ = some (.string lv) ∧ u.cell? ⟨P, 1, none⟩ = some (.string la) ∧ u.cell? ⟨P, 2, none⟩ = some (.int .i64 lk) ∧ u.cell? ⟨P, 3, none⟩ = some (.int .i64 ln) ∧ u.cell? ⟨P, 4, none⟩ = some (.string ls) ∧ u.cell? ⟨P, 6, none⟩ = some (.string rv) ∧ u.cell? ⟨P, 7, none⟩ = some (.string ⟨#[]⟩) ∧ u.cell? ⟨P, 8, none⟩ = some (.int .i64 rk) ∧ u.cell? ⟨P, 9, none⟩ = some (.int .i64 rn) ∧ u.cell? ⟨P, 10, none⟩ = some (.string rs)) (first | exact ⟨k0, k1, k2, k3, k4, k6, k7, k8, k9, k10⟩ | go_keep)
        (first | fail)
      all_goals
        go_wp2_with fail
        go_ret
        exact ⟨_, rfl, by rw [HNM.out]; exact ss_new9 _ _ _ _, by rw [← HP.out]; exact below_fin9 HB.out HSZ.out _ _ _⟩
    · have n1 := ne_em2 ha; have n2 := ne_em3 ha; have n3 := ne_em2 hb; have n4 := ne_em3 hb
      by_cases hv : lv = rv
      · have HNM := Lib.hid (names_same (c := ⟨⟨lv, la, lk, ln, ls⟩, rel, ⟨rv, ra, rk, rn, rs⟩⟩) ha hb hv)
        obtain ⟨s1, s2⟩ := eq_s hv
        clear ha hb hv
        go_enter Try.func51, Try.ntmps51
        go_wp2_with fail
        rw [← HW.out, ← HP.out]
        go_region_held3 (fun u => u.cell? ⟨P, 0, none⟩ = some (.string lv) ∧ u.cell? ⟨P, 1, none⟩ = some (.string la) ∧ u.cell? ⟨P, 2, none⟩ = some (.int .i64 lk) ∧ u.cell? ⟨P, 3, none⟩ = some (.int .i64 ln) ∧ u.cell? ⟨P, 4, none⟩ = some (.string ls) ∧ u.cell? ⟨P, 6, none⟩ = some (.string rv) ∧ u.cell? ⟨P, 7, none⟩ = some (.string ra) ∧ u.cell? ⟨P, 8, none⟩ = some (.int .i64 rk) ∧ u.cell? ⟨P, 9, none⟩ = some (.int .i64 rn) ∧ u.cell? ⟨P, 10, none⟩ = some (.string rs)) (first | exact ⟨k0, k1, k2, k3, k4, k6, k7, k8, k9, k10⟩ | go_keep)
          (first | fail)
        all_goals
          go_wp2_with fail
          go_ret
          exact ⟨_, rfl, by rw [HNM.out]; exact ss_new9 _ _ _ _, by rw [← HP.out]; exact below_fin9 HB.out HSZ.out _ _ _⟩
      · obtain ⟨s1, s2⟩ := neq_s hv
        by_cases hl : nb lv < nb rv
        · have HNM := Lib.hid (names_lt (c := ⟨⟨lv, la, lk, ln, ls⟩, rel, ⟨rv, ra, rk, rn, rs⟩⟩) ha hb hl)
          have t1 : Op.bytesLess lv.toList rv.toList = true := by rw [Lib.toList_data, Lib.toList_data, bl_lt]; exact decide_eq_true hl
          have t2 : Op.bytesLess lv.data.toList rv.data.toList = true := by rw [bl_lt]; exact decide_eq_true hl
          clear ha hb hv hl
          go_enter Try.func51, Try.ntmps51
          go_wp2_with fail
          rw [← HW.out, ← HP.out]
          go_region_held3 (fun u => u.cell? ⟨P, 0, none⟩ = some (.string lv) ∧ u.cell? ⟨P, 1, none⟩ = some (.string la) ∧ u.cell? ⟨P, 2, none⟩ = some (.int .i64 lk) ∧ u.cell? ⟨P, 3, none⟩ = some (.int .i64 ln) ∧ u.cell? ⟨P, 4, none⟩ = some (.string ls) ∧ u.cell? ⟨P, 6, none⟩ = some (.string rv) ∧ u.cell? ⟨P, 7, none⟩ = some (.string ra) ∧ u.cell? ⟨P, 8, none⟩ = some (.int .i64 rk) ∧ u.cell? ⟨P, 9, none⟩ = some (.int .i64 rn) ∧ u.cell? ⟨P, 10, none⟩ = some (.string rs)) (first | exact ⟨k0, k1, k2, k3, k4, k6, k7, k8, k9, k10⟩ | go_keep)
            (first | fail)
          all_goals
            go_wp2_with fail
            go_ret
            exact ⟨_, rfl, by rw [HNM.out]; exact ss_new9b _ _ _ _ _, by rw [← HP.out]; exact below_fin9 HB.out HSZ.out _ _ _⟩
        · have HNM := Lib.hid (names_gt (c := ⟨⟨lv, la, lk, ln, ls⟩, rel, ⟨rv, ra, rk, rn, rs⟩⟩) ha hb hv hl)
          have t1 : Op.bytesLess lv.toList rv.toList = false := by rw [Lib.toList_data, Lib.toList_data, bl_lt]; exact decide_eq_false hl
          have t2 : Op.bytesLess lv.data.toList rv.data.toList = false := by rw [bl_lt]; exact decide_eq_false hl
          clear ha hb hv hl
          go_enter Try.func51, Try.ntmps51
          go_wp2_with fail
          rw [← HW.out, ← HP.out]
          go_region_held3 (fun u => u.cell? ⟨P, 0, none⟩ = some (.string lv) ∧ u.cell? ⟨P, 1, none⟩ = some (.string la) ∧ u.cell? ⟨P, 2, none⟩ = some (.int .i64 lk) ∧ u.cell? ⟨P, 3, none⟩ = some (.int .i64 ln) ∧ u.cell? ⟨P, 4, none⟩ = some (.string ls) ∧ u.cell? ⟨P, 6, none⟩ = some (.string rv) ∧ u.cell? ⟨P, 7, none⟩ = some (.string ra) ∧ u.cell? ⟨P, 8, none⟩ = some (.int .i64 rk) ∧ u.cell? ⟨P, 9, none⟩ = some (.int .i64 rn) ∧ u.cell? ⟨P, 10, none⟩ = some (.string rs)) (first | exact ⟨k0, k1, k2, k3, k4, k6, k7, k8, k9, k10⟩ | go_keep)
            (first | fail)
          all_goals
            go_wp2_with fail
            go_ret
            exact ⟨_, rfl, by rw [HNM.out]; exact ss_new9b _ _ _ _ _, by rw [← HP.out]; exact below_fin9 HB.out HSZ.out _ _ _⟩
end Go.Proofs.Ytghmaphpmnjiiaa
