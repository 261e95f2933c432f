/- A shelf of rows of numbers: New, Put, All, Len, for one thing. -/
import Derived.Test.YtehdimaihkckkaaWc13
namespace Go.Proofs.Ytehdimaihkckkaa
open Go Go.RowKit Go.Shelf
attribute [local go_sem] Oper.semAt_some

theorem infoiThg : (Try.prog.info? 94).map (fun i => (i.zero, i.size, i.bytes)) = some (some (.agg #[.int .i64 0, .int .i64 0, .int .i64 0, .slice none 0 0]), 4, 48) := by kernel_rfl
theorem hiNew_one (w : World) : Calls Try.prog 25 #[.int .i64 1] w fun e w' => e = .returned (.tuple #[.pointer (some ⟨w.heap.size, 0, none⟩), .int .i64 0]) ∧ w'.heap[w.heap.size]? = some (.cells #[.int .i64 1, .int .i64 0, .slice none 0 0] 92 (0, 0)) ∧ Below w.heap.size w w' := by
  have HB : Hid (Below w.heap.size w (w.alloc (.cells #[.int .i64 1, .int .i64 0, .slice none 0 0] 92))) := (Below.refl _ _).alloc (Nat.le_refl _) _
  have HN : Hid ((w.alloc (.cells #[.int .i64 1, .int .i64 0, .slice none 0 0] 92)).heap[w.heap.size]? = some (.cells #[.int .i64 1, .int .i64 0, .slice none 0 0] 92 (0, 0))) := heap_alloc_new w _
  go_enter Try.func25, Try.ntmps25
  go_wp2
  go_ret2
  exact ⟨rfl, HN.out, HB.out⟩
theorem hiIsMade_one (q : Nat) (w : World) (h : w.cell? ⟨q, 0, none⟩ = some (.int .i64 1)) : Calls Try.prog 50 #[.pointer (some ⟨q, 0, none⟩)] w fun e w' => e = .returned (.bool true) ∧ w = w' := by
  go_enter Try.func50, Try.ntmps50
  go_wp2
  go_ret
  exact ⟨by simp, rfl⟩
theorem hiList_any (q : Nat) (a : Option Addr) (n c : Nat) (w : World) (h : w.cell? ⟨q, 2, none⟩ = some (.slice a n c)) : Calls Try.prog 51 #[.pointer (some ⟨q, 0, none⟩)] w fun e w' => e = .returned (.slice a n c) ∧ w = w' := by
  go_enter Try.func51, Try.ntmps51
  go_wp2
  go_ret
  exact ⟨rfl, rfl⟩
theorem hiLen_any (p : Value) (a : Option Addr) (n c : Nat) (w : World) (h : Calls Try.prog 51 #[p] w fun e w' => e = .returned (.slice a n c) ∧ w = w') : Calls Try.prog 29 #[p] w fun e w' => e = .returned (.int .i64 (n : Int)) ∧ w = w' := by
  have H := Lib.hid h
  clear h
  go_enter Try.func29, Try.ntmps29
  go_wp2_with (go_at_call 51; (with_reducible refine H.out.mono ?_); rintro e w1 ⟨rfl, rfl⟩)
  go_ret
  exact ⟨rfl, rfl⟩
/-- The shelf in block q holds one thing, from 2 to 3, whose value is v. -/
def OneI (w : World) (q : Nat) (v : Value) : Prop := ∃ g cap, w.heap[q]? = some (.cells #[.int .i64 1, .int .i64 1, .slice (some ⟨g, 0, none⟩) 1 cap] 92 (0, 0)) ∧ g < w.heap.size ∧ w.cell? ⟨g, 0, none⟩ = some (.int .i64 0) ∧ w.cell? ⟨g, 1, none⟩ = some (.int .i64 2) ∧ w.cell? ⟨g, 2, none⟩ = some (.int .i64 3) ∧ w.cell? ⟨g, 3, none⟩ = some v
theorem OneI.below {w w' : World} {q : Nat} {v : Value} (h : OneI w q v) (hb : Below w.heap.size w w') : OneI w' q v := by
  obtain ⟨g, cap, h1, h2, h3, h4, h5, h6⟩ := h
  have hk : ∀ o, w'.cell? ⟨g, o, none⟩ = w.cell? ⟨g, o, none⟩ := fun o => hb.cell (p := ⟨g, o, none⟩) h2
  exact ⟨g, cap, (hb.block q (lt_of_block h1)).trans h1, Nat.lt_of_lt_of_le h2 hb.size, (hk _).trans h3, (hk _).trans h4, (hk _).trans h5, (hk _).trans h6⟩

set_option maxRecDepth 100000 in
set_option maxHeartbeats 1600000 in
theorem hiPut_one (q : Nat) (xa : Option Addr) (xn xc : Nat) (w : World) (h : w.heap[q]? = some (.cells #[.int .i64 1, .int .i64 0, .slice none 0 0] 92 (0, 0))) :
    Calls Try.prog 26 #[.pointer (some ⟨q, 0, none⟩), .agg #[.int .i64 2, .int .i64 3], .slice xa xn xc] w fun r w' => r = .returned (.int .i64 0) ∧ OneI w' q (.slice xa xn xc) ∧ Chg (fun b => b = q) w w' := by
  obtain ⟨i0, hi, hz0, hz1, hz2⟩ := info_parts13 infoiThg
  obtain ⟨P, hP⟩ : ∃ P, P = w.heap.size := ⟨_, rfl⟩
  have hq := lt_of_block h
  obtain ⟨W, hW⟩ : ∃ W, W = w.alloc (.cells #[.int .i64 2, .int .i64 3] 32) := ⟨_, rfl⟩
  have hb0 : Below w.heap.size w W := by rw [hW]; exact (Below.refl _ _).alloc (Nat.le_refl _) _
  have hpW : W.heap[P]? = some (.cells #[.int .i64 2, .int .i64 3] 32 (0, 0)) := by rw [hW, hP]; exact heap_alloc_new w _
  have hPl : P < W.heap.size := lt_of_block hpW
  have hqW := (hb0.block q hq).trans h
  have hC1 := hiIsMade_one q W (cells_three hqW).1
  have hC2 := hIsSpan_any 2 3 W
  rw [show spB 2 3 = true from rfl] at hC2
  have HC1 := Lib.hid hC1; have HC2 := Lib.hid hC2; have HW := Lib.hid hW; have HP := Lib.hid hP
  have HU : Hid (∀ u, Below W.heap.size W u → u.heap[q]? = some (.cells #[.int .i64 1, .int .i64 0, .slice none 0 0] 92 (0, 0)) ∧ u.heap[P]? = some (.cells #[.int .i64 2, .int .i64 3] 32 (0, 0)) ∧ Below w.heap.size w u) := Lib.hid (fun u hu => ⟨(hu.block q (by have := hb0.size; omega)).trans hqW, (hu.block P hPl).trans hpW, hb0.trans (hu.mono hb0.size)⟩)
  have HQP : Hid (q < P) := by unfold Hid; omega
  obtain ⟨p0, p1, -⟩ := cells_two hpW
  clear hC1 hC2 hW hP h hb0 hpW hPl hqW hq
  go_enter Try.func26, Try.ntmps26
  go_wp2_with fail
  rw [← HW.out, ← HP.out]
  go_wp2_with (first
    | (go_at_call 50; (with_reducible refine (HC1.out).mono ?_); rintro r w1 ⟨rfl, rfl⟩)
    | (go_at_call 43; (with_reducible refine (HC2.out).mono ?_); rintro r w1 ⟨rfl, hb1⟩; have hu1 := HU.out w1 hb1; have p0 := (cells_two hu1.2.1).1; have p1 := (cells_two hu1.2.1).2.1; have c0 := (cells_three hu1.1).1; have c1 := (cells_three hu1.1).2.1; have c2 := (cells_three hu1.1).2.2.1; have HB1 := Lib.hid hb1; clear hu1 hb1))
  go_quiet (fail)
  have hb2 : Below W.heap.size W (w1.drewN nq) := ⟨HB1.out.os, HB1.out.tape, HB1.out.output, HB1.out.size, HB1.out.block⟩
  clear p0 p1 c0 c1 c2
  generalize w1.drewN nq = w2 at hb2 ⊢
  obtain ⟨h2, hp2, hbw⟩ := HU.out w2 hb2
  obtain ⟨p0, p1, -⟩ := cells_two hp2
  obtain ⟨-, c1, c2, -⟩ := cells_three h2
  have hPl : P < w2.heap.size := lt_of_block hp2
  have hql := lt_of_block h2
  have hbX : Below w2.heap.size w2 (w2.drew.alloc (.cells #[.int .i64 0, .int .i64 2, .int .i64 3, .slice xa xn xc] 94)) := ((Below.refl _ _).drew).alloc (Nat.le_refl _) _
  have HXN := Lib.hid (World.news_of_block (w := (w2.drew.alloc (.cells #[.int .i64 0, .int .i64 2, .int .i64 3, .slice xa xn xc] 94))) (B := w2.heap.size) (cs := #[.int .i64 0, .int .i64 2, .int .i64 3, .slice xa xn xc]) (t := 94) (fr := (0, 0)) (heap_alloc_new _ _))
  have HXZ : Hid ((w2.drew.alloc (.cells #[.int .i64 0, .int .i64 2, .int .i64 3, .slice xa xn xc] 94)).heap.size = w2.heap.size + 1) := by unfold Hid; simp
  have HFAR : Hid (∀ w4, (w2.drew.alloc (.cells #[.int .i64 0, .int .i64 2, .int .i64 3, .slice xa xn xc] 94)).grownBy w4 none → w4.heap[q]? = some (.cells #[.int .i64 1, .int .i64 0, .slice none 0 0] 92 (0, 0)) ∧ w4.heap[P]? = some (.cells #[.int .i64 2, .int .i64 3] 32 (0, 0)) ∧ Below w.heap.size w w4) := Lib.hid (fun w4 hg => by
    have hz := HXZ.out
    have hbw' := hbw.size
    refine ⟨(hg.block q (by omega) (by simp)).trans ((hbX.block q hql).trans h2), (hg.block P (by omega) (by simp)).trans ((hbX.block P hPl).trans hp2), ?_⟩
    exact (hbw.trans (hbX.mono hbw')).grown hg (by omega) (fun k e => by cases e))
  clear hp2 hbw h2 hb2 hbX HU hPl hql
  go_wp2
  have HS0 : Hid (∀ l : Array Bool, l[16]? = some false → (w2.drew.cell? ⟨q, 2, none⟩ = some (.slice none 0 0) ∧ w2.drew.cell? ⟨q, 1, none⟩ = some (.int .i64 0) ∧ w2.drew.cell? ⟨P, 0, none⟩ = some (.int .i64 2) ∧ w2.drew.cell? ⟨P, 1, none⟩ = some (.int .i64 3))) := Lib.hid (fun _ _ => ⟨c2, c1, p0, p1⟩)
  refine wp_region_ph (S := (fun (l : Array Bool) (u : World) => l[16]? = some false → (u.cell? ⟨q, 2, none⟩ = some (.slice none 0 0) ∧ u.cell? ⟨q, 1, none⟩ = some (.int .i64 0) ∧ u.cell? ⟨P, 0, none⟩ = some (.int .i64 2) ∧ u.cell? ⟨P, 1, none⟩ = some (.int .i64 3)))) (by rfl) ?_
  change wpPh _ _ _ _ _ 17 _ _ w2.drew
  refine wpPh.take (i := 0) (v := .pointer (some ⟨q, 0, none⟩)) (T := fun u => True) (I := (fun l => 16 < l.size ∧ (l[16]? = some true → ∀ x ∈ [4, 8, 9], l[x]? = some true))) rfl (by kernel_rfl) (by kernel_rfl) (by kernel_rfl) (fun _ _ _ h => h) (waits_keep (m := 16) rfl (by simp [Region.binds])) (fun _ _ _ _ _ => trivial) (fun l u => by rw [Array.getElem?_setIfInBounds_ne (by decide)]) ⟨by simp, fun h => (by simp at h)⟩ (.inl ⟨by rfl, fun u hu => ?_⟩) (HS0.out _) ?_
  · first | (go_simp; done) | (go_simp; simp [hu]; done) | (simp [execOp, go_sem, hu]; done)
  refine wpPh.take (i := 1) (v := .pointer (some ⟨q, 0, none⟩)) (T := fun u => True) (I := (fun l => 16 < l.size ∧ (l[16]? = some true → ∀ x ∈ [4, 8, 9], l[x]? = some true))) rfl (by kernel_rfl) (by kernel_rfl) (by kernel_rfl) (fun _ _ _ h => h) (waits_keep (m := 16) rfl (by simp [Region.binds])) (fun _ _ _ _ _ => trivial) (fun l u => by rw [Array.getElem?_setIfInBounds_ne (by decide)]) ⟨by simp, fun h => (by simp at h)⟩ (.inl ⟨by rfl, fun u hu => ?_⟩) (HS0.out _) ?_
  · first | (go_simp; done) | (go_simp; simp [hu]; done) | (simp [execOp, go_sem, hu]; done)
  refine wpPh.take (i := 2) (v := .pointer (some ⟨q, 0, none⟩)) (T := fun u => True) (I := (fun l => 16 < l.size ∧ (l[16]? = some true → ∀ x ∈ [4, 8, 9], l[x]? = some true))) rfl (by kernel_rfl) (by kernel_rfl) (by kernel_rfl) (fun _ _ _ h => h) (waits_keep (m := 16) rfl (by simp [Region.binds])) (fun _ _ _ _ _ => trivial) (fun l u => by rw [Array.getElem?_setIfInBounds_ne (by decide)]) ⟨by simp, fun h => (by simp at h)⟩ (.inl ⟨by rfl, fun u hu => ?_⟩) (HS0.out _) ?_
  · first | (go_simp; done) | (go_simp; simp [hu]; done) | (simp [execOp, go_sem, hu]; done)
  refine wpPh.take (i := 3) (v := .pointer (some ⟨q, 2, none⟩)) (T := fun u => True) (I := (fun l => 16 < l.size ∧ (l[16]? = some true → ∀ x ∈ [4, 8, 9], l[x]? = some true))) rfl (by kernel_rfl) (by kernel_rfl) (by kernel_rfl) (fun _ _ _ h => h) (waits_keep (m := 16) rfl (by simp [Region.binds])) (fun _ _ _ _ _ => trivial) (fun l u => by rw [Array.getElem?_setIfInBounds_ne (by decide)]) ⟨by simp, fun h => (by simp at h)⟩ (.inl ⟨by rfl, fun u hu => ?_⟩) (HS0.out _) ?_
  · first | (go_simp; done) | (go_simp; simp [hu]; done) | (simp [execOp, go_sem, hu]; done)
  refine wpPh.take (i := 4) (v := .slice none 0 0) (T := fun u => u.cell? ⟨q, 2, none⟩ = some (.slice none 0 0)) (I := (fun l => 16 < l.size ∧ (l[16]? = some true → ∀ x ∈ [4, 8, 9], l[x]? = some true))) rfl (by kernel_rfl) (by kernel_rfl) (by kernel_rfl) (fun _ _ _ h => h) (waits_keep (m := 16) rfl (by simp [Region.binds])) (fun l u hI h0 h => And.left (h (not_yet hI (by simp) h0))) (fun l u => by rw [Array.getElem?_setIfInBounds_ne (by decide)]) ⟨by simp, fun h => (by simp at h)⟩ (.inl ⟨by rfl, fun u hu => ?_⟩) (HS0.out _) ?_
  · first | (go_simp; done) | (go_simp; simp [hu]; done) | (simp [execOp, go_sem, hu]; done)
  refine wpPh.take (i := 5) (v := .pointer (some ⟨q, 0, none⟩)) (T := fun u => True) (I := (fun l => 16 < l.size ∧ (l[16]? = some true → ∀ x ∈ [4, 8, 9], l[x]? = some true))) rfl (by kernel_rfl) (by kernel_rfl) (by kernel_rfl) (fun _ _ _ h => h) (waits_keep (m := 16) rfl (by simp [Region.binds])) (fun _ _ _ _ _ => trivial) (fun l u => by rw [Array.getElem?_setIfInBounds_ne (by decide)]) ⟨by simp, fun h => (by simp at h)⟩ (.inl ⟨by rfl, fun u hu => ?_⟩) (HS0.out _) ?_
  · first | (go_simp; done) | (go_simp; simp [hu]; done) | (simp [execOp, go_sem, hu]; done)
  refine wpPh.take (i := 6) (v := .pointer (some ⟨q, 0, none⟩)) (T := fun u => True) (I := (fun l => 16 < l.size ∧ (l[16]? = some true → ∀ x ∈ [4, 8, 9], l[x]? = some true))) rfl (by kernel_rfl) (by kernel_rfl) (by kernel_rfl) (fun _ _ _ h => h) (waits_keep (m := 16) rfl (by simp [Region.binds])) (fun _ _ _ _ _ => trivial) (fun l u => by rw [Array.getElem?_setIfInBounds_ne (by decide)]) ⟨by simp, fun h => (by simp at h)⟩ (.inl ⟨by rfl, fun u hu => ?_⟩) (HS0.out _) ?_
  · first | (go_simp; done) | (go_simp; simp [hu]; done) | (simp [execOp, go_sem, hu]; done)
  refine wpPh.take (i := 7) (v := .pointer (some ⟨q, 1, none⟩)) (T := fun u => True) (I := (fun l => 16 < l.size ∧ (l[16]? = some true → ∀ x ∈ [4, 8, 9], l[x]? = some true))) rfl (by kernel_rfl) (by kernel_rfl) (by kernel_rfl) (fun _ _ _ h => h) (waits_keep (m := 16) rfl (by simp [Region.binds])) (fun _ _ _ _ _ => trivial) (fun l u => by rw [Array.getElem?_setIfInBounds_ne (by decide)]) ⟨by simp, fun h => (by simp at h)⟩ (.inl ⟨by rfl, fun u hu => ?_⟩) (HS0.out _) ?_
  · first | (go_simp; done) | (go_simp; simp [hu]; done) | (simp [execOp, go_sem, hu]; done)
  refine wpPh.take (i := 8) (v := .int .i64 0) (T := fun u => u.cell? ⟨q, 1, none⟩ = some (.int .i64 0)) (I := (fun l => 16 < l.size ∧ (l[16]? = some true → ∀ x ∈ [4, 8, 9], l[x]? = some true))) rfl (by kernel_rfl) (by kernel_rfl) (by kernel_rfl) (fun _ _ _ h => h) (waits_keep (m := 16) rfl (by simp [Region.binds])) (fun l u hI h0 h => (fun h => h.2.1) (h (not_yet hI (by simp) h0))) (fun l u => by rw [Array.getElem?_setIfInBounds_ne (by decide)]) ⟨by simp, fun h => (by simp at h)⟩ (.inl ⟨by rfl, fun u hu => ?_⟩) (HS0.out _) ?_
  · first | (go_simp; done) | (go_simp; simp [hu]; done) | (simp [execOp, go_sem, hu]; done)
  refine wpPh.take (i := 9) (v := .agg #[.int .i64 2, .int .i64 3]) (T := fun u => (u.cell? ⟨P, 0, none⟩ = some (.int .i64 2) ∧ u.cell? ⟨P, 1, none⟩ = some (.int .i64 3))) (I := (fun l => 16 < l.size ∧ (l[16]? = some true → ∀ x ∈ [4, 8, 9], l[x]? = some true))) rfl (by kernel_rfl) (by kernel_rfl) (by kernel_rfl) (fun _ _ _ h => h) (waits_keep (m := 16) rfl (by simp [Region.binds])) (fun l u hI h0 h => (fun h => h.2.2) (h (not_yet hI (by simp) h0))) (fun l u => by rw [Array.getElem?_setIfInBounds_ne (by decide)]) ⟨by simp, fun h => (by simp at h)⟩ (.inl ⟨by rfl, fun u hu => ?_⟩) (HS0.out _) ?_
  · first | (go_simp; done) | (go_simp; simp [hu]; done) | (simp [execOp, go_sem, hu]; done)
  refine wpPh.take (i := 10) (v := .slice xa xn xc) (T := fun u => True) (I := (fun l => 16 < l.size ∧ (l[16]? = some true → ∀ x ∈ [4, 8, 9], l[x]? = some true))) rfl (by kernel_rfl) (by kernel_rfl) (by kernel_rfl) (fun _ _ _ h => h) (waits_keep (m := 16) rfl (by simp [Region.binds])) (fun _ _ _ _ _ => trivial) (fun l u => by rw [Array.getElem?_setIfInBounds_ne (by decide)]) ⟨by simp, fun h => (by simp at h)⟩ (.inl ⟨by rfl, fun u hu => ?_⟩) (HS0.out _) ?_
  · first | (go_simp; done) | (go_simp; simp [hu]; done) | (simp [execOp, go_sem, hu]; done)
  refine wpPh.take (i := 11) (v := .agg #[.int .i64 0, .int .i64 2, .int .i64 3, .slice xa xn xc]) (T := fun u => True) (I := (fun l => 16 < l.size ∧ (l[16]? = some true → ∀ x ∈ [4, 8, 9], l[x]? = some true))) rfl (by kernel_rfl) (by kernel_rfl) (by kernel_rfl) (fun _ _ _ h => h) (waits_keep (m := 16) rfl (by simp [Region.binds])) (fun _ _ _ _ _ => trivial) (fun l u => by rw [Array.getElem?_setIfInBounds_ne (by decide)]) ⟨by simp, fun h => (by simp at h)⟩ (.inl ⟨by rfl, fun u hu => ?_⟩) (HS0.out _) ?_
  · first | (go_simp; done) | (go_simp; simp [hu]; done) | (simp [execOp, go_sem, hu]; done)
  refine wpPh.all (rs := [12]) (by kernel_rfl) (by simp) (fun i hmem => ?_)
  obtain rfl : i = 12 := by simpa using hmem
  refine wpOp_go rfl (by rfl) ?_
  unfold Oper.wp
  go_simp
  refine ⟨⟨cell_alloc13 _ c2, cell_alloc13 _ c1, cell_alloc13 _ p0, cell_alloc13 _ p1⟩, ?_⟩
  refine wpPh.all (rs := [13]) (by kernel_rfl) (by simp) (fun i hmem => ?_)
  obtain rfl : i = 13 := by simpa using hmem
  refine wpOp_step (E := False) rfl (by rfl) ?_
  refine step_append_lies (w := (w2.drew.alloc (.cells #[.int .i64 0, .int .i64 2, .int .i64 3, .slice xa xn xc] 94))) (by rfl) (.tmp 30) (.tmp 38) 90 (by rfl) 0 94 i0 (.agg #[.int .i64 0, .int .i64 0, .int .i64 0, .slice none 0 0]) 4 48 Try.underlying90 hi hz0 hz1 hz2 rfl (by decide) (.slice none 0 0) 0 [] (by rfl) (World.ownsRow_nil _ _ _ _) ⟨w2.heap.size, 0, none⟩ 1 1 [.int .i64 0, .int .i64 2, .int .i64 3, .slice xa xn xc] (by rfl) rfl HXN.out (by simp [Value.oneCell']) (by decide) (by unfold maxLen; decide) (by decide) (Nat.zero_le _) (w2.heap.size + 1) HXZ.out ?_
  intro g cap w4 hown hg hgg hglt
  obtain ⟨hq4, hp4, hbw4⟩ := HFAR.out w4 hg
  have hq5 := heap_setCell_same (k := 2) hq4 (.slice (some ⟨g, 0, none⟩) 1 cap)
  have hq6 := heap_setCell_same (k := 1) hq5 (.int .i64 1)
  have hne : g ≠ q := by
    rcases hgg with hv | rfl
    · simp [Value.ownBlock] at hv
    · have := HXZ.out; have := lt_of_block hq4; have h9 := HQP.out; have h8 := World.block_lt_of_cell? _ _ p0; simp only at h8; omega
  have hcg : ∀ i u, [Value.int .i64 0, .int .i64 2, .int .i64 3, .slice xa xn xc][i]? = some u → w4.cell? ⟨g, i, none⟩ = some u := fun i u hu => by
    have h1 := hown.cells (g := g) rfl i u (by simpa using hu)
    have e : (⟨g, 0, none⟩ : Addr).add i = ⟨g, i, none⟩ := by unfold Addr.add; split <;> simp_all
    rwa [e] at h1
  have HF : Hid (OneI ((w4.setCell ⟨q, 2, none⟩ (.slice (some ⟨g, 0, none⟩) 1 cap)).setCell ⟨q, 1, none⟩ (.int .i64 1)) q (.slice xa xn xc) ∧ Chg (fun b => b = q) w ((w4.setCell ⟨q, 2, none⟩ (.slice (some ⟨g, 0, none⟩) 1 cap)).setCell ⟨q, 1, none⟩ (.int .i64 1))) := by
    have hcc : ∀ i, ((w4.setCell ⟨q, 2, none⟩ (.slice (some ⟨g, 0, none⟩) 1 cap)).setCell ⟨q, 1, none⟩ (.int .i64 1)).cell? ⟨g, i, none⟩ = w4.cell? ⟨g, i, none⟩ := fun i => by
      rw [World.cell?_setCell_other _ _ _ _ (fun e => by simp only [Addr.mk.injEq] at e; exact hne e.1.symm), World.cell?_setCell_other _ _ _ _ (fun e => by simp only [Addr.mk.injEq] at e; exact hne e.1.symm)]
    refine ⟨⟨g, cap, by rw [hq6]; simp, by simp only [World.size_setCell]; exact hglt, (hcc _).trans (hcg 0 _ rfl), (hcc _).trans (hcg 1 _ rfl), (hcc _).trans (hcg 2 _ rfl), (hcc _).trans (hcg 3 _ rfl)⟩, Chg.setCell (F := fun b => b = q) (Chg.setCell (F := fun b => b = q) (Chg.of_below hbw4) (p := ⟨q, 2, none⟩) rfl _) (p := ⟨q, 1, none⟩) rfl _⟩
  obtain ⟨-, t0, t00, f4⟩ := cells_three hq4
  obtain ⟨t1, t2, -⟩ := cells_two hp4
  have f42 := f4 2
  have r0 := (cells_three hq5).2.1
  have f51 := (cells_three hq5).2.2.2 1
  clear hown hg hgg hglt hq4 hp4 hq5 hq6 f4 HFAR c1 c2 p0 p1 HS0 hbw4 hne hcg
  refine ⟨fun _ => ⟨t00, t0, t1, t2⟩, ?_⟩
  refine wpPh.all (rs := [14]) (by kernel_rfl) (by simp) (fun i hmem => ?_)
  obtain rfl : i = 14 := by simpa using hmem
  refine wpOp_go rfl (by rfl) ?_
  unfold Oper.wp
  go_simp
  refine wpPh.all (rs := [15]) (by kernel_rfl) (by simp) (fun i hmem => ?_)
  obtain rfl : i = 15 := by simpa using hmem
  refine wpOp_go rfl (by rfl) ?_
  unfold Oper.wp
  go_simp
  refine wpPh.all (rs := [16]) (by kernel_rfl) (by simp) (fun i hmem => ?_)
  obtain rfl : i = 16 := by simpa using hmem
  refine wpOp_go rfl (by rfl) ?_
  unfold Oper.wp
  go_simp
  refine wpPh.done (by kernel_rfl) ?_ _
  clear t00 t0 t1 t2 f42
  generalize w4.setCell ⟨q, 2, none⟩ (.slice (some ⟨g, 0, none⟩) 1 cap) = w5 at r0 f51 HF ⊢
  go_wp2
  go_ret
  exact ⟨rfl, HF.out⟩

/-- All of it. -/
theorem hiAll_one (q : Nat) (v : Value) (w : World) (h : OneI w q v) : Calls Try.prog 27 #[.pointer (some ⟨q, 0, none⟩)] w fun e w' => ∃ Bs g cap, e = .returned (.func (.func 52) #[] #[.pointer (some ⟨Bs, 0, none⟩)]) ∧ w'.heap[Bs]? = some (.cells #[.slice (some ⟨g, 0, none⟩) 1 cap] 90 (0, 0)) ∧ g < w.heap.size ∧ (w'.cell? ⟨g, 0, none⟩ = some (.int .i64 0) ∧ w'.cell? ⟨g, 1, none⟩ = some (.int .i64 2) ∧ w'.cell? ⟨g, 2, none⟩ = some (.int .i64 3) ∧ w'.cell? ⟨g, 3, none⟩ = some v) ∧ Below w.heap.size w w' := by
  obtain ⟨g, cap, h1, h2, h3, h4, h5, h6⟩ := h
  have HC := Lib.hid (hiList_any q (some ⟨g, 0, none⟩) 1 cap w (cells_three h1).2.2.1)
  have HH := Lib.hid (And.intro h2 (And.intro h3 (And.intro h4 (And.intro h5 h6))))
  clear h1 h2 h3 h4 h5 h6
  go_enter Try.func27, Try.ntmps27
  go_wp2_with (go_at_call 51; (with_reducible refine (HC.out).mono ?_); rintro e w1 ⟨rfl, rfl⟩)
  go_ret
  have hb : Below w.heap.size w (w.alloc (.cells #[.slice (some ⟨g, 0, none⟩) 1 cap] 90)) := (Below.refl _ _).alloc (Nat.le_refl _) _
  obtain ⟨h2, h3, h4, h5, h6⟩ := HH.out
  exact ⟨_, g, cap, rfl, heap_alloc_new w _, h2, ⟨cell_alloc13 _ h3, cell_alloc13 _ h4, cell_alloc13 _ h5, cell_alloc13 _ h6⟩, hb⟩
set_option maxRecDepth 100000 in
set_option maxHeartbeats 2000000 in
theorem hiAll1_stops (n : Nat) (hn : 1 ≤ n) (Bs n₀ g cap : Nat) (xa : Option Addr) (xn xc : Nat) (w : World) (hBs : w.heap[Bs]? = some (.cells #[.slice (some ⟨g, 0, none⟩) 1 cap] 90 (0, 0))) (hg : g < n₀) (hn0 : n₀ ≤ w.heap.size) (hc : w.cell? ⟨g, 0, none⟩ = some (.int .i64 0) ∧ w.cell? ⟨g, 1, none⟩ = some (.int .i64 2) ∧ w.cell? ⟨g, 2, none⟩ = some (.int .i64 3) ∧ w.cell? ⟨g, 3, none⟩ = some (.slice xa xn xc)) :
    SeqStopsH Fence.wide n Try.prog 52 #[.pointer (some ⟨Bs, 0, none⟩)] (fun _ : Unit => #[.agg #[.int .i64 2, .int .i64 3], .slice xa xn xc]) (fun _ _ => True) (Below n₀) (fun ys => ys.length = 1) (fun pre => pre.length ≤ 1) 1 w := fun l J Jx W hW hJ hJx hY h0 => by
  have hBl := lt_of_block hBs
  have b0 := cells_one0 ((hW.block Bs hBl).trans hBs)
  have hk : ∀ o, W.cell? ⟨g, o, none⟩ = w.cell? ⟨g, o, none⟩ := fun o => hW.cell (p := ⟨g, o, none⟩) (by show g < _; omega)
  obtain ⟨c0, c1, c2, c3⟩ := hc
  rw [← hk] at c0 c1 c2 c3
  clear hk
  have hn₀ : n₀ ≤ W.heap.size := Nat.le_trans hn0 hW.size
  refine callsIn_of_wp Try.func52 rfl trivial ?_ rfl
  simp only [Try.ntmps52, List.size_toArray, List.length_cons, List.length_nil, Nat.reduceAdd, Nat.reduceSub, Array.replicate_succ, Array.replicate_zero, List.push_toArray, List.append_toArray, List.nil_append, List.cons_append]
  gi_wp2
  gi_loopw [7] (fun i wr => (i = .int .i64 0 ∧ wr = W) ∨ (i = .int .i64 1 ∧ J [()] wr)) (fun i _ => 1 - (intOf i).toNat)
  case atStart => exact .inl ⟨rfl, rfl⟩
  case round =>
    rcases hrel with ⟨rfl, rfl⟩ | ⟨rfl, hJs⟩
    · have hyy := (hY [] () _ (hJ.alloc (.cells #[.int .i64 0, .int .i64 2, .int .i64 3, .slice xa xn xc] 94) h0) trivial (by simp)).mono (fun e W' h => (h.imp (fun ⟨a, b, _⟩ => ⟨a, b⟩) (fun ⟨a, b, _⟩ => ⟨a, b⟩) : (e = .returned (.bool true) ∧ J ([] ++ [()]) W') ∨ (e = .returned (.bool false) ∧ Jx ([] ++ [()]) W')))
      obtain ⟨fn, tmps, assign, body, hy, hR⟩ := hyy
      gi_wp2
      refine RoundIn.mono (F := Fence.wide) hR ?_
      rintro e W3 (⟨rfl, hJ3⟩ | ⟨rfl, hJx3⟩)
      · gi_wp2
        go_roundw
        case rel => exact .inr ⟨by simp, hJ3⟩
        case measure => simp [intOf]
      · gi_wp2
        refine bodyPost_ret (results_none rfl _ _ _) rfl ?_
        exact ⟨⟨_, rfl⟩, .inr ⟨_, by simp, hJx3⟩⟩
    · gi_wp2
      go_end0
      exact ⟨⟨_, rfl⟩, .inl ⟨_, rfl, hJs⟩⟩
end Go.Proofs.Ytehdimaihkckkaa
