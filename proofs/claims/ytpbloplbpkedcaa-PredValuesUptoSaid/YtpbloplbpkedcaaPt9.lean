/- The walk of PredTests. -/
import Derived.Test.YtpbloplbpkedcaaTn9
import Derived.Test.YtpbloplbpkedcaaLv9
namespace Go.Proofs.Ytpbloplbpkedcaa
open Go Go.RowKit Go.Sort

theorem pTerm_any (d : Nt) (ta : Option Addr) (tc : Nat) (kv : Value) (src seq time : Int) (ty : ByteArray) (B : Nat) (ao : Option Addr) (n cap : Nat) (xs : List At) (w : World) (h : Av w B (.slice ao n cap) xs) (hB : B ≤ w.heap.size)
    (hc : CdV w (fun x => x < w.heap.size) (.slice ta d.tests.length tc) d.tests) (hl : d.tests.length ≤ 140737488355328) (hwd : ∀ c ∈ d.tests, wdC c) (hx : xs.length + 1 ≤ 1048576) :
    Calls Try.prog 11 #[.agg #[.int .i64 d.kind, .string d.var, .string d.ty, .slice ta d.tests.length tc, kv], .agg #[.int .i64 src, .int .i64 seq, .int .i64 time, .string ty, .slice ao n cap]] w fun e w' => e = .returned (.bool (termB d ty xs)) ∧ Below w.heap.size w w' := by
  by_cases hf : d.tests.length ≤ 16
  · exact pTerm_few d ta tc kv src seq time ty B ao n cap xs w h hB hc hf
  · exact pTerm_many d ta tc kv src seq time ty B ao n cap xs w h hB hc (by omega) hl hwd hx
theorem pAll_any (l : List Cnd) (ta : Option Addr) (tc : Nat) (B : Nat) (ao : Option Addr) (n cap : Nat) (bs : List Bd) (w : World) (h : BsV w B (.slice ao n cap) bs) (hB : B ≤ w.heap.size) (hn : n ≤ 140737488355328)
    (hc : CdV w (fun x => x < w.heap.size) (.slice ta l.length tc) l) (hl : l.length ≤ 140737488355328) (hwd : ∀ c ∈ l, wdC c) (hat : attrsB bs ≤ 1048576) (hvs : ∀ b ∈ bs, b.var.size ≤ maxLen) :
    Calls Try.prog 17 #[.slice ta l.length tc, .agg #[.slice ao n cap]] w fun e w' => e = .returned (.bool (allB l bs)) ∧ Below w.heap.size w w' := by
  by_cases hf : l.length ≤ 16
  · exact pAll_few l ta tc B ao n cap bs w h hB hn hc hf
  · exact pAll_many l ta tc B ao n cap bs w h hB hc (by omega) hl hwd hat hvs

set_option maxRecDepth 100000 in
set_option maxHeartbeats 4000000 in
theorem tests9_walk (c : Cnd) (d : Nt) (ta : Option Addr) (tc : Nat) (kv : Value) (src seq time : Int) (ty : ByteArray) (ao : Option Addr) (n cap : Nat) (xs : List At) (w : World) (h : Av w w.heap.size (.slice ao n cap) xs)
    (hc : CdV w (fun x => x < w.heap.size) (.slice ta d.tests.length tc) d.tests) (hl : d.tests.length ≤ 140737488355328) (hwd : ∀ c ∈ d.tests, wdC c) (hx : xs.length + 1 ≤ 1048576) :
    Calls Try.prog 3 #[cdV c, .agg #[.int .i64 d.kind, .string d.var, .string d.ty, .slice ta d.tests.length tc, kv], .agg #[.int .i64 src, .int .i64 seq, .int .i64 time, .string ty, .slice ao n cap]] w fun e w' => e = .returned (.bool true) ∧ Below w.heap.size w w' := by
  obtain ⟨P, hP⟩ : ∃ P, P = w.heap.size := ⟨_, rfl⟩
  obtain ⟨W, hW⟩ : ∃ W, W = ((w.alloc (.cells #[.string c.left.var, .string c.left.attr, .int .i64 c.left.vk, .int .i64 c.left.vn, .string c.left.vs, .int .i64 c.rel, .string c.right.var, .string c.right.attr, .int .i64 c.right.vk, .int .i64 c.right.vn, .string c.right.vs] 27)).alloc (.cells #[.int .i64 d.kind, .string d.var, .string d.ty, .slice ta d.tests.length tc, kv] 31)).alloc (.cells #[.int .i64 src, .int .i64 seq, .int .i64 time, .string ty, .slice ao n cap] 36) := ⟨_, rfl⟩
  have hb : Below P w W := by rw [hW, hP]; exact (((Below.refl _ _).alloc (Nat.le_refl _) _).alloc (by simp) _).alloc (by simp; omega) _
  have q0 : W.heap[P]? = some (.cells #[.string c.left.var, .string c.left.attr, .int .i64 c.left.vk, .int .i64 c.left.vn, .string c.left.vs, .int .i64 c.rel, .string c.right.var, .string c.right.attr, .int .i64 c.right.vk, .int .i64 c.right.vn, .string c.right.vs] 27 (0, 0)) := by rw [hW, hP, heap_alloc_old _ _ (by simp; omega), heap_alloc_old _ _ (by simp)]; exact heap_alloc_new _ _
  have q1 : W.heap[P + 1]? = some (.cells #[.int .i64 d.kind, .string d.var, .string d.ty, .slice ta d.tests.length tc, kv] 31 (0, 0)) := by
    rw [hW, hP, heap_alloc_old _ _ (by simp)]
    have := heap_alloc_new (w.alloc (.cells #[.string c.left.var, .string c.left.attr, .int .i64 c.left.vk, .int .i64 c.left.vn, .string c.left.vs, .int .i64 c.rel, .string c.right.var, .string c.right.attr, .int .i64 c.right.vk, .int .i64 c.right.vn, .string c.right.vs] 27)) (.cells #[.int .i64 d.kind, .string d.var, .string d.ty, .slice ta d.tests.length tc, kv] 31)
    simpa using this
  have q2 : W.heap[P + 1 + 1]? = some (.cells #[.int .i64 src, .int .i64 seq, .int .i64 time, .string ty, .slice ao n cap] 36 (0, 0)) := by
    rw [hW, hP]
    have := heap_alloc_new ((w.alloc (.cells #[.string c.left.var, .string c.left.attr, .int .i64 c.left.vk, .int .i64 c.left.vn, .string c.left.vs, .int .i64 c.rel, .string c.right.var, .string c.right.attr, .int .i64 c.right.vk, .int .i64 c.right.vn, .string c.right.vs] 27)).alloc (.cells #[.int .i64 d.kind, .string d.var, .string d.ty, .slice ta d.tests.length tc, kv] 31)) (.cells #[.int .i64 src, .int .i64 seq, .int .i64 time, .string ty, .slice ao n cap] 36)
    simpa using this
  have hPW : P ≤ W.heap.size := by have := lt_of_block q0; omega
  have HXC := Lib.hid (fun (u : World) (hu : Below W.heap.size W u) => (show u.cell? ⟨P, 0, none⟩ = some (.string c.left.var) ∧ u.cell? ⟨P, 1, none⟩ = some (.string c.left.attr) ∧ u.cell? ⟨P, 2, none⟩ = some (.int .i64 c.left.vk) ∧ u.cell? ⟨P, 3, none⟩ = some (.int .i64 c.left.vn) ∧ u.cell? ⟨P, 4, none⟩ = some (.string c.left.vs) ∧ u.cell? ⟨P, 5, none⟩ = some (.int .i64 c.rel) ∧ u.cell? ⟨P, 6, none⟩ = some (.string c.right.var) ∧ u.cell? ⟨P, 7, none⟩ = some (.string c.right.attr) ∧ u.cell? ⟨P, 8, none⟩ = some (.int .i64 c.right.vk) ∧ u.cell? ⟨P, 9, none⟩ = some (.int .i64 c.right.vn) ∧ u.cell? ⟨P, 10, none⟩ = some (.string c.right.vs) ∧ u.cell? ⟨P + 1, 0, none⟩ = some (.int .i64 d.kind) ∧ u.cell? ⟨P + 1, 1, none⟩ = some (.string d.var) ∧ u.cell? ⟨P + 1, 2, none⟩ = some (.string d.ty) ∧ u.cell? ⟨P + 1, 3, none⟩ = some (.slice ta d.tests.length tc) ∧ u.cell? ⟨P + 1, 4, none⟩ = some (kv) ∧ u.cell? ⟨P + 1 + 1, 0, none⟩ = some (.int .i64 src) ∧ u.cell? ⟨P + 1 + 1, 1, none⟩ = some (.int .i64 seq) ∧ u.cell? ⟨P + 1 + 1, 2, none⟩ = some (.int .i64 time) ∧ u.cell? ⟨P + 1 + 1, 3, none⟩ = some (.string ty) ∧ u.cell? ⟨P + 1 + 1, 4, none⟩ = some (.slice ao n cap) from by
    obtain ⟨c0, c1, c2, c3, c4, c5, c6, c7, c8, c9, c10⟩ := cell_of_eleven ((hu.block P (lt_of_block q0)).trans q0)
    obtain ⟨d0, d1, d2, d3, d4⟩ := cell_of_five ((hu.block (P + 1) (lt_of_block q1)).trans q1)
    obtain ⟨e0, e1, e2, e3, e4⟩ := cell_of_five ((hu.block (P + 1 + 1) (lt_of_block q2)).trans q2)
    exact ⟨c0, c1, c2, c3, c4, c5, c6, c7, c8, c9, c10, d0, d1, d2, d3, d4, e0, e1, e2, e3, e4⟩))
  have hav := fun (u : World) (hu : Below W.heap.size W u) => (h.below (hP ▸ (hb.trans (hu.mono hPW))) (Nat.le_refl _))
  have hcd := fun (u : World) (hu : Below W.heap.size W u) => (show CdV u (fun x => x < u.heap.size) (.slice ta d.tests.length tc) d.tests from (hc.keep (fun b hx => (hb.trans (hu.mono hPW)).block b (by omega))).mono (fun x hx => by have := hu.size; omega))
  have hsz := fun (u : World) (hu : Below W.heap.size W u) => (show w.heap.size ≤ u.heap.size by have := hu.size; omega)
  have HL := Lib.hid live9_any
  have H1 := Lib.hid (fun (u : World) (hu : Below W.heap.size W u) => pTest_any c src seq time ty w.heap.size ao n cap xs u (hav u hu) (hsz u hu))
  have H2 := Lib.hid (fun (u : World) (hu : Below W.heap.size W u) => r9Test_any c src seq time ty w.heap.size ao n cap xs u (hav u hu) (hsz u hu))
  have H3 := Lib.hid (fun (u : World) (hu : Below W.heap.size W u) => pTerm_any d ta tc kv src seq time ty w.heap.size ao n cap xs u (hav u hu) (hsz u hu) (hcd u hu) hl hwd hx)
  have H4 := Lib.hid (fun (u : World) (hu : Below W.heap.size W u) => r9Term_any d ta tc kv src seq time ty w.heap.size ao n cap xs u (hav u hu) (hsz u hu) (hcd u hu) hl)
  generalize testB c xs = tb at H1 H2
  generalize termB d ty xs = mb at H3 H4
  have r1 : (tb == tb) = true := by simp
  have r2 : (mb == mb) = true := by simp
  have HP := Lib.hid hP; have HW := Lib.hid hW; have HB := Lib.hid hb; have HPW := Lib.hid hPW
  have B2 := Lib.hid (Below.refl W.heap.size W)
  unfold cdV at H1 H2 ⊢
  rw [← hP]
  clear h hc hl hwd hx hP hW hb q0 q1 q2 hPW hav hcd hsz
  go_enter Try.func3, Try.ntmps3
  go_wp2_with fail
  rw [← HW.out, ← HP.out]
  obtain ⟨c0, c1, c2, c3, c4, c5, c6, c7, c8, c9, c10, d0, d1, d2, d3, d4, e0, e1, e2, e3, e4⟩ := HXC.out _ B2.out
  go_region_held3 (fun u => u.cell? ⟨P, 0, none⟩ = some (.string c.left.var) ∧ u.cell? ⟨P, 1, none⟩ = some (.string c.left.attr) ∧ u.cell? ⟨P, 2, none⟩ = some (.int .i64 c.left.vk) ∧ u.cell? ⟨P, 3, none⟩ = some (.int .i64 c.left.vn) ∧ u.cell? ⟨P, 4, none⟩ = some (.string c.left.vs) ∧ u.cell? ⟨P, 5, none⟩ = some (.int .i64 c.rel) ∧ u.cell? ⟨P, 6, none⟩ = some (.string c.right.var) ∧ u.cell? ⟨P, 7, none⟩ = some (.string c.right.attr) ∧ u.cell? ⟨P, 8, none⟩ = some (.int .i64 c.right.vk) ∧ u.cell? ⟨P, 9, none⟩ = some (.int .i64 c.right.vn) ∧ u.cell? ⟨P, 10, none⟩ = some (.string c.right.vs) ∧ u.cell? ⟨P + 1, 0, none⟩ = some (.int .i64 d.kind) ∧ u.cell? ⟨P + 1, 1, none⟩ = some (.string d.var) ∧ u.cell? ⟨P + 1, 2, none⟩ = some (.string d.ty) ∧ u.cell? ⟨P + 1, 3, none⟩ = some (.slice ta d.tests.length tc) ∧ u.cell? ⟨P + 1, 4, none⟩ = some (kv) ∧ u.cell? ⟨P + 1 + 1, 0, none⟩ = some (.int .i64 src) ∧ u.cell? ⟨P + 1 + 1, 1, none⟩ = some (.int .i64 seq) ∧ u.cell? ⟨P + 1 + 1, 2, none⟩ = some (.int .i64 time) ∧ u.cell? ⟨P + 1 + 1, 3, none⟩ = some (.string ty) ∧ u.cell? ⟨P + 1 + 1, 4, none⟩ = some (.slice ao n cap)) (first | (with_reducible exact ⟨c0, c1, c2, c3, c4, c5, c6, c7, c8, c9, c10, d0, d1, d2, d3, d4, e0, e1, e2, e3, e4⟩) | go_keep)
    (first
      | (go_at_call 8; (with_reducible refine (HL.out _).mono ?_); rintro e u1 ⟨rfl, hb⟩; have B2 := Lib.hid ((show Below W.heap.size W _ by first | exact B2.out | exact B2.out.drew).trans (hb.mono (by first | exact B2.out.size | exact B2.out.drew.size))); clear hb c0 c1 c2 c3 c4 c5 c6 c7 c8 c9 c10 d0 d1 d2 d3 d4 e0 e1 e2 e3 e4; obtain ⟨c0, c1, c2, c3, c4, c5, c6, c7, c8, c9, c10, d0, d1, d2, d3, d4, e0, e1, e2, e3, e4⟩ := HXC.out _ B2.out)
      | (go_at_call 9; (with_reducible refine (H1.out _ (by first | exact B2.out | exact B2.out.drew)).mono ?_); rintro e u1 ⟨rfl, hb⟩; have B2 := Lib.hid ((show Below W.heap.size W _ by first | exact B2.out | exact B2.out.drew).trans (hb.mono (by first | exact B2.out.size | exact B2.out.drew.size))); clear hb c0 c1 c2 c3 c4 c5 c6 c7 c8 c9 c10 d0 d1 d2 d3 d4 e0 e1 e2 e3 e4; obtain ⟨c0, c1, c2, c3, c4, c5, c6, c7, c8, c9, c10, d0, d1, d2, d3, d4, e0, e1, e2, e3, e4⟩ := HXC.out _ B2.out)
      | (go_at_call 10; (with_reducible refine (H2.out _ (by first | exact B2.out | exact B2.out.drew)).mono ?_); rintro e u1 ⟨rfl, hb⟩; have B2 := Lib.hid ((show Below W.heap.size W _ by first | exact B2.out | exact B2.out.drew).trans (hb.mono (by first | exact B2.out.size | exact B2.out.drew.size))); clear hb c0 c1 c2 c3 c4 c5 c6 c7 c8 c9 c10 d0 d1 d2 d3 d4 e0 e1 e2 e3 e4; obtain ⟨c0, c1, c2, c3, c4, c5, c6, c7, c8, c9, c10, d0, d1, d2, d3, d4, e0, e1, e2, e3, e4⟩ := HXC.out _ B2.out)
      | (go_at_call 11; (with_reducible refine (H3.out _ (by first | exact B2.out | exact B2.out.drew)).mono ?_); rintro e u1 ⟨rfl, hb⟩; have B2 := Lib.hid ((show Below W.heap.size W _ by first | exact B2.out | exact B2.out.drew).trans (hb.mono (by first | exact B2.out.size | exact B2.out.drew.size))); clear hb c0 c1 c2 c3 c4 c5 c6 c7 c8 c9 c10 d0 d1 d2 d3 d4 e0 e1 e2 e3 e4; obtain ⟨c0, c1, c2, c3, c4, c5, c6, c7, c8, c9, c10, d0, d1, d2, d3, d4, e0, e1, e2, e3, e4⟩ := HXC.out _ B2.out)
      | (go_at_call 12; (with_reducible refine (H4.out _ (by first | exact B2.out | exact B2.out.drew)).mono ?_); rintro e u1 ⟨rfl, hb⟩; have B2 := Lib.hid ((show Below W.heap.size W _ by first | exact B2.out | exact B2.out.drew).trans (hb.mono (by first | exact B2.out.size | exact B2.out.drew.size))); clear hb c0 c1 c2 c3 c4 c5 c6 c7 c8 c9 c10 d0 d1 d2 d3 d4 e0 e1 e2 e3 e4; obtain ⟨c0, c1, c2, c3, c4, c5, c6, c7, c8, c9, c10, d0, d1, d2, d3, d4, e0, e1, e2, e3, e4⟩ := HXC.out _ B2.out))
  all_goals go_wp2
  all_goals go_ret
  all_goals exact ⟨rfl, HB.out.trans (B2.out.mono HPW.out)⟩
end Go.Proofs.Ytpbloplbpkedcaa
