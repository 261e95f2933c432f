/- Contract: live of layer 9's statements. -/
import Derived.Test.YtpbloplbpkedcaaRk9
import Derived.Test.YtpbloplbpkedcaaEq7
namespace Go.Proofs.Ytpbloplbpkedcaa
open Go Go.RowKit Go.Sort

def c9 : Cnd := ⟨⟨⟨#[]⟩, ⟨#[120]⟩, 0, 0, ⟨#[]⟩⟩, 5, ⟨⟨#[]⟩, ⟨#[]⟩, 1, 3, ⟨#[]⟩⟩⟩
def x9 : At := ⟨⟨#[120]⟩, 1, 5, ⟨#[]⟩⟩
def n9 : Nt := ⟨1, ⟨#[]⟩, ⟨#[65]⟩, [c9]⟩
theorem own9_a : ownL c9.left [x9] = ⟨1, 5, ⟨#[]⟩⟩ := by
  unfold ownL
  rw [if_neg (by decide)]
  unfold getL isNm c9 x9
  simp
theorem own9_b : ownL c9.left [] = ⟨0, 0, ⟨#[]⟩⟩ := by
  unfold ownL
  rw [if_neg (by decide)]
  rfl
theorem own9_r (xs : List At) : ownL c9.right xs = ⟨1, 3, ⟨#[]⟩⟩ := by
  unfold ownL
  rw [if_pos (by decide)]
  rfl
theorem test9_a : testB c9 [x9] = true := by
  unfold testB
  rw [own9_a, own9_r]
  decide
theorem test9_b : testB c9 [] = false := by
  unfold testB
  rw [own9_b, own9_r]
  decide
theorem term9 : termB n9 ⟨#[65]⟩ [x9] = true := by
  rw [termB_ok (by decide) (by decide)]
  show (testB c9 [x9] && true) = true
  rw [test9_a]; rfl
theorem names9 : namesC c9 = [[]] := by
  have h : varsC c9 = [[]] := by decide
  unfold namesC
  rw [h]
  have h2 : sortS [[]] = [[]] := by unfold sortS; simp
  rw [h2]
  decide +kernel

set_option maxRecDepth 100000 in
set_option maxHeartbeats 2000000 in
theorem live9_any (w : World) : Calls Try.prog 8 #[] w fun e w' => e = .returned (.bool true) ∧ Below w.heap.size w w' := by
  obtain ⟨P, hP⟩ : ∃ P, P = w.heap.size := ⟨_, rfl⟩
  obtain ⟨W1, hW1⟩ : ∃ W1, W1 = w.alloc (.cells #[.string ⟨#[]⟩, .string ⟨#[120]⟩, .int .i64 0, .int .i64 0, .string ⟨#[]⟩, .int .i64 5, .string ⟨#[]⟩, .string ⟨#[]⟩, .int .i64 1, .int .i64 3, .string ⟨#[]⟩] 27) := ⟨_, rfl⟩
  have hz1 : W1.heap.size = P + 1 := by rw [hW1, hP]; simp
  obtain ⟨W2, hW2⟩ : ∃ W2, W2 = W1.alloc (.cells #[.string ⟨#[120]⟩, .int .i64 1, .int .i64 5, .string ⟨#[]⟩] 78) := ⟨_, rfl⟩
  have hz2 : W2.heap.size = P + 2 := by rw [hW2]; simp [hz1]
  obtain ⟨W3, hW3⟩ : ∃ W3, W3 = W2.alloc (.cells #[.int .i64 0, .int .i64 0, .int .i64 0, .string ⟨#[65]⟩, .slice (some ⟨P + 1, 0, none⟩) 1 1] 36) := ⟨_, rfl⟩
  have hz3 : W3.heap.size = P + 3 := by rw [hW3]; simp [hz2]
  have hq0 : W3.heap[P]? = some (.cells #[.string ⟨#[]⟩, .string ⟨#[120]⟩, .int .i64 0, .int .i64 0, .string ⟨#[]⟩, .int .i64 5, .string ⟨#[]⟩, .string ⟨#[]⟩, .int .i64 1, .int .i64 3, .string ⟨#[]⟩] 27 (0, 0)) := by
    rw [hW3, heap_alloc_old _ _ (by omega), hW2, heap_alloc_old _ _ (by omega), hW1, hP]; exact heap_alloc_new _ _
  have hq1 : W3.heap[P + 1]? = some (.cells #[.string ⟨#[120]⟩, .int .i64 1, .int .i64 5, .string ⟨#[]⟩] 78 (0, 0)) := by
    rw [hW3, heap_alloc_old _ _ (by omega), hW2, ← hz1]; exact heap_alloc_new _ _
  have hq2 : W3.heap[P + 2]? = some (.cells #[.int .i64 0, .int .i64 0, .int .i64 0, .string ⟨#[65]⟩, .slice (some ⟨P + 1, 0, none⟩) 1 1] 36 (0, 0)) := by
    rw [hW3, ← hz2]; exact heap_alloc_new _ _
  have hb3 : Below w.heap.size w W3 := by
    have h1 : Below w.heap.size w W1 := by rw [hW1]; exact (Below.refl _ _).alloc (Nat.le_refl _) _
    have h2 : Below w.heap.size w W2 := by rw [hW2]; exact h1.alloc h1.size _
    rw [hW3]; exact h2.alloc h2.size _
  have hav : ∀ u, Below W3.heap.size W3 u → Av u (P + 2) (.slice (some ⟨P + 1, 0, none⟩) [x9].length 1) [x9] := fun u hu => by
    have hq := (hu.block (P + 1) (by omega)).trans hq1
    refine ⟨fun x hx => ?_, by decide, some ⟨P + 1, 0, none⟩, 1, rfl, by decide, by decide, fun _ => ⟨P + 1, 0, rfl, by omega, fun j hj i v hv => ?_⟩⟩
    · simp at hx; subst hx; unfold x9; exact ⟨by decide, by decide⟩
    · have hj0 : j = 0 := by simpa using hj
      subst hj0
      simp only [World.cell?, hq]
      rw [← hv]
      simp [enc4, x9]
  have HX := Lib.hid (fun (u : World) (hu : Below W3.heap.size W3 u) => (⟨cell_of_eleven ((hu.block P (by omega)).trans hq0), cell_of_five ((hu.block (P + 2) (by omega)).trans hq2)⟩ : _ ∧ _))
  have H1 := Lib.hid (fun (u : World) (hu : Below W3.heap.size W3 u) => pTest_any c9 0 0 0 ⟨#[65]⟩ (P + 2) (some ⟨P + 1, 0, none⟩) 1 1 [x9] u (hav u hu) (by have := hu.size; omega))
  have H2 := Lib.hid (fun (u : World) (hu : Below W3.heap.size W3 u) => pTest_any c9 0 0 0 ⟨#[]⟩ 0 none 0 0 [] u (Av.nil _ _) (Nat.zero_le _))
  have H3 := Lib.hid (fun (u : World) (hu : Below W3.heap.size W3 u) (b : Nat) (hbl : b < u.heap.size) (hq : u.heap[b]? = some (.cells #[.string ⟨#[]⟩, .string ⟨#[120]⟩, .int .i64 0, .int .i64 0, .string ⟨#[]⟩, .int .i64 5, .string ⟨#[]⟩, .string ⟨#[]⟩, .int .i64 1, .int .i64 3, .string ⟨#[]⟩] 27 (0, 0))) =>
    pTerm_few n9 (some ⟨b, 0, none⟩) 1 (.slice none 0 0) 0 0 0 ⟨#[65]⟩ (P + 2) (some ⟨P + 1, 0, none⟩) 1 1 [x9] u (hav u hu) (by have := hu.size; omega) ⟨_, 1, rfl, fun _ => ⟨b, 0, rfl, hbl, ⟨fun j v hv => by
      simp only [World.cell?, hq]
      rw [← hv]
      simp [encC, c9], trivial⟩⟩⟩ (by decide))
  have H4 := Lib.hid (fun (u : World) => pNames_any c9 u)
  have H5 := Lib.hid (fun (u : World) (v' : Value) (hs : SsV u (fun x => x < u.heap.size) v' [[]]) => (by
    have hq : (u.alloc (.cells #[.string ⟨#[]⟩] 9)).heap[u.heap.size]? = some (.cells #[.string ⟨#[]⟩] 9 (0, 0)) := heap_alloc_new _ _
    have hs2 : SsV (u.alloc (.cells #[.string ⟨#[]⟩] 9)) (fun x => x < u.heap.size + 1) v' [[]] := (hs.keep (fun x hx => heap_alloc_old _ _ hx)).mono (fun x hx => by omega)
    have hs3 : SsV (u.alloc (.cells #[.string ⟨#[]⟩] 9)) (fun x => x < u.heap.size + 1) (.slice (some ⟨u.heap.size, 0, none⟩) 1 1) [[]] := ⟨_, 1, rfl, fun _ => ⟨u.heap.size, 0, rfl, Nat.lt_succ_self _, fun j x hj => by
      cases j with
      | zero =>
        cases hj
        exact cell_of_one hq
      | succ j => simp at hj⟩⟩
    have := EqualStr_any [[]] [[]] _ _ _ _ hs2 hs3 (by decide)
    simpa using this : Calls Try.prog 33 #[v', .slice (some ⟨u.heap.size, 0, none⟩) 1 1] (u.alloc (.cells #[.string ⟨#[]⟩] 9)) fun e w' => e = .returned (.bool true) ∧ ∃ q, w' = (u.alloc (.cells #[.string ⟨#[]⟩] 9)).drewN q))
  rw [test9_a] at H1
  rw [test9_b] at H2
  rw [term9] at H3
  rw [names9] at H4
  have H3 : Hid (∀ (u : World) (hu : Below W3.heap.size W3 u) (b : Nat) (hbl : b < u.heap.size) (hq : u.heap[b]? = some (.cells #[.string ⟨#[]⟩, .string ⟨#[120]⟩, .int .i64 0, .int .i64 0, .string ⟨#[]⟩, .int .i64 5, .string ⟨#[]⟩, .string ⟨#[]⟩, .int .i64 1, .int .i64 3, .string ⟨#[]⟩] 27 (0, 0))),
      Calls Try.prog 11 #[.agg #[.int .i64 1, .string ⟨#[]⟩, .string ⟨#[65]⟩, .slice (some ⟨b, 0, none⟩) 1 1, .slice none 0 0], .agg #[.int .i64 0, .int .i64 0, .int .i64 0, .string ⟨#[65]⟩, .slice (some ⟨P + 1, 0, none⟩) 1 1]] u fun e w' => e = .returned (.bool true) ∧ Below u.heap.size u w') := H3
  unfold cdV c9 at H1 H2 H4
  simp only at H1 H2 H4
  have HZ3 := Lib.hid hz3
  have HB := Lib.hid hb3; have HW1 := Lib.hid hW1; have HW2 := Lib.hid hW2; have HW3 := Lib.hid hW3; have HP := Lib.hid hP
  have HR := Lib.hid (Below.refl W3.heap.size W3)
  clear hz1 hz2 hz3 hW1 hW2 hW3 hP hq0 hq1 hq2 hb3 hav
  go_enter Try.func8, Try.ntmps8
  go_wp2_with fail
  rw [← HP.out, show P + 1 + 1 = P + 2 from rfl, ← HW1.out, ← HW2.out, ← HW3.out]
  obtain ⟨⟨x0, x1, x2, x3, x4, x5, x6, x7, x8, x9', x10⟩, y0, y1, y2, y3, y4⟩ := HX.out _ HR.out
  go_wp2_with (first
    | (go_at_call 9; (with_reducible refine (H1.out _ HR.out).mono ?_); rintro e u1 ⟨rfl, hb⟩; have HU1 := Lib.hid hb; clear hb x0 x1 x2 x3 x4 x5 x6 x7 x8 x9' x10 y0 y1 y2 y3 y4; obtain ⟨⟨x0, x1, x2, x3, x4, x5, x6, x7, x8, x9', x10⟩, y0, y1, y2, y3, y4⟩ := HX.out _ HU1.out)
    | (go_at_call 9; (with_reducible refine (H2.out _ HU1.out).mono ?_); rintro e u2 ⟨rfl, hb⟩; have HU2 := Lib.hid (HU1.out.trans (hb.mono HU1.out.size)); clear hb x0 x1 x2 x3 x4 x5 x6 x7 x8 x9' x10 y0 y1 y2 y3 y4; obtain ⟨⟨x0, x1, x2, x3, x4, x5, x6, x7, x8, x9', x10⟩, y0, y1, y2, y3, y4⟩ := HX.out _ HU2.out; have hne2 : P + 2 ≠ u2.heap.size := (by have := HZ3.out; have := HU2.out.size; omega); have hlt2 : P + 2 < u2.heap.size := (by have := HZ3.out; have := HU2.out.size; omega); have HA2 := Lib.hid (HU2.out.alloc HU2.out.size (.cells #[.string ⟨#[]⟩, .string ⟨#[120]⟩, .int .i64 0, .int .i64 0, .string ⟨#[]⟩, .int .i64 5, .string ⟨#[]⟩, .string ⟨#[]⟩, .int .i64 1, .int .i64 3, .string ⟨#[]⟩] 27)); have HN2 := Lib.hid (heap_alloc_new u2 (.cells #[.string ⟨#[]⟩, .string ⟨#[120]⟩, .int .i64 0, .int .i64 0, .string ⟨#[]⟩, .int .i64 5, .string ⟨#[]⟩, .string ⟨#[]⟩, .int .i64 1, .int .i64 3, .string ⟨#[]⟩] 27)))
    | (go_at_call 11; (with_reducible refine (H3.out _ HA2.out u2.heap.size (lt_of_block HN2.out) HN2.out).mono ?_); rintro e u3 ⟨rfl, hb⟩; have HU3 := Lib.hid (HA2.out.trans (hb.mono HA2.out.size)); clear hb x0 x1 x2 x3 x4 x5 x6 x7 x8 x9' x10 y0 y1 y2 y3 y4; obtain ⟨⟨x0, x1, x2, x3, x4, x5, x6, x7, x8, x9', x10⟩, y0, y1, y2, y3, y4⟩ := HX.out _ HU3.out)
    | (go_at_call 34; (with_reducible refine (H4.out _).mono ?_); rintro e u4 ⟨v', rfl, hs, hb⟩; have HU4 := Lib.hid (HU3.out.trans (hb.mono HU3.out.size)); have HS4 := Lib.hid hs; clear hs hb x0 x1 x2 x3 x4 x5 x6 x7 x8 x9' x10 y0 y1 y2 y3 y4)
    | (go_at_call 33; (with_reducible refine (H5.out _ _ HS4.out).mono ?_); rintro e u5 ⟨rfl, n, rfl⟩; have HU5 := Lib.hid (below_dn7 (HU4.out.alloc HU4.out.size (.cells #[.string ⟨#[]⟩] 9)) n)))
  go_ret
  exact ⟨rfl, HB.out.trans (HU5.out.mono HB.out.size)⟩
end Go.Proofs.Ytpbloplbpkedcaa
