/- Contract: live of layer 7's statements. -/
import Derived.Test.YtnfjodkpapmfkaaPt7
import Derived.Test.YtnfjodkpapmfkaaEq7
namespace Go.Proofs.Ytnfjodkpapmfkaa
open Go Go.RowKit Go.Maps Go.Sort

def ndA : Nt := ⟨1, ⟨#[97]⟩, ⟨#[65]⟩, []⟩
def kids2 : Fo := .cons ndA .nil (.cons ndA .nil .nil)
def ndS : Nt := ⟨2, em, em, []⟩
def ndO : Nt := ⟨4, em, em, []⟩
def pS : Pt := ⟨⟨#[112]⟩, 5, ndS, kids2, []⟩
def pO : Pt := ⟨⟨#[112]⟩, 5, ndO, kids2, []⟩
theorem pS_is : patE pS = 73 := by decide +kernel
theorem pO_is : patE pO = 0 := by decide +kernel
theorem sO_is : sureN ndO kids2 = [[97]] := by decide +kernel
theorem tO_is : termsN kids2 = 2 := by decide +kernel
theorem sz_is : szP pS ≤ 1048576 ∧ szP pO ≤ 1048576 ∧ szD ndO + szF kids2 ≤ 1048576 := by decide +kernel

theorem kids2_at {w : World} {q : Nat} {t : TypeId} (G : Nat → Prop) (h : w.heap[q]? = some (.cells #[.int .i64 1, .string ⟨#[97]⟩, .string ⟨#[65]⟩, .slice none 0 0, .slice none 0 0, .int .i64 1, .string ⟨#[97]⟩, .string ⟨#[65]⟩, .slice none 0 0, .slice none 0 0] t (0, 0))) : FoAt w G kids2 q 0 := by
  have c : ∀ i u, (#[.int .i64 1, .string ⟨#[97]⟩, .string ⟨#[65]⟩, .slice none 0 0, .slice none 0 0, .int .i64 1, .string ⟨#[97]⟩, .string ⟨#[65]⟩, .slice none 0 0, .slice none 0 0] : Array Value)[i]? = some u → w.cell? ⟨q, i, none⟩ = some u := fun i u hu => by
    simp only [World.cell?, h]
    exact hu
  refine ⟨⟨none, 0, none, 0, c 0 _ rfl, c 1 _ rfl, c 2 _ rfl, c 3 _ rfl, c 4 _ rfl, ⟨none, 0, rfl, fun h => absurd rfl h⟩, fun h => by cases h⟩, ⟨none, 0, none, 0, c 5 _ rfl, c 6 _ rfl, c 7 _ rfl, c 8 _ rfl, c 9 _ rfl, ⟨none, 0, rfl, fun h => absurd rfl h⟩, fun h => by cases h⟩, trivial⟩
set_option maxRecDepth 100000 in
set_option maxHeartbeats 2000000 in
theorem live7_any (w : World) : Calls Try.prog 12 #[] w fun e w' => e = .returned (.bool true) ∧ Below w.heap.size w w' := by
  obtain ⟨P, hP⟩ : ∃ P, P = w.heap.size := ⟨_, rfl⟩
  obtain ⟨W1, hW1⟩ : ∃ W1, W1 = w.alloc (.cells #[.int .i64 1, .string ⟨#[97]⟩, .string ⟨#[65]⟩, .slice none 0 0, .slice none 0 0] 25) := ⟨_, rfl⟩
  have hz1 : W1.heap.size = P + 1 := by rw [hW1, hP]; simp
  obtain ⟨W2, hW2⟩ : ∃ W2, W2 = W1.alloc (.cells #[.int .i64 1, .string ⟨#[97]⟩, .string ⟨#[65]⟩, .slice none 0 0, .slice none 0 0, .int .i64 1, .string ⟨#[97]⟩, .string ⟨#[65]⟩, .slice none 0 0, .slice none 0 0] 25) := ⟨_, rfl⟩
  have hz2 : W2.heap.size = P + 2 := by rw [hW2]; simp [hz1]
  obtain ⟨W3, hW3⟩ : ∃ W3, W3 = W2.alloc (.cells #[.string ⟨#[112]⟩, .int .i64 5, .int .i64 2, .string ⟨#[]⟩, .string ⟨#[]⟩, .slice none 0 0, .slice (some ⟨P + 1, 0, none⟩) 2 2, .slice none 0 0] 27) := ⟨_, rfl⟩
  have hz3 : W3.heap.size = P + 3 := by rw [hW3]; simp [hz2]
  obtain ⟨W4, hW4⟩ : ∃ W4, W4 = W3.alloc (.cells #[.string ⟨#[112]⟩, .int .i64 5, .int .i64 4, .string ⟨#[]⟩, .string ⟨#[]⟩, .slice none 0 0, .slice (some ⟨P + 1, 0, none⟩) 2 2, .slice none 0 0] 27) := ⟨_, rfl⟩
  have hz4 : W4.heap.size = P + 4 := by rw [hW4]; simp [hz3]
  have hq : W4.heap[P + 1]? = some (.cells #[.int .i64 1, .string ⟨#[97]⟩, .string ⟨#[65]⟩, .slice none 0 0, .slice none 0 0, .int .i64 1, .string ⟨#[97]⟩, .string ⟨#[65]⟩, .slice none 0 0, .slice none 0 0] 25 (0, 0)) := by
    rw [hW4, hW3]
    refine heap_alloc_keeps (heap_alloc_keeps ?_ _) _
    have := heap_alloc_new W1 (.cells #[.int .i64 1, .string ⟨#[97]⟩, .string ⟨#[65]⟩, .slice none 0 0, .slice none 0 0, .int .i64 1, .string ⟨#[97]⟩, .string ⟨#[65]⟩, .slice none 0 0, .slice none 0 0] 25)
    rw [hz1, ← hW2] at this
    exact this
  have hr : W4.heap[P + 3]? = some (.cells #[.string ⟨#[112]⟩, .int .i64 5, .int .i64 4, .string ⟨#[]⟩, .string ⟨#[]⟩, .slice none 0 0, .slice (some ⟨P + 1, 0, none⟩) 2 2, .slice none 0 0] 27 (0, 0)) := by
    have := heap_alloc_new W3 (.cells #[.string ⟨#[112]⟩, .int .i64 5, .int .i64 4, .string ⟨#[]⟩, .string ⟨#[]⟩, .slice none 0 0, .slice (some ⟨P + 1, 0, none⟩) 2 2, .slice none 0 0] 27)
    rw [hz3, ← hW4] at this
    exact this
  have hb4 : Below w.heap.size w W4 := by
    have h1 : Below w.heap.size w W1 := by rw [hW1]; exact (Below.refl _ _).alloc (Nat.le_refl _) _
    have h2 : Below w.heap.size w W2 := by rw [hW2]; exact h1.alloc h1.size _
    have h3 : Below w.heap.size w W3 := by rw [hW3]; exact h2.alloc h2.size _
    rw [hW4]; exact h3.alloc h3.size _
  have hkv : ∀ u, Below W4.heap.size W4 u → KdV u (fun x => x < u.heap.size) (.slice (some ⟨P + 1, 0, none⟩) kids2.len 2) kids2 := fun u hu =>
    ⟨_, 2, rfl, fun _ => ⟨P + 1, 0, rfl, by have := hu.size; omega, kids2_at _ ((hu.block _ (by omega)).trans hq)⟩⟩
  have hcd : ∀ (u : World) (G : Nat → Prop), CdV u G (.slice none 0 0) [] := fun u G => ⟨none, 0, rfl, fun h => absurd rfl h⟩
  have HX := Lib.hid (fun (u : World) (hu : Below W4.heap.size W4 u) => cell_of_eight ((hu.block (P + 3) (by omega)).trans hr))
  have H1 := Lib.hid (fun (u : World) (hu : Below W4.heap.size W4 u) => cPattern_any pS (.agg #[.string ⟨#[112]⟩, .int .i64 5, .int .i64 2, .string ⟨#[]⟩, .string ⟨#[]⟩, .slice none 0 0, .slice (some ⟨P + 1, 0, none⟩) 2 2, .slice none 0 0]) u ⟨none, 0, _, 2, none, 0, rfl, hcd _ _, hkv u hu, hcd _ _⟩ sz_is.1)
  have H2 := Lib.hid (fun (u : World) (hu : Below W4.heap.size W4 u) => cPattern_any pO (.agg #[.string ⟨#[112]⟩, .int .i64 5, .int .i64 4, .string ⟨#[]⟩, .string ⟨#[]⟩, .slice none 0 0, .slice (some ⟨P + 1, 0, none⟩) 2 2, .slice none 0 0]) u ⟨none, 0, _, 2, none, 0, rfl, hcd _ _, hkv u hu, hcd _ _⟩ sz_is.2.1)
  have H3 := Lib.hid (fun (u : World) (hu : Below W4.heap.size W4 u) => cSure_any ndO kids2 (.agg #[.int .i64 4, .string ⟨#[]⟩, .string ⟨#[]⟩, .slice none 0 0, .slice (some ⟨P + 1, 0, none⟩) 2 2]) u ⟨_, _, rfl, hcd _ _, hkv u hu⟩ sz_is.2.2)
  have H4 := Lib.hid (fun (u : World) (hu : Below W4.heap.size W4 u) => cTerms_any ndO kids2 (.agg #[.int .i64 4, .string ⟨#[]⟩, .string ⟨#[]⟩, .slice none 0 0, .slice (some ⟨P + 1, 0, none⟩) 2 2]) u ⟨_, _, rfl, hcd _ _, hkv u hu⟩ sz_is.2.2)
  have H5 := Lib.hid (fun (u : World) (ao : Option Addr) (cap : Nat) (hs : SsV u (fun x => x < u.heap.size) (.slice ao 1 cap) [[97]]) => (by
    have hq : (u.alloc (.cells #[.string ⟨#[97]⟩] 9)).heap[u.heap.size]? = some (.cells #[.string ⟨#[97]⟩] 9 (0, 0)) := heap_alloc_new _ _
    have hs2 : SsV (u.alloc (.cells #[.string ⟨#[97]⟩] 9)) (fun x => x < u.heap.size + 1) (.slice ao 1 cap) [[97]] := (hs.keep (fun x hx => Below.heap_alloc _ _ _ hx)).mono (fun x hx => by omega)
    have hs3 : SsV (u.alloc (.cells #[.string ⟨#[97]⟩] 9)) (fun x => x < u.heap.size + 1) (.slice (some ⟨u.heap.size, 0, none⟩) 1 1) [[97]] := ⟨_, 1, rfl, fun _ => ⟨u.heap.size, 0, rfl, Nat.lt_succ_self _, fun j x hj => by
      cases j with
      | zero =>
        cases hj
        exact cell_of_one hq
      | succ j => simp at hj⟩⟩
    have := EqualStr_any [[97]] [[97]] _ _ _ _ hs2 hs3 (by decide)
    simpa using this : Calls Try.prog 22 #[.slice ao 1 cap, .slice (some ⟨u.heap.size, 0, none⟩) 1 1] (u.alloc (.cells #[.string ⟨#[97]⟩] 9)) fun e w' => e = .returned (.bool true) ∧ ∃ q, w' = (u.alloc (.cells #[.string ⟨#[97]⟩] 9)).drewN q))
  rw [pS_is] at H1
  rw [pO_is] at H2
  rw [sO_is] at H3
  rw [tO_is] at H4
  have HB := Lib.hid hb4; have HW1 := Lib.hid hW1; have HW2 := Lib.hid hW2; have HW3 := Lib.hid hW3; have HW4 := Lib.hid hW4; have HP := Lib.hid hP
  have HR := Lib.hid (Below.refl W4.heap.size W4)
  clear hz1 hz2 hz3 hz4 hW1 hW2 hW3 hW4 hP hq hr hb4 hkv hcd
  go_enter Try.func12, Try.ntmps12
  go_wp2_with fail
  rw [← HP.out, show P + 1 + 1 = P + 2 from rfl, show P + 2 + 1 = P + 3 from rfl, ← HW1.out, ← HW2.out, ← HW3.out, ← HW4.out]
  obtain ⟨x0, x1, x2, x3, x4, x5, x6, x7⟩ := HX.out _ HR.out
  go_wp2_with (first
    | (go_at_call 23; (with_reducible refine (H1.out _ HR.out).mono ?_); rintro e u1 ⟨rfl, hb⟩; clear H1; have HU1 := Lib.hid hb; clear hb x0 x1 x2 x3 x4 x5 x6 x7; obtain ⟨x0, x1, x2, x3, x4, x5, x6, x7⟩ := HX.out _ HU1.out)
    | (go_at_call 23; (with_reducible refine (H2.out _ HU1.out).mono ?_); rintro e u2 ⟨rfl, hb⟩; have HU2 := Lib.hid (HU1.out.trans (hb.mono HU1.out.size)); clear hb x0 x1 x2 x3 x4 x5 x6 x7; obtain ⟨x0, x1, x2, x3, x4, x5, x6, x7⟩ := HX.out _ HU2.out)
    | (go_at_call 19; (with_reducible refine (H3.out _ HU2.out).mono ?_); rintro e u3 ⟨v, rfl, hs, hb⟩; obtain ⟨ao, cap, rfl⟩ := hs.shape; have HU3 := Lib.hid (HU2.out.trans (hb.mono HU2.out.size)); have HSS := Lib.hid hs.lt; clear hs hb x0 x1 x2 x3 x4 x5 x6 x7)
    | (go_at_call 22; (with_reducible refine (H5.out _ ao cap HSS.out).mono ?_); rintro e u4 ⟨rfl, n, rfl⟩; have HU4 := Lib.hid (below_dn7 (HU3.out.alloc HU3.out.size (.cells #[.string ⟨#[97]⟩] 9)) n); obtain ⟨x0, x1, x2, x3, x4, x5, x6, x7⟩ := HX.out _ HU4.out)
    | (go_at_call 52; (with_reducible refine (H4.out _ HU4.out).mono ?_); rintro e u5 ⟨rfl, hb⟩; have HU5 := Lib.hid (HU4.out.trans (hb.mono HU4.out.size)); clear hb))
  go_ret
  exact ⟨rfl, HB.out.trans (HU5.out.mono HB.out.size)⟩
end Go.Proofs.Ytnfjodkpapmfkaa
