/- Contract: the document's Shape. -/
import Derived.Test.YtmjajoepgilokaaRv7
namespace Go.Proofs.Ytmjajoepgilokaa
open Go Go.RowKit

set_option maxRecDepth 100000 in
set_option maxHeartbeats 2000000 in
theorem r7Shape_any (d : Nt) (k : Fo) (v : Value) (w : World) (hv : NdV w (fun x => x < w.heap.size) d k v) (hsz : szD d + szF k ≤ 1048576) :
    Calls Try.prog 20 #[v] w fun e w' => e = .returned (.int .i64 (shapeN d k)) ∧ Below w.heap.size w w' := by
  obtain ⟨ta, tc, ka, kc, rfl⟩ := hv.shape
  obtain ⟨W, hW⟩ : ∃ W, W = w.alloc (.cells #[.int .i64 d.kind, .string d.var, .string d.ty, .slice ta d.tests.length tc, .slice ka k.len kc] 25) := ⟨_, rfl⟩
  have hq := heap_alloc_new w (.cells #[.int .i64 d.kind, .string d.var, .string d.ty, .slice ta d.tests.length tc, .slice ka k.len kc] 25)
  have hb0 : Below w.heap.size w W := by rw [hW]; exact (Below.refl _ _).alloc (Nat.le_refl _) _
  rw [← hW] at hq
  have hz : W.heap.size = w.heap.size + 1 := by rw [hW]; simp
  obtain ⟨P, hP⟩ : ∃ P, P = w.heap.size := ⟨_, rfl⟩
  have hkv : ∀ u, Below W.heap.size W u → NdV u (fun x => x < u.heap.size) d k (.agg #[.int .i64 d.kind, .string d.var, .string d.ty, .slice ta d.tests.length tc, .slice ka k.len kc]) := fun u hu =>
    (hv.keep (fun x hx => (hu.block x (Nat.lt_of_lt_of_le hx hb0.size)).trans (hb0.block x hx))).mono (fun x hx => Nat.lt_of_lt_of_le hx (Nat.le_trans hb0.size hu.size))
  have HD := Lib.hid (fun (u : World) (hu : Below W.heap.size W u) => r7Deep_any d k u _ (hkv u hu) hsz)
  have HT := Lib.hid (fun (u : World) (hu : Below W.heap.size W u) => r7Terms_any d k u _ (hkv u hu) hsz)
  have HN := Lib.hid (fun (u : World) (hu : Below W.heap.size W u) => r7node_any d k u _ (hkv u hu) hsz)
  have HA := Lib.hid (fun (u : World) (hu : Below W.heap.size W u) => r7Alts_any d k u _ (hkv u hu) hsz)
  have HX := Lib.hid (fun (u : World) (hu : Below W.heap.size W u) => (by
    have := (hu.block P (by omega)).trans (hP ▸ hq)
    simp [World.cell?, this] : u.cell? ⟨P, 0, none⟩ = some (.int .i64 d.kind) ∧ u.cell? ⟨P, 1, none⟩ = some (.string d.var) ∧ u.cell? ⟨P, 2, none⟩ = some (.string d.ty) ∧ u.cell? ⟨P, 3, none⟩ = some (.slice ta d.tests.length tc) ∧ u.cell? ⟨P, 4, none⟩ = some (.slice ka k.len kc)))
  have HE := Lib.hid (fun (u : World) (hu : Below W.heap.size W u) => hb0.trans (hu.mono hb0.size))
  have HW := Lib.hid hW; have HP := Lib.hid hP
  have HR := Lib.hid (Below.refl W.heap.size W)
  clear hv hsz hq hb0 hz hkv hW hP
  unfold shapeN
  by_cases h1 : 8 < deepF k + 1
  · rw [if_pos (Or.inl h1)]
    have g1 : (8 : Int) < ((deepF k + 1 : Nat) : Int) := by omega
    have g1' := decide_eq_true g1
    generalize ((deepF k + 1 : Nat) : Int) = D at *
    clear h1 HT HN HA
    go_enter Try.func20, Try.ntmps20
    go_wp2_with fail
    rw [← HW.out, ← HP.out]
    obtain ⟨x0, x1, x2, x3, x4⟩ := HX.out _ HR.out
    go_wp2_with (first | (go_at_call 16; (with_reducible refine (HD.out _ HR.out).mono ?_); rintro e u1 ⟨rfl, hb⟩; have HU1 := Lib.hid (HR.out.trans (hb.mono HR.out.size)); clear hb x0 x1 x2 x3 x4; obtain ⟨x0, x1, x2, x3, x4⟩ := HX.out _ HU1.out))
    go_ret
    exact ⟨rfl, by first | exact HE.out _ HU1.out | (rw [HP.out]; exact HE.out _ HU1.out)⟩
  · have g1 : ¬ (8 : Int) < ((deepF k + 1 : Nat) : Int) := by omega
    have g1' := decide_eq_false g1
    by_cases h2 : 12 < termsN k
    · rw [if_pos (Or.inr h2)]
      have g2 : (12 : Int) < (termsN k : Int) := by omega
      have g2' := decide_eq_true g2
      generalize ((deepF k + 1 : Nat) : Int) = D at *
      generalize ((termsN k : Nat) : Int) = T at *
      clear h1 h2 HN HA
      go_enter Try.func20, Try.ntmps20
      go_wp2_with fail
      rw [← HW.out, ← HP.out]
      obtain ⟨x0, x1, x2, x3, x4⟩ := HX.out _ HR.out
      go_wp2_with (first | (go_at_call 16; (with_reducible refine (HD.out _ HR.out).mono ?_); rintro e u1 ⟨rfl, hb⟩; have HU1 := Lib.hid (HR.out.trans (hb.mono HR.out.size)); clear hb x0 x1 x2 x3 x4; obtain ⟨x0, x1, x2, x3, x4⟩ := HX.out _ HU1.out) | (go_at_call 14; (with_reducible refine (HT.out _ HU1.out).mono ?_); rintro e u2 ⟨rfl, hb⟩; have HU2 := Lib.hid (HU1.out.trans (hb.mono HU1.out.size)); clear hb x0 x1 x2 x3 x4; obtain ⟨x0, x1, x2, x3, x4⟩ := HX.out _ HU2.out))
      go_ret
      exact ⟨rfl, by first | exact HE.out _ HU2.out | (rw [HP.out]; exact HE.out _ HU2.out)⟩
    · rw [if_neg (show ¬ (8 < deepF k + 1 ∨ 12 < termsN k) from fun h => h.elim h1 h2)]
      have g2 : ¬ (12 : Int) < (termsN k : Int) := by omega
      have g2' := decide_eq_false g2
      generalize ((deepF k + 1 : Nat) : Int) = D at *
      generalize ((termsN k : Nat) : Int) = T at *
      clear h1 h2
      by_cases h0 : nodeN d k = 0
      · rw [h0] at HN ⊢
        rw [if_neg (show ¬ ((0 : Int) ≠ 0) from by simp)]
        by_cases h3 : 64 < altsN d k
        · have g3 : (64 : Int) < (altsN d k : Int) := by omega
          have g3' := decide_eq_true g3
          rw [if_pos h3]
          generalize ((altsN d k : Nat) : Int) = Q at *
          clear h3 h0
          go_enter Try.func20, Try.ntmps20
          go_wp2_with fail
          rw [← HW.out, ← HP.out]
          obtain ⟨x0, x1, x2, x3, x4⟩ := HX.out _ HR.out
          go_wp2_with (first | (go_at_call 16; (with_reducible refine (HD.out _ HR.out).mono ?_); rintro e u1 ⟨rfl, hb⟩; have HU1 := Lib.hid (HR.out.trans (hb.mono HR.out.size)); clear hb x0 x1 x2 x3 x4; obtain ⟨x0, x1, x2, x3, x4⟩ := HX.out _ HU1.out) | (go_at_call 14; (with_reducible refine (HT.out _ HU1.out).mono ?_); rintro e u2 ⟨rfl, hb⟩; have HU2 := Lib.hid (HU1.out.trans (hb.mono HU1.out.size)); clear hb x0 x1 x2 x3 x4; obtain ⟨x0, x1, x2, x3, x4⟩ := HX.out _ HU2.out) | (go_at_call 47; (with_reducible refine (HN.out _ HU2.out).mono ?_); rintro e u3 ⟨rfl, hb⟩; have HU3 := Lib.hid (HU2.out.trans (hb.mono HU2.out.size)); clear hb x0 x1 x2 x3 x4; obtain ⟨x0, x1, x2, x3, x4⟩ := HX.out _ HU3.out) | (go_at_call 18; (with_reducible refine (HA.out _ HU3.out).mono ?_); rintro e u4 ⟨rfl, hb⟩; have HU4 := Lib.hid (HU3.out.trans (hb.mono HU3.out.size)); clear hb x0 x1 x2 x3 x4; obtain ⟨x0, x1, x2, x3, x4⟩ := HX.out _ HU4.out))
          go_ret
          exact ⟨rfl, by first | exact HE.out _ HU4.out | (rw [HP.out]; exact HE.out _ HU4.out)⟩
        · have g3 : ¬ (64 : Int) < (altsN d k : Int) := by omega
          have g3' := decide_eq_false g3
          rw [if_neg h3]
          generalize ((altsN d k : Nat) : Int) = Q at *
          clear h3 h0
          go_enter Try.func20, Try.ntmps20
          go_wp2_with fail
          rw [← HW.out, ← HP.out]
          obtain ⟨x0, x1, x2, x3, x4⟩ := HX.out _ HR.out
          go_wp2_with (first | (go_at_call 16; (with_reducible refine (HD.out _ HR.out).mono ?_); rintro e u1 ⟨rfl, hb⟩; have HU1 := Lib.hid (HR.out.trans (hb.mono HR.out.size)); clear hb x0 x1 x2 x3 x4; obtain ⟨x0, x1, x2, x3, x4⟩ := HX.out _ HU1.out) | (go_at_call 14; (with_reducible refine (HT.out _ HU1.out).mono ?_); rintro e u2 ⟨rfl, hb⟩; have HU2 := Lib.hid (HU1.out.trans (hb.mono HU1.out.size)); clear hb x0 x1 x2 x3 x4; obtain ⟨x0, x1, x2, x3, x4⟩ := HX.out _ HU2.out) | (go_at_call 47; (with_reducible refine (HN.out _ HU2.out).mono ?_); rintro e u3 ⟨rfl, hb⟩; have HU3 := Lib.hid (HU2.out.trans (hb.mono HU2.out.size)); clear hb x0 x1 x2 x3 x4; obtain ⟨x0, x1, x2, x3, x4⟩ := HX.out _ HU3.out) | (go_at_call 18; (with_reducible refine (HA.out _ HU3.out).mono ?_); rintro e u4 ⟨rfl, hb⟩; have HU4 := Lib.hid (HU3.out.trans (hb.mono HU3.out.size)); clear hb x0 x1 x2 x3 x4; obtain ⟨x0, x1, x2, x3, x4⟩ := HX.out _ HU4.out))
          go_ret
          exact ⟨rfl, by first | exact HE.out _ HU4.out | (rw [HP.out]; exact HE.out _ HU4.out)⟩
      · rw [if_pos h0]
        generalize nodeN d k = E2 at *
        have n1 : (E2 == 0) = false := beq_eq_false_iff_ne.2 h0
        have n3 : (E2 != 0) = true := bne_iff_ne.2 h0
        clear HA
        go_enter Try.func20, Try.ntmps20
        go_wp2_with fail
        rw [← HW.out, ← HP.out]
        obtain ⟨x0, x1, x2, x3, x4⟩ := HX.out _ HR.out
        go_wp2_with (first | (go_at_call 16; (with_reducible refine (HD.out _ HR.out).mono ?_); rintro e u1 ⟨rfl, hb⟩; have HU1 := Lib.hid (HR.out.trans (hb.mono HR.out.size)); clear hb x0 x1 x2 x3 x4; obtain ⟨x0, x1, x2, x3, x4⟩ := HX.out _ HU1.out) | (go_at_call 14; (with_reducible refine (HT.out _ HU1.out).mono ?_); rintro e u2 ⟨rfl, hb⟩; have HU2 := Lib.hid (HU1.out.trans (hb.mono HU1.out.size)); clear hb x0 x1 x2 x3 x4; obtain ⟨x0, x1, x2, x3, x4⟩ := HX.out _ HU2.out) | (go_at_call 47; (with_reducible refine (HN.out _ HU2.out).mono ?_); rintro e u3 ⟨rfl, hb⟩; have HU3 := Lib.hid (HU2.out.trans (hb.mono HU2.out.size)); clear hb x0 x1 x2 x3 x4; obtain ⟨x0, x1, x2, x3, x4⟩ := HX.out _ HU3.out))
        go_ret
        exact ⟨rfl, by first | exact HE.out _ HU3.out | (rw [HP.out]; exact HE.out _ HU3.out)⟩
end Go.Proofs.Ytmjajoepgilokaa
