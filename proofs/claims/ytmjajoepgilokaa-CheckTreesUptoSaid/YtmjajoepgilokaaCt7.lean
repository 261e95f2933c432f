/- CheckTrees of eyrielaw07. -/
import Derived.Test.YtmjajoepgilokaaRs7
import Derived.Test.YtmjajoepgilokaaRz7
import Derived.Test.YtmjajoepgilokaaRw7
namespace Go.Proofs.Ytmjajoepgilokaa
open Go Go.RowKit Go.Sort

set_option maxRecDepth 100000 in
set_option maxHeartbeats 2000000 in
theorem trees7_walk (d : Nt) (k : Fo) (v : Value) (w : World) (hv : NdV w (fun x => x < w.heap.size) d k v) (hsz : szD d + szF k ≤ 1048576) :
    Calls Try.prog 4 #[v] w fun e w' => e = .returned (.bool true) ∧ Below w.heap.size w w' := by
  obtain ⟨ta, tc, ka, kc, rfl⟩ := hv.shape
  obtain ⟨W, hW⟩ : ∃ W, W = w.alloc (.cells #[.int .i64 d.kind, .string d.var, .string d.ty, .slice ta d.tests.length tc, .slice ka k.len kc] 25) := ⟨_, rfl⟩
  have hq := heap_alloc_new w (.cells #[.int .i64 d.kind, .string d.var, .string d.ty, .slice ta d.tests.length tc, .slice ka k.len kc] 25)
  have hb0 : Below w.heap.size w W := by rw [hW]; exact (Below.refl _ _).alloc (Nat.le_refl _) _
  rw [← hW] at hq
  have hz : W.heap.size = w.heap.size + 1 := by rw [hW]; simp
  obtain ⟨P, hP⟩ : ∃ P, P = w.heap.size := ⟨_, rfl⟩
  have hkv : ∀ u, Below W.heap.size W u → NdV u (fun x => x < u.heap.size) d k (.agg #[.int .i64 d.kind, .string d.var, .string d.ty, .slice ta d.tests.length tc, .slice ka k.len kc]) := fun u hu =>
    (hv.keep (fun x hx => (hu.block x (Nat.lt_of_lt_of_le hx hb0.size)).trans (hb0.block x hx))).mono (fun x hx => Nat.lt_of_lt_of_le hx (Nat.le_trans hb0.size hu.size))
  have HF := Lib.hid (fun (u : World) (hu : Below W.heap.size W u) => fits7_any d k _ u (hkv u hu) hsz)
  have H1 := Lib.hid (fun (u : World) (hu : Below W.heap.size W u) => cTerms_any d k _ u (hkv u hu) hsz)
  have H2 := Lib.hid (fun (u : World) (hu : Below W.heap.size W u) => r7Terms_any d k u _ (hkv u hu) hsz)
  have H3 := Lib.hid (fun (u : World) (hu : Below W.heap.size W u) => cDeep_any d k _ u (hkv u hu) hsz)
  have H4 := Lib.hid (fun (u : World) (hu : Below W.heap.size W u) => r7Deep_any d k u _ (hkv u hu) hsz)
  have H5 := Lib.hid (fun (u : World) (hu : Below W.heap.size W u) => cAlts_any d k _ u (hkv u hu) hsz)
  have H6 := Lib.hid (fun (u : World) (hu : Below W.heap.size W u) => r7Alts_any d k u _ (hkv u hu) hsz)
  have H7 := Lib.hid (fun (u : World) (hu : Below W.heap.size W u) => cShape_any d k _ u (hkv u hu) hsz)
  have H8 := Lib.hid (fun (u : World) (hu : Below W.heap.size W u) => r7Shape_any d k _ u (hkv u hu) hsz)
  have H9 := Lib.hid (fun (u : World) (hu : Below W.heap.size W u) => cBinds_any d k _ u (hkv u hu) hsz)
  have H10 := Lib.hid (fun (u : World) (hu : Below W.heap.size W u) => r7Binds_any d k u _ (hkv u hu) hsz)
  have HV1 := Lib.hid (fun (u : World) (hu : Below W.heap.size W u) => cVars_any d k _ u (hkv u hu) hsz)
  have HV2 := Lib.hid (fun (u : World) (hu : Below W.heap.size W u) => r7Vars_any d k u _ (hkv u hu) hsz)
  have HS1 := Lib.hid (fun (u : World) (hu : Below W.heap.size W u) => cSure_any d k _ u (hkv u hu) hsz)
  have HS2 := Lib.hid (fun (u : World) (hu : Below W.heap.size W u) => r7Sure_any d k u _ (hkv u hu) hsz)
  have HX := Lib.hid (fun (u : World) (hu : Below W.heap.size W u) => (by
    have := (hu.block P (by omega)).trans (hP ▸ hq)
    simp [World.cell?, this] : u.cell? ⟨P, 0, none⟩ = some (.int .i64 d.kind) ∧ u.cell? ⟨P, 1, none⟩ = some (.string d.var) ∧ u.cell? ⟨P, 2, none⟩ = some (.string d.ty) ∧ u.cell? ⟨P, 3, none⟩ = some (.slice ta d.tests.length tc) ∧ u.cell? ⟨P, 4, none⟩ = some (.slice ka k.len kc)))
  have HE := Lib.hid (fun (u : World) (hu : Below W.heap.size W u) => hb0.trans (hu.mono hb0.size))
  have HW := Lib.hid hW; have HP := Lib.hid hP
  have HR := Lib.hid (Below.refl W.heap.size W)
  have HL1 : Hid ((sureN d k).length ≤ 1048576) := Lib.hid (Nat.le_trans (sureN_len d k) hsz)
  have HL2 : Hid ((varsN d k).length ≤ 1048576) := Lib.hid (Nat.le_trans (varsN_len d k) hsz)
  have B2 := HR
  clear hv hsz hq hb0 hz hkv hW hP
  cases hf : fitsN k with
  | false =>
    rw [hf] at HF
    clear hf H1 H2 H3 H4 H5 H6 H7 H8 H9 H10 HV1 HV2 HS1 HS2
    go_enter Try.func4, Try.ntmps4
    go_wp2_with fail
    rw [← HW.out, ← HP.out]
    obtain ⟨x0, x1, x2, x3, x4⟩ := HX.out _ B2.out
    go_wp2_with (first
      | (go_at_call 10; (with_reducible refine (HF.out _ B2.out).mono ?_); rintro e u ⟨rfl, hb⟩; have B2 := Lib.hid (B2.out.trans (hb.mono B2.out.size)); clear hb x0 x1 x2 x3 x4; obtain ⟨x0, x1, x2, x3, x4⟩ := HX.out _ B2.out)
      | (go_at_call 9; (with_reducible refine (live7_any _).mono ?_); rintro e u ⟨rfl, hb⟩; have B2 := Lib.hid (B2.out.trans (hb.mono B2.out.size)); clear hb x0 x1 x2 x3 x4; obtain ⟨x0, x1, x2, x3, x4⟩ := HX.out _ B2.out))
    go_ret
    exact ⟨rfl, by first | exact HE.out _ B2.out | (rw [HP.out]; exact HE.out _ B2.out)⟩
  | true =>
    rw [hf] at HF
    clear hf
    have HES := Lib.hid (fun (u : World) (a b : Value) (h1 : SsV u (fun x => x < u.heap.size) a (varsN d k)) (h2 : SsV u (fun x => x < u.heap.size) b (varsN d k)) => EqualStr_any (varsN d k) (varsN d k) a b _ u h1 h2 (by have := HL2.out; omega))
    have HET := Lib.hid (fun (u : World) (a b : Value) (h1 : SsV u (fun x => x < u.heap.size) a (sureN d k)) (h2 : SsV u (fun x => x < u.heap.size) b (sureN d k)) => EqualStr_any (sureN d k) (sureN d k) a b _ u h1 h2 (by have := HL1.out; omega))
    rw [show decide (varsN d k = varsN d k) = true from decide_eq_true rfl] at HES
    rw [show decide (sureN d k = sureN d k) = true from decide_eq_true rfl] at HET
    clear HL1 HL2
    generalize varsN d k = V at *
    generalize sureN d k = S at *
    generalize ((termsN k : Nat) : Int) = T at *
    generalize ((deepF k + 1 : Nat) : Int) = D at *
    generalize ((altsN d k : Nat) : Int) = A at *
    generalize shapeN d k = Z at *
    generalize (if bindN d k = true then (0 : Int) else 73) = Y at *
    have e1 : (T == T) = true := by simp
    have e2 : (D == D) = true := by simp
    have e3 : (A == A) = true := by simp
    have e4 : (Z == Z) = true := by simp
    have e5 : (Y == Y) = true := by simp
    go_enter Try.func4, Try.ntmps4
    go_wp2_with fail
    rw [← HW.out, ← HP.out]
    obtain ⟨x0, x1, x2, x3, x4⟩ := HX.out _ B2.out
    go_wp2_with (first
      | (go_at_call 10; (with_reducible refine (HF.out _ B2.out).mono ?_); rintro e u ⟨rfl, hb⟩; have B2 := Lib.hid (B2.out.trans (hb.mono B2.out.size)); clear hb x0 x1 x2 x3 x4; obtain ⟨x0, x1, x2, x3, x4⟩ := HX.out _ B2.out)
      | (go_at_call 9; (with_reducible refine (live7_any _).mono ?_); rintro e u ⟨rfl, hb⟩; have B2 := Lib.hid (B2.out.trans (hb.mono B2.out.size)); clear hb x0 x1 x2 x3 x4; obtain ⟨x0, x1, x2, x3, x4⟩ := HX.out _ B2.out))
    go_region_held3 (fun u => u.cell? ⟨P, 0, none⟩ = some (.int .i64 d.kind) ∧ u.cell? ⟨P, 1, none⟩ = some (.string d.var) ∧ u.cell? ⟨P, 2, none⟩ = some (.string d.ty) ∧ u.cell? ⟨P, 3, none⟩ = some (.slice ta d.tests.length tc) ∧ u.cell? ⟨P, 4, none⟩ = some (.slice ka k.len kc)) (first | exact ⟨x0, x1, x2, x3, x4⟩ | go_keep)
      (first
        | (go_at_call 13; (with_reducible refine (H1.out _ B2.out.drew).mono ?_); rintro e u ⟨rfl, hb⟩; have B2 := Lib.hid (B2.out.drew.trans (hb.mono B2.out.drew.size)); clear hb x0 x1 x2 x3 x4; obtain ⟨x0, x1, x2, x3, x4⟩ := HX.out _ B2.out)
        | (go_at_call 14; (with_reducible refine (H2.out _ B2.out).mono ?_); rintro e u ⟨rfl, hb⟩; have B2 := Lib.hid (B2.out.trans (hb.mono B2.out.size)); clear hb x0 x1 x2 x3 x4; obtain ⟨x0, x1, x2, x3, x4⟩ := HX.out _ B2.out)
        | (go_at_call 15; (with_reducible refine (H3.out _ B2.out).mono ?_); rintro e u ⟨rfl, hb⟩; have B2 := Lib.hid (B2.out.trans (hb.mono B2.out.size)); clear hb x0 x1 x2 x3 x4; obtain ⟨x0, x1, x2, x3, x4⟩ := HX.out _ B2.out)
        | (go_at_call 16; (with_reducible refine (H4.out _ B2.out).mono ?_); rintro e u ⟨rfl, hb⟩; have B2 := Lib.hid (B2.out.trans (hb.mono B2.out.size)); clear hb x0 x1 x2 x3 x4; obtain ⟨x0, x1, x2, x3, x4⟩ := HX.out _ B2.out)
        | (go_at_call 17; (with_reducible refine (H5.out _ B2.out).mono ?_); rintro e u ⟨rfl, hb⟩; have B2 := Lib.hid (B2.out.trans (hb.mono B2.out.size)); clear hb x0 x1 x2 x3 x4; obtain ⟨x0, x1, x2, x3, x4⟩ := HX.out _ B2.out)
        | (go_at_call 18; (with_reducible refine (H6.out _ B2.out).mono ?_); rintro e u ⟨rfl, hb⟩; have B2 := Lib.hid (B2.out.trans (hb.mono B2.out.size)); clear hb x0 x1 x2 x3 x4; obtain ⟨x0, x1, x2, x3, x4⟩ := HX.out _ B2.out)
        | (go_at_call 19; (with_reducible refine (H7.out _ B2.out).mono ?_); rintro e u ⟨rfl, hb⟩; have B2 := Lib.hid (B2.out.trans (hb.mono B2.out.size)); clear hb x0 x1 x2 x3 x4; obtain ⟨x0, x1, x2, x3, x4⟩ := HX.out _ B2.out)
        | (go_at_call 20; (with_reducible refine (H8.out _ B2.out).mono ?_); rintro e u ⟨rfl, hb⟩; have B2 := Lib.hid (B2.out.trans (hb.mono B2.out.size)); clear hb x0 x1 x2 x3 x4; obtain ⟨x0, x1, x2, x3, x4⟩ := HX.out _ B2.out)
        | (go_at_call 21; (with_reducible refine (H9.out _ B2.out).mono ?_); rintro e u ⟨rfl, hb⟩; have B2 := Lib.hid (B2.out.trans (hb.mono B2.out.size)); clear hb x0 x1 x2 x3 x4; obtain ⟨x0, x1, x2, x3, x4⟩ := HX.out _ B2.out)
        | (go_at_call 22; (with_reducible refine (H10.out _ B2.out).mono ?_); rintro e u ⟨rfl, hb⟩; have B2 := Lib.hid (B2.out.trans (hb.mono B2.out.size)); clear hb x0 x1 x2 x3 x4; obtain ⟨x0, x1, x2, x3, x4⟩ := HX.out _ B2.out)
        | (go_at_call 24; (with_reducible refine (HV1.out _ B2.out).mono ?_); rintro e u ⟨tv, rfl, hs, hb⟩; have HA1 := Lib.hid hs.lt; have B2 := Lib.hid (B2.out.trans (hb.mono B2.out.size)); clear hs hb x0 x1 x2 x3 x4; obtain ⟨x0, x1, x2, x3, x4⟩ := HX.out _ B2.out)
        | (go_at_call 25; (with_reducible refine (HV2.out _ B2.out).mono ?_); rintro e u ⟨tv, rfl, hs, hb⟩; have HA2 := Lib.hid hs.ss; have HA1 := Lib.hid ((HA1.out.keep (Keep.of_below hb)).lt); have B2 := Lib.hid (B2.out.trans (hb.mono B2.out.size)); clear hs hb x0 x1 x2 x3 x4; obtain ⟨x0, x1, x2, x3, x4⟩ := HX.out _ B2.out)
        | (go_at_call 23; (with_reducible refine (HES.out _ _ _ HA1.out HA2.out).mono ?_); rintro e u ⟨rfl, n, rfl⟩; have B2 := Lib.hid (below_dn7 B2.out n); clear x0 x1 x2 x3 x4; obtain ⟨x0, x1, x2, x3, x4⟩ := HX.out _ B2.out)
        | (go_at_call 26; (with_reducible refine (HS1.out _ B2.out).mono ?_); rintro e u ⟨tv, rfl, hs, hb⟩; have HA3 := Lib.hid hs.lt; have B2 := Lib.hid (B2.out.trans (hb.mono B2.out.size)); clear hs hb x0 x1 x2 x3 x4; obtain ⟨x0, x1, x2, x3, x4⟩ := HX.out _ B2.out)
        | (go_at_call 27; (with_reducible refine (HS2.out _ B2.out).mono ?_); rintro e u ⟨tv, rfl, hs, hb⟩; have HA4 := Lib.hid hs.ss; have HA3 := Lib.hid ((HA3.out.keep (Keep.of_below hb)).lt); have B2 := Lib.hid (B2.out.trans (hb.mono B2.out.size)); clear hs hb x0 x1 x2 x3 x4; obtain ⟨x0, x1, x2, x3, x4⟩ := HX.out _ B2.out)
        | (go_at_call 23; (with_reducible refine (HET.out _ _ _ HA3.out HA4.out).mono ?_); rintro e u ⟨rfl, n, rfl⟩; have B2 := Lib.hid (below_dn7 B2.out n); clear x0 x1 x2 x3 x4; obtain ⟨x0, x1, x2, x3, x4⟩ := HX.out _ B2.out))
    all_goals go_wp2
    all_goals go_ret
    all_goals exact ⟨rfl, HE.out _ B2.out⟩
end Go.Proofs.Ytmjajoepgilokaa
