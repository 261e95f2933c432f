/- CheckSure of eyrielaw07. -/
import Derived.Test.YtmjajoepgilokaaSf7
namespace Go.Proofs.Ytmjajoepgilokaa
open Go Go.RowKit

set_option maxRecDepth 100000 in
set_option maxHeartbeats 2000000 in
theorem sure7_walk (d : Nt) (k : Fo) (v : Value) (w : World) (hv : NdV w (fun x => x < w.heap.size) d k v) (hsz : szD d + szF k ≤ 1048576) :
    Calls Try.prog 7 #[v] w fun e w' => e = .returned (.bool true) ∧ Below w.heap.size w w' := by
  obtain ⟨ta, tc, ka, kc, rfl⟩ := hv.shape
  obtain ⟨W, hW⟩ : ∃ W, W = w.alloc (.cells #[.int .i64 d.kind, .string d.var, .string d.ty, .slice ta d.tests.length tc, .slice ka k.len kc] 25) := ⟨_, rfl⟩
  have hq := heap_alloc_new w (.cells #[.int .i64 d.kind, .string d.var, .string d.ty, .slice ta d.tests.length tc, .slice ka k.len kc] 25)
  have hb0 : Below w.heap.size w W := by rw [hW]; exact (Below.refl _ _).alloc (Nat.le_refl _) _
  rw [← hW] at hq
  have hz : W.heap.size = w.heap.size + 1 := by rw [hW]; simp
  obtain ⟨P, hP⟩ : ∃ P, P = w.heap.size := ⟨_, rfl⟩
  have hkv : ∀ u, Below W.heap.size W u → NdV u (fun x => x < u.heap.size) d k (.agg #[.int .i64 d.kind, .string d.var, .string d.ty, .slice ta d.tests.length tc, .slice ka k.len kc]) := fun u hu =>
    (hv.keep (fun x hx => (hu.block x (Nat.lt_of_lt_of_le hx hb0.size)).trans (hb0.block x hx))).mono (fun x hx => Nat.lt_of_lt_of_le hx (Nat.le_trans hb0.size hu.size))
  have HT := Lib.hid (fun (u : World) (hu : Below W.heap.size W u) => fits7_any d k _ u (hkv u hu) hsz)
  have HSH := Lib.hid (fun (u : World) (hu : Below W.heap.size W u) => cShape_any d k _ u (hkv u hu) hsz)
  have HVA := Lib.hid (fun (u : World) (hu : Below W.heap.size W u) => cVars_any d k _ u (hkv u hu) hsz)
  have HSU := Lib.hid (fun (u : World) (hu : Below W.heap.size W u) => cSure_any d k _ u (hkv u hu) hsz)
  have HOR := Lib.hid (fun (u : World) (hu : Below W.heap.size W u) => or7_any d k u _ (hkv u hu) hsz)
  have HX := Lib.hid (fun (u : World) (hu : Below W.heap.size W u) => (by
    have := (hu.block P (by omega)).trans (hP ▸ hq)
    simp [World.cell?, this] : u.cell? ⟨P, 0, none⟩ = some (.int .i64 d.kind) ∧ u.cell? ⟨P, 1, none⟩ = some (.string d.var) ∧ u.cell? ⟨P, 2, none⟩ = some (.string d.ty) ∧ u.cell? ⟨P, 3, none⟩ = some (.slice ta d.tests.length tc) ∧ u.cell? ⟨P, 4, none⟩ = some (.slice ka k.len kc)))
  have HE := Lib.hid (fun (u : World) (hu : Below W.heap.size W u) => hb0.trans (hu.mono hb0.size))
  have HW := Lib.hid hW; have HP := Lib.hid hP
  have HR := Lib.hid (Below.refl W.heap.size W)
  have HL1 : Hid ((sureN d k).length ≤ 1048576) := Lib.hid (Nat.le_trans (sureN_len d k) hsz)
  have HL2 : Hid ((varsN d k).length ≤ 1048576) := Lib.hid (Nat.le_trans (varsN_len d k) hsz)
  have HSUB := Lib.hid (sure_sub (d := d) (k := k))
  have HEQ := Lib.hid (sure_eq (d := d) (k := k))
  clear hv hsz hq hb0 hz hkv hW hP
  cases hf : fitsN k with
  | false =>
    rw [hf] at HT
    go_enter Try.func7, Try.ntmps7
    go_wp2_with fail
    rw [← HW.out, ← HP.out]
    obtain ⟨x0, x1, x2, x3, x4⟩ := HX.out _ HR.out
    go_wp2_with (first
      | (go_at_call 10; (with_reducible refine (HT.out _ HR.out).mono ?_); rintro e u1 ⟨rfl, hb⟩; have HU1 := Lib.hid (HR.out.trans (hb.mono HR.out.size)); clear hb x0 x1 x2 x3 x4; obtain ⟨x0, x1, x2, x3, x4⟩ := HX.out _ HU1.out)
      | (go_at_call 9; (with_reducible refine (live7_any _).mono ?_); rintro e u2 ⟨rfl, hb⟩; have HU2 := Lib.hid (HU1.out.trans (hb.mono HU1.out.size)); clear hb x0 x1 x2 x3 x4; obtain ⟨x0, x1, x2, x3, x4⟩ := HX.out _ HU2.out))
    go_ret
    exact ⟨rfl, by first | exact HE.out _ HU2.out | (rw [HP.out]; exact HE.out _ HU2.out)⟩
  | true =>
    rw [hf] at HT
    by_cases hs : shapeN d k = 0
    · rw [hs] at HSH
      have HEQ2 := Lib.hid (HEQ.out hs)
      clear HEQ
      generalize hS : sureN d k = S at *
      generalize hV : varsN d k = V at *
      have HWI := Lib.hid (fun (u : World) (ao bo : Option Addr) (ac bc : Nat) (h1 : SsV u (fun x => x < u.heap.size) (.slice ao S.length ac) S) (h2 : SsV u (fun x => x < u.heap.size) (.slice bo V.length bc) V) => within7_any S V _ ao bo ac bc u h1 h2 HL1.out HL2.out HSUB.out)
      have HES := Lib.hid (fun (u : World) (a b : Value) (h1 : SsV u (fun x => x < u.heap.size) a S) (h2 : SsV u (fun x => x < u.heap.size) b V) => EqualStr_any S V a b _ u h1 h2 (by have := HL1.out; omega))
      go_enter Try.func7, Try.ntmps7
      go_wp2_with fail
      rw [← HW.out, ← HP.out]
      obtain ⟨x0, x1, x2, x3, x4⟩ := HX.out _ HR.out
      go_wp2_with (first
        | (go_at_call 10; (with_reducible refine (HT.out _ HR.out).mono ?_); rintro e u1 ⟨rfl, hb⟩; have HU1 := Lib.hid (HR.out.trans (hb.mono HR.out.size)); clear hb x0 x1 x2 x3 x4; obtain ⟨x0, x1, x2, x3, x4⟩ := HX.out _ HU1.out)
        | (go_at_call 19; (with_reducible refine (HSH.out _ HU1.out).mono ?_); rintro e u2 ⟨rfl, hb⟩; have HU2 := Lib.hid (HU1.out.trans (hb.mono HU1.out.size)); clear hb x0 x1 x2 x3 x4; obtain ⟨x0, x1, x2, x3, x4⟩ := HX.out _ HU2.out)
        | (go_at_call 9; (with_reducible refine (live7_any _).mono ?_); rintro e u3 ⟨rfl, hb⟩; have HU3 := Lib.hid (HU2.out.trans (hb.mono HU2.out.size)); clear hb x0 x1 x2 x3 x4; obtain ⟨x0, x1, x2, x3, x4⟩ := HX.out _ HU3.out))
      go_region_held3 (fun u => u.cell? ⟨P, 0, none⟩ = some (.int .i64 d.kind) ∧ u.cell? ⟨P, 1, none⟩ = some (.string d.var) ∧ u.cell? ⟨P, 2, none⟩ = some (.string d.ty) ∧ u.cell? ⟨P, 3, none⟩ = some (.slice ta d.tests.length tc) ∧ u.cell? ⟨P, 4, none⟩ = some (.slice ka k.len kc)) (first | exact ⟨x0, x1, x2, x3, x4⟩ | go_keep)
        (first
          | (go_at_call 24; (with_reducible refine (HVA.out _ HU3.out.drew).mono ?_); rintro e u4 ⟨tv, rfl, hs4, hb⟩; obtain ⟨bo, bc, rfl⟩ := hs4.shape; have HV4 := Lib.hid hs4.lt; have HB4 := Lib.hid (HU3.out.drew.trans (hb.mono HU3.out.drew.size)); clear hs4 hb x0 x1 x2 x3 x4; obtain ⟨x0, x1, x2, x3, x4⟩ := HX.out _ HB4.out)
          | (go_at_call 26; (with_reducible refine (HSU.out _ HU3.out.drew).mono ?_); rintro e u4 ⟨tv, rfl, hs4, hb⟩; obtain ⟨ao, ac, rfl⟩ := hs4.shape; have HS4 := Lib.hid hs4.lt; have HB4 := Lib.hid (HU3.out.drew.trans (hb.mono HU3.out.drew.size)); clear hs4 hb x0 x1 x2 x3 x4; obtain ⟨x0, x1, x2, x3, x4⟩ := HX.out _ HB4.out)
          | (go_at_call 24; (with_reducible refine (HVA.out _ HB4.out).mono ?_); rintro e u5 ⟨tv, rfl, hs4, hb⟩; obtain ⟨bo, bc, rfl⟩ := hs4.shape; have HVV := Lib.hid hs4.lt; have HSS := Lib.hid ((HS4.out.keep (Keep.of_below hb)).lt); have HB5 := Lib.hid (HB4.out.trans (hb.mono HB4.out.size)); clear hs4 hb x0 x1 x2 x3 x4; obtain ⟨x0, x1, x2, x3, x4⟩ := HX.out _ HB5.out)
          | (go_at_call 26; (with_reducible refine (HSU.out _ HB4.out).mono ?_); rintro e u5 ⟨tv, rfl, hs4, hb⟩; obtain ⟨ao, ac, rfl⟩ := hs4.shape; have HSS := Lib.hid hs4.lt; have HVV := Lib.hid ((HV4.out.keep (Keep.of_below hb)).lt); have HB5 := Lib.hid (HB4.out.trans (hb.mono HB4.out.size)); clear hs4 hb x0 x1 x2 x3 x4; obtain ⟨x0, x1, x2, x3, x4⟩ := HX.out _ HB5.out))
      all_goals cases ho : orN d k with
        | true =>
          rw [ho] at HOR
          go_wp2_with (first
            | (go_at_call 34; (with_reducible refine (HWI.out _ ao bo ac bc HSS.out HVV.out).mono ?_); rintro e u5 ⟨rfl, rfl⟩)
            | (go_at_call 35; (with_reducible refine (HOR.out _ HB5.out).mono ?_); rintro e u6 ⟨rfl, hb⟩; have HU6 := Lib.hid (HB5.out.trans (hb.mono HB5.out.size)); have HK6 := Lib.hid (Keep.of_below hb); clear hb))
          go_ret
          exact ⟨rfl, by first | exact HE.out _ HU6.out | (rw [HP.out]; exact HE.out _ HU6.out)⟩
        | false =>
          rw [ho] at HOR
          have hdec : decide (S = V) = true := decide_eq_true (HEQ2.out ho)
          simp only [hdec] at HES
          clear hdec
          go_wp2_with (first
            | (go_at_call 34; (with_reducible refine (HWI.out _ ao bo ac bc HSS.out HVV.out).mono ?_); rintro e u5 ⟨rfl, rfl⟩)
            | (go_at_call 35; (with_reducible refine (HOR.out _ HB5.out).mono ?_); rintro e u6 ⟨rfl, hb⟩; have HU6 := Lib.hid (HB5.out.trans (hb.mono HB5.out.size)); have HS6 := Lib.hid ((HSS.out.keep (Keep.of_below hb)).lt); have HV6 := Lib.hid ((HVV.out.keep (Keep.of_below hb)).lt); clear hb)
            | (go_at_call 23; (with_reducible refine (HES.out _ _ _ HS6.out HV6.out).mono ?_); rintro e u7 ⟨rfl, n, rfl⟩))
          go_ret
          exact ⟨rfl, by first | exact HE.out _ (below_dn7 HU6.out _) | (rw [HP.out]; exact HE.out _ (below_dn7 HU6.out _))⟩
    · have hs1 : ((shapeN d k) == 0) = false := beq_eq_false_iff_ne.2 hs
      generalize shapeN d k = E at *
      go_enter Try.func7, Try.ntmps7
      go_wp2_with fail
      rw [← HW.out, ← HP.out]
      obtain ⟨x0, x1, x2, x3, x4⟩ := HX.out _ HR.out
      go_wp2_with (first
        | (go_at_call 10; (with_reducible refine (HT.out _ HR.out).mono ?_); rintro e u1 ⟨rfl, hb⟩; have HU1 := Lib.hid (HR.out.trans (hb.mono HR.out.size)); clear hb x0 x1 x2 x3 x4; obtain ⟨x0, x1, x2, x3, x4⟩ := HX.out _ HU1.out)
        | (go_at_call 19; (with_reducible refine (HSH.out _ HU1.out).mono ?_); rintro e u2 ⟨rfl, hb⟩; have HU2 := Lib.hid (HU1.out.trans (hb.mono HU1.out.size)); clear hb x0 x1 x2 x3 x4; obtain ⟨x0, x1, x2, x3, x4⟩ := HX.out _ HU2.out)
        | (go_at_call 9; (with_reducible refine (live7_any _).mono ?_); rintro e u3 ⟨rfl, hb⟩; have HU3 := Lib.hid (HU2.out.trans (hb.mono HU2.out.size)); clear hb x0 x1 x2 x3 x4; obtain ⟨x0, x1, x2, x3, x4⟩ := HX.out _ HU3.out))
      go_ret
      exact ⟨rfl, by first | exact HE.out _ HU3.out | (rw [HP.out]; exact HE.out _ HU3.out)⟩
end Go.Proofs.Ytmjajoepgilokaa
