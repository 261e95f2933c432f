/- Contracts: Has, Add, NewSet of sets. -/
import Derived.Test.YtiinljljbjjaeaaGreatDoorSe0
import Derived.Test.YtiinljljbjjaeaaGreatDoorWp0
namespace Go.Proofs.YtiinljljbjjaeaaGreatDoor
open Go Go.RowKit Go.Maps Go.WideMaps

theorem cell_set_other {w : World} {P g : Nat} {v u : Value} (h : w.cell? ⟨P, 0, none⟩ = some v) (hn : P ≠ g) : (w.setCell ⟨g, 0, none⟩ u).cell? ⟨P, 0, none⟩ = some v := by
  rw [← h]; exact World.cell?_of_block (a := ⟨P, 0, none⟩) (Below.heap_setCell _ _ _ _ hn)
set_option maxRecDepth 100000 in
set_option maxHeartbeats 3200000 in
theorem mSetHas_any (F : Nat → Prop) (C q b : Nat) (L : List (Value × List Bd)) (B : Nat) (ao : Option Addr) (n cap : Nat) (bs : List Bd) (w : World) (h : SetAt F C w q b L) (hp : BsV w B (.slice ao n cap) bs) (hB : B ≤ w.heap.size) (hk : KyB bs) :
    Calls Tryz.prog 13 #[.pointer (some ⟨q, 0, none⟩), .agg #[.slice ao n cap]] w fun e w' => e = .returned (.bool (hasL L bs)) ∧ Below w.heap.size w w' := by
  obtain ⟨N, D, hD, _, hL⟩ := h.map
  have HQ := Lib.hid (fun u (hu : Below w.heap.size w u) => mSetParts_any q b u (h.call hu).cell)
  have HKY := Lib.hid (fun u (hu : Below w.heap.size w u) => mKey_any B ao n cap bs u (hp.below hu hB) (Nat.le_trans hB hu.size) hk.1 hk.2 (h.tab u (hu.mono h.C_le)))
  have HLK : Hid (∀ u, Below w.heap.size w u → ∃ a n c, (Instr.lookup 60 (.map (some b)) (.string ⟨(keyL bs).toArray⟩) true).run Tryz.prog u = .ok (.tuple #[.agg #[.slice a n c], .bool (hasL L bs)]) u) := fun u hu => by
    obtain ⟨v, ps, h1, h2⟩ := (owns_block0 hD (hu.block b hD.lt)).look_ok lawS10 Tryz.underlying60 (zeroP10 u) (heldE_mk none 0 0) (kyV_key hk)
    obtain ⟨a, n, c, rfl, _⟩ := heldE_inv h2
    rw [hL.has] at h1
    exact ⟨a, n, c, h1⟩
  obtain ⟨P, hP⟩ : ∃ P, P = w.heap.size := ⟨_, rfl⟩
  obtain ⟨w0, hw0⟩ : ∃ w0, w0 = w.alloc (.cells #[.slice ao n cap] 38) := ⟨_, rfl⟩
  have HB0 : Hid (Below w.heap.size w w0) := by rw [hw0]; exact (Below.refl _ _).alloc (Nat.le_refl _) _
  have HPX : Hid (∀ u, Below w0.heap.size w0 u → u.cell? ⟨P, 0, none⟩ = some (.slice ao n cap)) := fun u hu => by
    have h1 : w0.heap[P]? = some (.cells #[.slice ao n cap] 38 (0, 0)) := by rw [hw0, hP]; exact heap_alloc_new w _
    exact cells_one0 ((hu.block P (lt_of_block h1)).trans h1)
  have HW0 := Lib.hid hw0; have HP := Lib.hid hP
  have HPL : Hid (∀ u, Below w0.heap.size w0 u → P ≠ u.heap.size) := fun u hu => by have := hu.size; rw [hw0] at this; simp at this; omega
  generalize hasL L bs = r at HLK ⊢
  clear h hp hB hk hD hL hP hw0
  go_enter Tryz.func13, Tryz.ntmps13
  go_wp2_with fail
  rw [← HW0.out, ← HP.out]
  have HBu : Hid (Below w.heap.size w w0.drew) := HB0.out.drew
  have HZ0 : Hid (w.heap.size ≤ w0.heap.size) := HB0.out.size
  have HBv : Hid (Below w.heap.size w (w0.alloc (.cells #[.slice none 0 0] 38)).drew) := (HB0.out.alloc HZ0.out _).drew
  have HPU : Hid (∀ u, Below w0.heap.size w0 u → u.cell? ⟨P, 0, none⟩ = some (.slice ao n cap) ∧ P ≠ u.heap.size) := fun u hu => ⟨HPX.out u hu, HPL.out u hu⟩
  have HB1 : Hid (Below w0.heap.size w0 w0.drew) := (Below.refl _ _).drew
  have HB2 : Hid (Below w0.heap.size w0 (w0.alloc (.cells #[.slice none 0 0] 38)).drew) := ((Below.refl _ _).alloc (Nat.le_refl _) _).drew
  have HV2 : Hid (∀ u, Below (w0.alloc (.cells #[.slice none 0 0] 38)).drew.heap.size (w0.alloc (.cells #[.slice none 0 0] 38)).drew u → u.cell? ⟨w0.heap.size, 0, none⟩ = some (.slice none 0 0) ∧ u.frozen? ⟨w0.heap.size, 0, none⟩ = false) := fun u hu => by
    have h1 : (w0.alloc (.cells #[.slice none 0 0] 38)).drew.heap[w0.heap.size]? = some (.cells #[.slice none 0 0] 38 (0, 0)) := heap_alloc_new w0 _
    have h2 := (hu.block w0.heap.size (lt_of_block h1)).trans h1
    exact ⟨cells_one0 h2, by simp [World.frozen?, h2]⟩
  obtain ⟨c0, hn0⟩ := HPU.out _ HB1.out
  obtain ⟨c0v, hn0v⟩ := HPU.out _ HB2.out
  have hn00 := HPL.out w0 (Below.refl _ _)
  go_region_held3 (fun w' => w'.cell? ⟨P, 0, none⟩ = some (.slice ao n cap)) (first | (with_reducible exact c0) | (with_reducible exact c0v) | (with_reducible exact Lib.cell?_alloc_some _ c0) | (with_reducible exact cell_set_other c0 hn00) | go_keep)
    (first
      | (go_at_call 33; (with_reducible refine (HQ.out _ HBu.out).mono ?_); rintro e w1 ⟨rfl, rfl⟩)
      | (go_at_call 33; (with_reducible refine (HQ.out _ HBv.out).mono ?_); rintro e w1 ⟨rfl, rfl⟩)
      | (go_at_call 36; (with_reducible refine (HKY.out _ HBu.out).mono ?_); rintro e w1 ⟨rfl, hb⟩; have HBk := Lib.hid (HBu.out.trans (hb.mono HBu.out.size)); have HB3 := Lib.hid (HB1.out.trans (hb.mono HB1.out.size)); obtain ⟨c0, hne⟩ := HPU.out _ HB3.out; obtain ⟨a1, n1, c1, hlk⟩ := HLK.out _ HBk.out; have HBk2 := Lib.hid (HBk.out.alloc HBk.out.size (.cells #[.slice none 0 0] 38)); obtain ⟨a2, n2, c2, hlk2⟩ := HLK.out _ HBk2.out; have HFIN : Hid (∀ v, Below w.heap.size w (w1.alloc (.cells #[v] 38))) := fun v => HBk.out.alloc HBk.out.size _; clear hb)
      | (go_at_call 36; (with_reducible refine (HKY.out _ HBv.out).mono ?_); rintro e w1 ⟨rfl, hb⟩; have HBk := Lib.hid (HBv.out.trans (hb.mono HBv.out.size)); have HB3 := Lib.hid (HB2.out.trans (hb.mono HB2.out.size)); obtain ⟨c0, hne⟩ := HPU.out _ HB3.out; obtain ⟨a1, n1, c1, hlk⟩ := HLK.out _ HBk.out; obtain ⟨cv, fv⟩ := HV2.out _ hb; have HFIN : Hid (∀ v, Below w.heap.size w (w1.setCell ⟨w0.heap.size, 0, none⟩ v)) := fun v => HBk.out.setCell (p := ⟨w0.heap.size, 0, none⟩) HZ0.out v; clear hb))
  all_goals
    go_wp2
    go_ret
    exact ⟨rfl, HFIN.out _⟩
/-- Whether Add puts bounds in. -/
def addB (L : List (Value × List Bd)) (bs : List Bd) : Bool := decide (ckP bs = 0) && !hasL L bs
set_option maxRecDepth 100000 in
set_option maxHeartbeats 3200000 in
theorem mSetAdd_any (F : Nat → Prop) (C q b : Nat) (L : List (Value × List Bd)) (B : Nat) (ao : Option Addr) (n cap : Nat) (bs : List Bd) (w : World) (h : SetAt F C w q b L) (hp : BsV w B (.slice ao n cap) bs) (hB : B ≤ w.heap.size) (hk : ckP bs = 0 → KyB bs) (hm : L.length < 5864062014805) :
    Calls Tryz.prog 15 #[.pointer (some ⟨q, 0, none⟩), .agg #[.slice ao n cap]] w fun e w' => e = .returned (.bool (addB L bs)) ∧ (∃ v, SetAt F C w' q b (if addB L bs = true then L ++ [(v, bs)] else L)) ∧ Chg (fun k => k = b) w w' := by
  obtain ⟨N, D, hD, hN, hL⟩ := h.map
  have HMD := Lib.hid (fun u (hu : Below w.heap.size w u) => mSetMade_any q b u (h.call hu).cell)
  have HCK := Lib.hid (fun u (hu : Below w.heap.size w u) => mCheck_any B ao n cap bs u (hp.below hu hB) (Nat.le_trans hB hu.size))
  have HHS0 := Lib.hid (fun (hc : ckP bs = 0) u (hu : Below w.heap.size w u) => mSetHas_any F C q b L B ao n cap bs u (h.call hu) (hp.below hu hB) (Nat.le_trans hB hu.size) (hk hc))
  have HKY0 := Lib.hid (fun (hc : ckP bs = 0) u (hu : Below w.heap.size w u) => mKey_any B ao n cap bs u (hp.below hu hB) (Nat.le_trans hB hu.size) (hk hc).1 (hk hc).2 (h.tab u (hu.mono h.C_le)))
  have HCL := Lib.hid (fun u (hu : Below w.heap.size w u) => mClone_any B ao n cap bs u (hp.below hu hB) (Nat.le_trans hB hu.size))
  have HS := Lib.hid h
  have HQ := Lib.hid (fun u (hu : Below w.heap.size w u) => (h.call hu).cell)
  have HOW := Lib.hid (fun u (hu : Below w.heap.size w u) => owns_block0 hD (hu.block b hD.lt))
  have HN := Lib.hid hN; have HL := Lib.hid hL; have HK0 := Lib.hid hk; have HM := Lib.hid hm
  obtain ⟨P, hP⟩ : ∃ P, P = w.heap.size := ⟨_, rfl⟩
  obtain ⟨w0, hw0⟩ : ∃ w0, w0 = w.alloc (.cells #[.slice ao n cap] 38) := ⟨_, rfl⟩
  have HB0 : Hid (Below w.heap.size w w0) := by rw [hw0]; exact (Below.refl _ _).alloc (Nat.le_refl _) _
  have HPX : Hid (∀ u, Below w0.heap.size w0 u → u.cell? ⟨P, 0, none⟩ = some (.slice ao n cap)) := fun u hu => by
    have h1 : w0.heap[P]? = some (.cells #[.slice ao n cap] 38 (0, 0)) := by rw [hw0, hP]; exact heap_alloc_new w _
    exact cells_one0 ((hu.block P (lt_of_block h1)).trans h1)
  have HW0 := Lib.hid hw0; have HP := Lib.hid hP
  have HB1 : Hid (Below w0.heap.size w0 w0) := Below.refl _ _
  have HUP : Hid (∀ u, Below w0.heap.size w0 u → Below w.heap.size w u) := fun u hu => HB0.out.trans (hu.mono HB0.out.size)
  have hbw := h.Flt b h.Fb
  have hqw := h.Cq
  have hqb : q ≠ b := fun e => h.Fq (by rw [e]; exact h.Fb)
  have HPL : Hid (∀ u, Below w0.heap.size w0 u → P < u.heap.size ∧ some P ≠ some b) := fun u hu => by
    have h1 := hu.size; rw [hw0] at h1; simp at h1
    exact ⟨by omega, fun e => by cases e; omega⟩
  have HQL : Hid (∀ u, Below w0.heap.size w0 u → q < u.heap.size ∧ some q ≠ some b) := fun u hu => by
    have h1 := hu.size; rw [hw0] at h1; simp at h1
    exact ⟨by omega, fun e => by cases e; exact hqb rfl⟩
  clear h hp hB hk hD hL hP hw0 hN hm hbw hqw hqb
  have c0 := HPX.out _ HB1.out
  by_cases hck : ckP bs = 0
  · have HHS := Lib.hid (HHS0.out hck); have HKY := Lib.hid (HKY0.out hck); have HK := Lib.hid (HK0.out hck)
    clear HHS0 HKY0 HK0
    cases hh : hasL L bs with
    | true =>
      have ha : addB L bs = false := by unfold addB; rw [hh]; simp
      rw [hh] at HHS
      rw [hck] at HCK
      rw [ha]
      clear ha hh hck
      go_enter Tryz.func15, Tryz.ntmps15
      go_wp2_with fail
      rw [← HW0.out, ← HP.out]
      go_wp2_with (first
        | (go_at_call 34; (with_reducible refine (HMD.out _ HB0.out).mono ?_); rintro e w1 ⟨rfl, rfl⟩)
        | (go_at_call 38; (with_reducible refine (HCK.out _ HB0.out).mono ?_); rintro e w1 ⟨rfl, hb⟩; have HB1 := Lib.hid hb; have c1 := HPX.out _ HB1.out; clear hb)
        | (go_at_call 13; (with_reducible refine (HHS.out _ (HUP.out _ HB1.out)).mono ?_); rintro e w2 ⟨rfl, hb⟩; have HB2 := Lib.hid (HB1.out.trans (hb.mono HB1.out.size)); clear hb))
      go_ret
      exact ⟨rfl, HS.out.call (HUP.out _ HB2.out), Chg.of_below (HUP.out _ HB2.out)⟩
    | false =>
      have ha : addB L bs = true := by unfold addB; rw [hh, hck]; rfl
      have HHF := Lib.hid hh; have HCZ := Lib.hid hck
      rw [hh] at HHS
      rw [hck] at HCK
      rw [ha]
      clear ha hh hck
      go_enter Tryz.func15, Tryz.ntmps15
      go_wp2_with fail
      rw [← HW0.out, ← HP.out]
      go_wp2_with (first
        | (go_at_call 34; (with_reducible refine (HMD.out _ HB0.out).mono ?_); rintro e w1 ⟨rfl, rfl⟩)
        | (go_at_call 38; (with_reducible refine (HCK.out _ HB0.out).mono ?_); rintro e w1 ⟨rfl, hb⟩; have HB1 := Lib.hid hb; have c1 := HPX.out _ HB1.out; clear hb)
        | (go_at_call 13; (with_reducible refine (HHS.out _ (HUP.out _ HB1.out)).mono ?_); rintro e w2 ⟨rfl, hb⟩; have HB2 := Lib.hid (HB1.out.trans (hb.mono HB1.out.size)); clear hb))
      clear c0 c1
      have HB3 : Hid (Below w0.heap.size w0 w2.drew) := HB2.out.drew
      have c0 := HPX.out _ HB3.out
      have d0 := HQ.out _ (HUP.out _ HB3.out)
      go_region_held3 (fun w' => w'.cell? ⟨P, 0, none⟩ = some (.slice ao n cap) ∧ w'.cell? ⟨q, 0, none⟩ = some (.map (some b))) (first | (with_reducible exact ⟨c0, d0⟩) | (with_reducible exact ⟨c5, d5⟩) | go_keep)
        (first
          | (go_at_call 36; (with_reducible refine (HKY.out _ (HUP.out _ HB3.out)).mono ?_); rintro e w3 ⟨rfl, hb⟩; have HB4 := Lib.hid (HB3.out.trans (hb.mono HB3.out.size)); have c0 := HPX.out _ HB4.out; have d0 := HQ.out _ (HUP.out _ HB4.out); clear hb)
          | (go_at_call 22; (with_reducible refine (HCL.out _ (HUP.out _ HB4.out)).mono ?_); rintro e w4 ⟨v', rfl, ho, hb⟩; obtain ⟨av, cv, rfl⟩ := ho.shape; have HB5 := Lib.hid (HB4.out.trans (hb.mono HB4.out.size)); have HO := Lib.hid ho; have HSZ := Lib.hid (HUP.out _ HB4.out).size; obtain ⟨w5, hrun, hown, hgr⟩ := (HOW.out _ (HUP.out _ HB5.out)).update lawS10 Tryz.underlying60 (Nat.lt_of_le_of_lt HN.out (Nat.lt_trans HM.out (by decide))) (kyV_key HK.out) (heldE_mk av bs.length cv); have HR5 := Lib.hid hown; have HG5 := Lib.hid hgr; have c0 := HPX.out _ HB5.out; have d0 := HQ.out _ (HUP.out _ HB5.out); have c5 := (World.cell?_of_block (a := ⟨P, 0, none⟩) (hgr.block P (HPL.out _ HB5.out).1 (HPL.out _ HB5.out).2)).trans c0; have d5 := (World.cell?_of_block (a := ⟨q, 0, none⟩) (hgr.block q (HQL.out _ HB5.out).1 (HQL.out _ HB5.out).2)).trans d0; unfold kyV at hrun; clear ho hb hown hgr))
      all_goals
        go_wp2
        go_ret
        exact ⟨rfl, ⟨_, by
          exact (HS.out.call (HUP.out _ HB5.out)).put ⟨av, _, cv, rfl⟩ (Sto.of_own HO.out (fun k hk => Nat.lt_of_lt_of_le (HS.out.Flt k hk) HSZ.out)) HK.out HCZ.out HHF.out HM.out HG5.out (HOW.out _ (HUP.out _ HB5.out)) HN.out HL.out HR5.out⟩,
          (Chg.of_below (HUP.out _ HB5.out)).grown0 HG5.out (fun b' e => by cases e; exact .inl rfl)⟩
  · have ha : addB L bs = false := by unfold addB; rw [decide_eq_false hck]; rfl
    rw [ha]
    have hne : (ckP bs != 0) = true := by simp [hck]
    have hne2 : (ckP bs == 0) = false := by simp [hck]
    generalize ckP bs = ck at HCK hck hne hne2
    clear ha
    go_enter Tryz.func15, Tryz.ntmps15
    go_wp2_with fail
    rw [← HW0.out, ← HP.out]
    go_wp2_with (first
      | (go_at_call 34; (with_reducible refine (HMD.out _ HB0.out).mono ?_); rintro e w1 ⟨rfl, rfl⟩)
      | (go_at_call 38; (with_reducible refine (HCK.out _ HB0.out).mono ?_); rintro e w1 ⟨rfl, hb⟩; have HB2 := Lib.hid hb; clear hb))
    go_ret
    exact ⟨rfl, HS.out.call (HUP.out _ HB2.out), Chg.of_below (HUP.out _ HB2.out)⟩
end Go.Proofs.YtiinljljbjjaeaaGreatDoor
