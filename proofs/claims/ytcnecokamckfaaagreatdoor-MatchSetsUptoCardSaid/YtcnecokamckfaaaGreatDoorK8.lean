/- Joined: Se1, Se2, Rs1. -/
import Derived.Test.YtcnecokamckfaaaGreatDoorK7
import Derived.IntWalk
import Derived.Test.YtcnecokamckfaaaGreatDoorK6
import Derived.Lib.QuietBelow
import Derived.BigQuiet
set_option linter.unusedVariables false
set_option linter.unusedSimpArgs false
/- Contracts: Has, Add, NewSet of sets. -/
namespace Go.Proofs.YtcnecokamckfaaaGreatDoor
open Go Go.RowKit Go.Maps Go.WideMaps

theorem cell_set_other {w : World} {P g : Nat} {v u : Value} (h : w.cell? ⟨P, 0, none⟩ = some v) (hn : P ≠ g) : (w.setCell ⟨g, 0, none⟩ u).cell? ⟨P, 0, none⟩ = some v := by
  rw [← h]; exact World.cell?_of_block (a := ⟨P, 0, none⟩) (Below.heap_setCell _ _ _ _ hn)
set_option maxRecDepth 100000 in
set_option maxHeartbeats 3200000 in
theorem mSetHas_any (F : Nat → Prop) (C q b : Nat) (L : List (Value × List Bd)) (B : Nat) (ao : Option Addr) (n cap : Nat) (bs : List Bd) (w : World) (h : SetAt F C w q b L) (hp : BsV w B (.slice ao n cap) bs) (hB : B ≤ w.heap.size) (hk : KyB bs) :
    Calls Tryz.prog 13 #[.pointer (some ⟨q, 0, none⟩), .agg #[.slice ao n cap]] w fun e w' => e = .returned (.bool (hasL L bs)) ∧ Below w.heap.size w w' := by
  obtain ⟨N, D, hD, _, hL⟩ := h.map
  have HQ := Lib.hid (fun u (hu : Below w.heap.size w u) => mSetParts_any q b u (h.call hu).cell)
  have HKY := Lib.hid (fun u (hu : Below w.heap.size w u) => mKey_any B ao n cap bs u (hp.below hu hB) (Nat.le_trans hB hu.size) hk.1 hk.2 (h.tab u (hu.mono h.C_le)))
  have HLK : Hid (∀ u, Below w.heap.size w u → ∃ a n c, (Instr.lookup 60 (.map (some b)) (.string ⟨(keyL bs).toArray⟩) true).run Tryz.prog u = .ok (.tuple #[.agg #[.slice a n c], .bool (hasL L bs)]) u) := fun u hu => by
    obtain ⟨v, ps, h1, h2⟩ := (owns_block0 hD (hu.block b hD.lt)).look_ok lawS10 Tryz.underlying60 (zeroP10 u) (heldE_mk none 0 0) (kyV_key hk)
    obtain ⟨a, n, c, rfl, _⟩ := heldE_inv h2
    rw [hL.has] at h1
    exact ⟨a, n, c, h1⟩
  obtain ⟨P, hP⟩ : ∃ P, P = w.heap.size := ⟨_, rfl⟩
  obtain ⟨w0, hw0⟩ : ∃ w0, w0 = w.alloc (.cells #[.slice ao n cap] 38) := ⟨_, rfl⟩
  have HB0 : Hid (Below w.heap.size w w0) := by rw [hw0]; exact (Below.refl _ _).alloc (Nat.le_refl _) _
  have HPX : Hid (∀ u, Below w0.heap.size w0 u → u.cell? ⟨P, 0, none⟩ = some (.slice ao n cap)) := fun u hu => by
    have h1 : w0.heap[P]? = some (.cells #[.slice ao n cap] 38 (0, 0)) := by rw [hw0, hP]; exact heap_alloc_new w _
    exact cells_one0 ((hu.block P (lt_of_block h1)).trans h1)
  have HW0 := Lib.hid hw0; have HP := Lib.hid hP
  have HPL : Hid (∀ u, Below w0.heap.size w0 u → P ≠ u.heap.size) := fun u hu => by have := hu.size; rw [hw0] at this; simp at this; omega
  generalize hasL L bs = r at HLK ⊢
  clear h hp hB hk hD hL hP hw0
  go_enter Tryz.func13, Tryz.ntmps13
  go_wp2_with fail
  rw [← HW0.out, ← HP.out]
  have HBu : Hid (Below w.heap.size w w0.drew) := HB0.out.drew
  have HZ0 : Hid (w.heap.size ≤ w0.heap.size) := HB0.out.size
  have HBv : Hid (Below w.heap.size w (w0.alloc (.cells #[.slice none 0 0] 38)).drew) := (HB0.out.alloc HZ0.out _).drew
  have HPU : Hid (∀ u, Below w0.heap.size w0 u → u.cell? ⟨P, 0, none⟩ = some (.slice ao n cap) ∧ P ≠ u.heap.size) := fun u hu => ⟨HPX.out u hu, HPL.out u hu⟩
  have HB1 : Hid (Below w0.heap.size w0 w0.drew) := (Below.refl _ _).drew
  have HB2 : Hid (Below w0.heap.size w0 (w0.alloc (.cells #[.slice none 0 0] 38)).drew) := ((Below.refl _ _).alloc (Nat.le_refl _) _).drew
  have HV2 : Hid (∀ u, Below (w0.alloc (.cells #[.slice none 0 0] 38)).drew.heap.size (w0.alloc (.cells #[.slice none 0 0] 38)).drew u → u.cell? ⟨w0.heap.size, 0, none⟩ = some (.slice none 0 0) ∧ u.frozen? ⟨w0.heap.size, 0, none⟩ = false) := fun u hu => by
    have h1 : (w0.alloc (.cells #[.slice none 0 0] 38)).drew.heap[w0.heap.size]? = some (.cells #[.slice none 0 0] 38 (0, 0)) := heap_alloc_new w0 _
    have h2 := (hu.block w0.heap.size (lt_of_block h1)).trans h1
    exact ⟨cells_one0 h2, by simp [World.frozen?, h2]⟩
  obtain ⟨c0, hn0⟩ := HPU.out _ HB1.out
  obtain ⟨c0v, hn0v⟩ := HPU.out _ HB2.out
  have hn00 := HPL.out w0 (Below.refl _ _)
  go_region_held3 (fun w' => w'.cell? ⟨P, 0, none⟩ = some (.slice ao n cap)) (first | (with_reducible exact c0) | (with_reducible exact c0v) | (with_reducible exact Lib.cell?_alloc_some _ c0) | (with_reducible exact cell_set_other c0 hn00) | go_keep)
    (first
      | (go_at_call 33; (with_reducible refine (HQ.out _ HBu.out).mono ?_); rintro e w1 ⟨rfl, rfl⟩)
      | (go_at_call 33; (with_reducible refine (HQ.out _ HBv.out).mono ?_); rintro e w1 ⟨rfl, rfl⟩)
      | (go_at_call 36; (with_reducible refine (HKY.out _ HBu.out).mono ?_); rintro e w1 ⟨rfl, hb⟩; have HBk := Lib.hid (HBu.out.trans (hb.mono HBu.out.size)); have HB3 := Lib.hid (HB1.out.trans (hb.mono HB1.out.size)); obtain ⟨c0, hne⟩ := HPU.out _ HB3.out; obtain ⟨a1, n1, c1, hlk⟩ := HLK.out _ HBk.out; have HBk2 := Lib.hid (HBk.out.alloc HBk.out.size (.cells #[.slice none 0 0] 38)); obtain ⟨a2, n2, c2, hlk2⟩ := HLK.out _ HBk2.out; have HFIN : Hid (∀ v, Below w.heap.size w (w1.alloc (.cells #[v] 38))) := fun v => HBk.out.alloc HBk.out.size _; clear hb)
      | (go_at_call 36; (with_reducible refine (HKY.out _ HBv.out).mono ?_); rintro e w1 ⟨rfl, hb⟩; have HBk := Lib.hid (HBv.out.trans (hb.mono HBv.out.size)); have HB3 := Lib.hid (HB2.out.trans (hb.mono HB2.out.size)); obtain ⟨c0, hne⟩ := HPU.out _ HB3.out; obtain ⟨a1, n1, c1, hlk⟩ := HLK.out _ HBk.out; obtain ⟨cv, fv⟩ := HV2.out _ hb; have HFIN : Hid (∀ v, Below w.heap.size w (w1.setCell ⟨w0.heap.size, 0, none⟩ v)) := fun v => HBk.out.setCell (p := ⟨w0.heap.size, 0, none⟩) HZ0.out v; clear hb))
  all_goals
    go_wp2
    go_ret
    exact ⟨rfl, HFIN.out _⟩
/-- Whether Add puts bounds in. -/
def addB (L : List (Value × List Bd)) (bs : List Bd) : Bool := decide (ckP bs = 0) && !hasL L bs
set_option maxRecDepth 100000 in
set_option maxHeartbeats 3200000 in
theorem mSetAdd_any (F : Nat → Prop) (C q b : Nat) (L : List (Value × List Bd)) (B : Nat) (ao : Option Addr) (n cap : Nat) (bs : List Bd) (w : World) (h : SetAt F C w q b L) (hp : BsV w B (.slice ao n cap) bs) (hB : B ≤ w.heap.size) (hk : ckP bs = 0 → KyB bs) (hm : L.length < 5864062014805) :
    Calls Tryz.prog 15 #[.pointer (some ⟨q, 0, none⟩), .agg #[.slice ao n cap]] w fun e w' => e = .returned (.bool (addB L bs)) ∧ (∃ v, SetAt F C w' q b (if addB L bs = true then L ++ [(v, bs)] else L)) ∧ Chg (fun k => k = b) w w' := by
  obtain ⟨N, D, hD, hN, hL⟩ := h.map
  have HMD := Lib.hid (fun u (hu : Below w.heap.size w u) => mSetMade_any q b u (h.call hu).cell)
  have HCK := Lib.hid (fun u (hu : Below w.heap.size w u) => mCheck_any B ao n cap bs u (hp.below hu hB) (Nat.le_trans hB hu.size))
  have HHS0 := Lib.hid (fun (hc : ckP bs = 0) u (hu : Below w.heap.size w u) => mSetHas_any F C q b L B ao n cap bs u (h.call hu) (hp.below hu hB) (Nat.le_trans hB hu.size) (hk hc))
  have HKY0 := Lib.hid (fun (hc : ckP bs = 0) u (hu : Below w.heap.size w u) => mKey_any B ao n cap bs u (hp.below hu hB) (Nat.le_trans hB hu.size) (hk hc).1 (hk hc).2 (h.tab u (hu.mono h.C_le)))
  have HCL := Lib.hid (fun u (hu : Below w.heap.size w u) => mClone_any B ao n cap bs u (hp.below hu hB) (Nat.le_trans hB hu.size))
  have HS := Lib.hid h
  have HQ := Lib.hid (fun u (hu : Below w.heap.size w u) => (h.call hu).cell)
  have HOW := Lib.hid (fun u (hu : Below w.heap.size w u) => owns_block0 hD (hu.block b hD.lt))
  have HN := Lib.hid hN; have HL := Lib.hid hL; have HK0 := Lib.hid hk; have HM := Lib.hid hm
  obtain ⟨P, hP⟩ : ∃ P, P = w.heap.size := ⟨_, rfl⟩
  obtain ⟨w0, hw0⟩ : ∃ w0, w0 = w.alloc (.cells #[.slice ao n cap] 38) := ⟨_, rfl⟩
  have HB0 : Hid (Below w.heap.size w w0) := by rw [hw0]; exact (Below.refl _ _).alloc (Nat.le_refl _) _
  have HPX : Hid (∀ u, Below w0.heap.size w0 u → u.cell? ⟨P, 0, none⟩ = some (.slice ao n cap)) := fun u hu => by
    have h1 : w0.heap[P]? = some (.cells #[.slice ao n cap] 38 (0, 0)) := by rw [hw0, hP]; exact heap_alloc_new w _
    exact cells_one0 ((hu.block P (lt_of_block h1)).trans h1)
  have HW0 := Lib.hid hw0; have HP := Lib.hid hP
  have HB1 : Hid (Below w0.heap.size w0 w0) := Below.refl _ _
  have HUP : Hid (∀ u, Below w0.heap.size w0 u → Below w.heap.size w u) := fun u hu => HB0.out.trans (hu.mono HB0.out.size)
  have hbw := h.Flt b h.Fb
  have hqw := h.Cq
  have hqb : q ≠ b := fun e => h.Fq (by rw [e]; exact h.Fb)
  have HPL : Hid (∀ u, Below w0.heap.size w0 u → P < u.heap.size ∧ some P ≠ some b) := fun u hu => by
    have h1 := hu.size; rw [hw0] at h1; simp at h1
    exact ⟨by omega, fun e => by cases e; omega⟩
  have HQL : Hid (∀ u, Below w0.heap.size w0 u → q < u.heap.size ∧ some q ≠ some b) := fun u hu => by
    have h1 := hu.size; rw [hw0] at h1; simp at h1
    exact ⟨by omega, fun e => by cases e; exact hqb rfl⟩
  clear h hp hB hk hD hL hP hw0 hN hm hbw hqw hqb
  have c0 := HPX.out _ HB1.out
  by_cases hck : ckP bs = 0
  · have HHS := Lib.hid (HHS0.out hck); have HKY := Lib.hid (HKY0.out hck); have HK := Lib.hid (HK0.out hck)
    clear HHS0 HKY0 HK0
    cases hh : hasL L bs with
    | true =>
      have ha : addB L bs = false := by unfold addB; rw [hh]; simp
      rw [hh] at HHS
      rw [hck] at HCK
      rw [ha]
      clear ha hh hck
      go_enter Tryz.func15, Tryz.ntmps15
      go_wp2_with fail
      rw [← HW0.out, ← HP.out]
      go_wp2_with (first
        | (go_at_call 34; (with_reducible refine (HMD.out _ HB0.out).mono ?_); rintro e w1 ⟨rfl, rfl⟩)
        | (go_at_call 38; (with_reducible refine (HCK.out _ HB0.out).mono ?_); rintro e w1 ⟨rfl, hb⟩; have HB1 := Lib.hid hb; have c1 := HPX.out _ HB1.out; clear hb)
        | (go_at_call 13; (with_reducible refine (HHS.out _ (HUP.out _ HB1.out)).mono ?_); rintro e w2 ⟨rfl, hb⟩; have HB2 := Lib.hid (HB1.out.trans (hb.mono HB1.out.size)); clear hb))
      go_ret
      exact ⟨rfl, HS.out.call (HUP.out _ HB2.out), Chg.of_below (HUP.out _ HB2.out)⟩
    | false =>
      have ha : addB L bs = true := by unfold addB; rw [hh, hck]; rfl
      have HHF := Lib.hid hh; have HCZ := Lib.hid hck
      rw [hh] at HHS
      rw [hck] at HCK
      rw [ha]
      clear ha hh hck
      go_enter Tryz.func15, Tryz.ntmps15
      go_wp2_with fail
      rw [← HW0.out, ← HP.out]
      go_wp2_with (first
        | (go_at_call 34; (with_reducible refine (HMD.out _ HB0.out).mono ?_); rintro e w1 ⟨rfl, rfl⟩)
        | (go_at_call 38; (with_reducible refine (HCK.out _ HB0.out).mono ?_); rintro e w1 ⟨rfl, hb⟩; have HB1 := Lib.hid hb; have c1 := HPX.out _ HB1.out; clear hb)
        | (go_at_call 13; (with_reducible refine (HHS.out _ (HUP.out _ HB1.out)).mono ?_); rintro e w2 ⟨rfl, hb⟩; have HB2 := Lib.hid (HB1.out.trans (hb.mono HB1.out.size)); clear hb))
      clear c0 c1
      have HB3 : Hid (Below w0.heap.size w0 w2.drew) := HB2.out.drew
      have c0 := HPX.out _ HB3.out
      have d0 := HQ.out _ (HUP.out _ HB3.out)
      go_region_held3 (fun w' => w'.cell? ⟨P, 0, none⟩ = some (.slice ao n cap) ∧ w'.cell? ⟨q, 0, none⟩ = some (.map (some b))) (first | (with_reducible exact ⟨c0, d0⟩) | (with_reducible exact ⟨c5, d5⟩) | go_keep)
        (first
          | (go_at_call 36; (with_reducible refine (HKY.out _ (HUP.out _ HB3.out)).mono ?_); rintro e w3 ⟨rfl, hb⟩; have HB4 := Lib.hid (HB3.out.trans (hb.mono HB3.out.size)); have c0 := HPX.out _ HB4.out; have d0 := HQ.out _ (HUP.out _ HB4.out); clear hb)
          | (go_at_call 22; (with_reducible refine (HCL.out _ (HUP.out _ HB4.out)).mono ?_); rintro e w4 ⟨v', rfl, ho, hb⟩; obtain ⟨av, cv, rfl⟩ := ho.shape; have HB5 := Lib.hid (HB4.out.trans (hb.mono HB4.out.size)); have HO := Lib.hid ho; have HSZ := Lib.hid (HUP.out _ HB4.out).size; obtain ⟨w5, hrun, hown, hgr⟩ := (HOW.out _ (HUP.out _ HB5.out)).update lawS10 Tryz.underlying60 (Nat.lt_of_le_of_lt HN.out (Nat.lt_trans HM.out (by decide))) (kyV_key HK.out) (heldE_mk av bs.length cv); have HR5 := Lib.hid hown; have HG5 := Lib.hid hgr; have c0 := HPX.out _ HB5.out; have d0 := HQ.out _ (HUP.out _ HB5.out); have c5 := (World.cell?_of_block (a := ⟨P, 0, none⟩) (hgr.block P (HPL.out _ HB5.out).1 (HPL.out _ HB5.out).2)).trans c0; have d5 := (World.cell?_of_block (a := ⟨q, 0, none⟩) (hgr.block q (HQL.out _ HB5.out).1 (HQL.out _ HB5.out).2)).trans d0; unfold kyV at hrun; clear ho hb hown hgr))
      all_goals
        go_wp2
        go_ret
        exact ⟨rfl, ⟨_, by
          exact (HS.out.call (HUP.out _ HB5.out)).put ⟨av, _, cv, rfl⟩ (Sto.of_own HO.out (fun k hk => Nat.lt_of_lt_of_le (HS.out.Flt k hk) HSZ.out)) HK.out HCZ.out HHF.out HM.out HG5.out (HOW.out _ (HUP.out _ HB5.out)) HN.out HL.out HR5.out⟩,
          (Chg.of_below (HUP.out _ HB5.out)).grown0 HG5.out (fun b' e => by cases e; exact .inl rfl)⟩
  · have ha : addB L bs = false := by unfold addB; rw [decide_eq_false hck]; rfl
    rw [ha]
    have hne : (ckP bs != 0) = true := by simp [hck]
    have hne2 : (ckP bs == 0) = false := by simp [hck]
    generalize ckP bs = ck at HCK hck hne hne2
    clear ha
    go_enter Tryz.func15, Tryz.ntmps15
    go_wp2_with fail
    rw [← HW0.out, ← HP.out]
    go_wp2_with (first
      | (go_at_call 34; (with_reducible refine (HMD.out _ HB0.out).mono ?_); rintro e w1 ⟨rfl, rfl⟩)
      | (go_at_call 38; (with_reducible refine (HCK.out _ HB0.out).mono ?_); rintro e w1 ⟨rfl, hb⟩; have HB2 := Lib.hid hb; clear hb))
    go_ret
    exact ⟨rfl, HS.out.call (HUP.out _ HB2.out), Chg.of_below (HUP.out _ HB2.out)⟩
end Go.Proofs.YtcnecokamckfaaaGreatDoor

/- Contract of NewSet; a row of partial matches. -/
namespace Go.Proofs.YtcnecokamckfaaaGreatDoor
open Go Go.RowKit Go.Maps Go.WideMaps

/-- In w the value v is a row of partial matches; all of it lies below block B. -/
structure LpV (w : World) (B : Nat) (v : Value) (ls : List (List Bd)) : Prop where
  len : ls.length ≤ 5864062014805
  ky : ∀ bs ∈ ls, ckP bs = 0 → KyB bs
  row : ∃ ao cap, v = .slice ao ls.length cap ∧ ls.length ≤ cap ∧ cap ≤ 9223372036854775807 ∧ (0 < ls.length → ∃ b o, ao = some ⟨b, o, none⟩ ∧ b < B ∧ ∀ j, j < ls.length → ∃ aa n c, w.cell? ⟨b, o + j, none⟩ = some (.slice aa n c) ∧ BsV w B (.slice aa n c) ls[j]!)
theorem LpV.below {w w' : World} {B : Nat} {v : Value} {ls : List (List Bd)} (h : LpV w B v ls) (hb : Below B w w') : LpV w' B v ls := by
  obtain ⟨ao, cap, h1, h2, h3, h4⟩ := h.row
  refine ⟨h.len, h.ky, ao, cap, h1, h2, h3, fun h0 => ?_⟩
  obtain ⟨b, o, e, hb1, hc⟩ := h4 h0
  refine ⟨b, o, e, hb1, fun j hj => ?_⟩
  obtain ⟨aa, n, c, h5, h6⟩ := hc j hj
  exact ⟨aa, n, c, (hb.cell (p := ⟨b, o + j, none⟩) hb1).trans h5, h6.below hb (Nat.le_refl _)⟩

/-- What a set has behind one more that is put to it; behind all of a row. -/
def addK (ks : List (List Bd)) (bs : List Bd) : List (List Bd) := if ckP bs = 0 ∧ keyL bs ∉ ks.map keyL then ks ++ [bs] else ks
def setK (ls : List (List Bd)) : List (List Bd) := ls.foldl addK []
theorem setK_snoc (ls : List (List Bd)) (bs : List Bd) : setK (ls ++ [bs]) = addK (setK ls) bs := by unfold setK; rw [List.foldl_append]; rfl
theorem addB_K (L : List (Value × List Bd)) (bs : List Bd) : addB L bs = decide (ckP bs = 0 ∧ keyL bs ∉ (L.map Prod.snd).map keyL) := by
  unfold addB hasL
  rw [List.map_map, Bool.decide_and]
  congr 1
  simp [Function.comp_def]
theorem addK_len (ks : List (List Bd)) (bs : List Bd) : (addK ks bs).length ≤ ks.length + 1 := by unfold addK; split <;> simp
theorem setK_len (ls : List (List Bd)) : (setK ls).length ≤ ls.length := by
  refine snocInd (P := fun ls => (setK ls).length ≤ ls.length) (Nat.le_refl _) (fun l b ih => ?_) ls
  rw [setK_snoc, List.length_append]
  have := addK_len (setK l) b
  simp; omega
theorem add_snd {L : List (Value × List Bd)} {v : Value} {bs : List Bd} : (if addB L bs = true then L ++ [(v, bs)] else L).map Prod.snd = addK (L.map Prod.snd) bs := by
  rw [addB_K]
  unfold addK
  by_cases h : ckP bs = 0 ∧ keyL bs ∉ (L.map Prod.snd).map keyL
  · rw [if_pos (decide_eq_true h), if_pos h]; simp
  · rw [if_neg (by rw [decide_eq_false h]; decide), if_neg h]

set_option maxRecDepth 100000 in
set_option maxHeartbeats 3200000 in
theorem mNewSet_any (G : Nat → Prop) (C B : Nat) (v : Value) (ls : List (List Bd)) (w : World) (h : LpV w B v ls) (hB : B ≤ w.heap.size) (hC : C ≤ w.heap.size) (hG : ∀ k, G k → C ≤ k ∧ k < w.heap.size) (htab : Lib.TabBelow Tryz.prog C w "internal/strconv.uint64pow10" .u64 Lib.pow10Tab) :
    Calls Tryz.prog 6 #[v] w fun e w' => ∃ q b L, e = .returned (.pointer (some ⟨q, 0, none⟩)) ∧ w.heap.size ≤ q ∧ w.heap.size ≤ b ∧ SetAt (fun k => k = b ∨ G k) C w' q b L ∧ L.map Prod.snd = setK ls ∧ Below w.heap.size w w' := by
  obtain ⟨ao, cap, rfl, hcap, hcap2, hrow⟩ := h.row
  obtain ⟨N, hN⟩ : ∃ N, N = ls.length := ⟨_, rfl⟩
  have hlen := h.len
  rw [← hN] at hcap hlen ⊢
  have hmm := @run_makeMap Tryz.prog
  obtain ⟨b, hb⟩ : ∃ b, b = w.heap.size := ⟨_, rfl⟩
  obtain ⟨w0, hw0⟩ : ∃ w0, w0 = (w.alloc (.map #[] 0)).alloc (.cells #[.map (some b)] 62) := ⟨_, rfl⟩
  have HS0 : Hid (SetAt (fun k => k = b ∨ G k) C w0 (b + 1) b []) := by
    have h1 : Below w.heap.size w w0 := by rw [hw0]; exact ((Below.refl _ _).alloc (Nat.le_refl _) _).alloc (by simp) _
    have hsz : w0.heap.size = b + 2 := by rw [hw0, hb]; simp
    refine ⟨.inl rfl, fun hf => hf.elim (fun e => by omega) (fun hg => by have := (hG _ hg).2; omega), fun k hk => hk.elim (fun e => by omega) (fun hg => (hG k hg).1), fun k hk => hk.elim (fun e => by omega) (fun hg => by have := (hG _ hg).2; omega), ?_, htab.on (h1.mono hC), ⟨0, .map [], ?_, Nat.le_refl _, MapL.nil⟩, (fun x hx => by cases hx), by simp⟩
    · rw [hw0, show b + 1 = (w.alloc (.map #[] 0)).heap.size by rw [hb]; simp]; exact heap_alloc_new _ _
    · rw [hw0, hb]; exact (World.ownsMap_made w Tryz.prog 9 heldE).alloc _
  have HBW0 : Hid (Below w.heap.size w w0) := by rw [hw0]; exact ((Below.refl _ _).alloc (Nat.le_refl _) _).alloc (by simp) _
  have HH := Lib.hid h; have HN := Lib.hid hN; have HROW := Lib.hid hrow; have HBL := Lib.hid hB; have HW0 := Lib.hid hw0; have HBB := Lib.hid hb
  have H63 : Hid (N ≤ 5864062014805) := hlen
  clear h hN hrow hlen hcap hcap2 hB hC hG htab hw0 hb
  go_enter Tryz.func6, Tryz.ntmps6
  go_wp2_with fail
  rw [← HBB.out, ← HW0.out]
  go_loopw [11] (fun iv wr => ∃ (k : Nat) (L : List (Value × List Bd)), k ≤ N ∧ iv = .int .i64 (k : Int) ∧ Hid (SetAt (fun k => k = b ∨ G k) C wr (b + 1) b L) ∧ Hid (L.map Prod.snd = setK (ls.take k)) ∧ Hid (Below w.heap.size w wr)) (fun iv _ => N - (intOf iv).toNat)
  case atStart => exact ⟨0, [], Nat.zero_le _, rfl, HS0, Lib.hid rfl, HBW0⟩
  case round =>
    obtain ⟨k, L, hk, rfl, HS, HL, HBW⟩ := hrel
    by_cases hlt : k < N
    · obtain ⟨bb, o, rfl, hbB, hcell⟩ := HROW.out (by have := HN.out; omega)
      have hkl : k < ls.length := by have := HN.out; omega
      obtain ⟨aa, n, c, hc, hbs⟩ := hcell k hkl
      have a0 := (HBW.out.cell (p := ⟨bb, o + k, none⟩) (show bb < w.heap.size by have := HBL.out; omega)).trans hc
      have HSN : Hid (setK (ls.take (k + 1)) = addK (setK (ls.take k)) ls[k]!) := by
        rw [List.take_succ_eq_append_getElem hkl, setK_snoc, getElem!_pos ls k hkl]; exact Lib.hid rfl
      have HKY : Hid (ckP ls[k]! = 0 → KyB ls[k]!) := HH.out.ky _ (by rw [getElem!_pos ls k hkl]; exact List.getElem_mem _)
      have HBS := Lib.hid (hbs.below (HBW.out.mono HBL.out) (Nat.le_refl _))
      have HLM : Hid (L.length < 5864062014805) := by
        have h1 := congrArg List.length HL.out
        rw [List.length_map] at h1
        have h2 := setK_len (ls.take k)
        rw [List.length_take] at h2
        have := H63.out
        unfold Hid; omega
      generalize ls[k]! = x at HSN HKY HBS
      obtain ⟨w1, hw1⟩ : ∃ w1, w1 = wr.alloc (.cells #[.slice aa n c] 38) := ⟨_, rfl⟩
      have HB1 : Hid (Below wr.heap.size wr w1) := by rw [hw1]; exact (Below.refl _ _).alloc (Nat.le_refl _) _
      have HS1 := Lib.hid (HS.out.call HB1.out)
      have HADD := Lib.hid (mSetAdd_any _ C (b + 1) b L B aa n c x w1 HS1.out (HBS.out.below (HB1.out.mono (Nat.le_trans HBL.out HBW.out.size)) (Nat.le_refl _)) (Nat.le_trans HBL.out (Nat.le_trans HBW.out.size HB1.out.size)) HKY.out HLM.out)
      have e1 : IntKind.i64.wrap ((k : Int) + 1) = (k : Int) + 1 := IntWalk.i64_in _ (by have := H63.out; omega)
      have hbne : bb ≠ wr.heap.size := by have := HBW.out.size; have := HBL.out; omega
      have hkz : (0 : Int) ≤ (k : Int) := by omega
      have HW1 := Lib.hid hw1
      clear hcell hc hbs hkl hw1
      go_wp2_with fail
      rw [← HW1.out]
      (with_reducible refine HADD.out.mono ?_)
      rintro e w2 ⟨rfl, ⟨v', hs⟩, hch⟩
      have HS2 := Lib.hid hs
      have HCH := Lib.hid hch
      clear hs hch
      go_wp2
      go_roundw
      case rel =>
        refine ⟨k + 1, _, by omega, by go_num, HS2, ?_, ?_⟩
        · rw [HSN.out, ← HL.out]; exact Lib.hid add_snd
        · exact Lib.hid (HBW.out.trans ((HB1.out.mono HBW.out.size).trans (HCH.out.below (Nat.le_trans HBW.out.size HB1.out.size) (fun k hk => by have := HBB.out; omega))))
      case measure => simp [intOf]; omega
    · have HT : Hid (ls.take k = ls) := List.take_of_length_le (by have := HN.out; omega)
      rw [HT.out] at HL
      go_wp2
      go_ret
      exact ⟨_, b, L, rfl, by have := HBB.out; omega, by have := HBB.out; omega, HS.out, HL.out, HBW.out⟩
end Go.Proofs.YtcnecokamckfaaaGreatDoor

/- The document's set in memory: a row of partial matches, rising; Has. -/
namespace Go.Proofs.YtcnecokamckfaaaGreatDoor
open Go Go.RowKit Go.Sort

/-- Whether one of them stands at 0 to these bounds. -/
def hasR (ls : List (List Bd)) (bs : List Bd) : Bool := ls.any fun x => decide (cmpL x bs = 0)

set_option maxRecDepth 100000 in
set_option maxHeartbeats 3200000 in
theorem r10SetHas_any (q : Nat) (v : Value) (ls : List (List Bd)) (ao : Option Addr) (n cap : Nat) (bs : List Bd) (w : World) (hq : w.heap[q]? = some (.cells #[v] 33 (0, 0))) (hl : LpV w w.heap.size v ls) (hp : BsV w w.heap.size (.slice ao n cap) bs) :
    Calls Tryz.prog 14 #[.pointer (some ⟨q, 0, none⟩), .agg #[.slice ao n cap]] w fun e w' => e = .returned (.bool (hasR ls bs)) ∧ Below w.heap.size w w' := by
  obtain ⟨ao2, cap2, rfl, hcap, hcap2, hrow⟩ := hl.row
  have hmany := hl.len
  obtain ⟨P, hP⟩ : ∃ P, P = w.heap.size := ⟨_, rfl⟩
  obtain ⟨W0, hW0⟩ : ∃ W0, W0 = w.alloc (.cells #[.slice ao n cap] 38) := ⟨_, rfl⟩
  have hb0 : Below P w W0 := by rw [hW0, hP]; exact (Below.refl _ _).alloc (Nat.le_refl _) _
  have hs0 : W0.heap.size = P + 1 := by rw [hW0, hP]; simp
  have hx0 : W0.heap[P]? = some (.cells #[.slice ao n cap] 38 (0, 0)) := by rw [hW0, hP]; exact heap_alloc_new w _
  have hqP : q < P := by rw [hP]; exact lt_of_block hq
  have HX : Hid (∀ W, Below (P + 1) W0 W → Below P w W ∧ W.cell? ⟨P, 0, none⟩ = some (.slice ao n cap) ∧ W.cell? ⟨q, 0, none⟩ = some (.slice ao2 ls.length cap2) ∧ P + 1 ≤ W.heap.size) := Lib.hid fun W h => by
    have h1 := hb0.trans (h.mono (by omega))
    exact ⟨h1, cells_one0 ((h.block P (by omega)).trans hx0), cells_one0 ((h1.block q hqP).trans hq), by have := h.size; omega⟩
  have HCMP : Hid (∀ k, k < ls.length → ∃ b o aa m c, ao2 = some ⟨b, o, none⟩ ∧ (∀ W, Below (P + 1) W0 W → W.cell? ⟨b, o + k, none⟩ = some (.slice aa m c)) ∧ ∀ u, Below (P + 1) W0 u → Calls Tryz.prog 37 #[.agg #[.slice aa m c], .agg #[.slice ao n cap]] u fun e w' => e = .returned (.int .i64 (cmpL ls[k]! bs)) ∧ Below u.heap.size u w') := Lib.hid fun k hk => by
    obtain ⟨b, o, e, hb, hc⟩ := hrow (by omega)
    obtain ⟨aa, m, c, h1, h2⟩ := hc k hk
    refine ⟨b, o, aa, m, c, e, fun W hW => ((hb0.trans (hW.mono (by omega))).cell (p := ⟨b, o + k, none⟩) (by show b < P; omega)).trans h1, fun u hu => ?_⟩
    have h3 := hb0.trans (hu.mono (by omega))
    rw [hP] at h3
    exact r10Compare_any w.heap.size w.heap.size aa m c ao n cap ls[k]! bs u (h2.below h3 (Nat.le_refl _)) (hp.below h3 (Nat.le_refl _)) h3.size h3.size
  have HP := Lib.hid hP; have HW0 := Lib.hid hW0
  rw [← hP]
  clear hP hW0 hb0 hs0 hx0 hqP hq hl hp hrow hcap
  go_enter Tryz.func14, Tryz.ntmps14
  go_wp2_with fail
  rw [← HW0.out, ← HP.out]
  go_loopw [5] (fun iv wr => ∃ k : Nat, k ≤ ls.length ∧ iv = .int .i64 k ∧ Hid ((ls.take k).any (fun x => decide (cmpL x bs = 0)) = false) ∧ Hid (Below (P + 1) W0 wr)) (fun iv _ => ls.length - (intOf iv).toNat)
  case atStart => exact ⟨0, Nat.zero_le _, rfl, Lib.hid rfl, Lib.hid (Below.refl _ _)⟩
  case round =>
    obtain ⟨k, hk, rfl, HK, HB⟩ := hrel
    obtain ⟨hbp, c1, c2, hz⟩ := HX.out wr HB.out
    by_cases hlt : k < ls.length
    · obtain ⟨b, o, aa, m, c, rfl, he, hC⟩ := HCMP.out k hlt
      have e0 := he wr HB.out
      have HT : Hid ((ls.take (k + 1)).any (fun x => decide (cmpL x bs = 0)) = decide (cmpL ls[k]! bs = 0)) := by
        rw [List.take_succ_eq_append_getElem hlt, List.any_append, HK.out, getElem!_pos ls k hlt]; exact Lib.hid (by simp)
      have HFULL : Hid (cmpL ls[k]! bs = 0 → hasR ls bs = true) := Lib.hid fun h => List.any_eq_true.2 ⟨ls[k]!, by rw [getElem!_pos ls k hlt]; exact List.getElem_mem _, decide_eq_true h⟩
      generalize cmpL ls[k]! bs = cv at hC HT HFULL
      have R1 := Lib.hid (rg (w := wr) (fun u hu => hC u (HB.out.trans (hu.mono hz))))
      have m1 := cell_regrown c1; have m2 := cell_regrown c2; have m0 := cell_regrown e0
      have e1 : IntKind.i64.wrap ((k : Int) + 1) = (k : Int) + 1 := IntWalk.i64_in _ (by omega)
      have hki : (k : Int) < (ls.length : Int) := by omega
      have hkz : (0 : Int) ≤ (k : Int) := by omega
      have HZ := Lib.hid hz
      clear he hC hbp hz
      go_wp2_with fail
      refine wp_region_quiet_below (by kernel_rfl) (by kernel_rfl) ?_
      repeat (quiet_step (with_reducible exact R1.out _ _))
      refine wpQuiet_nil ?_
      intro _ hw'
      obtain ⟨⟨dq, osq⟩, hw''⟩ := hw'
      subst hw''
      have hb1 : Below (P + 1) W0 (grow (redrawn wr dq) osq) := HB.out.trans ((below_regrown wr dq osq).mono HZ.out)
      clear m0 m1 m2 R1 c1 c2 e0
      generalize grow (redrawn wr dq) osq = u1 at hb1 ⊢
      have HB1 := Lib.hid hb1
      clear hb1
      by_cases hz0 : cv = 0
      · have hd : (cv == 0) = true := by simp [hz0]
        have HF := Lib.hid (HFULL.out hz0)
        subst hz0
        go_wp2
        go_ret
        exact ⟨ret_bool0 HF.out.symm, (HX.out _ HB1.out).1⟩
      · have hd : (cv == 0) = false := beq_eq_false_iff_ne.2 hz0
        have HF : Hid ((ls.take (k + 1)).any (fun x => decide (cmpL x bs = 0)) = false) := by rw [HT.out]; exact Lib.hid (decide_eq_false hz0)
        go_wp2
        go_roundw
        case rel => exact ⟨k + 1, by omega, by go_num, HF, HB1⟩
        case measure => simp [intOf]; omega
    · obtain rfl : k = ls.length := by omega
      have HF : Hid (hasR ls bs = false) := by have := HK.out; rw [List.take_length] at this; exact this
      clear hlt
      go_wp2
      go_ret
      exact ⟨ret_bool0 HF.out.symm, hbp⟩
end Go.Proofs.YtcnecokamckfaaaGreatDoor
