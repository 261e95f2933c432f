/- Joined: Bx0, Be0, Wr1, Rs3. -/
import Derived.Test.YtcnecokamckfaaaGreatDoorK11
import Derived.Test.YtcnecokamckfaaaGreatDoorK5
import Derived.Test.YtcnecokamckfaaaGreatDoorJ1
import Derived.Test.YtcnecokamckfaaaGreatDoorK8
import Derived.Test.YtcnecokamckfaaaGreatDoorK9
import Derived.BigQuiet
import Derived.Deep.RegionHeld3
set_option linter.unusedVariables false
set_option linter.unusedSimpArgs false
/- Partial matches in boxes: how things stand within the statements' walks. -/
namespace Go.Proofs.YtcnecokamckfaaaGreatDoor
open Go Go.RowKit

/-- Boxes from block P on, each with a partial match that lies below P or is in memory of the walk's own. -/
structure Bx (w0 : World) (P : Nat) (L : List (Nat × Value × List Bd)) (u : World) : Prop where
  below : Below P w0 u
  sz : P ≤ u.heap.size
  all : ∀ q v bs, (q, v, bs) ∈ L → P ≤ q ∧ u.heap[q]? = some (.cells #[v] 38 (0, 0)) ∧ (BsV u P v bs ∨ BsO u P v bs)
  nd : (L.map Prod.fst).Nodup
theorem Bx.nil {w : World} : Bx w w.heap.size [] w := ⟨Below.refl _ _, Nat.le_refl _, (fun _ _ _ h => by cases h), List.nodup_nil⟩
theorem Bx.call {w0 u u' : World} {P : Nat} {L : List (Nat × Value × List Bd)} (h : Bx w0 P L u) (hb : Below u.heap.size u u') : Bx w0 P L u' :=
  ⟨h.below.trans (hb.mono h.sz), Nat.le_trans h.sz hb.size, fun q v bs hm => by
    obtain ⟨h1, h2, h3⟩ := h.all q v bs hm
    exact ⟨h1, (hb.block q (lt_of_block h2)).trans h2, h3.elim (fun k => .inl (k.below hb h.sz)) (fun k => .inr (k.call hb))⟩, h.nd⟩
theorem Bx.alloc {w0 u : World} {P : Nat} {L : List (Nat × Value × List Bd)} (h : Bx w0 P L u) (o : Obj) : Bx w0 P L (u.alloc o) := h.call ((Below.refl _ _).alloc (Nat.le_refl _) o)
theorem Bx.new {w0 u : World} {P : Nat} {L : List (Nat × Value × List Bd)} (h : Bx w0 P L u) {v : Value} {bs : List Bd} (hv : BsV u P v bs ∨ BsO u P v bs) : Bx w0 P ((u.heap.size, v, bs) :: L) (u.alloc (.cells #[v] 38)) := by
  have hb := (Below.refl u.heap.size u).alloc (Nat.le_refl _) (.cells #[v] 38)
  refine ⟨(h.alloc _).below, (h.alloc _).sz, fun q v' bs' hm => ?_, ?_⟩
  rotate_left
  · rw [List.map_cons, List.nodup_cons]
    refine ⟨fun hm => ?_, h.nd⟩
    obtain ⟨⟨q, x, y⟩, hx, e⟩ := List.mem_map.1 hm
    have := lt_of_block (h.all q x y hx).2.1
    simp only at e; omega
  rcases List.mem_cons.1 hm with e | hm
  · simp only [Prod.mk.injEq] at e
    obtain ⟨rfl, rfl, rfl⟩ := e
    exact ⟨h.sz, heap_alloc_new _ _, hv.elim (fun k => .inl (k.below hb h.sz)) (fun k => .inr (k.call hb))⟩
  · exact (h.alloc _).all q v' bs' hm
theorem Bx.cell {w0 u : World} {P q : Nat} {L : List (Nat × Value × List Bd)} {v : Value} {bs : List Bd} (h : Bx w0 P L u) (hm : (q, v, bs) ∈ L) : u.cell? ⟨q, 0, none⟩ = some v := cells_one0 (h.all q v bs hm).2.1
theorem Bx.bsv {w0 u : World} {P q : Nat} {L : List (Nat × Value × List Bd)} {v : Value} {bs : List Bd} (h : Bx w0 P L u) (hm : (q, v, bs) ∈ L) : BsV u u.heap.size v bs :=
  (h.all q v bs hm).2.2.elim (fun k => k.mono h.sz) (fun k => k.bsv)
/-- A box is given another one. -/
theorem Bx.set {w0 u : World} {P q : Nat} {v v' : Value} {bs bs' : List Bd} (A B : List (Nat × Value × List Bd)) (h : Bx w0 P (A ++ (q, v, bs) :: B) u) (hv : BsV u P v' bs' ∨ BsO u P v' bs') :
    Bx w0 P (A ++ (q, v', bs') :: B) (u.setCell ⟨q, 0, none⟩ v') := by
  obtain ⟨h1, h2, _⟩ := h.all q v bs (by simp)
  have hb : Below P u (u.setCell ⟨q, 0, none⟩ v') := (Below.refl P u).setCell (p := ⟨q, 0, none⟩) h1 _
  have key : ∀ {x y}, (BsV u P x y ∨ BsO u P x y) → (BsV (u.setCell ⟨q, 0, none⟩ v') P x y ∨ BsO (u.setCell ⟨q, 0, none⟩ v') P x y) := fun k => k.elim (fun k => .inl (k.below hb (Nat.le_refl _))) (fun k => .inr (k.setP h2 v'))
  have hnd := h.nd
  refine ⟨h.below.trans hb, by have := h.sz; simpa using this, fun q' x y hm => ?_, by simpa using hnd⟩
  rw [List.mem_append, List.mem_cons] at hm
  have hq : (q', x, y) ∈ A ∨ (q', x, y) ∈ B → q' ≠ q := by
    intro hh e
    subst e
    rw [List.map_append, List.map_cons, List.nodup_append] at hnd
    rcases hh with hh | hh
    · exact hnd.2.2 q' (List.mem_map.2 ⟨_, hh, rfl⟩) q' (List.mem_cons_self ..) rfl
    · exact (List.nodup_cons.1 hnd.2.1).1 (List.mem_map.2 ⟨_, hh, rfl⟩)
  have old : (q', x, y) ∈ A ∨ (q', x, y) ∈ B → P ≤ q' ∧ (u.setCell ⟨q, 0, none⟩ v').heap[q']? = some (.cells #[x] 38 (0, 0)) ∧ (BsV (u.setCell ⟨q, 0, none⟩ v') P x y ∨ BsO (u.setCell ⟨q, 0, none⟩ v') P x y) := fun hh => by
    obtain ⟨g1, g2, g3⟩ := h.all q' x y (by rw [List.mem_append, List.mem_cons]; rcases hh with hh | hh; exact .inl hh; exact .inr (.inr hh))
    exact ⟨g1, by rw [Below.heap_setCell _ _ _ _ (show q' ≠ q from hq hh)]; exact g2, key g3⟩
  rcases hm with hm | hm | hm
  · exact old (.inl hm)
  · simp only [Prod.mk.injEq] at hm
    obtain ⟨rfl, rfl, rfl⟩ := hm
    exact ⟨h1, heap_setCell_same h2 x, key hv⟩
  · exact old (.inr hm)
theorem Bx.free {w0 u : World} {P q : Nat} {L : List (Nat × Value × List Bd)} {v : Value} {bs : List Bd} (h : Bx w0 P L u) (hm : (q, v, bs) ∈ L) : u.frozen? ⟨q, 0, none⟩ = false := by
  simp [World.frozen?, (h.all q v bs hm).2.1]
end Go.Proofs.YtcnecokamckfaaaGreatDoor

/- Contract: begun answers true. -/
namespace Go.Proofs.YtcnecokamckfaaaGreatDoor
open Go Go.RowKit

def bA : Bd := ⟨⟨#[97]⟩, ⟨0, 1, 5, ⟨#[116]⟩, []⟩⟩
def bB : Bd := ⟨⟨#[98]⟩, ⟨1, 0, 7, ⟨#[116]⟩, []⟩⟩
def bC : Bd := ⟨⟨#[99]⟩, ⟨0, 1, 5, ⟨#[116]⟩, []⟩⟩
theorem ckE_none {e : Ev} (h : evB e = true) (h1 : e.ats = []) : ckE e = 0 := by
  rw [ckE_ok h, h1]; unfold ckAll; rw [if_neg (by decide), ckGo_end (by decide)]
theorem eA : ckE bA.ev = 0 := ckE_none (by decide +kernel) rfl
theorem eB : ckE bB.ev = 0 := ckE_none (by decide +kernel) rfl
theorem eC : ckE bC.ev = 0 := ckE_none (by decide +kernel) rfl
theorem ckA : ckP [bA] = 0 := by rw [ckP_go (by decide), ckFr_at (k := 0) (by decide) (by decide +kernel) (show ckE [bA][0]!.ev = 0 from eA), ckFr_end (by decide)]
theorem ckB' : ckP [bB] = 0 := by rw [ckP_go (by decide), ckFr_at (k := 0) (by decide) (by decide +kernel) (show ckE [bB][0]!.ev = 0 from eB), ckFr_end (by decide)]
theorem ckC : ckP [bC] = 0 := by rw [ckP_go (by decide), ckFr_at (k := 0) (by decide) (by decide +kernel) (show ckE [bC][0]!.ev = 0 from eC), ckFr_end (by decide)]
theorem ckAB : ckP [bA, bB] = 0 := by rw [ckP_go (by decide), ckFr_at (k := 0) (by decide) (by decide +kernel) (show ckE [bA, bB][0]!.ev = 0 from eA), ckFr_at (k := 1) (by decide) (by decide +kernel) (show ckE [bA, bB][1]!.ev = 0 from eB), ckFr_end (by decide)]
theorem ckAC : ckP [bA, bC] ≠ 0 := by rw [ckP_go (by decide), ckFr_at (k := 0) (by decide) (by decide +kernel) (show ckE [bA, bC][0]!.ev = 0 from eA), ckFr_st (k := 1) (by decide) (by decide +kernel)]; decide
theorem mBA : mergeO [bB] [bA] = some [bA, bB] :=
  mergeO_yes ⟨List.Perm.swap _ _ _, List.Pairwise.cons (fun x hx => by rw [List.mem_singleton.1 hx]; decide +kernel) (List.pairwise_singleton _ _)⟩ ckB' ckA ckAB
theorem mAC : mergeO [bA] [bC] = none :=
  mergeO_no (m := [bA, bC]) ⟨List.Perm.refl _, List.Pairwise.cons (fun x hx => by rw [List.mem_singleton.1 hx]; decide +kernel) (List.pairwise_singleton _ _)⟩ ckAC
theorem begAB : begT [bA, bB] = 5 := by decide +kernel
theorem endAB : endT [bA, bB] = 7 := by decide +kernel

theorem ofA (x : Bd) (hx : x.ev.ats = []) (h0 : ckP [x] = 0) (hv : x.var.size ≤ maxLen) (ht : x.ev.ty.size ≤ maxLen) (u : World) :
    Calls Tryz.prog 26 #[.string x.var, evV x.ev (.slice none 0 0)] u fun e w' => ∃ ao c, e = .returned (.tuple #[.agg #[.slice ao 1 c], .int .i64 0]) ∧ BsO w' u.heap.size (.slice ao 1 c) [x] ∧ Below u.heap.size u w' := by
  have h := mOf_any x 0 none 0 0 u (by rw [hx]; exact Av.nil _ _) (fun _ => rfl) (Nat.zero_le _) hv ht
  rw [h0, ofL_yes h0] at h
  refine h.mono ?_
  rintro e w' ⟨v', rfl, ho, hb⟩
  obtain ⟨ao, c, rfl⟩ := ho.shape
  exact ⟨ao, c, rfl, ho, hb⟩
theorem mergeS {cs bs m : List Bd} (hm : mergeO cs bs = some m) {N : Nat} (hN : m.length = N) (ao : Option Addr) (n cap : Nat) (ao2 : Option Addr) (n2 cap2 : Nat) (u : World) (h1 : BsV u u.heap.size (.slice ao n cap) cs) (h2 : BsV u u.heap.size (.slice ao2 n2 cap2) bs) :
    Calls Tryz.prog 21 #[.agg #[.slice ao n cap], .agg #[.slice ao2 n2 cap2]] u fun e w' => ∃ ao c, e = .returned (.tuple #[.agg #[.slice ao N c], .bool true]) ∧ BsO w' u.heap.size (.slice ao N c) m ∧ Below u.heap.size u w' := by
  have h := mMerge_any u.heap.size u.heap.size ao n cap ao2 n2 cap2 cs bs u h1 h2 (Nat.le_refl _) (Nat.le_refl _)
  rw [hm] at h
  refine h.mono ?_
  rintro e w' ⟨v', rfl, ho, hb⟩
  obtain ⟨ao, c, rfl⟩ := ho.shape
  rw [show ((some m).getD []).length = N from hN] at ho ⊢
  exact ⟨ao, c, rfl, ho, hb⟩
theorem mergeN {cs bs : List Bd} (hm : mergeO cs bs = none) (ao : Option Addr) (n cap : Nat) (ao2 : Option Addr) (n2 cap2 : Nat) (u : World) (h1 : BsV u u.heap.size (.slice ao n cap) cs) (h2 : BsV u u.heap.size (.slice ao2 n2 cap2) bs) :
    Calls Tryz.prog 21 #[.agg #[.slice ao n cap], .agg #[.slice ao2 n2 cap2]] u fun e w' => ∃ ao c, e = .returned (.tuple #[.agg #[.slice ao 0 c], .bool false]) ∧ BsO w' u.heap.size (.slice ao 0 c) [] ∧ Below u.heap.size u w' := by
  have h := mMerge_any u.heap.size u.heap.size ao n cap ao2 n2 cap2 cs bs u h1 h2 (Nat.le_refl _) (Nat.le_refl _)
  rw [hm] at h
  refine h.mono ?_
  rintro e w' ⟨v', rfl, ho, hb⟩
  obtain ⟨ao, c, rfl⟩ := ho.shape
  exact ⟨ao, c, rfl, ho, hb⟩

set_option maxRecDepth 100000 in
set_option maxHeartbeats 3200000 in
theorem begun10_any (w : World) : Calls Tryz.prog 8 #[] w fun e w' => e = .returned (.bool true) ∧ Below w.heap.size w w' := by
  have C1 := ofA bA rfl ckA (by decide +kernel) (by decide +kernel)
  have C2 := ofA bB rfl ckB' (by decide +kernel) (by decide +kernel)
  have C3 := ofA bC rfl ckC (by decide +kernel) (by decide +kernel)
  unfold evV at C1 C2 C3
  have HC1 : Hid (∀ u, Calls Tryz.prog 26 #[.string ⟨#[97]⟩, .agg #[.int .i64 0, .int .i64 1, .int .i64 5, .string ⟨#[116]⟩, .slice none 0 0]] u fun e w' => ∃ ao c, e = .returned (.tuple #[.agg #[.slice ao 1 c], .int .i64 0]) ∧ BsO w' u.heap.size (.slice ao 1 c) [bA] ∧ Below u.heap.size u w') := Lib.hid C1
  have HC2 : Hid (∀ u, Calls Tryz.prog 26 #[.string ⟨#[98]⟩, .agg #[.int .i64 1, .int .i64 0, .int .i64 7, .string ⟨#[116]⟩, .slice none 0 0]] u fun e w' => ∃ ao c, e = .returned (.tuple #[.agg #[.slice ao 1 c], .int .i64 0]) ∧ BsO w' u.heap.size (.slice ao 1 c) [bB] ∧ Below u.heap.size u w') := Lib.hid C2
  have HC3 : Hid (∀ u, Calls Tryz.prog 26 #[.string ⟨#[99]⟩, .agg #[.int .i64 0, .int .i64 1, .int .i64 5, .string ⟨#[116]⟩, .slice none 0 0]] u fun e w' => ∃ ao c, e = .returned (.tuple #[.agg #[.slice ao 1 c], .int .i64 0]) ∧ BsO w' u.heap.size (.slice ao 1 c) [bC] ∧ Below u.heap.size u w') := Lib.hid C3
  have HM1 := Lib.hid (mergeS (N := 2) mBA rfl)
  have HM2 := Lib.hid (mergeN mAC)
  have HE1 := Lib.hid begAB; have HE2 := Lib.hid endAB
  have HK0 : Hid (Bx w w.heap.size [] w) := Lib.hid Bx.nil
  clear C1 C2 C3
  go_enter Tryz.func8, Tryz.ntmps8
  go_wp2_with fail
  (with_reducible refine (HC1.out _).mono ?_)
  rintro e w1 ⟨a1, k1, rfl, ho1, hb1⟩
  have HK1 := Lib.hid ((HK0.out.call hb1).new (.inr ho1))
  clear ho1 hb1
  go_wp2_with fail
  obtain ⟨W1, hW1⟩ : ∃ W1, W1 = w1.alloc (.cells #[.slice a1 1 k1] 38) := ⟨_, rfl⟩
  rw [← hW1] at HK1 ⊢
  clear hW1
  generalize w1.heap.size = q1 at HK1 ⊢
  (with_reducible refine (HC2.out _).mono ?_)
  rintro e w2 ⟨a2, k2, rfl, ho2, hb2⟩
  have HK2 := Lib.hid ((HK1.out.call hb2).new (.inr (ho2.lower HK1.out.sz)))
  clear ho2 hb2
  go_wp2_with fail
  obtain ⟨W2, hW2⟩ : ∃ W2, W2 = w2.alloc (.cells #[.slice a2 1 k2] 38) := ⟨_, rfl⟩
  rw [← hW2] at HK2 ⊢
  clear hW2
  generalize w2.heap.size = q2 at HK2 ⊢
  (with_reducible refine (HC3.out _).mono ?_)
  rintro e w3 ⟨a3, k3, rfl, ho3, hb3⟩
  have HK3 := Lib.hid ((HK2.out.call hb3).new (.inr (ho3.lower HK2.out.sz)))
  clear ho3 hb3
  have l1 := HK3.out.cell (.tail _ (.tail _ (.head _)))
  have l2 := HK3.out.cell (.tail _ (.head _))
  go_wp2_with fail
  obtain ⟨W3, hW3⟩ : ∃ W3, W3 = w3.alloc (.cells #[.slice a3 1 k3] 38) := ⟨_, rfl⟩
  rw [← hW3] at HK3 ⊢
  clear hW3 l1 l2
  generalize w3.heap.size = q3 at HK3 ⊢
  have hv2 := HK3.out.bsv (.tail _ (.head _)); have hv1 := HK3.out.bsv (.tail _ (.tail _ (.head _)))
  (with_reducible refine (HM1.out _ _ _ _ _ _ _ hv2 hv1).mono ?_)
  clear hv1 hv2
  rintro e w4 ⟨a4, k4, rfl, ho4, hb4⟩
  have HK4 := Lib.hid ((HK3.out.call hb4).new (.inr (ho4.lower HK3.out.sz)))
  clear ho4 hb4
  have l1 := HK4.out.cell (.tail _ (.tail _ (.tail _ (.head _))))
  have l3 := HK4.out.cell (.tail _ (.head _))
  go_wp2_with fail
  obtain ⟨W4, hW4⟩ : ∃ W4, W4 = w4.alloc (.cells #[.slice a4 2 k4] 38) := ⟨_, rfl⟩
  rw [← hW4] at HK4 ⊢
  clear hW4 l1 l3
  generalize w4.heap.size = q4 at HK4 ⊢
  have hv1 := HK4.out.bsv (.tail _ (.tail _ (.tail _ (.head _)))); have hv3 := HK4.out.bsv (.tail _ (.head _))
  (with_reducible refine (HM2.out _ _ _ _ _ _ _ hv1 hv3).mono ?_)
  clear hv1 hv3
  rintro e w5 ⟨a5, k5, rfl, ho5, hb5⟩
  have HK5 := Lib.hid ((HK4.out.call hb5).new (.inr (ho5.lower HK4.out.sz)))
  clear ho5 hb5
  obtain ⟨W5, hW5⟩ : ∃ W5, W5 = w5.alloc (.cells #[.slice a5 0 k5] 38) := ⟨_, rfl⟩
  have HW5 := Lib.hid hW5
  rw [← hW5] at HK5
  have HG := Lib.hid (fun u (hu : Below W5.heap.size W5 u) => (HK5.out.call hu).cell (.tail _ (.head _)))
  have HBV := Lib.hid (HK5.out.bsv (.tail _ (.head _)))
  have HCB := Lib.hid (fun u (hu : Below W5.heap.size W5 u) => mBegin_any W5.heap.size a4 2 k4 [bA, bB] u (HBV.out.below hu (Nat.le_refl _)) hu.size)
  have HCE := Lib.hid (fun u (hu : Below W5.heap.size W5 u) => mEnd_any W5.heap.size a4 2 k4 [bA, bB] u (HBV.out.below hu (Nat.le_refl _)) hu.size)
  rw [begAB] at HCB
  rw [endAB] at HCE
  have HB5 : Hid (Below W5.heap.size W5 W5) := Lib.hid (Below.refl _ _)
  have l4 := HG.out _ HB5.out
  rw [hW5] at l4
  clear hW5
  go_wp2_with fail
  rw [← HW5.out]
  (with_reducible refine (HCB.out _ HB5.out).mono ?_)
  rintro e w6 ⟨rfl, hb6⟩
  clear l4
  have l4 := HG.out _ hb6
  have HB6 := Lib.hid hb6
  clear hb6
  go_wp2_with fail
  (with_reducible refine (HCE.out _ HB6.out).mono ?_)
  rintro e w7 ⟨rfl, hb7⟩
  have HB7 := Lib.hid (HB6.out.trans (hb7.mono HB6.out.size))
  clear l4 hb7
  have l4 := HG.out _ HB7.out
  go_wp2
  go_ret
  exact ⟨rfl, HK5.out.below.trans (HB7.out.mono HK5.out.sz)⟩
end Go.Proofs.YtcnecokamckfaaaGreatDoor

/- The walk of MatchRises. -/
namespace Go.Proofs.YtcnecokamckfaaaGreatDoor
open Go Go.RowKit Go.Shelf Go.Maps Go.WideMaps Go.Sort
attribute [local go_sem] Oper.semAt_some

theorem cmpI_range (a b : Int) : -1 ≤ cmpI a b ∧ cmpI a b ≤ 1 := by unfold cmpI; split <;> (try split) <;> omega
theorem orI_range {a b : Int} (h1 : -1 ≤ a ∧ a ≤ 1) (h2 : -1 ≤ b ∧ b ≤ 1) : -1 ≤ orI a b ∧ orI a b ≤ 1 := by unfold orI; split <;> assumption
theorem cmpBd_range (x y : Bd) : -1 ≤ cmpBd x y ∧ cmpBd x y ≤ 1 := orI_range (cb_range x.var.data.toList y.var.data.toList) (orI_range (cmpI_range _ _) (cmpI_range _ _))
theorem cmpL_range : ∀ a b : List Bd, -1 ≤ cmpL a b ∧ cmpL a b ≤ 1
  | [], [] => by rw [cmpL]; omega
  | [], _ :: _ => by rw [cmpL]; omega
  | _ :: _, [] => by rw [cmpL]; omega
  | x :: a, y :: b => by
    rw [cmpL]
    split
    · exact cmpL_range a b
    · exact cmpBd_range x y

theorem BsO.stays {W W' : World} {base : Nat} {v : Value} {bs : List Bd} (h : BsO W base v bs) (hk : ∀ (k : Nat) (cs : Array Value) (t : Nat) (fr : Nat × Nat), (t = 54 ∨ t = 58) → W.heap[k]? = some (.cells cs t fr) → W'.heap[k]? = some (.cells cs t fr)) : BsO W' base v bs := by
  obtain ⟨hw, hl, xs, h1, h2⟩ := h
  exact ⟨hw, hl, xs, own_stays0 h1 (fun k cs fr => hk k cs _ fr (.inl rfl)), h2.imp fun v x _ hx => ⟨own_stays0 hx.1 (fun k cs fr => hk k cs _ fr (.inr rfl)), hx.2⟩⟩
/-- What stands while a set's partial matches are gone through: the set; how many there were; the last of them. -/
structure RiS (N5 : Nat) (u5 : World) (q n₀ : Nat) (pre : List (List Bd × Value)) (W : World) : Prop where
  base : Below N5 u5 W
  set : W.heap[N5]? = some (.cells #[.pointer (some ⟨q, 0, none⟩)] 23 (0, 0))
  num : W.heap[N5 + 1 + 1]? = some (.cells #[.int .i64 (pre.length : Int)] 3 (0, 0))
  last : ∃ a n c, W.heap[N5 + 1]? = some (.cells #[.slice a n c] 38 (0, 0)) ∧ ∀ x, pre.getLast? = some x → BsO W n₀ (.slice a n c) x.1
theorem RiS.stays {N5 : Nat} {u5 : World} {q n₀ : Nat} {pre : List (List Bd × Value)} {W W' : World} (h : RiS N5 u5 q n₀ pre W) (hb : Below N5 W W') (hk : ∀ (k : Nat) (cs : Array Value) (t : Nat) (fr : Nat × Nat), W.heap[k]? = some (.cells cs t fr) → W'.heap[k]? = some (.cells cs t fr)) : RiS N5 u5 q n₀ pre W' := by
  obtain ⟨a, n, c, h1, h2⟩ := h.last
  exact ⟨h.base.trans hb, hk _ _ _ _ h.set, hk _ _ _ _ h.num, a, n, c, hk _ _ _ _ h1, fun x hx => (h2 x hx).stays fun k cs t fr _ hc => hk k cs t fr hc⟩
theorem RiS.call {N5 : Nat} {u5 : World} {q n₀ : Nat} {pre : List (List Bd × Value)} {W W' : World} (h : RiS N5 u5 q n₀ pre W) (hN : N5 ≤ u5.heap.size) (hb : Below W.heap.size W W') : RiS N5 u5 q n₀ pre W' :=
  h.stays (hb.mono (Nat.le_trans hN h.base.size)) fun k cs t fr hk => (hb.block k (Array.getElem?_eq_some_iff.1 hk).1).trans hk

theorem free1 {w : World} {q t : Nat} {c : Value} (h : w.heap[q]? = some (.cells #[c] t (0, 0))) : w.frozen? ⟨q, 0, none⟩ = false := by simp [World.frozen?, h]
theorem set1 {w : World} {q t : Nat} {c : Value} (h : w.heap[q]? = some (.cells #[c] t (0, 0))) (u : Value) : (w.setCell ⟨q, 0, none⟩ u).heap[q]? = some (.cells #[u] t (0, 0)) := by
  have := heap_setCell_same (k := 0) h u
  simpa using this
/-- One more is gone through: it is the last, the count is one more. -/
theorem RiS.step {N5 : Nat} {u5 : World} {q n₀ : Nat} {pre : List (List Bd × Value)} {W : World} (h : RiS N5 u5 q n₀ pre W) {x : List Bd} {va : Option Addr} {n vk : Nat} (hv : BsO W n₀ (.slice va n vk) x) :
    RiS N5 u5 q n₀ (pre ++ [(x, .slice va n vk)]) ((W.setCell ⟨N5 + 1, 0, none⟩ (.slice va n vk)).setCell ⟨N5 + 1 + 1, 0, none⟩ (.int .i64 ((pre.length : Int) + 1))) := by
  obtain ⟨a, n1, c, h1, _⟩ := h.last
  have e1 : ∀ k, k ≠ N5 + 1 → (W.setCell ⟨N5 + 1, 0, none⟩ (.slice va n vk)).heap[k]? = W.heap[k]? := fun k hk => Below.heap_setCell _ _ _ _ hk
  have e2 : ∀ (w : World) k, k ≠ N5 + 1 + 1 → (w.setCell ⟨N5 + 1 + 1, 0, none⟩ (.int .i64 ((pre.length : Int) + 1))).heap[k]? = w.heap[k]? := fun w k hk => Below.heap_setCell _ _ _ _ hk
  refine ⟨(h.base.setCell (p := ⟨N5 + 1, 0, none⟩) (Nat.le_succ _) _).setCell (p := ⟨N5 + 1 + 1, 0, none⟩) (by simp; omega) _, ?_, ?_, va, n, vk, ?_, fun y hy => ?_⟩
  · rw [e2 _ _ (by omega), e1 _ (by omega)]; exact h.set
  · have := set1 ((e1 (N5 + 1 + 1) (by omega)).trans h.num) (.int .i64 ((pre.length : Int) + 1))
    rw [this]; simp
  · rw [e2 _ _ (by omega)]; exact set1 h1 _
  · rw [List.getLast?_append, List.getLast?_singleton, Option.some_or, Option.some.injEq] at hy
    subst hy
    refine hv.stays fun k cs t fr ht hk => ?_
    rw [e2 _ _ (fun e => by rw [e, h.num] at hk; cases hk; rcases ht with h | h <;> cases h), e1 _ (fun e => by rw [e, h1] at hk; cases hk; rcases ht with h | h <;> cases h)]
    exact hk
theorem rise_next {zs : List Pe} (h : zs.Pairwise fun x y => cmpL x.l y.l < 0) {pre : List (List Bd × Value)} {y x : List Bd × Value} (hy : pre.getLast? = some y) (hp : (pre ++ [x]).map Prod.fst <+: zs.map Pe.l) : cmpL y.1 x.1 < 0 := by
  obtain ⟨p0, rfl⟩ : ∃ p0, pre = p0 ++ [y] := List.getLast?_eq_some_iff.1 hy
  have h2 : (zs.map Pe.l).Pairwise fun x y => cmpL x y < 0 := List.pairwise_map.2 h
  have h3 := h2.sublist hp.sublist
  rw [List.map_append, List.map_append, List.pairwise_append] at h3
  exact h3.2.2 _ (by simp) _ (by simp)
set_option maxRecDepth 100000 in
set_option maxHeartbeats 16000000 in
theorem rises_walk (a b c : List Bd) (aoa : Option Addr) (na ca : Nat) (aob : Option Addr) (nb cb : Nat) (aoc : Option Addr) (nc cc : Nat) (v : Value) (ls : List (List Bd)) (C : Nat) (w : World)
    (ha : BsV w w.heap.size (.slice aoa na ca) a) (hb : BsV w w.heap.size (.slice aob nb cb) b) (hc : BsV w w.heap.size (.slice aoc nc cc) c) (hl : LpV w w.heap.size v ls) (hC : C ≤ w.heap.size) (htab : Lib.TabBelow Tryz.prog C w "internal/strconv.uint64pow10" .u64 Lib.pow10Tab) :
    Calls Tryz.prog 4 #[.agg #[.slice aoa na ca], .agg #[.slice aob nb cb], .agg #[.slice aoc nc cc], v] w fun e w' => e = .returned (.bool true) ∧ Below w.heap.size w w' := by
  obtain ⟨P, hP⟩ : ∃ P, P = w.heap.size := ⟨_, rfl⟩
  obtain ⟨W0, hW0⟩ : ∃ W0, W0 = (((w.alloc (.cells #[.slice aoa na ca] 38)).alloc (.cells #[.slice aob nb cb] 38)).alloc (.cells #[.slice aoc nc cc] 38)).alloc (.cells #[.bool false] 4) := ⟨_, rfl⟩
  have hb0 : Below P w W0 := by rw [hW0, hP]; exact ((((Below.refl _ _).alloc (Nat.le_refl _) _).alloc (by simp) _).alloc (by simp; omega) _).alloc (by simp; omega) _
  have hs0 : W0.heap.size = P + 4 := by rw [hW0, hP]; simp
  have hx0 : W0.heap[P]? = some (.cells #[.slice aoa na ca] 38 (0, 0)) := by rw [hW0, hP]; exact heap_alloc_keeps (heap_alloc_keeps (heap_alloc_keeps (heap_alloc_new w _) _) _) _
  have hx1 : W0.heap[P + 1]? = some (.cells #[.slice aob nb cb] 38 (0, 0)) := by rw [hW0, hP]; exact heap_alloc_keeps (heap_alloc_keeps (heap_alloc_at (by simp) rfl) _) _
  have hx2 : W0.heap[P + 1 + 1]? = some (.cells #[.slice aoc nc cc] 38 (0, 0)) := by rw [hW0, hP]; exact heap_alloc_keeps (heap_alloc_at (by simp) rfl) _
  have hx3 : W0.heap[P + 1 + 1 + 1]? = some (.cells #[.bool false] 4 (0, 0)) := by rw [hW0, hP]; exact heap_alloc_at (by simp) rfl
  have HX : Hid (∀ W, Below (P + 4) W0 W → Below P w W ∧ W.cell? ⟨P, 0, none⟩ = some (.slice aoa na ca) ∧ W.cell? ⟨P + 1, 0, none⟩ = some (.slice aob nb cb) ∧ W.cell? ⟨P + 1 + 1, 0, none⟩ = some (.slice aoc nc cc) ∧ W.heap[P + 1 + 1 + 1]? = some (.cells #[.bool false] 4 (0, 0)) ∧ P + 4 ≤ W.heap.size) := Lib.hid fun W h =>
    ⟨hb0.trans (h.mono (by omega)), cells_one0 ((h.block P (by omega)).trans hx0), cells_one0 ((h.block (P + 1) (by omega)).trans hx1), cells_one0 ((h.block (P + 1 + 1) (by omega)).trans hx2), (h.block (P + 1 + 1 + 1) (by omega)).trans hx3, by have := h.size; omega⟩
  have cm : ∀ (ao : Option Addr) (n k : Nat) (bs : List Bd) (ao2 : Option Addr) (n2 k2 : Nat) (bs2 : List Bd), BsV w w.heap.size (.slice ao n k) bs → BsV w w.heap.size (.slice ao2 n2 k2) bs2 → ∀ u, Below P w u → Calls Tryz.prog 19 #[.agg #[.slice ao n k], .agg #[.slice ao2 n2 k2]] u fun e w' => e = .returned (.int .i64 (cmpL bs bs2)) ∧ Below u.heap.size u w' := fun ao n k bs ao2 n2 k2 bs2 h1 h2 u hu => by
    have hz := hu.size
    rw [hP] at hu
    exact mCompare_any w.heap.size w.heap.size ao n k ao2 n2 k2 bs bs2 u (h1.below hu (Nat.le_refl _)) (h2.below hu (Nat.le_refl _)) hz hz
  have CAB := cm _ _ _ _ _ _ _ _ ha hb; have CBC := cm _ _ _ _ _ _ _ _ hb hc; have CAC := cm _ _ _ _ _ _ _ _ ha hc; have CBA := cm _ _ _ _ _ _ _ _ hb ha; have CAA := cm _ _ _ _ _ _ _ _ ha ha
  rw [cmpL_swap a b] at CBA
  rw [cmpL_self] at CAA
  have htr := cmpL_trans (a := a) (b := b) (c := c)
  have hra := cmpL_range a b
  generalize cmpL a b = ab at CAB CBA htr hra
  generalize cmpL b c = bc at CBC htr
  generalize cmpL a c = ac at CAC htr
  have HAB := Lib.hid CAB; have HBC := Lib.hid CBC; have HAC := Lib.hid CAC; have HBA := Lib.hid CBA; have HAA := Lib.hid CAA
  obtain ⟨ao, cap, rfl, _⟩ := hl.row
  have HL : Hid (∀ u, Below P w u → LpV u P (.slice ao ls.length cap) ls ∧ Lib.TabBelow Tryz.prog C u "internal/strconv.uint64pow10" .u64 Lib.pow10Tab) := Lib.hid fun u hu => by
    rw [hP] at hu ⊢
    exact ⟨hl.below hu, htab.on (hu.mono hC)⟩
  have HCP : Hid (C ≤ P) := Lib.hid (by omega)
  have hlen : ls.length ≤ 5864062014805 := hl.len
  have HSK := Lib.hid (setK_len ls)
  have HP := Lib.hid hP; have HW0 := Lib.hid hW0; have HS0 := Lib.hid hs0
  have hX0 := HX.out W0 (Below.refl _ _)
  have mq0 := cell_regrown hX0.2.1; have mq1 := cell_regrown hX0.2.2.1; have mq2 := cell_regrown hX0.2.2.2.1
  have hup : ∀ u, Below W0.heap.size W0 u → Below P w u := fun u hu => (HX.out u (by rw [← HS0.out]; exact hu)).1
  have R1 := Lib.hid (rg (w := W0) (fun u hu => HAB.out u (hup u hu))); have R2 := Lib.hid (rg (w := W0) (fun u hu => HBC.out u (hup u hu))); have R3 := Lib.hid (rg (w := W0) (fun u hu => HAC.out u (hup u hu)))
  clear hup
  have e1 : IntKind.i64.wrap (-ab) = -ab := IntWalk.i64_in _ (by omega)
  have HTR := Lib.hid htr
  rw [← hP]
  clear hP hW0 hb0 hs0 hx0 hx1 hx2 hx3 ha hb hc hl htab hC cm CAB CBC CAC CBA CAA hra hX0 htr
  refine (callsIn_wide (n := 12)).1 ?_
  refine callsIn_of_wp_marks Tryz.func4 rfl trivial ?_ rfl
  simp only [Tryz.ntmps4, List.size_toArray, List.length_cons, List.length_nil, Nat.reduceAdd, Nat.reduceSub, Array.replicate_succ, Array.replicate_zero, List.push_toArray, List.append_toArray, List.nil_append, List.cons_append]
  refine wpIn_wide.2 ?_
  go_wp2_with fail
  rw [← HW0.out, ← HP.out]
  refine wp_region_quiet_below (by kernel_rfl) (by kernel_rfl) ?_
  repeat (quiet_step (first | (with_reducible exact R1.out _ _) | (with_reducible exact R2.out _ _) | (with_reducible exact R3.out _ _)))
  refine wpQuiet_nil ?_
  intro _ hw'
  obtain ⟨⟨dq, osq⟩, hw''⟩ := hw'
  subst hw''
  have hB1 : Below (P + 4) W0 (grow (redrawn W0 dq) osq) := by rw [← HS0.out]; exact below_regrown W0 dq osq
  clear mq0 mq1 mq2 R1 R2 R3
  generalize grow (redrawn W0 dq) osq = u1 at hB1 ⊢
  have HB1 := Lib.hid hB1
  clear hB1
  have hcase : (ab ≤ 0 ∧ bc ≤ 0 ∧ ¬ (0 < ac)) ∨ (ab ≤ 0 ∧ ¬ bc ≤ 0) ∨ ¬ ab ≤ 0 := by
    by_cases h1 : ab ≤ 0
    · by_cases h2 : bc ≤ 0
      · exact .inl ⟨h1, h2, by have := (HTR.out h1 h2).1; omega⟩
      · exact .inr (.inl ⟨h1, h2⟩)
    · exact .inr (.inr h1)
  obtain ⟨hp1, c0, c1, c2, hx3, hz1⟩ := HX.out u1 HB1.out
  have HZ1 := Lib.hid hz1
  clear hx3 hz1 hp1 c2
  rcases hcase with ⟨h1, h2, h3⟩ | ⟨h1, h2⟩ | h1
  all_goals
    try have d1 := decide_eq_true h1
    try have d1 := decide_eq_false h1
    try have d2 := decide_eq_true h2
    try have d2 := decide_eq_false h2
    try have d3 := decide_eq_false h3
    go_wp2_with fail
    (with_reducible refine (begun10_any _).mono ?_)
    rintro e u2 ⟨rfl, hb⟩
    have HB2 := Lib.hid (HB1.out.trans (hb.mono HZ1.out))
    clear hb c0 c1
    obtain ⟨hp2, c0, c1, c2, hx3, hz2⟩ := HX.out u2 HB2.out
    have HZ2 := Lib.hid hz2; have HP2 := Lib.hid hp2
    clear hx3 hz2 hp2 c2
    go_wp2_with fail
    (with_reducible refine (HBA.out _ HP2.out).mono ?_)
    rintro e u3 ⟨rfl, hb⟩
    have HB3 := Lib.hid (HB2.out.trans (hb.mono HZ2.out))
    clear hb c0 c1
    obtain ⟨hp2, c0, c1, c2, hx3, hz2⟩ := HX.out u3 HB3.out
    have HZ3 := Lib.hid hz2; have HP3 := Lib.hid hp2
    clear hx3 hz2 hp2 c2 c1
    go_wp2_with fail
    (with_reducible refine (HAA.out _ HP3.out).mono ?_)
    rintro e u4 ⟨rfl, hb⟩
    have HB4 := Lib.hid (HB3.out.trans (hb.mono HZ3.out))
    clear hb c0
    obtain ⟨hp2, c0, c1, c2, hx3, hz2⟩ := HX.out u4 HB4.out
    have HZ4 := Lib.hid hz2; have HP4 := Lib.hid hp2
    clear hx3 hz2 hp2 c2 c1 c0
    go_wp2_with fail
    (with_reducible refine (mNewSet_any (fun _ => False) C P _ ls _ (HL.out _ HP4.out).1 (by have := HZ4.out; omega) (by have := HZ4.out; have := HCP.out; omega) (fun k h => h.elim) (HL.out _ HP4.out).2).mono ?_)
    rintro e u5 ⟨q, bm, L, rfl, hq1, hq2, hset, hLs, hb⟩
    have HB5 := Lib.hid (HB4.out.trans (hb.mono HZ4.out))
    have HSET := Lib.hid hset; have HLS := Lib.hid hLs
    have HZ5 := Lib.hid (show P + 4 ≤ u5.heap.size from (HX.out _ HB5.out).2.2.2.2.2)
    clear hb hq1 hq2 hset hLs
    go_wp2_with fail
    have HF := Lib.hid (rfl : (fun k : Nat => k = bm ∨ False) = (fun k : Nat => k = bm ∨ False))
    obtain ⟨N5, hN5⟩ : ∃ N, N = u5.heap.size := ⟨_, rfl⟩
    obtain ⟨W6, hW6⟩ : ∃ W, W = ((u5.alloc (.cells #[.pointer (some ⟨q, 0, none⟩)] 23)).alloc (.cells #[.slice none 0 0] 38)).alloc (.cells #[.int .i64 0] 3) := ⟨_, rfl⟩
    have hs6 : W6.heap.size = N5 + 3 := by rw [hW6, hN5]; simp
    have hb6 : Below N5 u5 W6 := by rw [hW6, hN5]; exact (((Below.refl _ _).alloc (Nat.le_refl _) _).alloc (by simp) _).alloc (by simp; omega) _
    have hy0 : W6.heap[N5]? = some (.cells #[.pointer (some ⟨q, 0, none⟩)] 23 (0, 0)) := by rw [hW6, hN5]; exact heap_alloc_keeps (heap_alloc_keeps (heap_alloc_new u5 _) _) _
    have hy1 : W6.heap[N5 + 1]? = some (.cells #[.slice none 0 0] 38 (0, 0)) := by rw [hW6, hN5]; exact heap_alloc_keeps (heap_alloc_at (by simp) rfl) _
    have hy2 : W6.heap[N5 + 1 + 1]? = some (.cells #[.int .i64 0] 3 (0, 0)) := by rw [hW6, hN5]; exact heap_alloc_at (by simp) rfl
    have HSB : Hid (∀ W, Below N5 u5 W → SetAt (fun k => k = bm ∨ False) C W q bm L) := Lib.hid fun W h => HSET.out.call (by rw [← hN5]; exact h)
    have hKB : ∀ u, Kpt (fun k => k ≠ N5 + 1 ∧ k ≠ N5 + 1 + 1) W6.heap.size W6 u → Below N5 u5 u := fun u hu => hb6.trans ⟨hu.os, hu.tape, hu.output, hu.size, fun k hk => hu.block k (by omega) ⟨by omega, by omega⟩⟩
    have hS : ∀ x ∈ L, ∀ u, Kpt (fun k => k ≠ N5 + 1 ∧ k ≠ N5 + 1 + 1) W6.heap.size W6 u → BsV u u.heap.size x.1 x.2 := fun x hx u hu => (HSET.out.each x hx).1 u (Chg.of_below (by rw [← hN5]; exact hKB u hu))
    have HEACH : Hid (∀ x ∈ L, KyB x.2 ∧ hasL L x.2 = true) := Lib.hid fun x hx => ⟨(HSET.out.each x hx).2.1, decide_eq_true (List.mem_map.2 ⟨x, hx, rfl⟩)⟩
    rw [← hW6, ← hN5]
    have CALL := mSetAll_any (fun k => k ≠ N5 + 1 ∧ k ≠ N5 + 1 + 1) (fun k => k = bm ∨ False) C q bm L W6 (HSB.out W6 hb6) (fun k hk => ⟨by omega, by omega⟩) hS
    have HN5 := Lib.hid (Nat.le_of_eq hN5); have HN5e := Lib.hid hN5
    have HB6 := Lib.hid hb6; have HS6 := Lib.hid hs6; have HY0 := Lib.hid hy0; have HY1 := Lib.hid hy1; have HY2 := Lib.hid hy2
    clear hW6 hN5 hs6 hb6 hy0 hy1 hy2 hKB hS
    (with_reducible refine CALL.mono ?_)
    clear CALL
    rintro e u7 ⟨Bc, n₀, zs, rfl, hio, hall, hn0, hb⟩
    have hn7 : n₀ ≤ u7.heap.size := by obtain ⟨_, _, _, _, _, _, h, _⟩ := hall; exact h
    have hKX : ∀ z ∈ zs, KyB z.l ∧ hasL L z.l = true := fun z hz => HEACH.out _ (hio.perm.mem_iff.1 (List.mem_map.2 ⟨z, hz, rfl⟩))
    have hstops := hall.stops (fun l => KyB l ∧ hasL L l = true) hKX 11 (by decide)
    have h07 : RiS N5 u5 q n₀ [] u7 := RiS.call (W := W6) ⟨HB6.out, HY0.out, HY2.out, none, 0, 0, HY1.out, fun x hx => by cases hx⟩ HN5.out hb
    have HN7 := Lib.hid hn7; have HN0 := Lib.hid hn0; have HIO := Lib.hid hio; have H07 := Lib.hid h07; have HZ7 := Lib.hid hb.size
    clear hall hio hb hn7 hn0 h07 hKX
    go_wp2_with fail
    refine (wpIn_wide (n := 12)).1 ?_
    refine wpIn_rangeFunc_HB 15 rfl (by decide) (gf := 57) (lb := #[.pointer (some ⟨Bc, 0, none⟩)]) rfl trivial (enters_of Tryz.func57 (by kernel_rfl) rfl)
      hstops kpY_t (fun W l o o' hl h ho _ => kpY_b o' (Nat.le_trans HN7.out hl) h ho) (Below.refl _ _) (fun _ => rfl)
      (fun (pre : List (List Bd × Value)) (W : World) => RiS N5 u5 q n₀ pre W ∧ n₀ ≤ W.heap.size)
      (fun (c : Code) (pre : List (List Bd × Value)) (_ : World) => c = .ret ∧ ¬ pre.map Prod.fst <+: zs.map Pe.l) ?ownI (fun c => ownFrom_pure _ _) ⟨H07.out, HN7.out⟩
      (fun (x : List Bd × Value) (Bx : Nat) (W : World) => ∃ va vk, n₀ ≤ Bx ∧ x.2 = .slice va x.1.length vk ∧ W.heap[Bx]? = some (.cells #[.slice va x.1.length vk] 38 (0, 0)) ∧ HC (fun l => KyB l ∧ hasL L l = true) n₀ x W)
      ?ownA ?assign ?body ?done ?stop
    case ownI =>
      rintro _ A B row ⟨hs, hz⟩ hg hr
      have hN : N5 ≤ A.heap.size := Nat.le_trans HN5.out hs.base.size
      refine ⟨hs.stays ((Below.refl _ _).grown hg hN (fun k e => ?_)) (fun k cs t fr hk => (hg.block k (Array.getElem?_eq_some_iff.1 hk).1 (fun e => by obtain ⟨_, o, ho, hc⟩ := hr k e.symm; rw [hk] at ho; cases ho; cases hc)).trans hk), Nat.le_trans hz hg.size⟩
      have h1 := (hr k e).1; have h2 := HZ7.out; have h3 := HS6.out; omega
    case ownA =>
      rintro x Bx _ A B row ⟨va, vk, g1, g2, g3, g4⟩ hg hr
      have hno : ∀ (k : Nat) (cs : Array Value) (t : Nat) (fr : Nat × Nat), A.heap[k]? = some (.cells cs t fr) → B.heap[k]? = some (.cells cs t fr) := fun k cs t fr hk =>
        (hg.block k (Array.getElem?_eq_some_iff.1 hk).1 (fun e => by obtain ⟨_, o, ho, hc⟩ := hr k e.symm; rw [hk] at ho; cases ho; cases hc)).trans hk
      exact ⟨va, vk, g1, g2, hno _ _ _ _ g3, g4.1.stays fun k cs t fr _ hk => hno k cs t fr hk, g4.2⟩
    case assign =>
      rintro l' pre ⟨x, v⟩ W K ⟨hi, hz⟩ hc hK
      obtain ⟨va, vk, hv⟩ := hc.1.shape
      simp only at hv
      subst hv
      have hK := Lib.hid hK
      gi_wp2
      have hb : Below W.heap.size W (W.alloc (.cells #[.slice va x.length vk] 38)) := (Below.refl _ _).alloc (Nat.le_refl _) _
      have hk := hK.out W.heap.size _ ((KeepsOthers.alloc _ _).from _) ⟨.of (hb.mono hz), fun k cs fr hk => (hb.block k (Array.getElem?_eq_some_iff.1 hk).1).trans hk⟩ ⟨hi.call HN5.out hb, Nat.le_trans hz hb.size⟩ ⟨va, vk, hz, rfl, heap_alloc_new _ _, hc.1.call hb, hc.2⟩
      clear hK
      simpa [boxAct] using hk
    case body =>
      rintro l' pre ⟨x, v⟩ Bx W hl' hr ⟨hi, hz⟩ ⟨va, vk, hBx, hv, hx, hC⟩ hlen
      simp only at hv hx
      subst hv
      unfold boxAct
      obtain ⟨a1, n1, k1, hla, hlast⟩ := hi.last
      have cN := cells_one0 hi.num; have cS := cells_one0 hi.set; have cL := cells_one0 hla; have cX := cells_one0 hx
      have hbx : BsV W W.heap.size (.slice va x.length vk) x := hC.1.bsv
      have CH : ∀ u, Below W.heap.size W u → Calls Tryz.prog 13 #[.pointer (some ⟨q, 0, none⟩), .agg #[.slice va x.length vk]] u fun e w' => e = .returned (.bool true) ∧ Below u.heap.size u w' := fun u hu => by
        have := mSetHas_any (fun k => k = bm ∨ False) C q bm L W.heap.size va x.length vk x u (HSB.out u (hi.base.trans (hu.mono (Nat.le_trans HN5.out hi.base.size)))) (hbx.below hu (Nat.le_refl _)) hu.size hC.2.1
        rwa [show hasL L x = true from hC.2.2] at this
      have HCH := Lib.hid CH
      have hNW : N5 + 1 + 1 < W.heap.size := (Array.getElem?_eq_some_iff.1 hi.num).1
      have hgo : ∀ W3, Below W.heap.size W W3 → KeepsFrom u7.heap.size W ((W3.setCell ⟨N5 + 1, 0, none⟩ (.slice va x.length vk)).setCell ⟨N5 + 1 + 1, 0, none⟩ (.int .i64 ((pre.length : Int) + 1))) ∧
          KpY (fun k => k ≠ N5 + 1 ∧ k ≠ N5 + 1 + 1) n₀ W ((W3.setCell ⟨N5 + 1, 0, none⟩ (.slice va x.length vk)).setCell ⟨N5 + 1 + 1, 0, none⟩ (.int .i64 ((pre.length : Int) + 1))) ∧
          RiS N5 u5 q n₀ (pre ++ [(x, .slice va x.length vk)]) ((W3.setCell ⟨N5 + 1, 0, none⟩ (.slice va x.length vk)).setCell ⟨N5 + 1 + 1, 0, none⟩ (.int .i64 ((pre.length : Int) + 1))) ∧
          n₀ ≤ ((W3.setCell ⟨N5 + 1, 0, none⟩ (.slice va x.length vk)).setCell ⟨N5 + 1 + 1, 0, none⟩ (.int .i64 ((pre.length : Int) + 1))).heap.size := fun W3 hb => by
        have hkf : KeepsFrom u7.heap.size W W3 := ⟨hb.size, fun k o _ hk _ => (hb.block k (Array.getElem?_eq_some_iff.1 hk).1).trans hk⟩
        refine ⟨(hkf.trans ((KeepsOthers.setCell _ _ _).from _)).trans ((KeepsOthers.setCell _ _ _).from _), ⟨((Kpt.of (hb.mono hz)).setCell (p := ⟨N5 + 1, 0, none⟩) (by simp) _).setCell (p := ⟨N5 + 1 + 1, 0, none⟩) (by simp) _, fun k cs fr hk => ?_⟩, (hi.call HN5.out hb).step (hC.1.call hb), by simp only [World.size_setCell]; exact Nat.le_trans hz hb.size⟩
        rw [Below.heap_setCell _ _ _ _ (fun e => by simp only at e; rw [e, hi.num] at hk; cases hk), Below.heap_setCell _ _ _ _ (fun e => by simp only at e; rw [e, hla] at hk; cases hk)]
        exact (hb.block k (Array.getElem?_eq_some_iff.1 hk).1).trans hk
      have hcell : ∀ W3, Below W.heap.size W W3 → W3.cell? ⟨N5 + 1 + 1, 0, none⟩ = some (.int .i64 (pre.length : Int)) ∧ W3.cell? ⟨N5, 0, none⟩ = some (.pointer (some ⟨q, 0, none⟩)) ∧ W3.cell? ⟨Bx, 0, none⟩ = some (.slice va x.length vk) ∧ W3.cell? ⟨N5 + 1, 0, none⟩ = some (.slice a1 n1 k1) ∧ W3.frozen? ⟨N5 + 1, 0, none⟩ = false ∧ W3.frozen? ⟨N5 + 1 + 1, 0, none⟩ = false ∧ W3.cell? ⟨P + 1 + 1 + 1, 0, none⟩ = some (.bool false) ∧ W3.frozen? ⟨P + 1 + 1 + 1, 0, none⟩ = false := fun W3 hb => by
        have g5 := (HX.out W3 (HB5.out.trans ((hi.base.trans (hb.mono (Nat.le_trans HN5.out hi.base.size))).mono (by have := HN5e.out; have := HZ5.out; omega)))).2.2.2.2.1
        have g1 := (hb.block _ hNW).trans hi.num; have g2 := (hb.block _ (Array.getElem?_eq_some_iff.1 hi.set).1).trans hi.set; have g3 := (hb.block _ (Array.getElem?_eq_some_iff.1 hx).1).trans hx; have g4 := (hb.block _ (Array.getElem?_eq_some_iff.1 hla).1).trans hla
        exact ⟨cells_one0 g1, cells_one0 g2, cells_one0 g3, cells_one0 g4, free1 g4, free1 g1, cells_one0 g5, free1 g5⟩
      have hnot : ∀ y, pre.getLast? = some y → ¬ cmpL y.1 x < 0 → ¬ (pre ++ [(x, Value.slice va x.length vk)]).map Prod.fst <+: zs.map Pe.l := fun y hy h hp => h (rise_next HIO.out.rise hy hp)
      have HGO := Lib.hid hgo; have HCELL := Lib.hid hcell; have HNOT := Lib.hid hnot
      have e1 : IntKind.i64.wrap ((pre.length : Int) + 1) = (pre.length : Int) + 1 := IntWalk.i64_in _ (by have h1 := HIO.out.perm.length_eq; rw [List.length_map] at h1; have h2 := HSET.out.many; omega)
      clear CH hgo hcell hnot hstops
      cases hgl : pre.getLast? with
      | none =>
        have h0 : pre.length = 0 := by rw [List.getLast?_eq_none_iff.1 hgl]; rfl
        have d0 : decide (0 < (pre.length : Int)) = false := decide_eq_false (by omega)
        have d00 : ¬ (0 < (pre.length : Int)) := by omega
        clear hlast hgl h0
        gi_wp2_with (first | (gi_at_call 13; (refine (CallsIn.inRound l' (callsIn_wide.2 (HCH.out _ (Below.refl _ _)))).mono ?_); rintro e W2 ⟨rfl, hb2⟩; clear cN cS cL cX; obtain ⟨cN, cS, cX, cL, fL, fN, c3, f3⟩ := HCELL.out W2 hb2; have HB2 := Lib.hid hb2; clear hb2) | (refine ⟨trivial, ?_⟩))
        exact HGO.out W2 HB2.out
      | some y =>
        have h0 : 0 < (pre.length : Int) := by
          cases pre with
          | nil => cases hgl
          | cons _ _ => simp
        have d0 := decide_eq_true h0
        have hby := (hlast y hgl).bsv
        have CC : Calls Tryz.prog 19 #[.agg #[.slice a1 n1 k1], .agg #[.slice va x.length vk]] W fun e w' => e = .returned (.int .i64 (cmpL y.1 x)) ∧ Below W.heap.size W w' := mCompare_any W.heap.size W.heap.size a1 n1 k1 va _ vk y.1 x W hby hbx (Nat.le_refl _) (Nat.le_refl _)
        have HNO := Lib.hid (HNOT.out y hgl)
        clear hlast hgl hby
        generalize cmpL y.1 x = cv at CC HNO
        have HCC := Lib.hid CC
        clear CC
        by_cases hcv : cv < 0
        · have d1 : decide (0 ≤ cv) = false := decide_eq_false (by omega)
          have d11 : ¬ (0 ≤ cv) := by omega
          gi_wp2_with (first
            | (gi_at_call 19; (refine (CallsIn.inRound l' (callsIn_wide.2 HCC.out)).mono ?_); rintro e W1 ⟨rfl, hb1⟩; clear cN cS cL cX; obtain ⟨cN, cS, cX, cL, fL, fN, c3, f3⟩ := HCELL.out W1 hb1; have HB1 := Lib.hid hb1; clear hb1)
            | (gi_at_call 13; (refine (CallsIn.inRound l' (callsIn_wide.2 (HCH.out _ HB1.out))).mono ?_); rintro e W2 ⟨rfl, hb2⟩; clear cN cS cL cX fL fN c3 f3; have hb3 := HB1.out.trans (hb2.mono HB1.out.size); obtain ⟨cN, cS, cX, cL, fL, fN, c3, f3⟩ := HCELL.out W2 hb3; have HB2 := Lib.hid hb3; clear hb2 hb3)
            | (refine ⟨trivial, ?_⟩))
          exact HGO.out W2 HB2.out
        · have d1 : decide (0 ≤ cv) = true := decide_eq_true (by omega)
          have d11 : 0 ≤ cv := by omega
          gi_wp2_with (first
            | (gi_at_call 19; (refine (CallsIn.inRound l' (callsIn_wide.2 HCC.out)).mono ?_); rintro e W1 ⟨rfl, hb1⟩; clear cN cS cL cX; obtain ⟨cN, cS, cX, cL, fL, fN, c3, f3⟩ := HCELL.out W1 hb1; have HB1 := Lib.hid hb1; clear hb1)
            | (refine ⟨trivial, ?_⟩))
          have hkf : KeepsFrom u7.heap.size W W1 := ⟨HB1.out.size, fun k o _ hk _ => (HB1.out.block k (Array.getElem?_eq_some_iff.1 hk).1).trans hk⟩
          exact ⟨hkf.trans ((KeepsOthers.setCell _ _ _).from _), rfl, HNO.out hcv⟩
    case done =>
      rintro D xs W hD hS ⟨hi, hz⟩ hK
      have hxl : xs.length = L.length := by
        have h1 := congrArg List.length hS
        have h2 := HIO.out.perm.length_eq
        rw [List.length_map, List.length_map] at h1
        rw [List.length_map] at h2
        omega
      have hLl : L.length ≤ ls.length := by
        have h1 := congrArg List.length HLS.out
        have h2 := HSK.out
        rw [List.length_map] at h1
        omega
      have hbW : Below (P + 4) W0 W := HB5.out.trans (hi.base.mono (by have := HN5e.out; have := HZ5.out; omega))
      have hx3 := (HX.out W hbW).2.2.2.2.1
      have cN := cells_one0 hi.num; have cS := cells_one0 hi.set; have c3 := cells_one0 hx3; have f3 := free1 hx3
      rw [hxl] at cN
      have HLEN := Lib.hid (fun (u : World) (hu : Below N5 u5 u) => mSetLen_any (fun k => k = bm ∨ False) C q bm L u (HSB.out u hu))
      have HBW := Lib.hid hi.base
      have hle : (L.length : Int) ≤ (ls.length : Int) := by omega
      have hle2 := decide_eq_true hle
      have n1 : N5 ≠ P + 1 + 1 + 1 := by have := HN5e.out; have := HZ5.out; omega
      have n2 : N5 + 1 + 1 ≠ P + 1 + 1 + 1 := by have := HN5e.out; have := HZ5.out; omega
      have hk1 : ∀ v, (W.setCell ⟨P + 1 + 1 + 1, 0, none⟩ v).drew.cell? ⟨N5 + 1 + 1, 0, none⟩ = some (.int .i64 (L.length : Int)) := fun v => (World.cell?_setCell_other _ _ _ _ (fun e => by simp only [Addr.mk.injEq] at e; omega)).trans cN
      have hk2 : ∀ v, (W.setCell ⟨P + 1 + 1 + 1, 0, none⟩ v).drew.cell? ⟨N5, 0, none⟩ = some (.pointer (some ⟨q, 0, none⟩)) := fun v => (World.cell?_setCell_other _ _ _ _ (fun e => by simp only [Addr.mk.injEq] at e; omega)).trans cS
      clear n1 n2
      clear hS hi hz hstops
      go_wp2_with fail
      go_region_held3 (fun w' => w'.cell? ⟨N5 + 1 + 1, 0, none⟩ = some (.int .i64 (L.length : Int)) ∧ w'.cell? ⟨N5, 0, none⟩ = some (.pointer (some ⟨q, 0, none⟩)))
        (first | exact ⟨cN, cS⟩ | exact ⟨hk1 _, hk2 _⟩ | go_keep)
        (first | (go_at_call 17; (with_reducible refine (HLEN.out _ HBW.out.drew).mono ?_); rintro e w1 ⟨rfl, rfl⟩))
      all_goals go_wp2
      all_goals
        have hx4 := set1 hx3 (.bool true)
        have hPD : P + 1 + 1 + 1 ≠ D := by have h1 := HZ7.out; have h2 := HS6.out; have h3 := HN5e.out; have h4 := HZ5.out; omega
        have hkd : ((W.setCell ⟨P + 1 + 1 + 1, 0, none⟩ (.bool true)).drew).heap[D]? = some (.deferred (some [])) := (Below.heap_setCell W ⟨P + 1 + 1 + 1, 0, none⟩ (.bool true) D (Ne.symm hPD)).trans hK
        refine ⟨by simp, .inl ⟨_, _, rfl, run_takeDeferred hkd, ?_⟩⟩
        have hc := cells_one0 ((World.putObj_heap_other (w := (W.setCell ⟨P + 1 + 1 + 1, 0, none⟩ (.bool true)).drew) (o := .deferred none) hPD).trans hx4)
        refine ⟨.bool true, by simp [results, Tryz.results4, go_sem, hc], rfl, ?_⟩
        have hf : Below P w (W.setCell ⟨P + 1 + 1 + 1, 0, none⟩ (.bool true)).drew := ((HX.out W hbW).1.setCell (p := ⟨P + 1 + 1 + 1, 0, none⟩) (by simp; omega) _).drew
        exact hf.grown (grownBy_putObj' _ D _) (by have h1 := hf.size; have h2 := HP.out; omega) (fun k e => by cases e; have h1 := HZ7.out; have h2 := HS6.out; have h3 := HN5e.out; have h4 := HZ5.out; omega)
    case stop =>
      rintro D c pre W hD hp ⟨rfl, hn⟩ hK
      exact absurd hp hn
end Go.Proofs.YtcnecokamckfaaaGreatDoor

/- The document's set in memory of its own: what it is behind one more that is put in. -/
namespace Go.Proofs.YtcnecokamckfaaaGreatDoor
open Go Go.RowKit Go.Sort

theorem idxR_is : ∀ {ks : List (List Bd)} {bs : List Bd} {k : Nat}, k ≤ ks.length → (∀ j, j < k → cmpL ks[j]! bs < 0) → (k < ks.length → ¬ cmpL ks[k]! bs < 0) → idxR ks bs = k
  | [], _, k, hk, _, _ => by
    obtain rfl : k = 0 := by simpa using hk
    rfl
  | x :: r, bs, 0, _, _, h3 => by
    have h := h3 (by simp)
    have h' : ¬ cmpL x bs < 0 := by simpa using h
    unfold idxR
    rw [List.takeWhile_cons]
    simp [h']
  | x :: r, bs, k + 1, hk, h2, h3 => by
    have h0 : cmpL x bs < 0 := by simpa using h2 0 (Nat.succ_pos k)
    have ih := idxR_is (ks := r) (bs := bs) (k := k) (by simpa using hk) (fun j hj => by have := h2 (j + 1) (by omega); simpa using this) (fun hlt => by have := h3 (by simpa using hlt); simpa using this)
    unfold idxR at ih ⊢
    rw [List.takeWhile_cons]
    simp [h0, ih]

/-- The document's set in block q: a row of slices vs of the things ks; what F's blocks do is nothing to the things. -/
structure RsM (F : Nat → Prop) (w : World) (q : Nat) (ks : List (List Bd)) (vs : List Value) : Prop where
  Fq : F q
  Flt : ∀ k, F k → k < w.heap.size
  row : ∃ ao cap, w.heap[q]? = some (.cells #[.slice ao ks.length cap] 33 (0, 0)) ∧ ks.length ≤ cap ∧ cap ≤ 9223372036854775807 ∧ (ao = none → cap = 0) ∧ (0 < ks.length → ∃ b o, ao = some ⟨b, o, none⟩ ∧ ¬ F b ∧ b < w.heap.size ∧ ∀ j, j < ks.length → w.cell? ⟨b, o + j, none⟩ = some vs[j]!)
  vsl : vs.length = ks.length
  each : ∀ p ∈ vs.zip ks, Sto F w p.1 p.2 ∧ ∃ a n c, p.1 = .slice a n c
  ky : ∀ bs ∈ ks, ckP bs = 0 → KyB bs
  many : ks.length ≤ 5864062014805
theorem RsM.nth {F : Nat → Prop} {w : World} {q : Nat} {ks : List (List Bd)} {vs : List Value} (h : RsM F w q ks vs) {j : Nat} (hj : j < ks.length) : Sto F w vs[j]! ks[j]! ∧ ∃ a n c, vs[j]! = .slice a n c := by
  have hv : j < vs.length := by rw [h.vsl]; exact hj
  have := h.each (vs[j], ks[j]) (by rw [← List.getElem_zip (h := by simp [h.vsl]; omega)]; exact List.getElem_mem _)
  rw [getElem!_pos vs j hv, getElem!_pos ks j hj]
  exact this
theorem RsM.lp {F : Nat → Prop} {w : World} {q : Nat} {ks : List (List Bd)} {vs : List Value} (h : RsM F w q ks vs) : ∃ v, w.heap[q]? = some (.cells #[v] 33 (0, 0)) ∧ LpV w w.heap.size v ks := by
  obtain ⟨ao, cap, h1, h2, h3, _, h5⟩ := h.row
  refine ⟨_, h1, h.many, h.ky, ao, cap, rfl, h2, h3, fun h0 => ?_⟩
  obtain ⟨b, o, e, _, hb, hc⟩ := h5 h0
  refine ⟨b, o, e, hb, fun j hj => ?_⟩
  obtain ⟨hs, a, n, c, hv⟩ := h.nth hj
  rw [hv] at hs
  exact ⟨a, n, c, by rw [hc j hj, hv], hs.now⟩
theorem RsM.call {F : Nat → Prop} {w w' : World} {q : Nat} {ks : List (List Bd)} {vs : List Value} (h : RsM F w q ks vs) (hb : Below w.heap.size w w') : RsM F w' q ks vs := by
  obtain ⟨ao, cap, h1, h2, h3, h4, h5⟩ := h.row
  refine ⟨h.Fq, fun k hk => Nat.lt_of_lt_of_le (h.Flt k hk) hb.size, ⟨ao, cap, (hb.block q (h.Flt q h.Fq)).trans h1, h2, h3, h4, fun h0 => ?_⟩, h.vsl, fun p hp => ⟨(h.each p hp).1.below hb, (h.each p hp).2⟩, h.ky, h.many⟩
  obtain ⟨b, o, e, hF, hlt, hc⟩ := h5 h0
  exact ⟨b, o, e, hF, Nat.lt_of_lt_of_le hlt hb.size, fun j hj => (hb.cell (p := ⟨b, o + j, none⟩) hlt).trans (hc j hj)⟩
/-- Behind one more, laid in a new row. -/
theorem RsM.put {F : Nat → Prop} {w w7 : World} {q : Nat} {ks : List (List Bd)} {vs : List Value} (h : RsM F w q ks vs) (hb : Below w.heap.size w w7) {i : Nat} (hi : i ≤ ks.length) {v5 : Value} {bs : List Bd} (hv5 : BsO w7 w.heap.size v5 bs) {v' : Value}
    (ho : w7.ownsRow w.heap.size 38 1 v' (ks.length + 1) (vs.take i ++ v5 :: vs.drop i)) (hk : ckP bs = 0 → KyB bs) (hm : ks.length < 5864062014805) :
    RsM F (w7.setCell ⟨q, 0, none⟩ v') q (ks.take i ++ bs :: ks.drop i) (vs.take i ++ v5 :: vs.drop i) ∧ Chg (fun k => k = q) w (w7.setCell ⟨q, 0, none⟩ v') := by
  have hc : Chg (fun k => k = q) w (w7.setCell ⟨q, 0, none⟩ v') := Chg.setCell (F := fun k => k = q) (Chg.of_below hb) (p := ⟨q, 0, none⟩) rfl _
  have hcF : Chg F w (w7.setCell ⟨q, 0, none⟩ v') := (Chg.of_below hb).setCell (p := ⟨q, 0, none⟩) h.Fq _
  have hsz : (w7.setCell ⟨q, 0, none⟩ v').heap.size = w7.heap.size := by simp
  obtain ⟨ao, cap, h1, _⟩ := h.row
  have hq7 := (hb.block q (h.Flt q h.Fq)).trans h1
  have hlen : (ks.take i ++ bs :: ks.drop i).length = ks.length + 1 := by simp; omega
  have hvl := h.vsl
  have hvlen : (vs.take i ++ v5 :: vs.drop i).length = ks.length + 1 := by simp; omega
  rcases id ho.2 with ⟨_, hn⟩ | ⟨g, cap2, cur, rfl, hB, hg, hcap, hcm, _, _⟩
  · omega
  have hglt := lt_of_block hg
  have hgF : ¬ F g := fun hf => by have := h.Flt g hf; omega
  refine ⟨⟨h.Fq, fun k hk => by rw [hsz]; exact Nat.lt_of_lt_of_le (h.Flt k hk) hb.size, ⟨some ⟨g, 0, none⟩, cap2, ?_, by rw [hlen]; exact hcap, by unfold maxLen at hcm; omega, (fun e => by cases e), fun _ => ⟨g, 0, rfl, hgF, by rw [hsz]; exact hglt, fun j hj => ?_⟩⟩, by rw [hlen, hvlen], fun p hp => ?_, fun z hz => ?_, by rw [hlen]; omega⟩, hc⟩
  · rw [hlen]; exact set1 hq7 _
  · rw [hlen] at hj
    have hne : g ≠ q := fun e => hgF (e ▸ h.Fq)
    rw [World.cell?_setCell_other _ _ _ _ (fun e => by simp only [Addr.mk.injEq] at e; exact hne e.1.symm), Nat.zero_add, ho.cellAt j (by omega), getElem!_pos _ j (by omega)]
    exact List.getElem?_eq_getElem _
  · have hz : (vs.take i ++ v5 :: vs.drop i).zip (ks.take i ++ bs :: ks.drop i) = (vs.zip ks).take i ++ (v5, bs) :: (vs.zip ks).drop i := by
      rw [List.zip_append (by simp; omega), List.zip_cons_cons]
      simp only [List.zip, List.take_zipWith, List.drop_zipWith]
    rw [hz] at hp
    have hold : ∀ p ∈ vs.zip ks, Sto F (w7.setCell ⟨q, 0, none⟩ (.slice (some ⟨g, 0, none⟩) (ks.length + 1) cap2)) p.1 p.2 ∧ ∃ a n c, p.1 = .slice a n c := fun p hp => ⟨(h.each p hp).1.chg hcF, (h.each p hp).2⟩
    rcases List.mem_append.1 hp with hp | hp
    · exact hold p (List.mem_of_mem_take hp)
    · rcases List.mem_cons.1 hp with rfl | hp
      · obtain ⟨a, c, hv⟩ := hv5.shape
        exact ⟨(Sto.of_own hv5 (fun k hk => h.Flt k hk)).chg ((Chg.refl F w7).setCell (p := ⟨q, 0, none⟩) h.Fq _), a, _, c, hv⟩
      · exact hold p (List.mem_of_mem_drop hp)
  · rcases List.mem_append.1 hz with hz | hz
    · exact h.ky z (List.mem_of_mem_take hz)
    · rcases List.mem_cons.1 hz with rfl | hz
      · exact hk
      · exact h.ky z (List.mem_of_mem_drop hz)
end Go.Proofs.YtcnecokamckfaaaGreatDoor
