/- Contract: begun answers true. -/
import Derived.Test.YtiinljljbjjaeaaGreatDoorBx0
namespace Go.Proofs.YtiinljljbjjaeaaGreatDoor
open Go Go.RowKit

def bA : Bd := ⟨⟨#[97]⟩, ⟨0, 1, 5, ⟨#[116]⟩, []⟩⟩
def bB : Bd := ⟨⟨#[98]⟩, ⟨1, 0, 7, ⟨#[116]⟩, []⟩⟩
def bC : Bd := ⟨⟨#[99]⟩, ⟨0, 1, 5, ⟨#[116]⟩, []⟩⟩
theorem ckE_none {e : Ev} (h : evB e = true) (h1 : e.ats = []) : ckE e = 0 := by
  rw [ckE_ok h, h1]; unfold ckAll; rw [if_neg (by decide), ckGo_end (by decide)]
theorem eA : ckE bA.ev = 0 := ckE_none (by decide +kernel) rfl
theorem eB : ckE bB.ev = 0 := ckE_none (by decide +kernel) rfl
theorem eC : ckE bC.ev = 0 := ckE_none (by decide +kernel) rfl
theorem ckA : ckP [bA] = 0 := by rw [ckP_go (by decide), ckFr_at (k := 0) (by decide) (by decide +kernel) (show ckE [bA][0]!.ev = 0 from eA), ckFr_end (by decide)]
theorem ckB' : ckP [bB] = 0 := by rw [ckP_go (by decide), ckFr_at (k := 0) (by decide) (by decide +kernel) (show ckE [bB][0]!.ev = 0 from eB), ckFr_end (by decide)]
theorem ckC : ckP [bC] = 0 := by rw [ckP_go (by decide), ckFr_at (k := 0) (by decide) (by decide +kernel) (show ckE [bC][0]!.ev = 0 from eC), ckFr_end (by decide)]
theorem ckAB : ckP [bA, bB] = 0 := by rw [ckP_go (by decide), ckFr_at (k := 0) (by decide) (by decide +kernel) (show ckE [bA, bB][0]!.ev = 0 from eA), ckFr_at (k := 1) (by decide) (by decide +kernel) (show ckE [bA, bB][1]!.ev = 0 from eB), ckFr_end (by decide)]
theorem ckAC : ckP [bA, bC] ≠ 0 := by rw [ckP_go (by decide), ckFr_at (k := 0) (by decide) (by decide +kernel) (show ckE [bA, bC][0]!.ev = 0 from eA), ckFr_st (k := 1) (by decide) (by decide +kernel)]; decide
theorem mBA : mergeO [bB] [bA] = some [bA, bB] :=
  mergeO_yes ⟨List.Perm.swap _ _ _, List.Pairwise.cons (fun x hx => by rw [List.mem_singleton.1 hx]; decide +kernel) (List.pairwise_singleton _ _)⟩ ckB' ckA ckAB
theorem mAC : mergeO [bA] [bC] = none :=
  mergeO_no (m := [bA, bC]) ⟨List.Perm.refl _, List.Pairwise.cons (fun x hx => by rw [List.mem_singleton.1 hx]; decide +kernel) (List.pairwise_singleton _ _)⟩ ckAC
theorem begAB : begT [bA, bB] = 5 := by decide +kernel
theorem endAB : endT [bA, bB] = 7 := by decide +kernel

theorem ofA (x : Bd) (hx : x.ev.ats = []) (h0 : ckP [x] = 0) (hv : x.var.size ≤ maxLen) (ht : x.ev.ty.size ≤ maxLen) (u : World) :
    Calls Tryz.prog 26 #[.string x.var, evV x.ev (.slice none 0 0)] u fun e w' => ∃ ao c, e = .returned (.tuple #[.agg #[.slice ao 1 c], .int .i64 0]) ∧ BsO w' u.heap.size (.slice ao 1 c) [x] ∧ Below u.heap.size u w' := by
  have h := mOf_any x 0 none 0 0 u (by rw [hx]; exact Av.nil _ _) (fun _ => rfl) (Nat.zero_le _) hv ht
  rw [h0, ofL_yes h0] at h
  refine h.mono ?_
  rintro e w' ⟨v', rfl, ho, hb⟩
  obtain ⟨ao, c, rfl⟩ := ho.shape
  exact ⟨ao, c, rfl, ho, hb⟩
theorem mergeS {cs bs m : List Bd} (hm : mergeO cs bs = some m) {N : Nat} (hN : m.length = N) (ao : Option Addr) (n cap : Nat) (ao2 : Option Addr) (n2 cap2 : Nat) (u : World) (h1 : BsV u u.heap.size (.slice ao n cap) cs) (h2 : BsV u u.heap.size (.slice ao2 n2 cap2) bs) :
    Calls Tryz.prog 21 #[.agg #[.slice ao n cap], .agg #[.slice ao2 n2 cap2]] u fun e w' => ∃ ao c, e = .returned (.tuple #[.agg #[.slice ao N c], .bool true]) ∧ BsO w' u.heap.size (.slice ao N c) m ∧ Below u.heap.size u w' := by
  have h := mMerge_any u.heap.size u.heap.size ao n cap ao2 n2 cap2 cs bs u h1 h2 (Nat.le_refl _) (Nat.le_refl _)
  rw [hm] at h
  refine h.mono ?_
  rintro e w' ⟨v', rfl, ho, hb⟩
  obtain ⟨ao, c, rfl⟩ := ho.shape
  rw [show ((some m).getD []).length = N from hN] at ho ⊢
  exact ⟨ao, c, rfl, ho, hb⟩
theorem mergeN {cs bs : List Bd} (hm : mergeO cs bs = none) (ao : Option Addr) (n cap : Nat) (ao2 : Option Addr) (n2 cap2 : Nat) (u : World) (h1 : BsV u u.heap.size (.slice ao n cap) cs) (h2 : BsV u u.heap.size (.slice ao2 n2 cap2) bs) :
    Calls Tryz.prog 21 #[.agg #[.slice ao n cap], .agg #[.slice ao2 n2 cap2]] u fun e w' => ∃ ao c, e = .returned (.tuple #[.agg #[.slice ao 0 c], .bool false]) ∧ BsO w' u.heap.size (.slice ao 0 c) [] ∧ Below u.heap.size u w' := by
  have h := mMerge_any u.heap.size u.heap.size ao n cap ao2 n2 cap2 cs bs u h1 h2 (Nat.le_refl _) (Nat.le_refl _)
  rw [hm] at h
  refine h.mono ?_
  rintro e w' ⟨v', rfl, ho, hb⟩
  obtain ⟨ao, c, rfl⟩ := ho.shape
  exact ⟨ao, c, rfl, ho, hb⟩

set_option maxRecDepth 100000 in
set_option maxHeartbeats 3200000 in
theorem begun10_any (w : World) : Calls Tryz.prog 8 #[] w fun e w' => e = .returned (.bool true) ∧ Below w.heap.size w w' := by
  have C1 := ofA bA rfl ckA (by decide +kernel) (by decide +kernel)
  have C2 := ofA bB rfl ckB' (by decide +kernel) (by decide +kernel)
  have C3 := ofA bC rfl ckC (by decide +kernel) (by decide +kernel)
  unfold evV at C1 C2 C3
  have HC1 : Hid (∀ u, Calls Tryz.prog 26 #[.string ⟨#[97]⟩, .agg #[.int .i64 0, .int .i64 1, .int .i64 5, .string ⟨#[116]⟩, .slice none 0 0]] u fun e w' => ∃ ao c, e = .returned (.tuple #[.agg #[.slice ao 1 c], .int .i64 0]) ∧ BsO w' u.heap.size (.slice ao 1 c) [bA] ∧ Below u.heap.size u w') := Lib.hid C1
  have HC2 : Hid (∀ u, Calls Tryz.prog 26 #[.string ⟨#[98]⟩, .agg #[.int .i64 1, .int .i64 0, .int .i64 7, .string ⟨#[116]⟩, .slice none 0 0]] u fun e w' => ∃ ao c, e = .returned (.tuple #[.agg #[.slice ao 1 c], .int .i64 0]) ∧ BsO w' u.heap.size (.slice ao 1 c) [bB] ∧ Below u.heap.size u w') := Lib.hid C2
  have HC3 : Hid (∀ u, Calls Tryz.prog 26 #[.string ⟨#[99]⟩, .agg #[.int .i64 0, .int .i64 1, .int .i64 5, .string ⟨#[116]⟩, .slice none 0 0]] u fun e w' => ∃ ao c, e = .returned (.tuple #[.agg #[.slice ao 1 c], .int .i64 0]) ∧ BsO w' u.heap.size (.slice ao 1 c) [bC] ∧ Below u.heap.size u w') := Lib.hid C3
  have HM1 := Lib.hid (mergeS (N := 2) mBA rfl)
  have HM2 := Lib.hid (mergeN mAC)
  have HE1 := Lib.hid begAB; have HE2 := Lib.hid endAB
  have HK0 : Hid (Bx w w.heap.size [] w) := Lib.hid Bx.nil
  clear C1 C2 C3
  go_enter Tryz.func8, Tryz.ntmps8
  go_wp2_with fail
  (with_reducible refine (HC1.out _).mono ?_)
  rintro e w1 ⟨a1, k1, rfl, ho1, hb1⟩
  have HK1 := Lib.hid ((HK0.out.call hb1).new (.inr ho1))
  clear ho1 hb1
  go_wp2_with fail
  obtain ⟨W1, hW1⟩ : ∃ W1, W1 = w1.alloc (.cells #[.slice a1 1 k1] 38) := ⟨_, rfl⟩
  rw [← hW1] at HK1 ⊢
  clear hW1
  generalize w1.heap.size = q1 at HK1 ⊢
  (with_reducible refine (HC2.out _).mono ?_)
  rintro e w2 ⟨a2, k2, rfl, ho2, hb2⟩
  have HK2 := Lib.hid ((HK1.out.call hb2).new (.inr (ho2.lower HK1.out.sz)))
  clear ho2 hb2
  go_wp2_with fail
  obtain ⟨W2, hW2⟩ : ∃ W2, W2 = w2.alloc (.cells #[.slice a2 1 k2] 38) := ⟨_, rfl⟩
  rw [← hW2] at HK2 ⊢
  clear hW2
  generalize w2.heap.size = q2 at HK2 ⊢
  (with_reducible refine (HC3.out _).mono ?_)
  rintro e w3 ⟨a3, k3, rfl, ho3, hb3⟩
  have HK3 := Lib.hid ((HK2.out.call hb3).new (.inr (ho3.lower HK2.out.sz)))
  clear ho3 hb3
  have l1 := HK3.out.cell (.tail _ (.tail _ (.head _)))
  have l2 := HK3.out.cell (.tail _ (.head _))
  go_wp2_with fail
  obtain ⟨W3, hW3⟩ : ∃ W3, W3 = w3.alloc (.cells #[.slice a3 1 k3] 38) := ⟨_, rfl⟩
  rw [← hW3] at HK3 ⊢
  clear hW3 l1 l2
  generalize w3.heap.size = q3 at HK3 ⊢
  have hv2 := HK3.out.bsv (.tail _ (.head _)); have hv1 := HK3.out.bsv (.tail _ (.tail _ (.head _)))
  (with_reducible refine (HM1.out _ _ _ _ _ _ _ hv2 hv1).mono ?_)
  clear hv1 hv2
  rintro e w4 ⟨a4, k4, rfl, ho4, hb4⟩
  have HK4 := Lib.hid ((HK3.out.call hb4).new (.inr (ho4.lower HK3.out.sz)))
  clear ho4 hb4
  have l1 := HK4.out.cell (.tail _ (.tail _ (.tail _ (.head _))))
  have l3 := HK4.out.cell (.tail _ (.head _))
  go_wp2_with fail
  obtain ⟨W4, hW4⟩ : ∃ W4, W4 = w4.alloc (.cells #[.slice a4 2 k4] 38) := ⟨_, rfl⟩
  rw [← hW4] at HK4 ⊢
  clear hW4 l1 l3
  generalize w4.heap.size = q4 at HK4 ⊢
  have hv1 := HK4.out.bsv (.tail _ (.tail _ (.tail _ (.head _)))); have hv3 := HK4.out.bsv (.tail _ (.head _))
  (with_reducible refine (HM2.out _ _ _ _ _ _ _ hv1 hv3).mono ?_)
  clear hv1 hv3
  rintro e w5 ⟨a5, k5, rfl, ho5, hb5⟩
  have HK5 := Lib.hid ((HK4.out.call hb5).new (.inr (ho5.lower HK4.out.sz)))
  clear ho5 hb5
  obtain ⟨W5, hW5⟩ : ∃ W5, W5 = w5.alloc (.cells #[.slice a5 0 k5] 38) := ⟨_, rfl⟩
  have HW5 := Lib.hid hW5
  rw [← hW5] at HK5
  have HG := Lib.hid (fun u (hu : Below W5.heap.size W5 u) => (HK5.out.call hu).cell (.tail _ (.head _)))
  have HBV := Lib.hid (HK5.out.bsv (.tail _ (.head _)))
  have HCB := Lib.hid (fun u (hu : Below W5.heap.size W5 u) => mBegin_any W5.heap.size a4 2 k4 [bA, bB] u (HBV.out.below hu (Nat.le_refl _)) hu.size)
  have HCE := Lib.hid (fun u (hu : Below W5.heap.size W5 u) => mEnd_any W5.heap.size a4 2 k4 [bA, bB] u (HBV.out.below hu (Nat.le_refl _)) hu.size)
  rw [begAB] at HCB
  rw [endAB] at HCE
  have HB5 : Hid (Below W5.heap.size W5 W5) := Lib.hid (Below.refl _ _)
  have l4 := HG.out _ HB5.out
  rw [hW5] at l4
  clear hW5
  go_wp2_with fail
  rw [← HW5.out]
  (with_reducible refine (HCB.out _ HB5.out).mono ?_)
  rintro e w6 ⟨rfl, hb6⟩
  clear l4
  have l4 := HG.out _ hb6
  have HB6 := Lib.hid hb6
  clear hb6
  go_wp2_with fail
  (with_reducible refine (HCE.out _ HB6.out).mono ?_)
  rintro e w7 ⟨rfl, hb7⟩
  have HB7 := Lib.hid (HB6.out.trans (hb7.mono HB6.out.size))
  clear l4 hb7
  have l4 := HG.out _ HB7.out
  go_wp2
  go_ret
  exact ⟨rfl, HK5.out.below.trans (HB7.out.mono HK5.out.sz)⟩
end Go.Proofs.YtiinljljbjjaeaaGreatDoor
