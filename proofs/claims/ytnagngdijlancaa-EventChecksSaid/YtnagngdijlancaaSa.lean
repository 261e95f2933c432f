/- Contract of Accept. -/
import Derived.Test.YtnagngdijlancaaSm
import Derived.Deep.RegionHeld3
import Derived.Deep.RegionLaw
namespace Go.Proofs.Ytnagngdijlancaa
open Go Go.RowKit

theorem infoEvent : (Try.prog.info? 26).map (fun i => (i.zero, i.size, i.bytes)) = some (some (.agg #[.int .i64 0, .int .i64 0, .int .i64 0, .string ⟨#[]⟩, .slice none 0 0]), 5, 64) := by kernel_rfl

/-- What Accept answers; what it makes of what was said. -/
def accErr (k : Nat) (sd : List Sd) (n : Nat) (ev : Ev) : Int :=
  if ckE ev ≠ 0 then ckE ev else if hasB k ev.src = false then 40 else if nxErr sd[ev.src.toNat]! ev ≠ 0 then nxErr sd[ev.src.toNat]! ev else if 65536 ≤ n then 3 else 0
def accSd (sd : List Sd) (ev : Ev) : List Sd := sd.set ev.src.toNat ⟨sd[ev.src.toNat]!.many + 1, ev.time, sd[ev.src.toNat]!.gone⟩

set_option maxRecDepth 100000 in
set_option maxHeartbeats 3200000 in
theorem sAccept_err (F : Nat → Prop) (q k : Nat) (sd : List Sd) (evs : List Ev) (ev : Ev) (B : Nat) (ao : Option Addr) (n cap : Nat) (w : World) (h : StIs w F q k sd evs)
    (hv : Av w B (.slice ao n cap) ev.ats) (hB : B ≤ w.heap.size) (hty : ev.ty.size ≤ maxLen) (he : accErr k sd evs.length ev ≠ 0) :
    Calls Try.prog 40 #[.pointer (some ⟨q, 0, none⟩), evV ev (.slice ao n cap)] w fun e w' => e = .returned (.int .i64 (accErr k sd evs.length ev)) ∧ Below w.heap.size w w' := by
  have hqlt := h.flt q h.fq
  obtain ⟨P, hP⟩ : ∃ P, P = w.heap.size := ⟨_, rfl⟩
  obtain ⟨W, hW⟩ : ∃ W, W = w.alloc (.cells #[.int .i64 ev.src, .int .i64 ev.seq, .int .i64 ev.time, .string ev.ty, .slice ao n cap] 26) := ⟨_, rfl⟩
  have hb0 : Below P w W := by rw [hW, hP]; exact (Below.refl _ _).alloc (Nat.le_refl _) _
  have hx0 : W.heap[P]? = some (.cells #[.int .i64 ev.src, .int .i64 ev.seq, .int .i64 ev.time, .string ev.ty, .slice ao n cap] 26 (0, 0)) := by rw [hW, hP]; exact heap_alloc_new w _
  have hsz : P < W.heap.size := by rw [hW, hP]; simp
  have hst : StIs W F q k sd evs := h.below (by rw [← hP]; exact hb0)
  have C1 := fun (w : World) (h : StIs w F q k sd evs) => sIsMadeS_any q k w h.num h.k0
  have C2 := eCheck_any ev B ao n cap W (hv.below hb0 (by omega)) (by omega) hty
  have C3 := fun (w : World) (h : StIs w F q k sd evs) => sHas_any q k ev.src w h.num
  obtain ⟨c0, c1, c2, c3, c4⟩ := cell_of_five hx0
  have HC1 := hide C1; have HST := hide hst; have HB0 := hide hb0; have HX0 := hide hx0; have HSZ := hide hsz; have HW := hide hW; have HP := hide hP
  have HJ := fun (w : World) (h : StIs w F q k sd evs) => h.said
  have HEV := fun (w : World) (h : StIs w F q k sd evs) => h.evs
  have HK16 := h.k16
  have HMANY := h.many
  rw [← hP]
  unfold accErr at he ⊢
  unfold evV at C2 ⊢
  obtain ⟨s, sq, tm, ty, ats⟩ := ev
  simp only at *
  clear hv hst hb0 hx0 hsz hW h hB hty C1 hP
  by_cases hck : ckE ⟨s, sq, tm, ty, ats⟩ = 0
  case neg =>
    rw [if_pos hck]
    obtain ⟨c, hc⟩ : ∃ c, c = ckE ⟨s, sq, tm, ty, ats⟩ := ⟨_, rfl⟩
    rw [← hc] at C2 hck ⊢
    have b1 : (c == 0) = false := by simp [hck]
    have b2 : (c != 0) = true := by simp [hck]
    have HC2 := hide C2
    clear hc hck C2 C3 he HJ HEV
    go_enter Try.func40, Try.ntmps40
    go_wp2_with fail
    rw [← HW.out, ← HP.out]
    go_wp2_with (first | (go_at_call 85; (with_reducible refine (HC1.out _ HST.out).mono ?_); rintro e w1 ⟨rfl, rfl⟩) | (go_at_call 12; (with_reducible refine (HC2.out).mono ?_); rintro e w1 ⟨rfl, hb⟩; have HB1 := hide hb; clear hb))
    go_ret
    exact ⟨rfl, HB0.out.trans (HB1.out.mono (Nat.le_of_lt HSZ.out))⟩
  rw [if_neg (by simpa using hck)] at he ⊢
  rw [hck] at C2
  have HC2 := hide C2
  cases hh : hasB k s with
  | false =>
    simp only [hh, if_true] at he ⊢
    rw [hh] at C3
    have HC3 := hide C3
    clear hck C2 C3 he HJ HEV hh
    go_enter Try.func40, Try.ntmps40
    go_wp2_with fail
    rw [← HW.out, ← HP.out]
    go_wp2_with (first | (go_at_call 85; (with_reducible refine (HC1.out _ HST.out).mono ?_); rintro e w1 ⟨rfl, rfl⟩) | (go_at_call 12; (with_reducible refine (HC2.out).mono ?_); rintro e w1 ⟨rfl, hb⟩; have HB1 := hide (HB0.out.trans (hb.mono (Nat.le_of_lt HSZ.out))); have HS1 := hide (HST.out.below hb); have hx1 := (hb.block P HSZ.out).trans HX0.out; clear hb c0 c1 c2 c3 c4; obtain ⟨c0, c1, c2, c3, c4⟩ := cell_of_five hx1; clear hx1) | (go_at_call 86; (with_reducible refine (HC3.out _ HS1.out).mono ?_); rintro e w2 ⟨rfl, rfl⟩))
    go_ret
    exact ⟨rfl, HB1.out⟩
  | true =>
    simp only [hh] at he ⊢
    rw [if_neg (by decide)] at he ⊢
    rw [hh] at C3
    have HC3 := hide C3
    obtain ⟨j, rfl, hj⟩ := hasB_nat hh
    rw [show ((j : Int)).toNat = j from rfl] at he ⊢
    have C4 := fun w => sdNext_any sd[j]! ⟨j, sq, tm, ty, ats⟩ ao n cap w
    unfold evV at C4
    have HJ := fun (w : World) (h : StIs w F q k sd evs) => HJ w h j (by omega)
    generalize sd[j]! = sj at he C4 HJ ⊢
    obtain ⟨m, l, g⟩ := sj
    simp only at HJ C4
    have hj0 : (0 : Int) ≤ (j : Int) := by omega
    have hj1 : (j : Int) < 16 := by omega
    obtain ⟨c, hc⟩ : ∃ c, c = nxErr ⟨m, l, g⟩ ⟨j, sq, tm, ty, ats⟩ := ⟨_, rfl⟩
    simp only [← hc] at C4 he ⊢
    have HC4 := hide C4
    have HJ := hide HJ; have HEV := hide HEV
    clear hck C2 C3 C4 hh hc
    by_cases hn : c = 0
    case neg =>
      rw [if_pos hn]
      have b1 : (c == 0) = false := by simp [hn]
      have b2 : (c != 0) = true := by simp [hn]
      clear he hn
      go_enter Try.func40, Try.ntmps40
      go_wp2_with fail
      rw [← HW.out, ← HP.out]
      go_wp2_with (first | (go_at_call 85; (with_reducible refine (HC1.out _ HST.out).mono ?_); rintro e w1 ⟨rfl, rfl⟩) | (go_at_call 12; (with_reducible refine (HC2.out).mono ?_); rintro e w1 ⟨rfl, hb⟩; have HB1 := hide (HB0.out.trans (hb.mono (Nat.le_of_lt HSZ.out))); have HS1 := hide (HST.out.below hb); have hx1 := (hb.block P HSZ.out).trans HX0.out; have hz1 : P < w1.heap.size := Nat.lt_of_lt_of_le HSZ.out hb.size; clear hb c0 c1 c2 c3 c4; obtain ⟨c0, c1, c2, c3, c4⟩ := cell_of_five hx1; have HX1 := hide hx1; clear hx1) | (go_at_call 86; (with_reducible refine (HC3.out _ HS1.out).mono ?_); rintro e w2 ⟨rfl, rfl⟩))
      obtain ⟨s0, s1, s2⟩ := HJ.out _ HS1.out
      go_quiet (fail)
      go_wp2_with fail
      obtain ⟨w2, hw2⟩ : ∃ w2, w2 = w1.drewN nq := ⟨_, rfl⟩
      have hb2 : Below w1.heap.size w1 w2 := by rw [hw2]; exact Below.drewN' (Below.refl _ _) _
      have HB2 := hide (HB1.out.trans (hb2.mono (Nat.le_of_lt hz1)))
      have HS2 := hide (HS1.out.below hb2)
      have hx2 := (hb2.block P hz1).trans HX1.out
      have hz2 : P < w2.heap.size := Nat.lt_of_lt_of_le hz1 hb2.size
      rw [← hw2]
      clear hw2 hb2 s0 s1 s2 c0 c1 c2 c3 c4
      have HX2 := hide hx2
      obtain ⟨c0, c1, c2, c3, c4⟩ := cell_of_five hx2
      obtain ⟨s0, s1, s2⟩ := HJ.out _ HS2.out
      clear hx2
      go_region_held3 (fun w' => w'.cell? ⟨q, 1 + j * 3, none⟩ = some (.int .i64 m) ∧ w'.cell? ⟨q, 1 + j * 3 + 1, none⟩ = some (.int .i64 l) ∧ w'.cell? ⟨q, 1 + j * 3 + 2, none⟩ = some (.bool g) ∧ w'.cell? ⟨P, 0, none⟩ = some (.int .i64 (j : Int)) ∧ w'.cell? ⟨P, 1, none⟩ = some (.int .i64 sq) ∧ w'.cell? ⟨P, 2, none⟩ = some (.int .i64 tm) ∧ w'.cell? ⟨P, 3, none⟩ = some (.string ty) ∧ w'.cell? ⟨P, 4, none⟩ = some (.slice ao n cap))
        (first | exact ⟨s0, s1, s2, c0, c1, c2, c3, c4⟩ | go_keep)
        ((go_at_call 87; (with_reducible refine (HC4.out _).mono ?_); rintro e w3 ⟨rfl, hb⟩; have HB3 := hide (HB2.out.drew.trans (hb.mono (Nat.le_of_lt hz2))); have HS3 := hide (HS2.out.drew.below hb); have hx3 := (hb.block P hz2).trans HX2.out; have hz3 : P < w3.heap.size := Nat.lt_of_lt_of_le hz2 hb.size; clear hb c0 c1 c2 c3 c4 s0 s1 s2; obtain ⟨c0, c1, c2, c3, c4⟩ := cell_of_five hx3; obtain ⟨s0, s1, s2⟩ := HJ.out _ HS3.out; have HX3 := hide hx3; clear hx3))
      all_goals go_wp2
      all_goals go_ret
      all_goals exact ⟨rfl, HB3.out⟩
    · subst hn
      rw [if_neg (by decide)] at he ⊢
      by_cases h6 : 65536 ≤ evs.length
      case neg => rw [if_neg h6] at he; exact absurd rfl he
      rw [if_pos h6]
      clear he
      go_enter Try.func40, Try.ntmps40
      go_wp2_with fail
      rw [← HW.out, ← HP.out]
      go_wp2_with (first | (go_at_call 85; (with_reducible refine (HC1.out _ HST.out).mono ?_); rintro e w1 ⟨rfl, rfl⟩) | (go_at_call 12; (with_reducible refine (HC2.out).mono ?_); rintro e w1 ⟨rfl, hb⟩; have HB1 := hide (HB0.out.trans (hb.mono (Nat.le_of_lt HSZ.out))); have HS1 := hide (HST.out.below hb); have hx1 := (hb.block P HSZ.out).trans HX0.out; have hz1 : P < w1.heap.size := Nat.lt_of_lt_of_le HSZ.out hb.size; clear hb c0 c1 c2 c3 c4; obtain ⟨c0, c1, c2, c3, c4⟩ := cell_of_five hx1; have HX1 := hide hx1; clear hx1) | (go_at_call 86; (with_reducible refine (HC3.out _ HS1.out).mono ?_); rintro e w2 ⟨rfl, rfl⟩))
      obtain ⟨s0, s1, s2⟩ := HJ.out _ HS1.out
      go_quiet (fail)
      go_wp2_with fail
      obtain ⟨w2, hw2⟩ : ∃ w2, w2 = w1.drewN nq := ⟨_, rfl⟩
      have hb2 : Below w1.heap.size w1 w2 := by rw [hw2]; exact Below.drewN' (Below.refl _ _) _
      have HB2 := hide (HB1.out.trans (hb2.mono (Nat.le_of_lt hz1)))
      have HS2 := hide (HS1.out.below hb2)
      have hx2 := (hb2.block P hz1).trans HX1.out
      have hz2 : P < w2.heap.size := Nat.lt_of_lt_of_le hz1 hb2.size
      rw [← hw2]
      clear hw2 hb2 s0 s1 s2 c0 c1 c2 c3 c4
      have HX2 := hide hx2
      obtain ⟨c0, c1, c2, c3, c4⟩ := cell_of_five hx2
      obtain ⟨s0, s1, s2⟩ := HJ.out _ HS2.out
      clear hx2
      go_region_held3 (fun w' => w'.cell? ⟨q, 1 + j * 3, none⟩ = some (.int .i64 m) ∧ w'.cell? ⟨q, 1 + j * 3 + 1, none⟩ = some (.int .i64 l) ∧ w'.cell? ⟨q, 1 + j * 3 + 2, none⟩ = some (.bool g) ∧ w'.cell? ⟨P, 0, none⟩ = some (.int .i64 (j : Int)) ∧ w'.cell? ⟨P, 1, none⟩ = some (.int .i64 sq) ∧ w'.cell? ⟨P, 2, none⟩ = some (.int .i64 tm) ∧ w'.cell? ⟨P, 3, none⟩ = some (.string ty) ∧ w'.cell? ⟨P, 4, none⟩ = some (.slice ao n cap))
        (first | exact ⟨s0, s1, s2, c0, c1, c2, c3, c4⟩ | go_keep)
        ((go_at_call 87; (with_reducible refine (HC4.out _).mono ?_); rintro e w3 ⟨rfl, hb⟩; have HB3 := hide (HB2.out.drew.trans (hb.mono (Nat.le_of_lt hz2))); have HS3 := hide (HS2.out.drew.below hb); have hx3 := (hb.block P hz2).trans HX2.out; have hz3 : P < w3.heap.size := Nat.lt_of_lt_of_le hz2 hb.size; clear hb c0 c1 c2 c3 c4 s0 s1 s2; obtain ⟨c0, c1, c2, c3, c4⟩ := cell_of_five hx3; obtain ⟨s0, s1, s2⟩ := HJ.out _ HS3.out; have HX3 := hide hx3; clear hx3))
      all_goals
        obtain ⟨va, vc, hva⟩ := HEV.out _ HS3.out
        have h6i : (65536 : Int) ≤ (evs.length : Int) := by omega
        go_wp2
        go_ret
        exact ⟨rfl, HB3.out⟩
end Go.Proofs.Ytnagngdijlancaa
