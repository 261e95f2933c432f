/- Contract of Accept. -/
import Derived.Deep.AppendLies
import Derived.Test.YthjhbnfedelniaaSt
import Derived.Deep.RegionHeld3
import Derived.Deep.RegionLaw
namespace Go.Proofs.Ythjhbnfedelniaa
open Go Go.RowKit

theorem infoEvent : (Try.prog.info? 35).map (fun i => (i.zero, i.size, i.bytes)) = some (some (.agg #[.int .i64 0, .int .i64 0, .int .i64 0, .string ⟨#[]⟩, .slice none 0 0]), 5, 64) := by kernel_rfl

/-- What Accept answers; what it makes of what was said. -/
def accErr (k : Nat) (sd : List Sd) (n : Nat) (ev : Ev) : Int :=
  if ckE ev ≠ 0 then ckE ev else if hasB k ev.src = false then 40 else if nxErr sd[ev.src.toNat]! ev ≠ 0 then nxErr sd[ev.src.toNat]! ev else if 65536 ≤ n then 3 else 0
def accSd (sd : List Sd) (ev : Ev) : List Sd := sd.set ev.src.toNat ⟨sd[ev.src.toNat]!.many + 1, ev.time, sd[ev.src.toNat]!.gone⟩

set_option maxRecDepth 100000 in
set_option maxHeartbeats 3200000 in
theorem sAccept_err (F : Nat → Prop) (q k : Nat) (sd : List Sd) (evs : List Ev) (ev : Ev) (B : Nat) (ao : Option Addr) (n cap : Nat) (w : World) (h : StIs w F q k sd evs)
    (hv : Av w B (.slice ao n cap) ev.ats) (hB : B ≤ w.heap.size) (hty : ev.ty.size ≤ maxLen) (he : accErr k sd evs.length ev ≠ 0) :
    Calls Try.prog 8 #[.pointer (some ⟨q, 0, none⟩), evV ev (.slice ao n cap)] w fun e w' => e = .returned (.int .i64 (accErr k sd evs.length ev)) ∧ Below w.heap.size w w' := by
  have hqlt := h.flt q h.fq
  obtain ⟨P, hP⟩ : ∃ P, P = w.heap.size := ⟨_, rfl⟩
  obtain ⟨W, hW⟩ : ∃ W, W = w.alloc (.cells #[.int .i64 ev.src, .int .i64 ev.seq, .int .i64 ev.time, .string ev.ty, .slice ao n cap] 35) := ⟨_, rfl⟩
  have hb0 : Below P w W := by rw [hW, hP]; exact (Below.refl _ _).alloc (Nat.le_refl _) _
  have hx0 : W.heap[P]? = some (.cells #[.int .i64 ev.src, .int .i64 ev.seq, .int .i64 ev.time, .string ev.ty, .slice ao n cap] 35 (0, 0)) := by rw [hW, hP]; exact heap_alloc_new w _
  have hsz : P < W.heap.size := by rw [hW, hP]; simp
  have hst : StIs W F q k sd evs := h.below (by rw [← hP]; exact hb0)
  have C1 := fun (w : World) (h : StIs w F q k sd evs) => sIsMadeS_any q k w h.num h.k0
  have C2 := eCheck_any ev B ao n cap W (hv.below hb0 (by omega)) (by omega) hty
  have C3 := fun (w : World) (h : StIs w F q k sd evs) => sHas_any q k ev.src w h.num
  obtain ⟨c0, c1, c2, c3, c4⟩ := cell_of_five hx0
  have HC1 := hide C1; have HST := hide hst; have HB0 := hide hb0; have HX0 := hide hx0; have HSZ := hide hsz; have HW := hide hW; have HP := hide hP
  have HJ := fun (w : World) (h : StIs w F q k sd evs) => h.said
  have HEV := fun (w : World) (h : StIs w F q k sd evs) => h.evs
  have HK16 := h.k16
  have HMANY := h.many
  rw [← hP]
  unfold accErr at he ⊢
  unfold evV at C2 ⊢
  obtain ⟨s, sq, tm, ty, ats⟩ := ev
  simp only at *
  clear hv hst hb0 hx0 hsz hW h hB hty C1 hP
  by_cases hck : ckE ⟨s, sq, tm, ty, ats⟩ = 0
  case neg =>
    rw [if_pos hck]
    obtain ⟨c, hc⟩ : ∃ c, c = ckE ⟨s, sq, tm, ty, ats⟩ := ⟨_, rfl⟩
    rw [← hc] at C2 hck ⊢
    have b1 : (c == 0) = false := by simp [hck]
    have b2 : (c != 0) = true := by simp [hck]
    have HC2 := hide C2
    clear hc hck C2 C3 he HJ HEV
    go_enter Try.func8, Try.ntmps8
    go_wp2_with fail
    rw [← HW.out, ← HP.out]
    go_wp2_with (first | (go_at_call 29; (with_reducible refine (HC1.out _ HST.out).mono ?_); rintro e w1 ⟨rfl, rfl⟩) | (go_at_call 30; (with_reducible refine (HC2.out).mono ?_); rintro e w1 ⟨rfl, hb⟩; have HB1 := hide hb; clear hb))
    go_ret
    exact ⟨rfl, HB0.out.trans (HB1.out.mono (Nat.le_of_lt HSZ.out))⟩
  rw [if_neg (by simpa using hck)] at he ⊢
  rw [hck] at C2
  have HC2 := hide C2
  cases hh : hasB k s with
  | false =>
    simp only [hh, if_true] at he ⊢
    rw [hh] at C3
    have HC3 := hide C3
    clear hck C2 C3 he HJ HEV hh
    go_enter Try.func8, Try.ntmps8
    go_wp2_with fail
    rw [← HW.out, ← HP.out]
    go_wp2_with (first | (go_at_call 29; (with_reducible refine (HC1.out _ HST.out).mono ?_); rintro e w1 ⟨rfl, rfl⟩) | (go_at_call 30; (with_reducible refine (HC2.out).mono ?_); rintro e w1 ⟨rfl, hb⟩; have HB1 := hide (HB0.out.trans (hb.mono (Nat.le_of_lt HSZ.out))); have HS1 := hide (HST.out.below hb); have hx1 := (hb.block P HSZ.out).trans HX0.out; clear hb c0 c1 c2 c3 c4; obtain ⟨c0, c1, c2, c3, c4⟩ := cell_of_five hx1; clear hx1) | (go_at_call 31; (with_reducible refine (HC3.out _ HS1.out).mono ?_); rintro e w2 ⟨rfl, rfl⟩))
    go_ret
    exact ⟨rfl, HB1.out⟩
  | true =>
    simp only [hh] at he ⊢
    rw [if_neg (by decide)] at he ⊢
    rw [hh] at C3
    have HC3 := hide C3
    obtain ⟨j, rfl, hj⟩ := hasB_nat hh
    rw [show ((j : Int)).toNat = j from rfl] at he ⊢
    have C4 := fun w => sdNext_any sd[j]! ⟨j, sq, tm, ty, ats⟩ ao n cap w
    unfold evV at C4
    have HJ := fun (w : World) (h : StIs w F q k sd evs) => HJ w h j (by omega)
    generalize sd[j]! = sj at he C4 HJ ⊢
    obtain ⟨m, l, g⟩ := sj
    simp only at HJ C4
    have hj0 : (0 : Int) ≤ (j : Int) := by omega
    have hj1 : (j : Int) < 16 := by omega
    obtain ⟨c, hc⟩ : ∃ c, c = nxErr ⟨m, l, g⟩ ⟨j, sq, tm, ty, ats⟩ := ⟨_, rfl⟩
    simp only [← hc] at C4 he ⊢
    have HC4 := hide C4
    have HJ := hide HJ; have HEV := hide HEV
    clear hck C2 C3 C4 hh hc
    by_cases hn : c = 0
    case neg =>
      rw [if_pos hn]
      have b1 : (c == 0) = false := by simp [hn]
      have b2 : (c != 0) = true := by simp [hn]
      clear he hn
      go_enter Try.func8, Try.ntmps8
      go_wp2_with fail
      rw [← HW.out, ← HP.out]
      go_wp2_with (first | (go_at_call 29; (with_reducible refine (HC1.out _ HST.out).mono ?_); rintro e w1 ⟨rfl, rfl⟩) | (go_at_call 30; (with_reducible refine (HC2.out).mono ?_); rintro e w1 ⟨rfl, hb⟩; have HB1 := hide (HB0.out.trans (hb.mono (Nat.le_of_lt HSZ.out))); have HS1 := hide (HST.out.below hb); have hx1 := (hb.block P HSZ.out).trans HX0.out; have hz1 : P < w1.heap.size := Nat.lt_of_lt_of_le HSZ.out hb.size; clear hb c0 c1 c2 c3 c4; obtain ⟨c0, c1, c2, c3, c4⟩ := cell_of_five hx1; have HX1 := hide hx1; clear hx1) | (go_at_call 31; (with_reducible refine (HC3.out _ HS1.out).mono ?_); rintro e w2 ⟨rfl, rfl⟩))
      obtain ⟨s0, s1, s2⟩ := HJ.out _ HS1.out
      go_quiet (fail)
      go_wp2_with fail
      obtain ⟨w2, hw2⟩ : ∃ w2, w2 = w1.drewN nq := ⟨_, rfl⟩
      have hb2 : Below w1.heap.size w1 w2 := by rw [hw2]; exact Below.drewN' (Below.refl _ _) _
      have HB2 := hide (HB1.out.trans (hb2.mono (Nat.le_of_lt hz1)))
      have HS2 := hide (HS1.out.below hb2)
      have hx2 := (hb2.block P hz1).trans HX1.out
      have hz2 : P < w2.heap.size := Nat.lt_of_lt_of_le hz1 hb2.size
      rw [← hw2]
      clear hw2 hb2 s0 s1 s2 c0 c1 c2 c3 c4
      have HX2 := hide hx2
      obtain ⟨c0, c1, c2, c3, c4⟩ := cell_of_five hx2
      obtain ⟨s0, s1, s2⟩ := HJ.out _ HS2.out
      clear hx2
      go_region_held3 (fun w' => w'.cell? ⟨q, 1 + j * 3, none⟩ = some (.int .i64 m) ∧ w'.cell? ⟨q, 1 + j * 3 + 1, none⟩ = some (.int .i64 l) ∧ w'.cell? ⟨q, 1 + j * 3 + 2, none⟩ = some (.bool g) ∧ w'.cell? ⟨P, 0, none⟩ = some (.int .i64 (j : Int)) ∧ w'.cell? ⟨P, 1, none⟩ = some (.int .i64 sq) ∧ w'.cell? ⟨P, 2, none⟩ = some (.int .i64 tm) ∧ w'.cell? ⟨P, 3, none⟩ = some (.string ty) ∧ w'.cell? ⟨P, 4, none⟩ = some (.slice ao n cap))
        (first | exact ⟨s0, s1, s2, c0, c1, c2, c3, c4⟩ | go_keep)
        ((go_at_call 32; (with_reducible refine (HC4.out _).mono ?_); rintro e w3 ⟨rfl, hb⟩; have HB3 := hide (HB2.out.drew.trans (hb.mono (Nat.le_of_lt hz2))); have HS3 := hide (HS2.out.drew.below hb); have hx3 := (hb.block P hz2).trans HX2.out; have hz3 : P < w3.heap.size := Nat.lt_of_lt_of_le hz2 hb.size; clear hb c0 c1 c2 c3 c4 s0 s1 s2; obtain ⟨c0, c1, c2, c3, c4⟩ := cell_of_five hx3; obtain ⟨s0, s1, s2⟩ := HJ.out _ HS3.out; have HX3 := hide hx3; clear hx3))
      all_goals go_wp2
      all_goals go_ret
      all_goals exact ⟨rfl, HB3.out⟩
    · subst hn
      rw [if_neg (by decide)] at he ⊢
      by_cases h6 : 65536 ≤ evs.length
      case neg => rw [if_neg h6] at he; exact absurd rfl he
      rw [if_pos h6]
      clear he
      go_enter Try.func8, Try.ntmps8
      go_wp2_with fail
      rw [← HW.out, ← HP.out]
      go_wp2_with (first | (go_at_call 29; (with_reducible refine (HC1.out _ HST.out).mono ?_); rintro e w1 ⟨rfl, rfl⟩) | (go_at_call 30; (with_reducible refine (HC2.out).mono ?_); rintro e w1 ⟨rfl, hb⟩; have HB1 := hide (HB0.out.trans (hb.mono (Nat.le_of_lt HSZ.out))); have HS1 := hide (HST.out.below hb); have hx1 := (hb.block P HSZ.out).trans HX0.out; have hz1 : P < w1.heap.size := Nat.lt_of_lt_of_le HSZ.out hb.size; clear hb c0 c1 c2 c3 c4; obtain ⟨c0, c1, c2, c3, c4⟩ := cell_of_five hx1; have HX1 := hide hx1; clear hx1) | (go_at_call 31; (with_reducible refine (HC3.out _ HS1.out).mono ?_); rintro e w2 ⟨rfl, rfl⟩))
      obtain ⟨s0, s1, s2⟩ := HJ.out _ HS1.out
      go_quiet (fail)
      go_wp2_with fail
      obtain ⟨w2, hw2⟩ : ∃ w2, w2 = w1.drewN nq := ⟨_, rfl⟩
      have hb2 : Below w1.heap.size w1 w2 := by rw [hw2]; exact Below.drewN' (Below.refl _ _) _
      have HB2 := hide (HB1.out.trans (hb2.mono (Nat.le_of_lt hz1)))
      have HS2 := hide (HS1.out.below hb2)
      have hx2 := (hb2.block P hz1).trans HX1.out
      have hz2 : P < w2.heap.size := Nat.lt_of_lt_of_le hz1 hb2.size
      rw [← hw2]
      clear hw2 hb2 s0 s1 s2 c0 c1 c2 c3 c4
      have HX2 := hide hx2
      obtain ⟨c0, c1, c2, c3, c4⟩ := cell_of_five hx2
      obtain ⟨s0, s1, s2⟩ := HJ.out _ HS2.out
      clear hx2
      go_region_held3 (fun w' => w'.cell? ⟨q, 1 + j * 3, none⟩ = some (.int .i64 m) ∧ w'.cell? ⟨q, 1 + j * 3 + 1, none⟩ = some (.int .i64 l) ∧ w'.cell? ⟨q, 1 + j * 3 + 2, none⟩ = some (.bool g) ∧ w'.cell? ⟨P, 0, none⟩ = some (.int .i64 (j : Int)) ∧ w'.cell? ⟨P, 1, none⟩ = some (.int .i64 sq) ∧ w'.cell? ⟨P, 2, none⟩ = some (.int .i64 tm) ∧ w'.cell? ⟨P, 3, none⟩ = some (.string ty) ∧ w'.cell? ⟨P, 4, none⟩ = some (.slice ao n cap))
        (first | exact ⟨s0, s1, s2, c0, c1, c2, c3, c4⟩ | go_keep)
        ((go_at_call 32; (with_reducible refine (HC4.out _).mono ?_); rintro e w3 ⟨rfl, hb⟩; have HB3 := hide (HB2.out.drew.trans (hb.mono (Nat.le_of_lt hz2))); have HS3 := hide (HS2.out.drew.below hb); have hx3 := (hb.block P hz2).trans HX2.out; have hz3 : P < w3.heap.size := Nat.lt_of_lt_of_le hz2 hb.size; clear hb c0 c1 c2 c3 c4 s0 s1 s2; obtain ⟨c0, c1, c2, c3, c4⟩ := cell_of_five hx3; obtain ⟨s0, s1, s2⟩ := HJ.out _ HS3.out; have HX3 := hide hx3; clear hx3))
      all_goals
        obtain ⟨va, vc, hva⟩ := HEV.out _ HS3.out
        have h6i : (65536 : Int) ≤ (evs.length : Int) := by omega
        go_wp2
        go_ret
        exact ⟨rfl, HB3.out⟩
end Go.Proofs.Ythjhbnfedelniaa
namespace Go.Proofs.Ythjhbnfedelniaa
open Go Go.RowKit

theorem evB_parts {e : Ev} (h : evB e = true) : 0 ≤ e.src ∧ e.src < 16 ∧ 0 ≤ e.seq ∧ e.seq ≤ 1099511627776 ∧ 0 ≤ e.time ∧ e.time ≤ 1099511627776 := by
  simp only [evB, evSrcB, evTmB, Bool.and_eq_true, decide_eq_true_eq] at h
  obtain ⟨⟨⟨⟨a, b⟩, c, d⟩, e, f⟩, _⟩ := h
  exact ⟨a, b, c, d, e, f⟩
theorem ckE_zero {e : Ev} (h : ckE e = 0) : evB e = true ∧ ckAll e.ats = 0 := by
  cases hb : evB e with
  | false => rw [ckE_no hb] at h; exact absurd h (by decide)
  | true => rw [ckE_ok hb] at h; exact ⟨rfl, h⟩
theorem accErr_zero {k : Nat} {sd : List Sd} {n : Nat} {ev : Ev} (h : accErr k sd n ev = 0) :
    ckE ev = 0 ∧ hasB k ev.src = true ∧ sd[ev.src.toNat]!.gone = false ∧ sd[ev.src.toNat]!.many = ev.seq ∧ sd[ev.src.toNat]!.last ≤ ev.time ∧ n < 65536 := by
  unfold accErr at h
  split at h
  · rename_i h1; exact absurd h h1
  · rename_i h1
    have h1 : ckE ev = 0 := by simpa using h1
    split at h
    · exact absurd h (by decide)
    · rename_i h2
      split at h
      · rename_i h3; exact absurd h h3
      · rename_i h3
        have h3 : nxErr sd[ev.src.toNat]! ev = 0 := by simpa using h3
        split at h
        · exact absurd h (by decide)
        · rename_i h4
          refine ⟨h1, by simpa using h2, ?_⟩
          unfold nxErr at h3
          split at h3
          · exact absurd h3 (by decide)
          · rename_i h5
            split at h3
            · exact absurd h3 (by decide)
            · rename_i h6
              split at h3
              · exact absurd h3 (by decide)
              · rename_i h7
                exact ⟨Bool.eq_false_iff.2 h5, (Decidable.not_not.1 h6).symm, by omega, by omega⟩

theorem eClone_name : Try.f24.name ≠ "runtime.NumGoroutine" := by decide +kernel
theorem eClone_body : Try.f24.body ≠ none := fun h => by
  have h2 : Try.f24.body.isSome = true := by kernel_rfl
  rw [h] at h2; cases h2
/-- What Accept leaves behind where it accepts. -/
def AccPost (F : Nat → Prop) (q k : Nat) (sd : List Sd) (evs : List Ev) (w w' : World) : Prop := StIs w' (Fnew F w.heap.size w'.heap.size) q k sd evs ∧ Chg F w w'

set_option maxRecDepth 100000 in
set_option maxHeartbeats 3200000 in
theorem sAccept_ok (F : Nat → Prop) (q k : Nat) (sd : List Sd) (evs : List Ev) (ev : Ev) (B : Nat) (ao : Option Addr) (n cap : Nat) (w : World) (h : StIs w F q k sd evs)
    (hv : Av w B (.slice ao n cap) ev.ats) (hB : B ≤ w.heap.size) (hty : ev.ty.size ≤ maxLen) (hd : ∀ a, ao = some a → 0 < n → ¬ F a.block) (he : accErr k sd evs.length ev = 0) :
    Calls Try.prog 8 #[.pointer (some ⟨q, 0, none⟩), evV ev (.slice ao n cap)] w fun e w' => e = .returned (.int .i64 0) ∧ AccPost F q k (accSd sd ev) (evs ++ [ev]) w w' := by
  have hqlt := h.flt q h.fq
  obtain ⟨P, hP⟩ : ∃ P, P = w.heap.size := ⟨_, rfl⟩
  obtain ⟨W, hW⟩ : ∃ W, W = w.alloc (.cells #[.int .i64 ev.src, .int .i64 ev.seq, .int .i64 ev.time, .string ev.ty, .slice ao n cap] 35) := ⟨_, rfl⟩
  have hb0 : Below P w W := by rw [hW, hP]; exact (Below.refl _ _).alloc (Nat.le_refl _) _
  have hx0 : W.heap[P]? = some (.cells #[.int .i64 ev.src, .int .i64 ev.seq, .int .i64 ev.time, .string ev.ty, .slice ao n cap] 35 (0, 0)) := by rw [hW, hP]; exact heap_alloc_new w _
  have hsz : P < W.heap.size := by rw [hW, hP]; simp
  have hst : StIs W F q k sd evs := h.below (by rw [← hP]; exact hb0)
  have C1 := fun (w : World) (h : StIs w F q k sd evs) => sIsMadeS_any q k w h.num h.k0
  have C2 := eCheck_any ev B ao n cap W (hv.below hb0 (by omega)) (by omega) hty
  have C3 := fun (w : World) (h : StIs w F q k sd evs) => sHas_any q k ev.src w h.num
  have C5 := fun (w : World) (h : Av w B (.slice ao n cap) ev.ats) (hB : B ≤ w.heap.size) => eClone_any ev B ao n cap w h hB
  obtain ⟨c0, c1, c2, c3, c4⟩ := cell_of_five hx0
  have HC1 := hide C1; have HST := hide hst; have HB0 := hide hb0; have HX0 := hide hx0; have HSZ := hide hsz; have HW := hide hW; have HP := hide hP
  have HJ0 := hide (fun (w : World) (h : StIs w F q k sd evs) => h.said)
  have HK16 := h.k16
  have HMANY := h.many
  obtain ⟨z1, z2, z3, z4, z5, z6⟩ := accErr_zero he
  obtain ⟨-, -, y3, y4, y5, y6⟩ := evB_parts (ckE_zero z1).1
  have C4 := fun w => sdNext_any sd[ev.src.toNat]! ev ao n cap w
  have hnx : nxErr sd[ev.src.toNat]! ev = 0 := by unfold nxErr; rw [z3, z4, if_neg (by decide), if_neg (by simp), if_neg (by omega)]
  rw [hnx] at C4
  have HAV := hide hv; have HD := hide hd; have HWD := hide hv.wide; have HLN := hide hv.len; have HTY := hide hty; have HBP := hide (show B ≤ P by omega)
  have HACC : Hid (accSd sd ev = sd.set ev.src.toNat ⟨ev.seq + 1, ev.time, sd[ev.src.toNat]!.gone⟩) := by unfold accSd; rw [z4]; rfl
  have HMN := hide z4; have HGN := hide z3
  have hPq : q < P := by omega
  have HN6 := hide z6
  obtain ⟨evL, hevL⟩ : ∃ l, l = accSd sd ev := ⟨_, rfl⟩
  rw [← hevL] at HACC ⊢
  clear hevL
  unfold evV at C2 C4 C5 ⊢
  obtain ⟨s, sq, tm, ty, ats⟩ := ev
  simp only at *
  clear hv hst hb0 hx0 hsz hW h hB hty C1 hP he hd z3 z4
  rw [z1] at C2
  rw [z2] at C3
  have HC2 := hide C2; have HC3 := hide C3
  obtain ⟨j, rfl, hj⟩ := hasB_nat z2
  rw [show ((j : Int)).toNat = j from rfl] at HACC HMN HGN z5 C4 hnx
  have HJ1 := fun (w : World) (h : StIs w F q k sd evs) => HJ0.out w h j (by omega)
  have hm0 := HMN.out; have hg0 := HGN.out
  have HSJ : Hid (sd[j]! = ⟨sq, sd[j]!.last, false⟩) := by
    cases hq : sd[j]!; rw [hq] at hm0 hg0; simp only at hm0 hg0; rw [hm0, hg0]; rfl
  obtain ⟨l, hl⟩ : ∃ l, l = sd[j]!.last := ⟨_, rfl⟩
  rw [hm0, hg0, ← hl] at C4
  rw [hg0] at HACC
  rw [hm0, hg0, ← hl] at HJ1
  have hj0 : (0 : Int) ≤ (j : Int) := by omega
  have hj1 : (j : Int) < 16 := by omega
  have HC4 := hide C4; have HC5 := hide C5
  have HJ := hide HJ1
  clear HJ1 C2 C3 C4 C5 z1 z2 hnx hm0 hg0 hl z5
  go_enter Try.func8, Try.ntmps8
  go_wp2_with fail
  rw [← HW.out, ← HP.out]
  go_wp2_with (first | (go_at_call 29; (with_reducible refine (HC1.out _ HST.out).mono ?_); rintro e w1 ⟨rfl, rfl⟩) | (go_at_call 30; (with_reducible refine (HC2.out).mono ?_); rintro e w1 ⟨rfl, hb⟩; have HB1 := hide (HB0.out.trans (hb.mono (Nat.le_of_lt HSZ.out))); have HS1 := hide (HST.out.below hb); have hx1 := (hb.block P HSZ.out).trans HX0.out; have hz1 : P < w1.heap.size := Nat.lt_of_lt_of_le HSZ.out hb.size; clear hb c0 c1 c2 c3 c4; obtain ⟨c0, c1, c2, c3, c4⟩ := cell_of_five hx1; have HX1 := hide hx1; clear hx1) | (go_at_call 31; (with_reducible refine (HC3.out _ HS1.out).mono ?_); rintro e w2 ⟨rfl, rfl⟩))
  obtain ⟨s0, s1, s2⟩ := HJ.out _ HS1.out
  go_quiet (fail)
  go_wp2_with fail
  obtain ⟨w2, hw2⟩ : ∃ w2, w2 = w1.drewN nq := ⟨_, rfl⟩
  have hb2 : Below w1.heap.size w1 w2 := by rw [hw2]; exact Below.drewN' (Below.refl _ _) _
  have HB2 := hide (HB1.out.trans (hb2.mono (Nat.le_of_lt hz1)))
  have HS2 := hide (HS1.out.below hb2)
  have hx2 := (hb2.block P hz1).trans HX1.out
  have hz2 : P < w2.heap.size := Nat.lt_of_lt_of_le hz1 hb2.size
  rw [← hw2]
  clear hw2 hb2 s0 s1 s2 c0 c1 c2 c3 c4
  have HX2 := hide hx2
  obtain ⟨c0, c1, c2, c3, c4⟩ := cell_of_five hx2
  obtain ⟨s0, s1, s2⟩ := HJ.out _ HS2.out
  clear hx2
  go_region_held3 (fun w' => w'.cell? ⟨q, 1 + j * 3, none⟩ = some (.int .i64 sq) ∧ w'.cell? ⟨q, 1 + j * 3 + 1, none⟩ = some (.int .i64 l) ∧ w'.cell? ⟨q, 1 + j * 3 + 2, none⟩ = some (.bool false) ∧ w'.cell? ⟨P, 0, none⟩ = some (.int .i64 (j : Int)) ∧ w'.cell? ⟨P, 1, none⟩ = some (.int .i64 sq) ∧ w'.cell? ⟨P, 2, none⟩ = some (.int .i64 tm) ∧ w'.cell? ⟨P, 3, none⟩ = some (.string ty) ∧ w'.cell? ⟨P, 4, none⟩ = some (.slice ao n cap))
    (first | exact ⟨s0, s1, s2, c0, c1, c2, c3, c4⟩ | go_keep)
    ((go_at_call 32; (with_reducible refine (HC4.out _).mono ?_); rintro e w3 ⟨rfl, hb⟩; have HB3 := hide (HB2.out.drew.trans (hb.mono (Nat.le_of_lt hz2))); have HS3 := hide (HS2.out.drew.below hb); have hx3 := (hb.block P hz2).trans HX2.out; have hz3 : P < w3.heap.size := Nat.lt_of_lt_of_le hz2 hb.size; clear hb c0 c1 c2 c3 c4 s0 s1 s2; obtain ⟨c0, c1, c2, c3, c4⟩ := cell_of_five hx3; obtain ⟨s0, s1, s2⟩ := HJ.out _ HS3.out; have HX3 := hide hx3; clear hx3))
  obtain ⟨v, vs, hat⟩ := HS3.out
  obtain ⟨va, vc, rfl⟩ := own_slice hat.own
  have hva := hat.evv
  have f1 := free_of_st hat.blk (1 + j * 3)
  have f2 := free_of_st hat.blk (1 + j * 3 + 1)
  have f3 := free_of_st hat.blk 49
  have hj16 : j < 16 := by omega
  have hat4 := hat.wrote j hj16 (sq + 1) tm
  have HAT := hide hat4
  obtain ⟨N, hN⟩ : ∃ N, N = evs.length := ⟨_, rfl⟩
  have h6i : (N : Int) < 65536 := by rw [hN]; have := HN6.out; omega
  rw [← hN] at hva
  have HNN := hide hN
  have hqP : q ≠ P := by omega
  clear hat hat4 hN HMANY
  have hd1 : decide ((65536 : Int) ≤ (N : Int)) = false := by simp; omega
  obtain ⟨i0, hi, hz0, hz1, hz2⟩ := info_parts infoEvent
  clear h6i z6
  go_wp2_with fail
  obtain ⟨Wa, hWa⟩ : ∃ W, W = (w3.setCell ⟨q, 1 + j * 3, none⟩ (.int .i64 (sq + 1))).setCell ⟨q, 1 + j * 3 + 1, none⟩ (.int .i64 tm) := ⟨_, rfl⟩
  rw [← hWa]
  have hqc : Chg (fun b => b = q) w3 Wa := by rw [hWa]; exact ((Chg.refl (fun b => b = q) w3).setCell (p := ⟨q, 1 + j * 3, none⟩) rfl _).setCell (p := ⟨q, 1 + j * 3 + 1, none⟩) rfl _
  have HAT := HAT.out
  rw [← hWa] at HAT
  have hxa : Wa.heap[P]? = some (.cells #[.int .i64 (j : Int), .int .i64 sq, .int .i64 tm, .string ty, .slice ao n cap] 35 (0, 0)) := (hqc.block P hz3 (by omega)).trans HX3.out
  have hav3 : Av w3 B (.slice ao n cap) ats := HAV.out.below HB3.out HBP.out
  have hava : Av Wa B (.slice ao n cap) ats := hav3.apart (by have := HBP.out; omega) hqc (fun a m c e h0 hh => by
    simp only [Value.slice.injEq] at e
    exact HD.out a e.1 (by rw [e.2.1]; exact h0) (by rw [hh]; exact (HST.out.fq)))
  have hza : P < Wa.drew.heap.size := Nat.lt_of_lt_of_le hz3 hqc.size
  have havd : Av Wa.drew B (.slice ao n cap) ats := hava.keep (fun _ _ _ => rfl)
  have hatd : StAt Wa.drew F q k (sd.set j ⟨sq + 1, tm, sd[j]!.gone⟩) evs (.slice va evs.length vc) vs := HAT.below ((Below.refl _ _).drew)
  have HAT := hide hatd; have HQC := hide hqc.drew; have HXA := hide hxa; have HAVD := hide havd; have HZA := hide hza
  have HBZ := hide (show B ≤ Wa.drew.heap.size by have := HBP.out; omega)
  clear hWa hqc hxa hav3 hava s0 s1 s2 c0 c1 c2 c3 c4 hva f1 f2 f3 hatd havd
  obtain ⟨c0, c1, c2, c3, c4⟩ := cell_of_five HXA.out
  have hva := HAT.out.evv
  rw [← HNN.out] at hva
  have hva : Wa.cell? ⟨q, 49, none⟩ = some (.slice va N vc) := hva
  have hqlt2 : q < Wa.drew.heap.size := HAT.out.flt q HAT.out.fq
  go_region_law (first
    | (refine step_go_call (by rfl) 24 Try.func24 eClone_name eClone_body (.tmp 60) 35 (by rfl) (.agg #[.int .i64 (j : Int), .int .i64 sq, .int .i64 tm, .string ty, .slice ao n cap]) (by simp [Act.eval]) (HC5.out _ HAVD.out HBZ.out) ?_ (by rintro ch w' ⟨v', h, _⟩; cases h) (by rintro w' ⟨v', h, _⟩; cases h); intro v w5 h5; obtain ⟨v5, hv5, ho5, hb5⟩ := h5; obtain rfl := Ending.returned.inj hv5; obtain ⟨a5, k5, rfl⟩ := own_slice ho5; clear hv5; have hx5 := (hb5.block P HZA.out).trans HXA.out; obtain ⟨g0, g1, g2, g3, g4⟩ := cell_of_five hx5; have HA5 := hide (HAT.out.below hb5); have hv5 := HA5.out.evv; rw [← HNN.out] at hv5; have hw5 : (w5.alloc (.cells #[.int .i64 (j : Int), .int .i64 sq, .int .i64 tm, .string ty, .slice a5 ats.length k5] 35)).cell? ⟨q, 49, none⟩ = some (.slice va N vc) := Lib.cell?_alloc_some _ hv5; have hf5 := free_of_st HA5.out.blk 49; have hq5 : q ≠ w5.heap.size := (by have := HA5.out.flt q HA5.out.fq; omega); have HO5 := hide ho5; have HB5 := hide hb5; clear ho5 hb5 hx5)
    | (refine step_append_blk (by rfl) (.tmp 59) (.tmp 62) 44 (by rfl) 0 35 i0 (.agg #[.int .i64 0, .int .i64 0, .int .i64 0, .string ⟨#[]⟩, .slice none 0 0]) 5 64 Try.underlying44 hi hz0 hz1 hz2 rfl (by decide) (.slice va N vc) N (rowCells evs vs) (by simp [Act.eval]) (by rw [HNN.out]; exact HA5.out.own.alloc _) ⟨w5.heap.size, 0, none⟩ 1 1 (evCells ⟨j, sq, tm, ty, ats⟩ (.slice a5 ats.length k5)) (by simp [Act.eval]) rfl (World.news_of_block (heap_alloc_new w5 _)) (by intro u hu; simp [evCells] at hu; rcases hu with rfl | rfl | rfl | rfl | rfl <;> rfl) (by unfold maxLen; have := HN6.out; rw [← HNN.out] at this; omega) (by have := HN6.out; rw [← HNN.out] at this; omega) (Nat.zero_le _) ?_; intro v' w' hrow hgr hblk; obtain ⟨a6, k6, rfl⟩ := own_slice hrow; have hq6 := (hgr.block q (by have := HA5.out.flt q HA5.out.fq; simp; omega) (fun e => HA5.out.qv (by rw [← HNN.out]; exact e.symm))).trans ((heap_alloc_keeps HA5.out.blk _)); have hv6 := (cell_of_st hq6 49).trans ((cell_of_st HA5.out.blk 49).symm.trans HA5.out.evv); have hf6 := free_of_st hq6 49; have HROW := hide hrow; have HGR := hide hgr; have HBLK := hide hblk; clear hrow hgr hblk hq6))
  all_goals go_wp2
  all_goals
    go_ret
    refine ⟨rfl, ?_⟩
    have hrow := HROW.out; have hgr := HGR.out; have hblk := HBLK.out
    have hbq := HQC.out
    rw [HNN.out] at hrow hgr hblk ⊢
    have acc := HAT.out.accepted (ev := ⟨j, sq, tm, ty, ats⟩) HTY.out HWD.out HLN.out HB5.out HO5.out ((Below.refl _ _).alloc (Nat.le_refl _) _) hrow hgr hblk (by have := HN6.out; omega)
    have hP0 : P = w.heap.size := HP.out
    have c1 : Chg F w w3 := Chg.of_below (by rw [← hP0]; exact HB3.out)
    have hqF : F q := HAT.out.fq
    have c2 : Chg F w Wa.drew := c1.trans hbq (fun b hb => .inl (by rw [hb]; exact hqF))
    have c3 := c2.trans acc.2 (fun b hb => .inl hb)
    refine ⟨?_, c3⟩
    have hst : StIs _ _ q k _ _ := ⟨_, _, acc.1⟩
    have hGN := HGN.out
    rw [hGN] at hst
    rw [HACC.out]
    have hs1 := c2.size
    exact hst.widen (fun b hb => hb.elim .inl (fun h => .inr ⟨by omega, by simpa [World.setCell] using h.2⟩)) (fun b hb => hb.elim (fun h => hst.flt b (.inl h)) (fun h => h.2))
end Go.Proofs.Ythjhbnfedelniaa
