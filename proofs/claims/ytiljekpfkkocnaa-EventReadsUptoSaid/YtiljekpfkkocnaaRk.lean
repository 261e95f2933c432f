/- Contract: the document's own take. Its text is written by wip/genrk.py. -/
import Derived.Test.YtiljekpfkkocnaaRt4
namespace Go.Proofs.Ytiljekpfkkocnaa
open Go Go.RowKit

/-- What take leaves. -/
def r4tPost (l : List Bool) (B q : Nat) (w : World) (e : Ending) (w' : World) : Prop :=
  ∃ (x : Ev) (ao : Option Addr) (n c : Nat), e = .returned (.tuple #[evV x (.slice ao n c), .int .i64 (((qEvent (0, l)).2.1 : Nat) : Int)]) ∧
    ((qEvent (0, l)).2.1 = 0 → x = (qEvent (0, l)).1 ∧ w'.ownsRow w.heap.size 91 4 (.slice ao n c) x.ats.length (x.ats.flatMap enc4)) ∧
    (∃ l', RefIs w' B q l' ∧ ((qEvent (0, l)).2.1 = 0 → l' = (qEvent (0, l)).2.2)) ∧ KeptR B q w w'

set_option maxRecDepth 100000 in
set_option maxHeartbeats 6400000 in
theorem r4take_any (B q : Nat) (l : List Bool) (w : World) (h : RefIs w B q l) (hB : B ≤ w.heap.size) :
    Calls Try.prog 84 #[.pointer (some ⟨q, 0, none⟩)] w (r4tPost l B q w) := by
  obtain ⟨i0, hi, hz0, hz1, hz2⟩ := info_parts infoAttr
  obtain ⟨R, hR⟩ : ∃ R, R = w.heap.size := ⟨_, rfl⟩
  obtain ⟨W, hW⟩ : ∃ W, W = (w.alloc (.cells #[.int .i64 0, .int .i64 0, .int .i64 0, .string ⟨#[]⟩, .slice none 0 0] 26)).alloc (.cells #[.int .i64 0, .int .i64 0, .int .i64 0, .string ⟨#[]⟩, .slice none 0 0] 26) := ⟨_, rfl⟩
  have HX : Hid (Rk w B q R (R + 1) 26 #[.int .i64 0, .int .i64 0, .int .i64 0, .string ⟨#[]⟩, .slice none 0 0] #[.int .i64 0, .int .i64 0, .int .i64 0, .string ⟨#[]⟩, .slice none 0 0] l W) := by
    refine hide ⟨?_, ?_, hB, by omega, by omega, by omega, ?_, ?_⟩
    · rw [hW]; exact ((KeptR.refl _ _ _).alloc hB _).alloc (by simp; omega) _
    · rw [hW]; exact (h.alloc _).alloc _
    · rw [hW, hR]; exact heap_alloc_keeps (heap_alloc_new _ _) _
    · rw [hW, hR]; exact heap_alloc_at (by simp) rfl
  obtain ⟨s0, hs0⟩ : ∃ s0 : Qs, s0 = (0, l) := ⟨_, rfl⟩
  have hl : l = s0.2 := by rw [hs0]
  have h00 : s0.1 = 0 := by rw [hs0]
  unfold r4tPost
  rw [← hs0]
  have C1 : ∀ (w : World) (h : RefIs w B q l), Calls Try.prog 112 #[.pointer (some ⟨q, 0, none⟩), .int .i64 4] w fun e w' => e = .returned (.tuple #[.int .u64 (((qSrc s0).1 : Nat) : Int), .int .i64 (((qSrc s0).2.1 : Nat) : Int)]) ∧ RefIs w' B q (qSrc s0).2.2 ∧ KeptR B q w w' := fun w h => rqB B q 4 s0 w h00 (by rw [← hl]; exact h) (by decide)
  have C2 : ∀ (_ : (qSrc s0).2.1 = 0) (w : World) (_ : RefIs w B q (qSrc s0).2.2), Calls Try.prog 113 #[.pointer (some ⟨q, 0, none⟩)] w fun e w' => e = .returned (.tuple #[.int .u64 (((qSeq s0).1 : Nat) : Int), .int .i64 (((qSeq s0).2.1 : Nat) : Int)]) ∧ RefIs w' B q (qSeq s0).2.2 ∧ KeptR B q w w' := fun h0 w h => rqN B q (qSrc s0).2 w h0 h
  have C3 : ∀ (_ : (qSeq s0).2.1 = 0) (w : World) (_ : RefIs w B q (qSeq s0).2.2), Calls Try.prog 113 #[.pointer (some ⟨q, 0, none⟩)] w fun e w' => e = .returned (.tuple #[.int .u64 (((qTime s0).1 : Nat) : Int), .int .i64 (((qTime s0).2.1 : Nat) : Int)]) ∧ RefIs w' B q (qTime s0).2.2 ∧ KeptR B q w w' := fun h0 w h => rqN B q (qSeq s0).2 w h0 h
  have C4 : ∀ (_ : (qTime s0).2.1 = 0) (w : World) (_ : RefIs w B q (qTime s0).2.2), Calls Try.prog 114 #[.pointer (some ⟨q, 0, none⟩)] w fun e w' => e = .returned (.tuple #[.string (qTy s0).1, .int .i64 (((qTy s0).2.1 : Nat) : Int)]) ∧ RefIs w' B q (qTy s0).2.2 ∧ KeptR B q w w' := fun h0 w h => rqT B q (qTime s0).2 w h0 h
  have C5 : ∀ (_ : (qTy s0).2.1 = 0) (w : World) (_ : RefIs w B q (qTy s0).2.2), Calls Try.prog 112 #[.pointer (some ⟨q, 0, none⟩), .int .i64 4] w fun e w' => e = .returned (.tuple #[.int .u64 (((qMany (qTy s0).2).1 : Nat) : Int), .int .i64 (((qMany (qTy s0).2).2.1 : Nat) : Int)]) ∧ RefIs w' B q (qMany (qTy s0).2).2.2 ∧ KeptR B q w w' := fun h0 w h => rqB B q 4 (qTy s0).2 w h0 h (by decide)
  have C6 := fun (s : Qs) (h0 : s.1 = 0) (w : World) (h : RefIs w B q s.2) => rqT B q s w h0 h
  have C7 := fun (s : Qs) (h0 : s.1 = 0) (w : World) (h : RefIs w B q s.2) (hB : B ≤ w.heap.size) => r4value_any B q s w h0 h hB
  have st1 : (qSrc s0).2.1 ≠ 0 → (qEvent s0).2 = (qSrc s0).2 := qSrc_stays
  have st2 : (qSeq s0).2.1 ≠ 0 → (qEvent s0).2 = (qSeq s0).2 := qSeq_stays
  have st3 : (qTime s0).2.1 ≠ 0 → (qEvent s0).2 = (qTime s0).2 := qTime_stays
  have st4 : (qTy s0).2.1 ≠ 0 → (qEvent s0).2 = (qTy s0).2 := qTy_stays
  have hM4 : (qMany (qTy s0).2).1 < 2 ^ 4 := qB_lt 4 _
  have hS4 : (qSrc s0).1 < 2 ^ 4 := qB_lt 4 s0
  have hat : (qEvent s0).2 = (qAttrs (qTy s0).2).2 := rfl
  have hatv : (qEvent s0).1 = ⟨((qSrc s0).1 : Nat), wrap64 ((qSeq s0).1 : Nat), wrap64 ((qTime s0).1 : Nat), (qTy s0).1, (qAttrs (qTy s0).2).1⟩ := rfl
  have hQ : qAttrs (qTy s0).2 = if 8 < (qMany (qTy s0).2).1 then ([], (40, (qMany (qTy s0).2).2.2)) else if (qGo (qMany (qTy s0).2).2 (qMany (qTy s0).2).1).2.1 ≠ 0 then ([], (qGo (qMany (qTy s0).2).2 (qMany (qTy s0).2).1).2) else qGo (qMany (qTy s0).2).2 (qMany (qTy s0).2).1 := rfl
  have st5 : (qMany (qTy s0).2).2.1 ≠ 0 → (qMany (qTy s0).2).1 = 0 ∧ (qAttrs (qTy s0).2).2 = (qMany (qTy s0).2).2 := fun hE => by
    have h1 : (qMany (qTy s0).2).1 = 0 := by
      by_cases h2 : (qTy s0).2.1 = 0
      · have e : qMany (qTy s0).2 = _ := qB_ok h2
        rw [e] at hE ⊢
        show bitsVal _ _ = 0
        unfold bitsVal; rw [if_neg hE]
      · have e : qMany (qTy s0).2 = _ := qB_err h2
        rw [e]
    refine ⟨h1, ?_⟩
    rw [hQ, h1, if_neg (by decide)]
    show (if (qMany (qTy s0).2).2.1 ≠ 0 then (([] : List At), (qMany (qTy s0).2).2) else _).2 = _
    rw [if_pos hE]
  obtain ⟨ev, hev⟩ : ∃ ev, ev = qEvent s0 := ⟨_, rfl⟩
  obtain ⟨S, hS⟩ : ∃ S, S = (qSrc s0).1 := ⟨_, rfl⟩
  obtain ⟨t1, ht1⟩ : ∃ t1, t1 = (qSrc s0).2 := ⟨_, rfl⟩
  obtain ⟨Q, hQQ⟩ : ∃ Q, Q = (qSeq s0).1 := ⟨_, rfl⟩
  obtain ⟨t2, ht2⟩ : ∃ t2, t2 = (qSeq s0).2 := ⟨_, rfl⟩
  obtain ⟨T, hT⟩ : ∃ T, T = (qTime s0).1 := ⟨_, rfl⟩
  obtain ⟨t3, ht3⟩ : ∃ t3, t3 = (qTime s0).2 := ⟨_, rfl⟩
  obtain ⟨ty, hty⟩ : ∃ ty, ty = (qTy s0).1 := ⟨_, rfl⟩
  obtain ⟨t4, ht4⟩ : ∃ t4, t4 = (qTy s0).2 := ⟨_, rfl⟩
  rw [← ht4] at C5 st5 hat hatv hQ st4 hM4
  obtain ⟨M, hM⟩ : ∃ M, M = (qMany t4).1 := ⟨_, rfl⟩
  obtain ⟨t5, ht5⟩ : ∃ t5, t5 = (qMany t4).2 := ⟨_, rfl⟩
  rw [← hS, ← ht1] at C1; rw [← ht1, ← hQQ, ← ht2] at C2; rw [← ht2, ← hT, ← ht3] at C3; rw [← ht3, ← hty, ← ht4] at C4; rw [← hM, ← ht5] at C5
  rw [← ht1, ← hev] at st1; rw [← ht2, ← hev] at st2; rw [← ht3, ← hev] at st3; rw [← hev] at st4
  rw [← hev] at hat hatv ⊢
  rw [← hM] at hM4 st5 hQ; rw [← hS] at hS4 hatv; rw [← hQQ, ← hT, ← hty] at hatv; rw [← ht5] at st5 hQ
  have HC1 := hide C1; have HC2 := hide C2; have HC3 := hide C3; have HC4 := hide C4; have HC5 := hide C5; have HC6 := hide C6; have HC7 := hide C7
  have H1 := hide st1; have H2 := hide st2; have H3 := hide st3; have H4 := hide st4; have H5 := hide st5; have HAT := hide hat; have HATV := hide hatv; have HQ := hide hQ; have HB := hide hB; have HR := hide hR; have HW := hide hW
  have hS0 : (0 : Int) ≤ (S : Int) := by omega
  have hS3 : (S : Int) ≤ 15 := by omega
  have hM0 : (0 : Int) ≤ (M : Int) := by omega
  have hM3 : (M : Int) ≤ 15 := by omega
  clear C1 C2 C3 C4 C5 C6 C7 st1 st2 st3 st4 st5 hat hatv hQ hB hR hW h hl h00 hM4 hS4 hev hS ht1 hQQ ht2 hT ht3 hty ht4 hM ht5 hs0
  rw [← HR.out]
  go_enter Try.func84, Try.ntmps84
  go_wp2_with fail
  rw [← HW.out, ← HR.out]
  refine (HC1.out _ HX.out.ref).mono ?_
  rintro e w1 ⟨rfl, hs, k⟩
  have HX1 := hide (HX.out.call (by decide) k hs)
  clear hs k
  obtain ⟨c0, c1, c2, c3, c4⟩ := cell_of_five HX1.out.bd
  obtain ⟨r0, r1, r2, r3, r4⟩ := cell_of_five HX1.out.br
  have g0 := free_cells_of HX1.out.br 0; have g1 := free_cells_of HX1.out.br 1; have g2 := free_cells_of HX1.out.br 2; have g3 := free_cells_of HX1.out.br 3; have g4 := free_cells_of HX1.out.br 4
  have f0 := free_cells_of HX1.out.bd 0; have f1 := free_cells_of HX1.out.bd 1; have f2 := free_cells_of HX1.out.bd 2; have f3 := free_cells_of HX1.out.bd 3; have f4 := free_cells_of HX1.out.bd 4
  by_cases hE : t1.1 = 0
  case neg =>
    · have b1 : (((t1.1 : Nat) : Int) != 0) = true := by simp; omega
      have HST := hide (show ev.2.1 = t1.1 ∧ t1.1 ≠ 0 from ⟨by rw [H1.out hE], hE⟩)
      clear hE
      go_wp2
      have HZ := hide (HX1.out.five (by decide) (by decide) (.int .i64 0) (.int .i64 0) (.int .i64 0) (.string ⟨#[]⟩) (.slice none 0 0))
      have z := cell_of_five HZ.out.br
      refine bodyPost_ret (v := .tuple #[.agg #[.int .i64 0, .int .i64 0, .int .i64 0, .string ⟨#[]⟩, .slice none 0 0], .int .i64 (((t1.1 : Nat) : Int))]) (by simp [results, Try.results84, go_sem, z]) rfl ?_
      refine ⟨⟨0, 0, 0, ⟨#[]⟩, []⟩, _, _, _, by rw [HST.out.1]; rfl, fun h => absurd h (by rw [HST.out.1]; exact HST.out.2), ⟨_, HZ.out.ref, fun h => absurd h (by rw [HST.out.1]; exact HST.out.2)⟩, HZ.out.kept⟩
  rw [hE]
  have HE1 := hide hE
  clear hE
  go_wp2_with fail
  clear c0 c1 c2 c3 c4 r0 r1 r2 r3 r4 g0 g1 g2 g3 g4 f0 f1 f2 f3 f4
  refine (HC2.out HE1.out _ HX1.out.ref).mono ?_
  rintro e w2 ⟨rfl, hs, k⟩
  have HX2 := hide (HX1.out.call (by decide) k hs)
  clear hs k
  obtain ⟨c0, c1, c2, c3, c4⟩ := cell_of_five HX2.out.bd
  obtain ⟨r0, r1, r2, r3, r4⟩ := cell_of_five HX2.out.br
  have g0 := free_cells_of HX2.out.br 0; have g1 := free_cells_of HX2.out.br 1; have g2 := free_cells_of HX2.out.br 2; have g3 := free_cells_of HX2.out.br 3; have g4 := free_cells_of HX2.out.br 4
  have f0 := free_cells_of HX2.out.bd 0; have f1 := free_cells_of HX2.out.bd 1; have f2 := free_cells_of HX2.out.bd 2; have f3 := free_cells_of HX2.out.bd 3; have f4 := free_cells_of HX2.out.bd 4
  by_cases hE : t2.1 = 0
  case neg =>
    · have b1 : (((t2.1 : Nat) : Int) != 0) = true := by simp; omega
      have HST := hide (show ev.2.1 = t2.1 ∧ t2.1 ≠ 0 from ⟨by rw [H2.out hE], hE⟩)
      clear hE
      go_wp2
      have HZ := hide (HX2.out.five (by decide) (by decide) (.int .i64 0) (.int .i64 0) (.int .i64 0) (.string ⟨#[]⟩) (.slice none 0 0))
      have z := cell_of_five HZ.out.br
      refine bodyPost_ret (v := .tuple #[.agg #[.int .i64 0, .int .i64 0, .int .i64 0, .string ⟨#[]⟩, .slice none 0 0], .int .i64 (((t2.1 : Nat) : Int))]) (by simp [results, Try.results84, go_sem, z]) rfl ?_
      refine ⟨⟨0, 0, 0, ⟨#[]⟩, []⟩, _, _, _, by rw [HST.out.1]; rfl, fun h => absurd h (by rw [HST.out.1]; exact HST.out.2), ⟨_, HZ.out.ref, fun h => absurd h (by rw [HST.out.1]; exact HST.out.2)⟩, HZ.out.kept⟩
  rw [hE]
  have HE2 := hide hE
  clear hE
  go_wp2_with fail
  clear c0 c1 c2 c3 c4 r0 r1 r2 r3 r4 g0 g1 g2 g3 g4 f0 f1 f2 f3 f4
  refine (HC3.out HE2.out _ HX2.out.ref).mono ?_
  rintro e w3 ⟨rfl, hs, k⟩
  have HX3 := hide (HX2.out.call (by decide) k hs)
  clear hs k
  obtain ⟨c0, c1, c2, c3, c4⟩ := cell_of_five HX3.out.bd
  obtain ⟨r0, r1, r2, r3, r4⟩ := cell_of_five HX3.out.br
  have g0 := free_cells_of HX3.out.br 0; have g1 := free_cells_of HX3.out.br 1; have g2 := free_cells_of HX3.out.br 2; have g3 := free_cells_of HX3.out.br 3; have g4 := free_cells_of HX3.out.br 4
  have f0 := free_cells_of HX3.out.bd 0; have f1 := free_cells_of HX3.out.bd 1; have f2 := free_cells_of HX3.out.bd 2; have f3 := free_cells_of HX3.out.bd 3; have f4 := free_cells_of HX3.out.bd 4
  by_cases hE : t3.1 = 0
  case neg =>
    · have b1 : (((t3.1 : Nat) : Int) != 0) = true := by simp; omega
      have HST := hide (show ev.2.1 = t3.1 ∧ t3.1 ≠ 0 from ⟨by rw [H3.out hE], hE⟩)
      clear hE
      go_wp2
      have HZ := hide (HX3.out.five (by decide) (by decide) (.int .i64 0) (.int .i64 0) (.int .i64 0) (.string ⟨#[]⟩) (.slice none 0 0))
      have z := cell_of_five HZ.out.br
      refine bodyPost_ret (v := .tuple #[.agg #[.int .i64 0, .int .i64 0, .int .i64 0, .string ⟨#[]⟩, .slice none 0 0], .int .i64 (((t3.1 : Nat) : Int))]) (by simp [results, Try.results84, go_sem, z]) rfl ?_
      refine ⟨⟨0, 0, 0, ⟨#[]⟩, []⟩, _, _, _, by rw [HST.out.1]; rfl, fun h => absurd h (by rw [HST.out.1]; exact HST.out.2), ⟨_, HZ.out.ref, fun h => absurd h (by rw [HST.out.1]; exact HST.out.2)⟩, HZ.out.kept⟩
  rw [hE]
  have HE3 := hide hE
  clear hE
  go_wp2_with fail
  clear c0 c1 c2 c3 c4 r0 r1 r2 r3 r4 g0 g1 g2 g3 g4 f0 f1 f2 f3 f4
  have HX3s := hide (((HX3.out.set (by decide) (by decide) 0 (.int .i64 (S : Int))).set (by decide) (by decide) 1 (.int .i64 (wrap64 (Q : Int)))).set (by decide) (by decide) 2 (.int .i64 (wrap64 (T : Int))))
  refine (HC4.out HE3.out _ HX3s.out.ref).mono ?_
  rintro e w4 ⟨rfl, hs, k⟩
  have HX4 := hide (HX3s.out.call (by decide) k hs)
  clear hs k
  obtain ⟨c0, c1, c2, c3, c4⟩ := cell_of_five HX4.out.bd
  obtain ⟨r0, r1, r2, r3, r4⟩ := cell_of_five HX4.out.br
  have g0 := free_cells_of HX4.out.br 0; have g1 := free_cells_of HX4.out.br 1; have g2 := free_cells_of HX4.out.br 2; have g3 := free_cells_of HX4.out.br 3; have g4 := free_cells_of HX4.out.br 4
  have f0 := free_cells_of HX4.out.bd 0; have f1 := free_cells_of HX4.out.bd 1; have f2 := free_cells_of HX4.out.bd 2; have f3 := free_cells_of HX4.out.bd 3; have f4 := free_cells_of HX4.out.bd 4
  have HX4s := hide (HX4.out.set (by decide) (by decide) 3 (.string ty))
  by_cases hE : t4.1 = 0
  case neg =>
    · have b1 : (((t4.1 : Nat) : Int) != 0) = true := by simp; omega
      have HST := hide (show ev.2.1 = t4.1 ∧ t4.1 ≠ 0 from ⟨by rw [H4.out hE], hE⟩)
      clear hE
      go_wp2
      have HZ := hide (HX4s.out.five (by decide) (by decide) (.int .i64 (S : Int)) (.int .i64 (wrap64 (Q : Int))) (.int .i64 (wrap64 (T : Int))) (.string ty) (.slice none 0 0))
      have z := cell_of_five HZ.out.br
      refine bodyPost_ret (v := .tuple #[.agg #[.int .i64 (S : Int), .int .i64 (wrap64 (Q : Int)), .int .i64 (wrap64 (T : Int)), .string ty, .slice none 0 0], .int .i64 (((t4.1 : Nat) : Int))]) (by simp [results, Try.results84, go_sem, z]) rfl ?_
      refine ⟨⟨(S : Int), wrap64 (Q : Int), wrap64 (T : Int), ty, []⟩, _, _, _, by rw [HST.out.1]; rfl, fun h => absurd h (by rw [HST.out.1]; exact HST.out.2), ⟨_, HZ.out.ref, fun h => absurd h (by rw [HST.out.1]; exact HST.out.2)⟩, HZ.out.kept⟩
  rw [hE]
  have HE4 := hide hE
  clear hE
  go_wp2_with fail
  clear c0 c1 c2 c3 c4 r0 r1 r2 r3 r4 g0 g1 g2 g3 g4 f0 f1 f2 f3 f4
  refine (HC5.out HE4.out _ HX4s.out.ref).mono ?_
  rintro e w5 ⟨rfl, hs, k⟩
  have HX5 := hide (HX4s.out.call (by decide) k hs)
  clear hs k
  obtain ⟨c0, c1, c2, c3, c4⟩ := cell_of_five HX5.out.bd
  obtain ⟨r0, r1, r2, r3, r4⟩ := cell_of_five HX5.out.br
  have g0 := free_cells_of HX5.out.br 0; have g1 := free_cells_of HX5.out.br 1; have g2 := free_cells_of HX5.out.br 2; have g3 := free_cells_of HX5.out.br 3; have g4 := free_cells_of HX5.out.br 4
  have f0 := free_cells_of HX5.out.bd 0; have f1 := free_cells_of HX5.out.bd 1; have f2 := free_cells_of HX5.out.bd 2; have f3 := free_cells_of HX5.out.bd 3; have f4 := free_cells_of HX5.out.bd 4
  by_cases hE : t5.1 = 0
  case neg =>
    · have b1 : (((t5.1 : Nat) : Int) != 0) = true := by simp; omega
      have HST := hide (show ev.2.1 = t5.1 ∧ t5.1 ≠ 0 from ⟨by rw [HAT.out, (H5.out hE).2], hE⟩)
      clear hE
      go_wp2
      have HZ := hide (HX5.out.five (by decide) (by decide) (.int .i64 (S : Int)) (.int .i64 (wrap64 (Q : Int))) (.int .i64 (wrap64 (T : Int))) (.string ty) (.slice none 0 0))
      have z := cell_of_five HZ.out.br
      refine bodyPost_ret (v := .tuple #[.agg #[.int .i64 (S : Int), .int .i64 (wrap64 (Q : Int)), .int .i64 (wrap64 (T : Int)), .string ty, .slice none 0 0], .int .i64 (((t5.1 : Nat) : Int))]) (by simp [results, Try.results84, go_sem, z]) rfl ?_
      refine ⟨⟨(S : Int), wrap64 (Q : Int), wrap64 (T : Int), ty, []⟩, _, _, _, by rw [HST.out.1]; rfl, fun h => absurd h (by rw [HST.out.1]; exact HST.out.2), ⟨_, HZ.out.ref, fun h => absurd h (by rw [HST.out.1]; exact HST.out.2)⟩, HZ.out.kept⟩
  rw [hE]
  have HE5 := hide hE
  clear hE
  by_cases h8 : 8 < M
  case pos =>
    have HST := hide (show ev.2.1 = 40 by rw [HAT.out, HQ.out, if_pos h8])
    go_wp2
    have HZ := hide (HX5.out.five (by decide) (by decide) (.int .i64 (S : Int)) (.int .i64 (wrap64 (Q : Int))) (.int .i64 (wrap64 (T : Int))) (.string ty) (.slice none 0 0))
    have z := cell_of_five HZ.out.br
    refine bodyPost_ret (v := .tuple #[.agg #[.int .i64 (S : Int), .int .i64 (wrap64 (Q : Int)), .int .i64 (wrap64 (T : Int)), .string ty, .slice none 0 0], .int .i64 40]) (by simp [results, Try.results84, go_sem, z]) rfl ?_
    refine ⟨⟨(S : Int), wrap64 (Q : Int), wrap64 (T : Int), ty, []⟩, _, _, _, by rw [HST.out]; rfl, fun h => absurd h (by rw [HST.out]; decide), ⟨_, HZ.out.ref, fun h => absurd h (by rw [HST.out]; decide)⟩, HZ.out.kept⟩
  have hq2 := HQ.out
  rw [if_neg h8] at hq2
  have HQ := hide hq2
  clear hq2
  go_wp2_with fail
  clear c0 c1 c2 c3 c4 r0 r1 r2 r3 r4 g0 g1 g2 g3 g4 f0 f1 f2 f3 f4
  go_loopw [6, 10] (fun ee iv wr => ∃ (k : Nat) (ao : Option Addr) (cc : Nat), k ≤ M ∧ iv = .int .u64 (k : Int) ∧ ee = .int .i64 0 ∧ Hid (Rk w B q R (R + 1) 26 #[.int .i64 0, .int .i64 0, .int .i64 0, .string ⟨#[]⟩, .slice none 0 0] #[.int .i64 (S : Int), .int .i64 (wrap64 (Q : Int)), .int .i64 (wrap64 (T : Int)), .string ty, .slice ao k cc] (qGo t5 k).2.2 wr) ∧ Hid (wr.ownsRow w.heap.size 91 4 (.slice ao k cc) k ((qGo t5 k).1.flatMap enc4)) ∧ Hid ((qGo t5 k).2.1 = 0)) (fun _ i _ => M - (intOf i).toNat)
  case atStart => exact ⟨0, none, 0, Nat.zero_le _, rfl, rfl, HX5, hide (World.ownsRow_nil _ _ _ _), HE5⟩
  case round =>
    obtain ⟨k, ao, cc, hk, rfl, rfl, HK, HO, HG0⟩ := hrel
    by_cases hlt : k < M
    · have nn1 : ¬ wr.heap.size = R := by have := lt_of_block HK.out.br; omega
      have nn2 : ¬ R = wr.heap.size := by have := lt_of_block HK.out.br; omega
      have nn3 : ¬ wr.heap.size = R + 1 := by have := lt_of_block HK.out.bd; omega
      have nn4 : ¬ R + 1 = wr.heap.size := by have := lt_of_block HK.out.bd; omega
      have HKA := hide (HK.out.alloc (.cells #[.string ⟨#[]⟩, .int .i64 0, .int .i64 0, .string ⟨#[]⟩] 91))
      have HA0 := hide (heap_alloc_new wr (.cells #[.string ⟨#[]⟩, .int .i64 0, .int .i64 0, .string ⟨#[]⟩] 91))
      have HO0 := hide (HO.out.alloc (.cells #[.string ⟨#[]⟩, .int .i64 0, .int .i64 0, .string ⟨#[]⟩] 91))
      have C := HC6.out (qGo t5 k).2 HG0.out (wr.alloc (.cells #[.string ⟨#[]⟩, .int .i64 0, .int .i64 0, .string ⟨#[]⟩] 91)) HKA.out.ref
      have hqn : qT (qGo t5 k).2 = qName (qGo t5 k).2 := rfl
      rw [hqn] at C
      have hst : ∀ s2 : Qs, (qAttr (qGo t5 k).2).2 = s2 → s2.1 ≠ 0 → ev.2.1 = s2.1 ∧ s2.1 ≠ 0 := fun s2 h1 h2 => by
        have e1 : (qGo t5 (k + 1)).2 = s2 := h1
        have e2 := qGo_stays t5 (k + 1) M (by rw [e1]; exact h2) hlt
        refine ⟨?_, h2⟩
        rw [HAT.out, HQ.out, if_pos (by rw [e2, e1]; exact h2), e2, e1]
      have hnm : (qName (qGo t5 k).2).2.1 ≠ 0 → (qAttr (qGo t5 k).2).2 = (qName (qGo t5 k).2).2 := qAttr_name
      have hqv := qAttr_qV (qGo t5 k).2
      have hg1 : qGo t5 (k + 1) = ((qGo t5 k).1 ++ [(qAttr (qGo t5 k).2).1], (qAttr (qGo t5 k).2).2) := rfl
      obtain ⟨at1, hat1⟩ : ∃ x, x = qAttr (qGo t5 k).2 := ⟨_, rfl⟩
      obtain ⟨nm, hnm1⟩ : ∃ x, x = (qName (qGo t5 k).2).1 := ⟨_, rfl⟩
      obtain ⟨u1, hu1⟩ : ∃ x, x = (qName (qGo t5 k).2).2 := ⟨_, rfl⟩
      rw [← hnm1, ← hu1] at C
      rw [← hu1, ← hat1] at hnm
      rw [← hat1] at hst hg1
      rw [← hat1, ← hu1, ← hnm1] at hqv
      have HC := hide C; have HST0 := hide hst; have HNM := hide hnm; have HQV := hide hqv; have HG1 := hide hg1
      clear C hqn hst hnm hqv hg1 hat1 hnm1 hu1
      go_wp2_with fail
      refine HC.out.mono ?_
      rintro e w6 ⟨rfl, hs, k6⟩
      have HY1 := hide (HKA.out.call (by decide) k6 hs)
      have ha1 := k6.typed _ _ _ _ HA0.out (by decide)
      have HO1 := hide (k6.ownsRow HO0.out (by decide))
      have HAS := hide (show w.heap.size ≤ wr.heap.size from HK.out.kept.below.size)
      have HA1 := hide ha1
      have hane : ∀ j, (Value.slice ao k cc).ownBlock = some j → j < wr.heap.size := fun j hj => (HO.out.lt j hj).2
      have HANE := hide hane
      have ha2 := heap_setCell_same (k := 0) ha1 (.string nm)
      have HA2 := hide ha2
      have HY2 := hide (HY1.out.far ha1 HAS.out (by decide) (by decide) (by decide) 0 (.string nm))
      have HO2 := hide (ownsRow_setCell_other (a := ⟨wr.heap.size, 0, none⟩) HO1.out (by intro e; have := hane _ e; simp at this) (.string nm))
      obtain ⟨a0, a1, a2, a3⟩ := four_cells_of ha1
      have y0 := free_cells_of ha1 0
      clear hs k6 ha1 hane ha2
      obtain ⟨c0, c1, c2, c3, c4⟩ := cell_of_five HY1.out.bd
      obtain ⟨r0, r1, r2, r3, r4⟩ := cell_of_five HY1.out.br
      have g0 := free_cells_of HY1.out.br 0; have g1 := free_cells_of HY1.out.br 1; have g2 := free_cells_of HY1.out.br 2; have g3 := free_cells_of HY1.out.br 3; have g4 := free_cells_of HY1.out.br 4
      have f0 := free_cells_of HY1.out.bd 0; have f1 := free_cells_of HY1.out.bd 1; have f2 := free_cells_of HY1.out.bd 2; have f3 := free_cells_of HY1.out.bd 3; have f4 := free_cells_of HY1.out.bd 4
      by_cases hE : u1.1 = 0
      case neg =>
        · have b1 : (((u1.1 : Nat) : Int) != 0) = true := by simp; omega
          have HST := hide (HST0.out u1 (HNM.out hE) hE)
          clear hE
          go_wp2
          have HZ := hide (HY2.out.five (by decide) (by decide) (.int .i64 (S : Int)) (.int .i64 (wrap64 (Q : Int))) (.int .i64 (wrap64 (T : Int))) (.string ty) (.slice ao k cc))
          have z := cell_of_five HZ.out.br
          refine bodyPost_ret (v := .tuple #[.agg #[.int .i64 (S : Int), .int .i64 (wrap64 (Q : Int)), .int .i64 (wrap64 (T : Int)), .string ty, .slice ao k cc], .int .i64 (((u1.1 : Nat) : Int))]) (by simp [results, Try.results84, go_sem, z]) rfl ?_
          refine ⟨⟨(S : Int), wrap64 (Q : Int), wrap64 (T : Int), ty, []⟩, _, _, _, by rw [HST.out.1]; rfl, fun h => absurd h (by rw [HST.out.1]; exact HST.out.2), ⟨_, HZ.out.ref, fun h => absurd h (by rw [HST.out.1]; exact HST.out.2)⟩, HZ.out.kept⟩
      rw [hE]
      have HE6 := hide hE
      clear hE
      go_wp2_with fail
      clear c0 c1 c2 c3 c4 r0 r1 r2 r3 r4 g0 g1 g2 g3 g4 f0 f1 f2 f3 f4 a0 a1 a2 a3 y0
      refine (HC7.out u1 HE6.out _ HY2.out.ref (Nat.le_trans HY2.out.hB HY2.out.kept.below.size)).mono ?_
      rintro e w7 ⟨vk, vn, vt, l7, rfl, hr7, k7, hv7⟩
      have HY3 := hide (HY2.out.call (by decide) k7 hr7)
      have ha3 := k7.typed _ _ _ _ HA2.out (by decide)
      have HO3 := hide (k7.ownsRow HO2.out (by decide))
      obtain ⟨s7, hs7⟩ : ∃ x, x = (qV u1).2 := ⟨_, rfl⟩
      have hqv := HQV.out
      rw [← hs7] at hqv hv7
      rw [← hs7]
      have HQV := hide hqv; have HV7 := hide hv7
      obtain ⟨a0, a1, a2, a3⟩ := four_cells_of ha3
      have y1 := free_cells_of ha3 1; have y2 := free_cells_of ha3 2; have y3 := free_cells_of ha3 3
      have ha4 := heap_setCell_same (k := 1) ha3 (.int .i64 vk)
      have ha5 := heap_setCell_same (k := 2) ha4 (.int .i64 vn)
      have ha6 := heap_setCell_same (k := 3) ha5 (.string vt)
      have HA6 := hide ha6
      have HY4 := hide (((HY3.out.far ha3 HAS.out (by decide) (by decide) (by decide) 1 (.int .i64 vk)).far ha4 HAS.out (by decide) (by decide) (by decide) 2 (.int .i64 vn)).far ha5 HAS.out (by decide) (by decide) (by decide) 3 (.string vt))
      have hane := HANE.out
      have hne : (Value.slice ao k cc).ownBlock ≠ some wr.heap.size := by intro e; have := hane _ e; simp at this
      have HO4 := hide (ownsRow_setCell_other (a := ⟨wr.heap.size, 3, none⟩) (ownsRow_setCell_other (a := ⟨wr.heap.size, 2, none⟩) (ownsRow_setCell_other (a := ⟨wr.heap.size, 1, none⟩) HO3.out hne (.int .i64 vk)) hne (.int .i64 vn)) hne (.string vt))
      obtain ⟨c0, c1, c2, c3, c4⟩ := cell_of_five HY3.out.bd
      obtain ⟨r0, r1, r2, r3, r4⟩ := cell_of_five HY3.out.br
      have g0 := free_cells_of HY3.out.br 0; have g1 := free_cells_of HY3.out.br 1; have g2 := free_cells_of HY3.out.br 2; have g3 := free_cells_of HY3.out.br 3; have g4 := free_cells_of HY3.out.br 4
      have f0 := free_cells_of HY3.out.bd 0; have f1 := free_cells_of HY3.out.bd 1; have f2 := free_cells_of HY3.out.bd 2; have f3 := free_cells_of HY3.out.bd 3; have f4 := free_cells_of HY3.out.bd 4
      clear k7 hr7 hs7 hqv hv7 ha3 ha4 ha5 ha6 hane hne
      by_cases hE : s7.1 = 0
      case neg =>
        · have b1 : (((s7.1 : Nat) : Int) != 0) = true := by simp; omega
          have HST := hide (HST0.out s7 HQV.out.1 hE)
          clear hE
          go_wp2
          have HZ := hide (HY4.out.five (by decide) (by decide) (.int .i64 (S : Int)) (.int .i64 (wrap64 (Q : Int))) (.int .i64 (wrap64 (T : Int))) (.string ty) (.slice ao k cc))
          have z := cell_of_five HZ.out.br
          refine bodyPost_ret (v := .tuple #[.agg #[.int .i64 (S : Int), .int .i64 (wrap64 (Q : Int)), .int .i64 (wrap64 (T : Int)), .string ty, .slice ao k cc], .int .i64 (((s7.1 : Nat) : Int))]) (by simp [results, Try.results84, go_sem, z]) rfl ?_
          refine ⟨⟨(S : Int), wrap64 (Q : Int), wrap64 (T : Int), ty, []⟩, _, _, _, by rw [HST.out.1]; rfl, fun h => absurd h (by rw [HST.out.1]; exact HST.out.2), ⟨_, HZ.out.ref, fun h => absurd h (by rw [HST.out.1]; exact HST.out.2)⟩, HZ.out.kept⟩
      rw [hE]
      have HE7 := hide hE
      have hsz := HY4.out.kept.below.size
      obtain ⟨W7, hW7⟩ : ∃ W7, W7 = ((w7.setCell ⟨wr.heap.size, 1, none⟩ (.int .i64 vk)).setCell ⟨wr.heap.size, 2, none⟩ (.int .i64 vn)).setCell ⟨wr.heap.size, 3, none⟩ (.string vt) := ⟨_, rfl⟩
      have HW7 := hide hW7
      rw [← hW7] at hsz
      clear hE
      go_wp2_with (at_builtin; rw [← HW7.out]; go_loud (refine wpList_append_own _ rfl (.tmp 96) (.tmp 98) 24 rfl w.heap.size 91 i0 (.agg #[.string ⟨#[]⟩, .int .i64 0, .int .i64 0, .string ⟨#[]⟩]) 4 48 Try.underlying24 hi hz0 hz1 hz2 rfl (by decide) (.slice ao k cc) k _ rfl (by rw [HW7.out]; exact HO4.out.alloc _) ⟨w7.heap.size, 0, none⟩ 1 1 (enc4 ⟨nm, vk, vn, vt⟩) rfl rfl (World.news_of_block (heap_alloc_at (by rw [HW7.out]; simp) rfl)) (enc4_one _) (by unfold maxLen; omega) (by omega) (by simp; omega) ?_); intro v8 w8 hown8 hgrow8 hnil8; clear hnil8; obtain ⟨ao8, cc8, rfl⟩ := own_slice hown8; have HO8 := hide hown8; have HG8 := hide hgrow8; have HY8 := hide ((show Rk w B q R (R + 1) _ _ _ _ W7 by rw [HW7.out]; exact HY4.out).alloc (.cells (enc4 ⟨nm, vk, vn, vt⟩).toArray 91)); have HY9 := hide (HY8.out.grown (by rw [HW7.out]; exact HO4.out.alloc _) (by decide) (by decide) (by decide) hgrow8); clear hown8 hgrow8 c0 c1 c2 c3 c4 r0 r1 r2 r3 r4 g0 g1 g2 g3 g4 f0 f1 f2 f3 f4; obtain ⟨c0, c1, c2, c3, c4⟩ := cell_of_five HY9.out.bd; have f4 := free_cells_of HY9.out.bd 4)
      go_roundw
      case rel =>
        have hq := HQV.out
        have hv := HV7.out HE7.out
        have hat : at1.1 = ⟨nm, vk, vn, vt⟩ := by rw [hq.2 (by rw [hq.1]; exact HE7.out), hv.1, hv.2.1, hv.2.2.1]
        have hg : qGo t5 (k + 1) = ((qGo t5 k).1 ++ [⟨nm, vk, vn, vt⟩], s7) := by rw [HG1.out, hat, hq.1]
        refine ⟨k + 1, ao8, cc8, by omega, by go_num, rfl, ?_, ?_, ?_⟩
        · rw [hg]
          have hh := HY9.out.set (by decide) (by decide) 4 (.slice ao8 (k + 1) cc8)
          rw [hv.2.2.2] at hh
          exact hh
        · rw [hg, List.flatMap_append]
          have ho := ownsRow_setCell_typed (a := ⟨R + 1, 4, none⟩) HO8.out HY9.out.bd (by decide) (.slice ao8 (k + 1) cc8)
          refine hide ?_
          simpa using ho
        · rw [hg]; exact HE7.out
      case measure => simp [intOf]; omega
    · obtain rfl : k = M := by omega
      obtain ⟨c0, c1, c2, c3, c4⟩ := cell_of_five HK.out.bd
      obtain ⟨r0, r1, r2, r3, r4⟩ := cell_of_five HK.out.br
      have g0 := free_cells_of HK.out.br 0; have g1 := free_cells_of HK.out.br 1; have g2 := free_cells_of HK.out.br 2; have g3 := free_cells_of HK.out.br 3; have g4 := free_cells_of HK.out.br 4
      have f0 := free_cells_of HK.out.bd 0; have f1 := free_cells_of HK.out.bd 1; have f2 := free_cells_of HK.out.bd 2; have f3 := free_cells_of HK.out.bd 3; have f4 := free_cells_of HK.out.bd 4
      have HST := hide (show ev.2 = (qGo t5 k).2 ∧ (qGo t5 k).2.1 = 0 ∧ ev.1 = ⟨(S : Int), wrap64 (Q : Int), wrap64 (T : Int), ty, (qGo t5 k).1⟩ by
        have hn : ¬ ((qGo t5 k).2.1 ≠ 0) := by simp [HG0.out]
        rw [HAT.out, HATV.out, HQ.out, if_neg hn]; exact ⟨rfl, HG0.out, rfl⟩)
      go_wp2
      have HZ := hide (HK.out.five (by decide) (by decide) (.int .i64 (S : Int)) (.int .i64 (wrap64 (Q : Int))) (.int .i64 (wrap64 (T : Int))) (.string ty) (.slice ao k cc))
      have z := cell_of_five HZ.out.br
      refine bodyPost_ret (v := .tuple #[.agg #[.int .i64 (S : Int), .int .i64 (wrap64 (Q : Int)), .int .i64 (wrap64 (T : Int)), .string ty, .slice ao k cc], .int .i64 0]) (by simp [results, Try.results84, go_sem, z]) rfl ?_
      refine ⟨⟨(S : Int), wrap64 (Q : Int), wrap64 (T : Int), ty, (qGo t5 k).1⟩, _, _, _, by rw [HST.out.1, HST.out.2.1]; rfl, fun _ => ⟨HST.out.2.2.symm, ?_⟩, ⟨_, HZ.out.ref, fun _ => by rw [HST.out.1]⟩, HZ.out.kept⟩
      have ho := own_five HO.out HK.out.br (by decide) (.int .i64 (S : Int)) (.int .i64 (wrap64 (Q : Int))) (.int .i64 (wrap64 (T : Int))) (.string ty) (.slice ao k cc)
      rw [← HR.out] at ho
      simpa only [qGo_len] using ho
end Go.Proofs.Ytiljekpfkkocnaa
