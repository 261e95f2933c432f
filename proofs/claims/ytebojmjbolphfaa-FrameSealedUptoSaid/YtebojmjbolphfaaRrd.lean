/- Contract: read of the document. -/
import Derived.Test.YtebojmjbolphfaaDec2
namespace Go.Proofs.Ytebojmjbolphfaa
open Go Go.RowKit Crc

theorem valBits_append (l m : List Bool) : valBits (l ++ m) = valBits l * 2 ^ m.length + valBits m := by
  refine snocInd (P := fun m => valBits (l ++ m) = valBits l * 2 ^ m.length + valBits m) (by simp [valBits]) (fun m b ih => ?_) m
  rw [← List.append_assoc, valBits_snoc, valBits_snoc, ih, List.length_append, List.length_singleton, Nat.pow_succ]
  have : valBits l * (2 ^ m.length * 2) = 2 * (valBits l * 2 ^ m.length) := by rw [← Nat.mul_assoc, Nat.mul_comm]
  omega
theorem both_parts (l : List Bool) (h : 10 ≤ l.length) : valBits ((l.drop 2).take 8) / 16 = valBits ((l.drop 2).take 4) ∧ valBits ((l.drop 2).take 8) % 16 = valBits ((l.drop 6).take 4) := by
  have e : (l.drop 2).take 8 = (l.drop 2).take 4 ++ (l.drop 6).take 4 := by
    rw [show 8 = 4 + 4 from rfl, List.take_add, List.drop_drop]
  have hl : ((l.drop 6).take 4).length = 4 := by simp; omega
  have hlt : valBits ((l.drop 6).take 4) < 16 := by have := valBits_lt ((l.drop 6).take 4); rw [hl] at this; exact this
  rw [e, valBits_append, hl]
  omega

/-- What read leaves. -/
def ReadPost (l : List Bool) (B q : Nat) (w : World) (e : Ending) (w' : World) : Prop :=
  ∃ (f t k s a : Int) (v : Value) (x : List Nat), e = .returned (.tuple #[.agg #[.int .i64 f, .int .i64 t, .int .i64 k, .int .i64 s, .int .i64 a, v], .int .i64 ((dgErr l : Nat) : Int)]) ∧ w'.ownsRow w.heap.size 5 1 v x.length (byteVs x) ∧ Below B w w' ∧ x.length ≤ 16384 ∧
    (dgErr l = 0 → RefIs w' B q (dgRest l) ∧ f = ((dgOf l).f : Int) ∧ t = ((dgOf l).t : Int) ∧ k = ((dgOf l).k : Int) ∧ s = wrap64 ((dgOf l).s : Int) ∧ a = wrap64 ((dgOf l).a : Int) ∧ x = (dgOf l).x)
theorem ReadPost.bad {l : List Bool} {B q : Nat} {w w' : World} {n : Nat} (h : dgErr l = n) (hn : n ≠ 0) {f t k s a : Int} (hb : Below B w w') : ReadPost l B q w (.returned (.tuple #[.agg #[.int .i64 f, .int .i64 t, .int .i64 k, .int .i64 s, .int .i64 a, .slice none 0 0], .int .i64 (n : Int)])) w' :=
  ⟨f, t, k, s, a, .slice none 0 0, [], by rw [h], World.ownsRow_nil _ _ _ _, hb, by simp, fun h0 => absurd (h.symm.trans h0) hn⟩

/-- How things stand within read. -/
structure RfSt (w0 : World) (B R D q : Nat) (w : World) (l : List Bool) (cs : Array Value) : Prop where
  below : Below B w0 w
  ofD : B ≤ D
  ofR : B ≤ R
  ne : R ≠ D
  dg : w.heap[D]? = some (.cells cs 24 (0, 0))
  res : w.heap[R]? = some (.cells #[.int .i64 0, .int .i64 0, .int .i64 0, .int .i64 0, .int .i64 0, .slice none 0 0] 24 (0, 0))
  ref : RefIs w B q l
theorem RfSt.call {w0 : World} {B R D q : Nat} {w w' : World} {l l' : List Bool} {cs : Array Value} (h : RfSt w0 B R D q w l cs) (hk : Kept B refT w w') (hr : RefIs w' B q l') : RfSt w0 B R D q w' l' cs :=
  ⟨h.below.trans hk.below, h.ofD, h.ofR, h.ne, hk.typed _ _ _ _ h.dg (by decide), hk.typed _ _ _ _ h.res (by decide), hr⟩
theorem RfSt.set {w0 : World} {B R D q : Nat} {w : World} {l : List Bool} {cs : Array Value} (h : RfSt w0 B R D q w l cs) (i : Nat) (u : Value) : RfSt w0 B R D q (w.setCell ⟨D, i, none⟩ u) l (cs.setIfInBounds i u) :=
  ⟨h.below.setCell (p := ⟨D, i, none⟩) h.ofD u, h.ofD, h.ofR, h.ne, heap_setCell_same h.dg u, heap_setCell_far h.res h.ne u,
    h.ref.kept ((Kept.refl B (fun e => e == 24) w).setCell (p := ⟨D, i, none⟩) h.ofD h.dg rfl u) (by decide) (by decide)⟩
theorem RfSt.alloc {w0 : World} {B R D q : Nat} {w : World} {l : List Bool} {cs : Array Value} (h : RfSt w0 B R D q w l cs) (o : Obj) : RfSt w0 B R D q (w.alloc o) l cs :=
  ⟨h.below.alloc (Nat.le_trans h.ofR (Nat.le_of_lt (lt_of_block h.res))) o, h.ofD, h.ofR, h.ne, heap_alloc_keeps h.dg o, heap_alloc_keeps h.res o, h.ref.below ((Below.refl _ _).alloc (Nat.le_refl _) _) (Nat.le_refl _)⟩
theorem RfSt.grown {w0 : World} {B R D q n : Nat} {w w' : World} {l : List Bool} {cs : Array Value} {u : Value} {xs : List Value} (h : RfSt w0 B R D q w l cs) (hu : w.ownsRow R 5 1 u n xs) (hg : w.grownBy w' u.ownBlock) : RfSt w0 B R D q w' l cs :=
  have hk : Kept B (fun e => e == 5) w w' := (Kept.refl B _ w).grown hu rfl hg (Nat.le_trans h.ofR (Nat.le_of_lt (lt_of_block h.res))) h.ofR
  ⟨h.below.trans hk.below, h.ofD, h.ofR, h.ne, hk.typed _ _ _ _ h.dg (by decide), hk.typed _ _ _ _ h.res (by decide), h.ref.kept hk (by decide) (by decide)⟩
theorem RefIs.kept_six {w : World} {B q R : Nat} {l : List Bool} (h : RefIs w B q l) {c0 c1 c2 c3 c4 c5 : Value} (hq : w.heap[R]? = some (.cells #[c0, c1, c2, c3, c4, c5] 24 (0, 0))) (e0 e1 e2 e3 e4 e5 : Value) :
    RefIs ((((((w.setCell ⟨R, 0, none⟩ e0).setCell ⟨R, 1, none⟩ e1).setCell ⟨R, 2, none⟩ e2).setCell ⟨R, 3, none⟩ e3).setCell ⟨R, 4, none⟩ e4).setCell ⟨R, 5, none⟩ e5) B q l := by
  have a0 := heap_setCell_same (k := 0) hq e0
  have a1 := heap_setCell_same (k := 1) a0 e1
  have a2 := heap_setCell_same (k := 2) a1 e2
  have a3 := heap_setCell_same (k := 3) a2 e3
  have a4 := heap_setCell_same (k := 4) a3 e4
  have k0 : Kept 0 (fun e => e == 24) w (w.setCell ⟨R, 0, none⟩ e0) := (Kept.refl _ _ _).setCell (p := ⟨R, 0, none⟩) (Nat.zero_le _) hq rfl e0
  have k1 := k0.setCell (p := ⟨R, 1, none⟩) (Nat.zero_le _) a0 rfl e1
  have k2 := k1.setCell (p := ⟨R, 2, none⟩) (Nat.zero_le _) a1 rfl e2
  have k3 := k2.setCell (p := ⟨R, 3, none⟩) (Nat.zero_le _) a2 rfl e3
  have k4 := k3.setCell (p := ⟨R, 4, none⟩) (Nat.zero_le _) a3 rfl e4
  have k5 := k4.setCell (p := ⟨R, 5, none⟩) (Nat.zero_le _) a4 rfl e5
  exact h.kept k5 (by decide) (by decide)

theorem rsBits_ok' (B q n : Nat) (l : List Bool) (w : World) (hs : RefIs w B q l) (hn : n ≤ 64) (hl : n ≤ l.length) :
    Calls Try.prog 53 #[.pointer (some ⟨q, 0, none⟩), .int .i64 (n : Int)] w fun e w' => e = .returned (.tuple #[.int .u64 ((valBits (l.take n) : Nat) : Int), .int .i64 0]) ∧ RefIs w' B q (l.drop n) ∧ Kept B refT w w' := by
  have C := rsBits_any B q (n : Int) l w hs (by simp [Lit.wf, IntKind.min, IntKind.max, IntKind.signed, IntKind.bits]; omega)
  have he : bitsErr (n : Int) l.length = 0 := bitsErr_ok hn hl
  rw [bitsVal, bitsRest, he, if_pos rfl, if_pos rfl, show ((n : Int)).toNat = n from rfl] at C
  exact C
theorem rsBits_ends (B q n : Nat) (l : List Bool) (w : World) (hs : RefIs w B q l) (hn : n ≤ 64) (hl : l.length < n) :
    Calls Try.prog 53 #[.pointer (some ⟨q, 0, none⟩), .int .i64 (n : Int)] w fun e w' => e = .returned (.tuple #[.int .u64 0, .int .i64 10]) ∧ RefIs w' B q l ∧ Kept B refT w w' := by
  have C := rsBits_any B q (n : Int) l w hs (by simp [Lit.wf, IntKind.min, IntKind.max, IntKind.signed, IntKind.bits]; omega)
  have he : bitsErr (n : Int) l.length = 10 := bitsErr_ends (by omega) (by omega)
  rw [bitsVal, bitsRest, he, if_neg (by decide), if_neg (by decide)] at C
  exact C
theorem rsNat_ok' (B q : Nat) (l : List Bool) (w : World) (hs : RefIs w B q l) (h0 : natErrL l = 0) :
    Calls Try.prog 54 #[.pointer (some ⟨q, 0, none⟩)] w fun e w' => e = .returned (.tuple #[.int .u64 ((natValL l : Nat) : Int), .int .i64 0]) ∧ RefIs w' B q (natRestL l) ∧ Kept B refT w w' := by
  have C := rsNat_any B q l w hs
  rw [h0] at C
  exact C
theorem rsNat_bad (B q : Nat) (l : List Bool) (w : World) (hs : RefIs w B q l) (h0 : natErrL l ≠ 0) :
    Calls Try.prog 54 #[.pointer (some ⟨q, 0, none⟩)] w fun e w' => e = .returned (.tuple #[.int .u64 0, .int .i64 ((natErrL l : Nat) : Int)]) ∧ RefIs w' B q l ∧ Kept B refT w w' := by
  have C := rsNat_any B q l w hs
  rw [natValL, natRestL, if_neg h0, if_neg h0] at C
  exact C

set_option maxRecDepth 100000 in
set_option maxHeartbeats 3200000 in
theorem r2Read_any (B q : Nat) (l : List Bool) (w : World) (hs : RefIs w B q l) (hB : B ≤ w.heap.size) :
    Calls Try.prog 39 #[.pointer (some ⟨q, 0, none⟩)] w (ReadPost l B q w) := by
  obtain ⟨i0, hi, hz0, hz1, hz2⟩ := info_parts Try.info5
  obtain ⟨R, hR⟩ : ∃ R, R = w.heap.size := ⟨_, rfl⟩
  obtain ⟨W, hW⟩ : ∃ W, W = (w.alloc (.cells #[.int .i64 0, .int .i64 0, .int .i64 0, .int .i64 0, .int .i64 0, .slice none 0 0] 24)).alloc (.cells #[.int .i64 0, .int .i64 0, .int .i64 0, .int .i64 0, .int .i64 0, .slice none 0 0] 24) := ⟨_, rfl⟩
  have HX : Hid (RfSt w B R (R + 1) q W l #[.int .i64 0, .int .i64 0, .int .i64 0, .int .i64 0, .int .i64 0, .slice none 0 0]) := by
    refine hide ⟨?_, by omega, by omega, by omega, ?_, ?_, ?_⟩
    · rw [hW]; exact ((Below.refl _ _).alloc hB _).alloc (by simp; omega) _
    · rw [hW, hR]; exact heap_alloc_at (by simp) rfl
    · rw [hW, hR]; exact heap_alloc_keeps (heap_alloc_new _ _) _
    · rw [hW]; exact hs.below (((Below.refl w.heap.size _).alloc (Nat.le_refl _) _).alloc (by simp) _) (Nat.le_refl _)
  have HW := hide hW; have HR := hide hR
  have HD : Hid (dgErr l = _) := hide (by unfold dgErr; rfl)
  clear hW hR hs
  by_cases h1 : l.length < 2
  · have HE := hide (show dgErr l = 10 by rw [HD.out, if_pos h1])
    have HL := hide h1
    clear HD h1
    go_enter Try.func39, Try.ntmps39
    go_wp2_with fail
    rw [← HW.out, ← HR.out]
    refine (rsBits_ends B q 2 l _ HX.out.ref (by omega) HL.out).mono ?_
    rintro e w1 ⟨rfl, hr, k⟩
    have HX := hide (HX.out.call k hr)
    obtain ⟨d0, d1, d2, d3, d4, d5⟩ := cell_of_six HX.out.dg
    obtain ⟨f0, f1, f2, f3, f4, f5⟩ := free_of_six HX.out.dg
    obtain ⟨x0, x1, x2, x3, x4, x5⟩ := cell_of_six HX.out.res
    obtain ⟨y0, y1, y2, y3, y4, y5⟩ := free_of_six HX.out.res
    clear hr k
    go_wp2
    have hz := cell_of_six (six_set HX.out.res (.int .i64 0) (.int .i64 0) (.int .i64 0) (.int .i64 0) (.int .i64 0) (.slice none 0 0))
    refine bodyPost_ret (v := .tuple #[.agg #[.int .i64 0, .int .i64 0, .int .i64 0, .int .i64 0, .int .i64 0, .slice none 0 0], .int .i64 10]) (by simp [results, Try.results39, go_sem, hz]) rfl ?_
    exact ReadPost.bad HE.out (by decide) (below_six HX.out.below HX.out.ofR (.int .i64 0) (.int .i64 0) (.int .i64 0) (.int .i64 0) (.int .i64 0) (.slice none 0 0))

  have HL1 := hide h1
  have C2 := rsBits_ok' B q 2 l W HX.out.ref (by omega) (by omega)
  have hK4 := valBits_lt (l.take 2)
  rw [show (l.take 2).length = 2 by simp; omega] at hK4
  obtain ⟨K, hK⟩ : ∃ K, K = valBits (l.take 2) := ⟨_, rfl⟩
  rw [← hK] at C2 hK4
  clear h1
  go_enter Try.func39, Try.ntmps39
  go_wp2_with fail
  rw [← HW.out, ← HR.out]
  refine (C2).mono ?_
  rintro e w1 ⟨rfl, hr, k⟩
  have HX := hide (HX.out.call k hr)
  obtain ⟨d0, d1, d2, d3, d4, d5⟩ := cell_of_six HX.out.dg
  obtain ⟨f0, f1, f2, f3, f4, f5⟩ := free_of_six HX.out.dg
  obtain ⟨x0, x1, x2, x3, x4, x5⟩ := cell_of_six HX.out.res
  obtain ⟨y0, y1, y2, y3, y4, y5⟩ := free_of_six HX.out.res
  clear hr k
  clear C2
  by_cases hkd : kdB K = false
  · have k1 : ((K : Int) != 1) = true := by simp [kdB] at hkd; simp; omega
    have k2 : ((K : Int) != 2) = true := by simp [kdB] at hkd; simp; omega
    have HE := hide (show dgErr l = 21 by rw [HD.out, if_neg HL1.out, if_pos (by rw [← hK]; exact hkd)])
    clear HD hkd hK
    go_wp2
    have hz := cell_of_six (six_set HX.out.res (.int .i64 0) (.int .i64 0) (.int .i64 0) (.int .i64 0) (.int .i64 0) (.slice none 0 0))
    refine bodyPost_ret (v := .tuple #[.agg #[.int .i64 0, .int .i64 0, .int .i64 0, .int .i64 0, .int .i64 0, .slice none 0 0], .int .i64 21]) (by simp [results, Try.results39, go_sem, hz]) rfl ?_
    exact ReadPost.bad HE.out (by decide) (below_six HX.out.below HX.out.ofR (.int .i64 0) (.int .i64 0) (.int .i64 0) (.int .i64 0) (.int .i64 0) (.slice none 0 0))

  have hk12 : K = 1 ∨ K = 2 := by simp [kdB] at hkd; omega
  clear hkd hK4
  rcases hk12 with rfl | rfl
  · -- Kind 1
    have HK := hide hK
    clear hK
    by_cases h3 : l.length < 10
    · have HE := hide (show dgErr l = 10 by rw [HD.out, if_neg HL1.out, if_neg (by rw [← HK.out]; decide), if_pos h3])
      have HL := hide h3
      clear HD h3
      go_wp2_with fail
      have HX := hide (HX.out.set 2 (.int .i64 1))
      refine (rsBits_ends B q 8 (l.drop 2) _ HX.out.ref (by omega) (by rw [List.length_drop]; have := HL.out; omega)).mono ?_
      rintro e w2 ⟨rfl, hr, k⟩
      have HX := hide (HX.out.call k hr)
      clear d0 d1 d2 d3 d4 d5 f0 f1 f2 f3 f4 f5 x0 x1 x2 x3 x4 x5 y0 y1 y2 y3 y4 y5
      obtain ⟨d0, d1, d2, d3, d4, d5⟩ := cell_of_six HX.out.dg
      obtain ⟨f0, f1, f2, f3, f4, f5⟩ := free_of_six HX.out.dg
      obtain ⟨x0, x1, x2, x3, x4, x5⟩ := cell_of_six HX.out.res
      obtain ⟨y0, y1, y2, y3, y4, y5⟩ := free_of_six HX.out.res
      clear hr k
      go_wp2
      have hz := cell_of_six (six_set HX.out.res (.int .i64 0) (.int .i64 0) (.int .i64 1) (.int .i64 0) (.int .i64 0) (.slice none 0 0))
      refine bodyPost_ret (v := .tuple #[.agg #[.int .i64 0, .int .i64 0, .int .i64 1, .int .i64 0, .int .i64 0, .slice none 0 0], .int .i64 10]) (by simp [results, Try.results39, go_sem, hz]) rfl ?_
      exact ReadPost.bad HE.out (by decide) (below_six HX.out.below HX.out.ofR (.int .i64 0) (.int .i64 0) (.int .i64 1) (.int .i64 0) (.int .i64 0) (.slice none 0 0))
    have HL3 := hide h3
    clear h3
    go_wp2_with fail
    have HX := hide (HX.out.set 2 (.int .i64 1))
    have hB8 := valBits_lt ((l.drop 2).take 8)
    have hbp := both_parts l (by have := HL3.out; omega)
    have hl8 : ((l.drop 2).take 8).length = 8 := by simp; have := HL3.out; omega
    rw [hl8] at hB8
    have C8 := rsBits_ok' B q 8 (l.drop 2) _ HX.out.ref (by omega) (by rw [List.length_drop]; have := HL3.out; omega)
    rw [List.drop_drop, show 2 + 8 = 10 from rfl] at C8
    obtain ⟨both, hboth⟩ : ∃ both, both = valBits ((l.drop 2).take 8) := ⟨_, rfl⟩
    rw [← hboth] at C8 hB8 hbp
    have HBP := hide (show ((both : Int) / 16) = ((dgOf l).f : Int) ∧ ((both : Int) % 16) = ((dgOf l).t : Int) from by
      have e1 : both / 16 = (dgOf l).f := hbp.1
      have e2 : both % 16 = (dgOf l).t := hbp.2
      exact ⟨by omega, by omega⟩)
    clear hl8 hboth hbp
    refine (C8).mono ?_
    rintro e w2 ⟨rfl, hr, k⟩
    have HX := hide (HX.out.call k hr)
    clear d0 d1 d2 d3 d4 d5 f0 f1 f2 f3 f4 f5 x0 x1 x2 x3 x4 x5 y0 y1 y2 y3 y4 y5
    obtain ⟨d0, d1, d2, d3, d4, d5⟩ := cell_of_six HX.out.dg
    obtain ⟨f0, f1, f2, f3, f4, f5⟩ := free_of_six HX.out.dg
    obtain ⟨x0, x1, x2, x3, x4, x5⟩ := cell_of_six HX.out.res
    obtain ⟨y0, y1, y2, y3, y4, y5⟩ := free_of_six HX.out.res
    clear hr k
    clear C8
    go_wp2_with fail
    have HX := hide ((HX.out.set 0 (.int .i64 ((both : Int) / 16))).set 1 (.int .i64 ((both : Int) % 16)))
    by_cases h4 : natErrL (l.drop 10) ≠ 0
    · have HE := hide (show dgErr l = natErrL (l.drop 10) by rw [HD.out, if_neg HL1.out, if_neg (by rw [← HK.out]; decide), if_neg HL3.out, if_pos h4])
      have C := rsNat_bad B q (l.drop 10) _ HX.out.ref h4
      obtain ⟨er, her⟩ : ∃ er, er = natErrL (l.drop 10) := ⟨_, rfl⟩
      have H4 : Hid (er ≠ 0) := hide (by rw [her]; exact h4)
      rw [← her] at C HE
      have hne : ((er : Int) != 0) = true := by have := H4.out; simp; omega
      clear HD h4 her
      refine (C).mono ?_
      rintro e w3 ⟨rfl, hr, k⟩
      have HX := hide (HX.out.call k hr)
      clear d0 d1 d2 d3 d4 d5 f0 f1 f2 f3 f4 f5 x0 x1 x2 x3 x4 x5 y0 y1 y2 y3 y4 y5
      obtain ⟨d0, d1, d2, d3, d4, d5⟩ := cell_of_six HX.out.dg
      obtain ⟨f0, f1, f2, f3, f4, f5⟩ := free_of_six HX.out.dg
      obtain ⟨x0, x1, x2, x3, x4, x5⟩ := cell_of_six HX.out.res
      obtain ⟨y0, y1, y2, y3, y4, y5⟩ := free_of_six HX.out.res
      clear hr k
      clear C
      go_wp2
      have HX := hide (HX.out.set 4 (.int .i64 0))
      have hz := cell_of_six (six_set HX.out.res (.int .i64 ((both : Int) / 16)) (.int .i64 ((both : Int) % 16)) (.int .i64 1) (.int .i64 0) (.int .i64 0) (.slice none 0 0))
      refine bodyPost_ret (v := .tuple #[.agg #[.int .i64 ((both : Int) / 16), .int .i64 ((both : Int) % 16), .int .i64 1, .int .i64 0, .int .i64 0, .slice none 0 0], .int .i64 (er : Int)]) (by simp [results, Try.results39, go_sem, hz]) rfl ?_
      exact ReadPost.bad HE.out H4.out (below_six HX.out.below HX.out.ofR (.int .i64 ((both : Int) / 16)) (.int .i64 ((both : Int) % 16)) (.int .i64 1) (.int .i64 0) (.int .i64 0) (.slice none 0 0))
    have H4 := hide h4
    have C := rsNat_ok' B q (l.drop 10) _ HX.out.ref (Decidable.not_not.1 h4)
    obtain ⟨A, hA⟩ : ∃ A, A = natValL (l.drop 10) := ⟨_, rfl⟩
    rw [← hA] at C
    have HA := hide hA
    clear hA h4
    refine (C).mono ?_
    rintro e w3 ⟨rfl, hr, k⟩
    have HX := hide (HX.out.call k hr)
    clear d0 d1 d2 d3 d4 d5 f0 f1 f2 f3 f4 f5 x0 x1 x2 x3 x4 x5 y0 y1 y2 y3 y4 y5
    obtain ⟨d0, d1, d2, d3, d4, d5⟩ := cell_of_six HX.out.dg
    obtain ⟨f0, f1, f2, f3, f4, f5⟩ := free_of_six HX.out.dg
    obtain ⟨x0, x1, x2, x3, x4, x5⟩ := cell_of_six HX.out.res
    obtain ⟨y0, y1, y2, y3, y4, y5⟩ := free_of_six HX.out.res
    clear hr k
    clear C
    go_wp2_with fail
    have HX := hide (HX.out.set 4 (.int .i64 (wrap64 (A : Int))))
    by_cases h6 : natErrL (natRestL (l.drop 10)) ≠ 0
    · have HE := hide (show dgErr l = natErrL (natRestL (l.drop 10)) by rw [HD.out, if_neg HL1.out, if_neg (by rw [← HK.out]; decide), if_neg HL3.out, if_neg H4.out, if_neg (by rw [← HK.out]; decide), if_pos h6])
      have C := rsNat_bad B q (natRestL (l.drop 10)) _ HX.out.ref h6
      obtain ⟨er, her⟩ : ∃ er, er = natErrL (natRestL (l.drop 10)) := ⟨_, rfl⟩
      have H4 : Hid (er ≠ 0) := hide (by rw [her]; exact h6)
      rw [← her] at C HE
      have hne : ((er : Int) != 0) = true := by have := H4.out; simp; omega
      clear HD h6 her
      refine (C).mono ?_
      rintro e w4 ⟨rfl, hr, k⟩
      have HX := hide (HX.out.call k hr)
      clear d0 d1 d2 d3 d4 d5 f0 f1 f2 f3 f4 f5 x0 x1 x2 x3 x4 x5 y0 y1 y2 y3 y4 y5
      obtain ⟨d0, d1, d2, d3, d4, d5⟩ := cell_of_six HX.out.dg
      obtain ⟨f0, f1, f2, f3, f4, f5⟩ := free_of_six HX.out.dg
      obtain ⟨x0, x1, x2, x3, x4, x5⟩ := cell_of_six HX.out.res
      obtain ⟨y0, y1, y2, y3, y4, y5⟩ := free_of_six HX.out.res
      clear hr k
      clear C
      go_wp2
      have hz := cell_of_six (six_set HX.out.res (.int .i64 ((both : Int) / 16)) (.int .i64 ((both : Int) % 16)) (.int .i64 1) (.int .i64 0) (.int .i64 (wrap64 (A : Int))) (.slice none 0 0))
      refine bodyPost_ret (v := .tuple #[.agg #[.int .i64 ((both : Int) / 16), .int .i64 ((both : Int) % 16), .int .i64 1, .int .i64 0, .int .i64 (wrap64 (A : Int)), .slice none 0 0], .int .i64 (er : Int)]) (by simp [results, Try.results39, go_sem, hz]) rfl ?_
      exact ReadPost.bad HE.out H4.out (below_six HX.out.below HX.out.ofR (.int .i64 ((both : Int) / 16)) (.int .i64 ((both : Int) % 16)) (.int .i64 1) (.int .i64 0) (.int .i64 (wrap64 (A : Int))) (.slice none 0 0))
    have H6 := hide h6
    have C := rsNat_ok' B q (natRestL (l.drop 10)) _ HX.out.ref (Decidable.not_not.1 h6)
    obtain ⟨S, hS⟩ : ∃ S, S = natValL (natRestL (l.drop 10)) := ⟨_, rfl⟩
    rw [← hS] at C
    have HS := hide hS
    clear hS h6
    refine (C).mono ?_
    rintro e w4 ⟨rfl, hr, k⟩
    have HX := hide (HX.out.call k hr)
    clear d0 d1 d2 d3 d4 d5 f0 f1 f2 f3 f4 f5 x0 x1 x2 x3 x4 x5 y0 y1 y2 y3 y4 y5
    obtain ⟨d0, d1, d2, d3, d4, d5⟩ := cell_of_six HX.out.dg
    obtain ⟨f0, f1, f2, f3, f4, f5⟩ := free_of_six HX.out.dg
    obtain ⟨x0, x1, x2, x3, x4, x5⟩ := cell_of_six HX.out.res
    obtain ⟨y0, y1, y2, y3, y4, y5⟩ := free_of_six HX.out.res
    clear hr k
    clear C
    go_wp2_with fail
    have HX := hide (HX.out.set 3 (.int .i64 (wrap64 (S : Int))))
    by_cases h7 : natErrL (natRestL (natRestL (l.drop 10))) ≠ 0
    · have HE := hide (show dgErr l = natErrL (natRestL (natRestL (l.drop 10))) by rw [HD.out, if_neg HL1.out, if_neg (by rw [← HK.out]; decide), if_neg HL3.out, if_neg H4.out, if_neg (by rw [← HK.out]; decide), if_neg H6.out, if_pos h7])
      have C := rsNat_bad B q (natRestL (natRestL (l.drop 10))) _ HX.out.ref h7
      obtain ⟨er, her⟩ : ∃ er, er = natErrL (natRestL (natRestL (l.drop 10))) := ⟨_, rfl⟩
      have H4 : Hid (er ≠ 0) := hide (by rw [her]; exact h7)
      rw [← her] at C HE
      have hne : ((er : Int) != 0) = true := by have := H4.out; simp; omega
      clear HD h7 her
      refine (C).mono ?_
      rintro e w5 ⟨rfl, hr, k⟩
      have HX := hide (HX.out.call k hr)
      clear d0 d1 d2 d3 d4 d5 f0 f1 f2 f3 f4 f5 x0 x1 x2 x3 x4 x5 y0 y1 y2 y3 y4 y5
      obtain ⟨d0, d1, d2, d3, d4, d5⟩ := cell_of_six HX.out.dg
      obtain ⟨f0, f1, f2, f3, f4, f5⟩ := free_of_six HX.out.dg
      obtain ⟨x0, x1, x2, x3, x4, x5⟩ := cell_of_six HX.out.res
      obtain ⟨y0, y1, y2, y3, y4, y5⟩ := free_of_six HX.out.res
      clear hr k
      clear C
      go_wp2
      have hz := cell_of_six (six_set HX.out.res (.int .i64 ((both : Int) / 16)) (.int .i64 ((both : Int) % 16)) (.int .i64 1) (.int .i64 (wrap64 (S : Int))) (.int .i64 (wrap64 (A : Int))) (.slice none 0 0))
      refine bodyPost_ret (v := .tuple #[.agg #[.int .i64 ((both : Int) / 16), .int .i64 ((both : Int) % 16), .int .i64 1, .int .i64 (wrap64 (S : Int)), .int .i64 (wrap64 (A : Int)), .slice none 0 0], .int .i64 (er : Int)]) (by simp [results, Try.results39, go_sem, hz]) rfl ?_
      exact ReadPost.bad HE.out H4.out (below_six HX.out.below HX.out.ofR (.int .i64 ((both : Int) / 16)) (.int .i64 ((both : Int) % 16)) (.int .i64 1) (.int .i64 (wrap64 (S : Int))) (.int .i64 (wrap64 (A : Int))) (.slice none 0 0))
    have H7 := hide h7
    have C := rsNat_ok' B q (natRestL (natRestL (l.drop 10))) _ HX.out.ref (Decidable.not_not.1 h7)
    obtain ⟨M, hM⟩ : ∃ M, M = natValL (natRestL (natRestL (l.drop 10))) := ⟨_, rfl⟩
    obtain ⟨R5, hR5⟩ : ∃ R5, R5 = (natRestL (natRestL (natRestL (l.drop 10)))) := ⟨_, rfl⟩
    rw [← hM, ← hR5] at C
    have HM := hide hM; have HR5 := hide hR5
    clear hM h7 hR5
    refine (C).mono ?_
    rintro e w5 ⟨rfl, hr, k⟩
    have HX := hide (HX.out.call k hr)
    clear d0 d1 d2 d3 d4 d5 f0 f1 f2 f3 f4 f5 x0 x1 x2 x3 x4 x5 y0 y1 y2 y3 y4 y5
    obtain ⟨d0, d1, d2, d3, d4, d5⟩ := cell_of_six HX.out.dg
    obtain ⟨f0, f1, f2, f3, f4, f5⟩ := free_of_six HX.out.dg
    obtain ⟨x0, x1, x2, x3, x4, x5⟩ := cell_of_six HX.out.res
    obtain ⟨y0, y1, y2, y3, y4, y5⟩ := free_of_six HX.out.res
    clear hr k
    clear C
    by_cases h8 : 16384 < M
    · have HE := hide (show dgErr l = 21 by rw [HD.out, if_neg HL1.out, if_neg (by rw [← HK.out]; decide), if_neg HL3.out, if_neg H4.out, if_neg (by rw [← HK.out]; decide), if_neg H6.out, if_neg H7.out, if_pos (by rw [← HM.out]; exact h8)])
      clear HD
      go_wp2
      have hz := cell_of_six (six_set HX.out.res (.int .i64 ((both : Int) / 16)) (.int .i64 ((both : Int) % 16)) (.int .i64 1) (.int .i64 (wrap64 (S : Int))) (.int .i64 (wrap64 (A : Int))) (.slice none 0 0))
      refine bodyPost_ret (v := .tuple #[.agg #[.int .i64 ((both : Int) / 16), .int .i64 ((both : Int) % 16), .int .i64 1, .int .i64 (wrap64 (S : Int)), .int .i64 (wrap64 (A : Int)), .slice none 0 0], .int .i64 21]) (by simp [results, Try.results39, go_sem, hz]) rfl ?_
      exact ReadPost.bad HE.out (by decide) (below_six HX.out.below HX.out.ofR (.int .i64 ((both : Int) / 16)) (.int .i64 ((both : Int) % 16)) (.int .i64 1) (.int .i64 (wrap64 (S : Int))) (.int .i64 (wrap64 (A : Int))) (.slice none 0 0))
    have hM16 : M ≤ 16384 := by omega
    clear h8
    have HEnd := hide (show R5.length < 8 * M → dgErr l = 10 from fun h => by rw [HD.out, if_neg HL1.out, if_neg (by rw [← HK.out]; decide), if_neg HL3.out, if_neg H4.out, if_neg (by rw [← HK.out]; decide), if_neg H6.out, if_neg H7.out, if_neg (by rw [← HM.out]; omega), if_pos (by rw [← HM.out, ← HR5.out]; exact h)])
    have HOk := hide (show ¬ R5.length < 8 * M → dgErr l = 0 from fun h => by rw [HD.out, if_neg HL1.out, if_neg (by rw [← HK.out]; decide), if_neg HL3.out, if_neg H4.out, if_neg (by rw [← HK.out]; decide), if_neg H6.out, if_neg H7.out, if_neg (by rw [← HM.out]; omega), if_neg (by rw [← HM.out, ← HR5.out]; exact h)])
    clear HD
    go_wp2
    go_loopw [11] (fun i wr => ∃ (j : Nat) (aou : Option Addr) (cu : Nat), j ≤ M ∧ 8 * j ≤ R5.length ∧ i = .int .u64 j ∧ RfSt w B R (R + 1) q wr (R5.drop (8 * j)) #[.int .i64 ((both : Int) / 16), .int .i64 ((both : Int) % 16), .int .i64 1, .int .i64 (wrap64 (S : Int)), .int .i64 (wrap64 (A : Int)), .slice aou j cu] ∧ wr.ownsRow R 5 1 (.slice aou j cu) j (byteVs ((List.range j).map (chunk R5)))) (fun i _ => M - (intOf i).toNat)
    case atStart => exact ⟨0, none, 0, Nat.zero_le _, Nat.zero_le _, rfl, by simpa using HX.out, World.ownsRow_nil _ _ _ _⟩
    case round =>
      clear d0 d1 d2 d3 d4 d5 f0 f1 f2 f3 f4 f5 x0 x1 x2 x3 x4 x5 y0 y1 y2 y3 y4 y5
      obtain ⟨j, aou, cu, hj, hjR, rfl, hx, hown⟩ := hrel
      have HXr := hide hx; have HO := hide hown
      clear hx hown HX
      by_cases hlt : j < M
      · by_cases hmore : 8 * (j + 1) ≤ R5.length
        · have C := rsBits_ok' B q 8 (R5.drop (8 * j)) _ HXr.out.ref (by omega) (by rw [List.length_drop]; omega)
          rw [chunk_drop, List.drop_drop] at C
          have hc := chunk_lt R5 j
          have HRC := hide (range_chunk R5 j)
          obtain ⟨c, hcc⟩ : ∃ c, c = chunk R5 j := ⟨_, rfl⟩
          rw [← hcc] at C hc
          have HC := hide hcc
          clear hcc
          go_wp2_with fail
          refine C.mono ?_
          clear C
          rintro e w6 ⟨rfl, hr, k⟩
          have HX6 := hide (HXr.out.call k hr)
          have HO6 := hide (k.ownsRow HO.out (by decide))
          clear hr k
          obtain ⟨d0, d1, d2, d3, d4, d5⟩ := cell_of_six HX6.out.dg
          have HXA := hide (HX6.out.alloc (.cells #[.int .u8 (c : Int)] 5))
          have HOA := hide (HO6.out.alloc (.cells #[.int .u8 (c : Int)] 5))
          have HRs := hide (Nat.le_of_lt (lt_of_block HX6.out.res))
          go_wp2_with (at_builtin; refine wpList_append_own _ rfl (.tmp 109) (.tmp 112) 22 rfl R 5 i0 (.int .u8 0) 1 1 Try.underlying22 hi hz0 hz1 hz2 rfl (by decide) (.slice aou j cu) j _ rfl HOA.out ⟨w6.heap.size, 0, none⟩ 1 1 [.int .u8 (c : Int)] rfl rfl (by intro i u hi; match i, hi with | 0, hi => simp at hi; subst hi; simp only [Addr.add]; exact cell_alloc_one _ _ rfl _ _) (by intro u hu; simp at hu; subst hu; rfl) (by unfold maxLen; omega) (by omega) (by have := HRs.out; simp <;> omega) ?_; intro v7 w7 hown7 hgrow7 hnil7; clear hnil7; obtain ⟨ao7, c7, rfl⟩ := own_slice hown7; have HO7 := hide hown7; have HX7 := hide (HXA.out.grown HOA.out hgrow7); clear hown7 hgrow7 d0 d1 d2 d3 d4 d5; obtain ⟨d0, d1, d2, d3, d4, d5⟩ := cell_of_six HX7.out.dg; obtain ⟨f0, f1, f2, f3, f4, f5⟩ := free_of_six HX7.out.dg)
          go_roundw
          case rel =>
            refine ⟨j + 1, ao7, c7, by omega, hmore, by go_num, ?_, ?_⟩
            · have := HX7.out.set 5 (.slice ao7 (j + 1) c7)
              rw [show 8 * j + 8 = 8 * (j + 1) by omega] at this
              simpa using this
            · rw [HRC.out, ← HC.out]
              exact ownsRow_setCell_typed HO7.out HX7.out.dg (by decide) _
          case measure => simp [intOf]; omega
        · have C := rsBits_ends B q 8 (R5.drop (8 * j)) _ HXr.out.ref (by omega) (by rw [List.length_drop]; omega)
          have HE := hide (HEnd.out (by omega))
          go_wp2_with fail
          refine C.mono ?_
          clear C
          rintro e w6 ⟨rfl, hr, k⟩
          have HX := hide (HXr.out.call k hr)
          have HO6 := hide (k.ownsRow HO.out (by decide))
          clear hr k
          obtain ⟨d0, d1, d2, d3, d4, d5⟩ := cell_of_six HX.out.dg
          obtain ⟨f0, f1, f2, f3, f4, f5⟩ := free_of_six HX.out.dg
          obtain ⟨x0, x1, x2, x3, x4, x5⟩ := cell_of_six HX.out.res
          obtain ⟨y0, y1, y2, y3, y4, y5⟩ := free_of_six HX.out.res
          go_wp2
          have hz := cell_of_six (six_set HX.out.res (.int .i64 ((both : Int) / 16)) (.int .i64 ((both : Int) % 16)) (.int .i64 1) (.int .i64 (wrap64 (S : Int))) (.int .i64 (wrap64 (A : Int))) (.slice aou j cu))
          refine bodyPost_ret (v := .tuple #[.agg #[.int .i64 ((both : Int) / 16), .int .i64 ((both : Int) % 16), .int .i64 1, .int .i64 (wrap64 (S : Int)), .int .i64 (wrap64 (A : Int)), .slice aou j cu], .int .i64 10]) (by simp [results, Try.results39, go_sem, hz]) rfl ?_
          have hown := own_six HO6.out HX.out.res (by decide) (.int .i64 ((both : Int) / 16)) (.int .i64 ((both : Int) % 16)) (.int .i64 1) (.int .i64 (wrap64 (S : Int))) (.int .i64 (wrap64 (A : Int))) (.slice aou j cu)
          refine ⟨_, _, _, _, _, _, (List.range j).map (chunk R5), by rw [HE.out]; rfl, ?_, below_six HX.out.below HX.out.ofR (.int .i64 ((both : Int) / 16)) (.int .i64 ((both : Int) % 16)) (.int .i64 1) (.int .i64 (wrap64 (S : Int))) (.int .i64 (wrap64 (A : Int))) (.slice aou j cu), by simp; omega, fun h0 => absurd (HE.out.symm.trans h0) (by decide)⟩
          rw [← HR.out, show ((List.range j).map (chunk R5)).length = j by simp]
          exact hown
      · obtain rfl : j = M := by omega
        have HE := hide (HOk.out (by omega))
        have HX := hide HXr.out
        obtain ⟨d0, d1, d2, d3, d4, d5⟩ := cell_of_six HX.out.dg
        obtain ⟨f0, f1, f2, f3, f4, f5⟩ := free_of_six HX.out.dg
        obtain ⟨x0, x1, x2, x3, x4, x5⟩ := cell_of_six HX.out.res
        obtain ⟨y0, y1, y2, y3, y4, y5⟩ := free_of_six HX.out.res
        go_wp2
        have hz := cell_of_six (six_set HX.out.res (.int .i64 ((both : Int) / 16)) (.int .i64 ((both : Int) % 16)) (.int .i64 1) (.int .i64 (wrap64 (S : Int))) (.int .i64 (wrap64 (A : Int))) (.slice aou j cu))
        refine bodyPost_ret (v := .tuple #[.agg #[.int .i64 ((both : Int) / 16), .int .i64 ((both : Int) % 16), .int .i64 1, .int .i64 (wrap64 (S : Int)), .int .i64 (wrap64 (A : Int)), .slice aou j cu], .int .i64 0]) (by simp [results, Try.results39, go_sem, hz]) rfl ?_
        have hown := own_six HO.out HX.out.res (by decide) (.int .i64 ((both : Int) / 16)) (.int .i64 ((both : Int) % 16)) (.int .i64 1) (.int .i64 (wrap64 (S : Int))) (.int .i64 (wrap64 (A : Int))) (.slice aou j cu)
        have hk1 : valBits (l.take 2) = 1 := HK.out.symm
        have hrest : dgRest l = R5.drop (8 * j) := by unfold dgRest; rw [if_pos hk1, ← HR5.out, ← HM.out]
        have hxs : (dgOf l).x = (List.range j).map (chunk R5) := by
          show (if valBits (l.take 2) = 1 then _ else []) = _
          rw [if_pos hk1, ← HR5.out, ← HM.out]
        have hss : (dgOf l).s = S := by
          show (if valBits (l.take 2) = 1 then _ else 0) = _
          rw [if_pos hk1, HS.out]
        refine ⟨_, _, _, _, _, _, (List.range j).map (chunk R5), by rw [HE.out]; rfl, ?_, below_six HX.out.below HX.out.ofR (.int .i64 ((both : Int) / 16)) (.int .i64 ((both : Int) % 16)) (.int .i64 1) (.int .i64 (wrap64 (S : Int))) (.int .i64 (wrap64 (A : Int))) (.slice aou j cu), by simp; omega, fun _ => ⟨?_, HBP.out.1, HBP.out.2, ?_, by rw [hss], by rw [HA.out]; rfl, hxs.symm⟩⟩
        · rw [← HR.out, show ((List.range j).map (chunk R5)).length = j by simp]
          exact hown
        · rw [hrest]
          exact RefIs.kept_six HX.out.ref HX.out.res (.int .i64 ((both : Int) / 16)) (.int .i64 ((both : Int) % 16)) (.int .i64 1) (.int .i64 (wrap64 (S : Int))) (.int .i64 (wrap64 (A : Int))) (.slice aou j cu)
        · show (1 : Int) = ((valBits (l.take 2) : Nat) : Int)
          rw [hk1]; rfl
  · -- Kind 2
    have HK := hide hK
    clear hK
    by_cases h3 : l.length < 10
    · have HE := hide (show dgErr l = 10 by rw [HD.out, if_neg HL1.out, if_neg (by rw [← HK.out]; decide), if_pos h3])
      have HL := hide h3
      clear HD h3
      go_wp2_with fail
      have HX := hide (HX.out.set 2 (.int .i64 2))
      refine (rsBits_ends B q 8 (l.drop 2) _ HX.out.ref (by omega) (by rw [List.length_drop]; have := HL.out; omega)).mono ?_
      rintro e w2 ⟨rfl, hr, k⟩
      have HX := hide (HX.out.call k hr)
      clear d0 d1 d2 d3 d4 d5 f0 f1 f2 f3 f4 f5 x0 x1 x2 x3 x4 x5 y0 y1 y2 y3 y4 y5
      obtain ⟨d0, d1, d2, d3, d4, d5⟩ := cell_of_six HX.out.dg
      obtain ⟨f0, f1, f2, f3, f4, f5⟩ := free_of_six HX.out.dg
      obtain ⟨x0, x1, x2, x3, x4, x5⟩ := cell_of_six HX.out.res
      obtain ⟨y0, y1, y2, y3, y4, y5⟩ := free_of_six HX.out.res
      clear hr k
      go_wp2
      have hz := cell_of_six (six_set HX.out.res (.int .i64 0) (.int .i64 0) (.int .i64 2) (.int .i64 0) (.int .i64 0) (.slice none 0 0))
      refine bodyPost_ret (v := .tuple #[.agg #[.int .i64 0, .int .i64 0, .int .i64 2, .int .i64 0, .int .i64 0, .slice none 0 0], .int .i64 10]) (by simp [results, Try.results39, go_sem, hz]) rfl ?_
      exact ReadPost.bad HE.out (by decide) (below_six HX.out.below HX.out.ofR (.int .i64 0) (.int .i64 0) (.int .i64 2) (.int .i64 0) (.int .i64 0) (.slice none 0 0))
    have HL3 := hide h3
    clear h3
    go_wp2_with fail
    have HX := hide (HX.out.set 2 (.int .i64 2))
    have hB8 := valBits_lt ((l.drop 2).take 8)
    have hbp := both_parts l (by have := HL3.out; omega)
    have hl8 : ((l.drop 2).take 8).length = 8 := by simp; have := HL3.out; omega
    rw [hl8] at hB8
    have C8 := rsBits_ok' B q 8 (l.drop 2) _ HX.out.ref (by omega) (by rw [List.length_drop]; have := HL3.out; omega)
    rw [List.drop_drop, show 2 + 8 = 10 from rfl] at C8
    obtain ⟨both, hboth⟩ : ∃ both, both = valBits ((l.drop 2).take 8) := ⟨_, rfl⟩
    rw [← hboth] at C8 hB8 hbp
    have HBP := hide (show ((both : Int) / 16) = ((dgOf l).f : Int) ∧ ((both : Int) % 16) = ((dgOf l).t : Int) from by
      have e1 : both / 16 = (dgOf l).f := hbp.1
      have e2 : both % 16 = (dgOf l).t := hbp.2
      exact ⟨by omega, by omega⟩)
    clear hl8 hboth hbp
    refine (C8).mono ?_
    rintro e w2 ⟨rfl, hr, k⟩
    have HX := hide (HX.out.call k hr)
    clear d0 d1 d2 d3 d4 d5 f0 f1 f2 f3 f4 f5 x0 x1 x2 x3 x4 x5 y0 y1 y2 y3 y4 y5
    obtain ⟨d0, d1, d2, d3, d4, d5⟩ := cell_of_six HX.out.dg
    obtain ⟨f0, f1, f2, f3, f4, f5⟩ := free_of_six HX.out.dg
    obtain ⟨x0, x1, x2, x3, x4, x5⟩ := cell_of_six HX.out.res
    obtain ⟨y0, y1, y2, y3, y4, y5⟩ := free_of_six HX.out.res
    clear hr k
    clear C8
    go_wp2_with fail
    have HX := hide ((HX.out.set 0 (.int .i64 ((both : Int) / 16))).set 1 (.int .i64 ((both : Int) % 16)))
    by_cases h4 : natErrL (l.drop 10) ≠ 0
    · have HE := hide (show dgErr l = natErrL (l.drop 10) by rw [HD.out, if_neg HL1.out, if_neg (by rw [← HK.out]; decide), if_neg HL3.out, if_pos h4])
      have C := rsNat_bad B q (l.drop 10) _ HX.out.ref h4
      obtain ⟨er, her⟩ : ∃ er, er = natErrL (l.drop 10) := ⟨_, rfl⟩
      have H4 : Hid (er ≠ 0) := hide (by rw [her]; exact h4)
      rw [← her] at C HE
      have hne : ((er : Int) != 0) = true := by have := H4.out; simp; omega
      clear HD h4 her
      refine (C).mono ?_
      rintro e w3 ⟨rfl, hr, k⟩
      have HX := hide (HX.out.call k hr)
      clear d0 d1 d2 d3 d4 d5 f0 f1 f2 f3 f4 f5 x0 x1 x2 x3 x4 x5 y0 y1 y2 y3 y4 y5
      obtain ⟨d0, d1, d2, d3, d4, d5⟩ := cell_of_six HX.out.dg
      obtain ⟨f0, f1, f2, f3, f4, f5⟩ := free_of_six HX.out.dg
      obtain ⟨x0, x1, x2, x3, x4, x5⟩ := cell_of_six HX.out.res
      obtain ⟨y0, y1, y2, y3, y4, y5⟩ := free_of_six HX.out.res
      clear hr k
      clear C
      go_wp2
      have HX := hide (HX.out.set 4 (.int .i64 0))
      have hz := cell_of_six (six_set HX.out.res (.int .i64 ((both : Int) / 16)) (.int .i64 ((both : Int) % 16)) (.int .i64 2) (.int .i64 0) (.int .i64 0) (.slice none 0 0))
      refine bodyPost_ret (v := .tuple #[.agg #[.int .i64 ((both : Int) / 16), .int .i64 ((both : Int) % 16), .int .i64 2, .int .i64 0, .int .i64 0, .slice none 0 0], .int .i64 (er : Int)]) (by simp [results, Try.results39, go_sem, hz]) rfl ?_
      exact ReadPost.bad HE.out H4.out (below_six HX.out.below HX.out.ofR (.int .i64 ((both : Int) / 16)) (.int .i64 ((both : Int) % 16)) (.int .i64 2) (.int .i64 0) (.int .i64 0) (.slice none 0 0))
    have H4 := hide h4
    have C := rsNat_ok' B q (l.drop 10) _ HX.out.ref (Decidable.not_not.1 h4)
    obtain ⟨A, hA⟩ : ∃ A, A = natValL (l.drop 10) := ⟨_, rfl⟩
    rw [← hA] at C
    have HA := hide hA
    clear hA h4
    refine (C).mono ?_
    rintro e w3 ⟨rfl, hr, k⟩
    have HX := hide (HX.out.call k hr)
    clear d0 d1 d2 d3 d4 d5 f0 f1 f2 f3 f4 f5 x0 x1 x2 x3 x4 x5 y0 y1 y2 y3 y4 y5
    obtain ⟨d0, d1, d2, d3, d4, d5⟩ := cell_of_six HX.out.dg
    obtain ⟨f0, f1, f2, f3, f4, f5⟩ := free_of_six HX.out.dg
    obtain ⟨x0, x1, x2, x3, x4, x5⟩ := cell_of_six HX.out.res
    obtain ⟨y0, y1, y2, y3, y4, y5⟩ := free_of_six HX.out.res
    clear hr k
    clear C
    have HE := hide (show dgErr l = 0 by rw [HD.out, if_neg HL1.out, if_neg (by rw [← HK.out]; decide), if_neg HL3.out, if_neg H4.out, if_pos (by rw [← HK.out]; decide)])
    clear HD
    go_wp2
    have HX := hide (HX.out.set 4 (.int .i64 (wrap64 (A : Int))))
    have hz := cell_of_six (six_set HX.out.res (.int .i64 ((both : Int) / 16)) (.int .i64 ((both : Int) % 16)) (.int .i64 2) (.int .i64 0) (.int .i64 (wrap64 (A : Int))) (.slice none 0 0))
    refine bodyPost_ret (v := .tuple #[.agg #[.int .i64 ((both : Int) / 16), .int .i64 ((both : Int) % 16), .int .i64 2, .int .i64 0, .int .i64 (wrap64 (A : Int)), .slice none 0 0], .int .i64 0]) (by simp [results, Try.results39, go_sem, hz]) rfl ?_
    have hk2 : (dgOf l).k = 2 := HK.out.symm
    have hne : ¬ valBits (l.take 2) = 1 := by rw [← HK.out]; decide
    refine ⟨_, _, _, _, _, _, [], by rw [HE.out]; rfl, World.ownsRow_nil _ _ _ _, below_six HX.out.below HX.out.ofR (.int .i64 ((both : Int) / 16)) (.int .i64 ((both : Int) % 16)) (.int .i64 2) (.int .i64 0) (.int .i64 (wrap64 (A : Int))) (.slice none 0 0), by simp, fun _ => ⟨?_, HBP.out.1, HBP.out.2, by rw [hk2]; rfl, ?_, ?_, ?_⟩⟩
    · have hr := RefIs.kept_six HX.out.ref HX.out.res (.int .i64 ((both : Int) / 16)) (.int .i64 ((both : Int) % 16)) (.int .i64 2) (.int .i64 0) (.int .i64 (wrap64 (A : Int))) (.slice none 0 0)
      unfold dgRest
      rw [if_neg hne]
      exact hr
    · show (0 : Int) = wrap64 ((if valBits (l.take 2) = 1 then _ else 0 : Nat) : Int)
      rw [if_neg hne]; unfold wrap64; omega
    · rw [HA.out]; rfl
    · show [] = if valBits (l.take 2) = 1 then _ else []
      rw [if_neg hne]
end Go.Proofs.Ytebojmjbolphfaa
