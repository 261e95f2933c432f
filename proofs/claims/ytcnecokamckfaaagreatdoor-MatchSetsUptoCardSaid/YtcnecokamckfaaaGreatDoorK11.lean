/- Joined: Mg0, Sp0. -/
import Derived.Test.YtcnecokamckfaaaGreatDoorK4
import Derived.Test.YtcnecokamckfaaaGreatDoorCl0
import Derived.Test.YtcnecokamckfaaaGreatDoorSo0
import Derived.Test.YtcnecokamckfaaaGreatDoorCc0
import Derived.Test.YtcnecokamckfaaaGreatDoorK3
import Derived.BigQuiet
import Derived.Deep.QuietTactic
import Derived.Deep.RegionHeld3
set_option linter.unusedVariables false
set_option linter.unusedSimpArgs false
/- Contract: two partial matches put together: the program's. -/
namespace Go.Proofs.YtcnecokamckfaaaGreatDoor
open Go Go.RowKit

theorem merge_len {a b : List Bd} (ha : ckP a = 0) (hb : ckP b = 0) : (a ++ b).length * 80 ≤ 140737488355328 := by
  have h1 := ((ckP_iff a).1 ha).len
  have h2 := ((ckP_iff b).1 hb).len
  rw [List.length_append]; omega
set_option maxRecDepth 100000 in
set_option maxHeartbeats 6400000 in
theorem mMerge_any (B C : Nat) (ao : Option Addr) (n cap : Nat) (ao2 : Option Addr) (n2 cap2 : Nat) (cs bs : List Bd) (w : World) (h1 : BsV w B (.slice ao n cap) cs) (h2 : BsV w C (.slice ao2 n2 cap2) bs) (hB : B ≤ w.heap.size) (hC : C ≤ w.heap.size) :
    Calls Tryz.prog 21 #[.agg #[.slice ao n cap], .agg #[.slice ao2 n2 cap2]] w fun e w' => ∃ v', e = .returned (.tuple #[.agg #[v'], .bool (mergeO cs bs).isSome]) ∧ BsO w' w.heap.size v' ((mergeO cs bs).getD []) ∧ Below w.heap.size w w' := by
  obtain ⟨P, hP⟩ : ∃ P, P = w.heap.size := ⟨_, rfl⟩
  obtain ⟨W, hW⟩ : ∃ W, W = ((w.alloc (.cells #[.slice ao n cap] 38)).alloc (.cells #[.slice ao2 n2 cap2] 38)).alloc (.cells #[.slice none 0 0] 38) := ⟨_, rfl⟩
  have HB0 : Hid (Below P w W) := by rw [hW, hP]; exact (((Below.refl _ _).alloc (Nat.le_refl _) _).alloc (by simp) _).alloc (by simp; omega) _
  have p0 : W.heap[P]? = some (.cells #[.slice ao n cap] 38 (0, 0)) := by rw [hW, hP]; exact heap_alloc_keeps (heap_alloc_keeps (heap_alloc_new w _) _) _
  have p1 : W.heap[P + 1]? = some (.cells #[.slice ao2 n2 cap2] 38 (0, 0)) := by rw [hW, hP]; exact heap_alloc_keeps (heap_alloc_at (by simp) rfl) _
  have p2 : W.heap[P + 1 + 1]? = some (.cells #[.slice none 0 0] 38 (0, 0)) := by rw [hW, hP]; exact heap_alloc_at (by simp) rfl
  have hWs := lt_of_block p2
  have k1 := (h1.below HB0.out (by omega)).mono (show B ≤ P by omega)
  have k2 := (h2.below HB0.out (by omega)).mono (show C ≤ P by omega)
  have HK1 := Lib.hid (fun u (hu : Below W.heap.size W u) => k1.below hu (by omega)); have HK2 := Lib.hid (fun u (hu : Below W.heap.size W u) => k2.below hu (by omega))
  have HPS : Hid (P ≤ W.heap.size) := Lib.hid (by omega)
  have HPS2 : Hid (P + 1 + 1 < W.heap.size) := Lib.hid hWs
  have HC1 := Lib.hid (fun u (hu : Below W.heap.size W u) => mCheck_any P ao n cap cs u (HK1.out u hu) (Nat.le_trans HPS.out hu.size))
  have HC2 := Lib.hid (fun u (hu : Below W.heap.size W u) => mCheck_any P ao2 n2 cap2 bs u (HK2.out u hu) (Nat.le_trans HPS.out hu.size))
  have HX := Lib.hid (fun u (hu : Below W.heap.size W u) => And.intro (cells_one0 ((hu.block P (by omega)).trans p0)) (cells_one0 ((hu.block (P + 1) (by omega)).trans p1)))
  have HX2 := Lib.hid (fun u (hu : Below W.heap.size W u) => (hu.block (P + 1 + 1) hWs).trans p2)
  have HBR : Hid (Below W.heap.size W W) := Lib.hid (Below.refl _ _)
  obtain ⟨c0, c1⟩ := HX.out _ HBR.out
  have HN1 := Lib.hid h1.num.1; have HN2 := Lib.hid h2.num.1
  have HL1 := Lib.hid h1.num.2.2.2.2.2; have HL2 := Lib.hid h2.num.2.2.2.2.2
  have HWD : Hid (∀ x ∈ cs ++ bs, x.var.size ≤ maxLen ∧ x.ev.ty.size ≤ maxLen) := Lib.hid (fun x hx => (List.mem_append.1 hx).elim (h1.wide x) (h2.wide x))
  have HW := Lib.hid hW; have HP := Lib.hid hP
  have MA := Lib.hid (mergeO_a (a := cs) (b := bs)); have MB := Lib.hid (mergeO_b (a := cs) (b := bs))
  have MN := Lib.hid (fun m => mergeO_no (a := cs) (b := bs) (m := m)); have MY := Lib.hid (fun m => mergeO_yes (a := cs) (b := bs) (m := m))
  have ML := Lib.hid (merge_len (a := cs) (b := bs))
  rw [← hP]
  clear h1 h2 hB hC hP hW p0 p1 p2 hWs k1 k2
  by_cases za : ckP cs = 0
  case neg =>
    have HR := Lib.hid (MA.out za)
    have hz1 : (ckP cs == 0) = false := beq_eq_false_iff_ne.2 za
    have hz2 : (ckP cs != 0) = true := by simp [za]
    generalize ckP cs = ca at HC1 hz1 hz2
    clear za
    go_enter Tryz.func21, Tryz.ntmps21
    go_wp2_with fail
    rw [← HP.out, ← HW.out]
    refine (HC1.out _ HBR.out).mono ?_
    rintro e w1 ⟨rfl, hb1⟩
    have x2 := HX2.out _ hb1
    have d2 := cells_one0 x2
    have z2 : w1.frozen? ⟨P + 1 + 1, 0, none⟩ = false := by simp [World.frozen?, x2]
    have HS := Lib.hid (heap_setCell_same (k := 0) x2 (.slice none 0 0))
    have HB2 := Lib.hid ((HB0.out.trans (hb1.mono HPS.out)).setCell (p := ⟨P + 1 + 1, 0, none⟩) (by show P ≤ P + 1 + 1; omega) (.slice none 0 0))
    clear hb1 x2 c0 c1
    go_wp2
    have z := cells_one0 HS.out
    refine bodyPost_ret (v := .tuple #[.agg #[.slice none 0 0], .bool false]) (by simp [results, Tryz.results21, go_sem, z]) rfl ⟨_, by rw [HR.out]; rfl, ?_, HB2.out⟩
    rw [HR.out]; exact BsO.nil _ _
  case pos =>
    by_cases zb : ckP bs = 0
    case neg =>
      have HR := Lib.hid (MB.out zb)
      rw [za] at HC1
      have hz1 : (ckP bs == 0) = false := beq_eq_false_iff_ne.2 zb
      have hz2 : (ckP bs != 0) = true := by simp [zb]
      generalize ckP bs = cb at HC2 hz1 hz2
      clear za zb
      go_enter Tryz.func21, Tryz.ntmps21
      go_wp2_with fail
      rw [← HP.out, ← HW.out]
      refine (HC1.out _ HBR.out).mono ?_
      rintro e w1 ⟨rfl, hb1⟩
      clear c0 c1
      obtain ⟨c0, c1⟩ := HX.out _ hb1
      have HB1 := Lib.hid hb1
      clear hb1
      go_wp2_with fail
      refine (HC2.out _ HB1.out).mono ?_
      rintro e w2 ⟨rfl, hb2⟩
      have hb12 := HB1.out.trans (hb2.mono HB1.out.size)
      have x2 := HX2.out _ hb12
      have d2 := cells_one0 x2
      have z2 : w2.frozen? ⟨P + 1 + 1, 0, none⟩ = false := by simp [World.frozen?, x2]
      have HS := Lib.hid (heap_setCell_same (k := 0) x2 (.slice none 0 0))
      have HB2 := Lib.hid ((HB0.out.trans (hb12.mono HPS.out)).setCell (p := ⟨P + 1 + 1, 0, none⟩) (by show P ≤ P + 1 + 1; omega) (.slice none 0 0))
      clear hb2 hb12 x2 c0 c1
      go_wp2
      have z := cells_one0 HS.out
      refine bodyPost_ret (v := .tuple #[.agg #[.slice none 0 0], .bool false]) (by simp [results, Tryz.results21, go_sem, z]) rfl ⟨_, by rw [HR.out]; rfl, ?_, HB2.out⟩
      rw [HR.out]; exact BsO.nil _ _
    case pos =>
      rw [za] at HC1
      rw [zb] at HC2
      have HML := Lib.hid (ML.out za zb)
      have HZA := Lib.hid za; have HZB := Lib.hid zb
      clear za zb
      go_enter Tryz.func21, Tryz.ntmps21
      go_wp2_with fail
      rw [← HP.out, ← HW.out]
      refine (HC1.out _ HBR.out).mono ?_
      rintro e w1 ⟨rfl, hb1⟩
      clear c0 c1
      obtain ⟨c0, c1⟩ := HX.out _ hb1
      have HB1 := Lib.hid hb1
      clear hb1
      go_wp2_with fail
      refine (HC2.out _ HB1.out).mono ?_
      rintro e w2 ⟨rfl, hb2⟩
      have HB2 := Lib.hid (HB1.out.trans (hb2.mono HB1.out.size))
      clear hb2 c0 c1
      obtain ⟨c0, c1⟩ := HX.out _ HB2.out
      go_wp2_with fail
      obtain ⟨W3, hW3⟩ : ∃ W3, W3 = w2.alloc (.cells #[.slice ao n cap, .slice ao2 n2 cap2] 36) := ⟨_, rfl⟩
      rw [← hW3]
      have hg3 : W3.heap[w2.heap.size]? = some (.cells #[.slice ao n cap, .slice ao2 n2 cap2] 36 (0, 0)) := by rw [hW3]; exact heap_alloc_new _ _
      have HB3 : Hid (Below W.heap.size W W3) := by rw [hW3]; exact HB2.out.alloc HB2.out.size _
      have HW3S := Lib.hid HB3.out.size
      refine (ConcatBd_any w2.heap.size P ao n cap ao2 n2 cap2 cs bs W3 (HK1.out W3 HB3.out) (HK2.out W3 HB3.out) (Nat.le_trans HPS.out HW3S.out) hg3 HL1.out HL2.out).mono ?_
      rintro e w4 ⟨v', xs, ys, rfl, hown, hr1, hr2, hb4⟩
      obtain ⟨ao3, cap3, rfl⟩ := own_slice hown
      have HB4 := Lib.hid (HB3.out.trans (hb4.mono HW3S.out))
      have hnn : n + n2 = (cs ++ bs).length := by rw [List.length_append, HN1.out, HN2.out]
      obtain ⟨N, hN⟩ : ∃ N, N = n + n2 := ⟨_, rfl⟩
      rw [← hN] at hown hnn ⊢
      have HNN := Lib.hid hnn
      obtain ⟨W5, hW5⟩ : ∃ W5, W5 = w4.alloc (.cells #[.slice ao3 N cap3] 38) := ⟨_, rfl⟩
      have hb5 : Below w4.heap.size w4 W5 := by rw [hW5]; exact (Below.refl _ _).alloc (Nat.le_refl _) _
      have h5 : W5.heap[w4.heap.size]? = some (.cells #[.slice ao3 N cap3] 38 (0, 0)) := by rw [hW5]; exact heap_alloc_new _ _
      have hW5s := lt_of_block h5
      have hP4 : P ≤ w4.heap.size := Nat.le_trans HPS.out HB4.out.size
      have hown5 := own_call0 hown hb5
      rw [hnn] at hown5
      have hr5 := (hr1.imp fun v x _ hx => (hx.below hb4 (Nat.le_trans HPS.out HW3S.out)).below hb5 hP4).app (hr2.imp fun v x _ hx => (hx.below hb4 (Nat.le_trans HPS.out HW3S.out)).below hb5 hP4)
      have hbase : W3.heap.size ≤ W5.heap.size := Nat.le_trans hb4.size (Nat.le_trans hb5.size (Nat.le_refl _))
      have HSO := Lib.hid (SortFuncBd_any W3.heap.size P _ (cs ++ bs) (xs ++ ys) W5 hown5 hr5 (Nat.le_trans HPS.out HW3S.out) hbase HWD.out HML.out)
      rw [← hnn] at HSO
      have HB5 := Lib.hid (HB4.out.trans (hb5.mono HB4.out.size))
      have hgq : some w4.heap.size ≠ (Value.slice ao3 N cap3).ownBlock := by
        intro e
        have := hown.lt w4.heap.size e.symm
        omega
      have HGQ := Lib.hid hgq
      have HQ5 := Lib.hid h5; have HQS := Lib.hid hW5s
      have c5 := cells_one0 h5
      have HW5 := Lib.hid hW5
      clear hgq hown hr1 hr2 hb4 hb5 hown5 hr5 hbase h5 hW5s hP4 hg3 hnn hN hW3 hW5 c0 c1
      go_wp2_with fail
      rw [← HW5.out]
      (with_reducible refine HSO.out.mono ?_)
      rintro e w6 ⟨rfl, m, hpm, hsr, hbm, hb6, hsz6, hcell⟩
      have HMR : Hid (MrgR cs bs m) := Lib.hid ⟨hpm, hsr⟩
      have hml : m.length = N := by rw [hpm.length_eq, HNN.out]
      have HB6 := Lib.hid (HB5.out.trans (hb6.mono HW3S.out))
      have c6 := (hcell ⟨w4.heap.size, 0, none⟩ HGQ.out HQS.out).trans c5
      have HCM := Lib.hid (mCheck_any w6.heap.size ao3 N cap3 m w6 hbm (Nat.le_refl _))
      have HCL := Lib.hid (fun u (hu : Below w6.heap.size w6 u) => mClone_any w6.heap.size ao3 N cap3 m u (hbm.below hu (Nat.le_refl _)) hu.size)
      have hq6 : w4.heap.size < w6.heap.size := Nat.lt_of_lt_of_le HQS.out hsz6
      have HC6 := Lib.hid (fun u (hu : Below w6.heap.size w6 u) => (hu.cell (p := ⟨w4.heap.size, 0, none⟩) hq6).trans c6)
      have HMN := Lib.hid (MN.out m HMR.out); have HMY := Lib.hid (MY.out m HMR.out HZA.out HZB.out)
      have HMLN := Lib.hid hml
      clear hpm hsr hbm hb6 hsz6 hcell c5 hq6 hml
      by_cases zm : ckP m = 0
      · have HR := Lib.hid (HMY.out zm)
        rw [zm] at HCM
        clear zm
        go_wp2_with fail
        (with_reducible refine HCM.out.mono ?_)
        rintro e w7 ⟨rfl, hb7⟩
        clear c6
        have c7 := HC6.out _ hb7
        have HB7 := Lib.hid hb7
        clear hb7
        go_wp2_with fail
        (with_reducible refine (HCL.out _ HB7.out).mono ?_)
        rintro e w8 ⟨v8, rfl, ho, hb8⟩
        obtain ⟨ao8, cp8, rfl⟩ := ho.shape
        have hb78 := HB6.out.trans ((HB7.out.trans (hb8.mono HB7.out.size)).mono HB6.out.size)
        have x2 := HX2.out _ hb78
        have d2 := cells_one0 x2
        have z2 : w8.frozen? ⟨P + 1 + 1, 0, none⟩ = false := by simp [World.frozen?, x2]
        have HS := Lib.hid (heap_setCell_same (k := 0) x2 (.slice ao8 m.length cp8))
        have HO := Lib.hid (BsO.setP (k := 0) (ho.lower (Nat.le_trans HPS.out (Nat.le_trans HB6.out.size HB7.out.size))) x2 (.slice ao8 m.length cp8))
        have HBF := Lib.hid ((HB0.out.trans (hb78.mono HPS.out)).setCell (p := ⟨P + 1 + 1, 0, none⟩) (by show P ≤ P + 1 + 1; omega) (.slice ao8 m.length cp8))
        clear ho hb8 hb78 x2 c7
        go_wp2
        have z := cells_one0 HS.out
        refine bodyPost_ret (v := .tuple #[.agg #[.slice ao8 m.length cp8], .bool true]) (by simp [results, Tryz.results21, go_sem, z]) rfl ⟨_, by rw [HR.out]; rfl, ?_, HBF.out⟩
        rw [HR.out]; exact HO.out
      · have HR := Lib.hid (HMN.out zm)
        have hz1 : (ckP m == 0) = false := beq_eq_false_iff_ne.2 zm
        have hz2 : (ckP m != 0) = true := by simp [zm]
        generalize ckP m = cm at HCM hz1 hz2
        clear zm
        go_wp2_with fail
        (with_reducible refine HCM.out.mono ?_)
        rintro e w7 ⟨rfl, hb7⟩
        have hb78 := HB6.out.trans (hb7.mono HB6.out.size)
        have x2 := HX2.out _ hb78
        have d2 := cells_one0 x2
        have z2 : w7.frozen? ⟨P + 1 + 1, 0, none⟩ = false := by simp [World.frozen?, x2]
        have HS := Lib.hid (heap_setCell_same (k := 0) x2 (.slice none 0 0))
        have HBF := Lib.hid ((HB0.out.trans (hb78.mono HPS.out)).setCell (p := ⟨P + 1 + 1, 0, none⟩) (by show P ≤ P + 1 + 1; omega) (.slice none 0 0))
        clear hb7 hb78 x2 c6
        go_wp2
        have z := cells_one0 HS.out
        refine bodyPost_ret (v := .tuple #[.agg #[.slice none 0 0], .bool false]) (by simp [results, Tryz.results21, go_sem, z]) rfl ⟨_, by rw [HR.out]; rfl, ?_, HBF.out⟩
        rw [HR.out]; exact BsO.nil _ _
end Go.Proofs.YtcnecokamckfaaaGreatDoor

/- Contracts: from when to when the events of a partial match are. -/
namespace Go.Proofs.YtcnecokamckfaaaGreatDoor
open Go Go.RowKit

theorem take_ne {bs : List Bd} {k : Nat} (hk : k < bs.length) (h0 : ¬ k = 0) : bs.take k ≠ [] := fun e => by
  have h1 : (bs.take k).length = 0 := by rw [e]; rfl
  rw [List.length_take] at h1; omega
theorem begT_step {bs : List Bd} {k : Nat} (hk : k < bs.length) : begT (bs.take (k + 1)) = if k = 0 then bs[k]!.ev.time else min (begT (bs.take k)) bs[k]!.ev.time := by
  rw [take_one hk]
  by_cases h0 : k = 0
  · subst h0; rfl
  · rw [if_neg h0, begT_snoc _ _ (take_ne hk h0)]
theorem endT_step {bs : List Bd} {k : Nat} (hk : k < bs.length) : endT (bs.take (k + 1)) = if k = 0 then bs[k]!.ev.time else max (endT (bs.take k)) bs[k]!.ev.time := by
  rw [take_one hk]
  by_cases h0 : k = 0
  · subst h0; rfl
  · rw [if_neg h0, endT_snoc _ _ (take_ne hk h0)]
set_option maxRecDepth 100000 in
set_option maxHeartbeats 3200000 in
theorem mSpan_any (B : Nat) (ao : Option Addr) (n cap : Nat) (bs : List Bd) (w : World) (h : BsV w B (.slice ao n cap) bs) (hB : B ≤ w.heap.size) :
    Calls Tryz.prog 56 #[.agg #[.slice ao n cap]] w fun e w' => e = .returned (.tuple #[.int .i64 (begT bs), .int .i64 (endT bs)]) ∧ Below w.heap.size w w' := by
  obtain ⟨hn, hn63, _⟩ := h.num
  have HN := Lib.hid hn
  have HH := Lib.hid h
  clear h hn
  obtain ⟨P, hP⟩ : ∃ P, P = w.heap.size := ⟨_, rfl⟩
  have HP := Lib.hid hP
  have HB0 : Hid (Below P w (w.alloc (.cells #[.slice ao n cap] 38))) := by rw [hP]; exact (Below.refl _ _).alloc (Nat.le_refl _) _
  rw [← hP] at hB ⊢
  clear hP
  go_enter Tryz.func56, Tryz.ntmps56
  go_wp2_with fail
  rw [← HP.out]
  go_loopw [2, 3, 9] (fun bv ev iv wr => ∃ k : Nat, k ≤ n ∧ iv = .int .i64 k ∧ bv = .int .i64 (begT (bs.take k)) ∧ ev = .int .i64 (endT (bs.take k)) ∧ Below P w wr) (fun _ _ iv _ => n - (intOf iv).toNat)
  case atStart => exact ⟨0, Nat.zero_le _, rfl, rfl, rfl, HB0.out⟩
  case round =>
    obtain ⟨k, hk, rfl, rfl, rfl, hb⟩ := hrel
    have HB := Lib.hid hb; clear hb
    by_cases hlt : k < n
    · obtain ⟨b, o, aa, ac, rfl, hbB, hkl, _, _, _, _, hc⟩ := HH.out.at hlt
      obtain ⟨a0, a1, a2, a3, a4, a5⟩ := six_cells (hc _ (HB.out.mono hB))
      have hbw : b ≠ wr.heap.size := by have := HB.out.size; have := HP.out; omega
      have hb0 := begT_step hkl
      have he0 := endT_step hkl
      obtain ⟨x, hx⟩ : ∃ x, x = bs[k]! := ⟨_, rfl⟩
      rw [← hx] at a0 a1 a2 a3 a4 a5 hb0 he0
      have HA : Hid (Below P w (wr.alloc (.cells #[.string x.var, .int .i64 x.ev.src, .int .i64 x.ev.seq, .int .i64 x.ev.time, .string x.ev.ty, .slice aa x.ev.ats.length ac] 54))) := by
        have := HB.out.size; have := HP.out
        exact HB.out.alloc (by omega) _
      have HBT := Lib.hid hb0; have HET := Lib.hid he0
      have e1 : IntKind.i64.wrap ((k : Int) + 1) = (k : Int) + 1 := IntWalk.i64_in _ (by omega)
      clear hb0 he0 hc hx hkl
      by_cases h0 : k = 0
      · subst h0
        simp only [Nat.zero_mul, Nat.add_zero] at a0 a1 a2 a3 a4 a5
        go_wp2_with fail
        go_quiet (fail)
        go_wp2_with fail
        go_quiet (fail)
        go_wp2
        go_roundw
        case rel => exact ⟨1, by omega, rfl, by rw [HBT.out]; simp, by rw [HET.out]; simp, Below.drewN' HA.out _⟩
        case measure => simp [intOf]; omega
      · rw [if_neg h0] at HBT HET
        have h1 : ((k : Int) == 0) = false := by simp; omega
        go_wp2_with fail
        go_quiet (fail)
        go_wp2
        go_roundw
        case rel => exact ⟨k + 1, by omega, by go_num, by rw [HBT.out], by rw [HET.out], Below.drewN' HA.out _⟩
        case measure => simp [intOf]; omega
    · have HT : Hid (bs.take k = bs) := List.take_of_length_le (by have := HN.out; omega)
      rw [HT.out]
      go_wp2
      go_ret2
      exact ⟨rfl, HB.out⟩

set_option maxRecDepth 100000 in
set_option maxHeartbeats 1600000 in
theorem mBegin_any (B : Nat) (ao : Option Addr) (n cap : Nat) (bs : List Bd) (w : World) (h : BsV w B (.slice ao n cap) bs) (hB : B ≤ w.heap.size) :
    Calls Tryz.prog 27 #[.agg #[.slice ao n cap]] w fun e w' => e = .returned (.int .i64 (begT bs)) ∧ Below w.heap.size w w' := by
  have HB0 : Hid (Below w.heap.size w (w.alloc (.cells #[.slice ao n cap] 38))) := (Below.refl _ _).alloc (Nat.le_refl _) _
  have HC := Lib.hid (mSpan_any B ao n cap bs _ (h.below HB0.out hB) (Nat.le_trans hB HB0.out.size))
  clear h hB
  go_enter Tryz.func27, Tryz.ntmps27
  go_wp2_with (go_at_call 56; (with_reducible refine (HC.out).mono ?_); rintro e w1 ⟨rfl, hb⟩; have HB1 := Lib.hid hb; clear hb)
  go_ret
  exact ⟨rfl, HB0.out.trans (HB1.out.mono HB0.out.size)⟩

set_option maxRecDepth 100000 in
set_option maxHeartbeats 1600000 in
theorem mEnd_any (B : Nat) (ao : Option Addr) (n cap : Nat) (bs : List Bd) (w : World) (h : BsV w B (.slice ao n cap) bs) (hB : B ≤ w.heap.size) :
    Calls Tryz.prog 28 #[.agg #[.slice ao n cap]] w fun e w' => e = .returned (.int .i64 (endT bs)) ∧ Below w.heap.size w w' := by
  have HB0 : Hid (Below w.heap.size w (w.alloc (.cells #[.slice ao n cap] 38))) := (Below.refl _ _).alloc (Nat.le_refl _) _
  have HC := Lib.hid (mSpan_any B ao n cap bs _ (h.below HB0.out hB) (Nat.le_trans hB HB0.out.size))
  clear h hB
  go_enter Tryz.func28, Tryz.ntmps28
  go_wp2_with (go_at_call 56; (with_reducible refine (HC.out).mono ?_); rintro e w1 ⟨rfl, hb⟩; have HB1 := Lib.hid hb; clear hb)
  go_ret
  exact ⟨rfl, HB0.out.trans (HB1.out.mono HB0.out.size)⟩

def wnB (bs : List Bd) (win : Int) : Bool := decide (0 ≤ win) && decide (IntKind.u64.wrap (IntKind.u64.wrap (endT bs) - IntKind.u64.wrap (begT bs)) ≤ IntKind.u64.wrap win)
end Go.Proofs.YtcnecokamckfaaaGreatDoor
