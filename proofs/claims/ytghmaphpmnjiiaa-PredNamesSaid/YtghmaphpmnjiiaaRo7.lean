/- Contracts: the document's Has, operand, Cond. -/
import Derived.Test.YtghmaphpmnjiiaaCo7
namespace Go.Proofs.Ytghmaphpmnjiiaa
open Go Go.RowKit

theorem meas7r {k n : Nat} (h : k < n) : n - ((k : Int) + 1).toNat < n - ((k : Nat) : Int).toNat := by omega
theorem wr7r {k n : Nat} (h : k < n) (hN : n ≤ 140737488355328) : wrap64 ((k : Int) + 1) = (k : Int) + 1 := by unfold wrap64; omega
theorem ba_eq {x : ByteArray} {y : Nm} : ((ba y).toList == x.toList) = decide (nb x = y) := by
  rw [Lib.toList_data, Lib.toList_data]
  show (nb (ba y) == nb x) = _
  rw [nb_ba]
  by_cases h : nb x = y
  · rw [decide_eq_true h, h]; simp
  · rw [decide_eq_false h]; exact beq_eq_false_iff_ne.2 (fun e => h e.symm)
set_option maxRecDepth 100000 in
set_option maxHeartbeats 1000000 in
theorem r7Has_any (l : List Nm) (x : ByteArray) (G : Nat → Prop) (ao : Option Addr) (cap : Nat) (w : World) (hs : SsV w G (.slice ao l.length cap) l) (hl : l.length ≤ 140737488355328) :
    Calls Try.prog 96 #[.slice ao l.length cap, .string x] w fun e w' => e = .returned (.bool (decide (nb x ∈ l))) ∧ w = w' := by
  have HS := Lib.hid hs
  have HL := Lib.hid hl
  clear hs hl
  go_enter Try.func96, Try.ntmps96
  go_wp2_with fail
  go_loopw [5] (fun iv wr => ∃ k : Nat, k ≤ l.length ∧ iv = .int .i64 k ∧ wr = w ∧ Hid (nb x ∉ l.take k)) (fun iv _ => l.length - (intOf iv).toNat)
  case atStart => exact ⟨0, Nat.zero_le _, rfl, rfl, Lib.hid (by simp)⟩
  case round =>
    obtain ⟨k, hk, rfl, rfl, HN⟩ := hrel
    by_cases hlt : k < l.length
    · have hlti : (k : Int) < (l.length : Int) := by omega
      have hls := wr7r hlt HL.out
      have hne : l ≠ [] := fun h => by rw [h] at hlt; exact absurd hlt (Nat.not_lt_zero _)
      obtain ⟨ao', cap', he, hh⟩ := HS.out
      simp only [Value.slice.injEq, true_and] at he
      obtain ⟨rfl, rfl⟩ := he
      obtain ⟨b, o, rfl, _, hc⟩ := hh hne
      have c0 := hc k _ (List.getElem?_eq_getElem hlt)
      have HT : Hid (l.take (k + 1) = l.take k ++ [l[k]]) := Lib.hid (List.take_succ_eq_append_getElem hlt)
      have HMM : Hid (l[k] ∈ l) := Lib.hid (List.getElem_mem _)
      clear hh hc hne hk
      generalize l[k] = y at c0 HT HMM
      by_cases hx : nb x = y
      · have e1 : ((ba y).toList == x.toList) = true := by rw [ba_eq]; exact decide_eq_true hx
        have HX := Lib.hid hx
        clear hx
        go_wp2
        go_ret
        exact ⟨show Ending.returned (Value.bool true) = _ from by rw [decide_eq_true (by rw [HX.out]; exact HMM.out)], rfl⟩
      · have e1 : ((ba y).toList == x.toList) = false := by rw [ba_eq]; exact decide_eq_false hx
        have HX := Lib.hid hx
        clear hx
        go_wp2
        go_roundw
        all_goals first
          | exact ⟨k + 1, hlt, by go_num, trivial, Lib.hid (by rw [HT.out, List.mem_append, List.mem_singleton]; exact fun h => h.elim HN.out HX.out)⟩
          | exact ⟨k + 1, hlt, by go_num, rfl, Lib.hid (by rw [HT.out, List.mem_append, List.mem_singleton]; exact fun h => h.elim HN.out HX.out)⟩
          | exact meas7r hlt
          | (rw [hls]; exact meas7r hlt)
    · obtain rfl : k = l.length := by omega
      have hnl : ¬ ((l.length : Int) < (l.length : Int)) := by omega
      clear hlt hk
      go_wp2
      go_ret
      exact ⟨show Ending.returned (Value.bool false) = _ from by rw [decide_eq_false (by have := HN.out; rwa [List.take_length] at this)], rfl⟩
set_option maxRecDepth 100000 in
set_option maxHeartbeats 2000000 in
theorem r7operand_any (v a : ByteArray) (k n : Int) (s : ByteArray) (G : Nat → Prop) (ao : Option Addr) (cap : Nat) (l : List Nm) (w : World) (hwd : wdO ⟨v, a, k, n, s⟩) (hG : ∀ b, G b → b < w.heap.size) (hl : l.length ≤ 140737488355328) (hv : SsV w G (.slice ao l.length cap) l) :
    Calls Try.prog 141 #[.agg #[.string v, .string a, .int .i64 k, .int .i64 n, .string s], .slice ao l.length cap] w fun e w' => e = .returned (.bool (okO ⟨v, a, k, n, s⟩ l)) ∧ Below w.heap.size w w' := by
  obtain ⟨W, hW⟩ : ∃ W, W = w.alloc (.cells #[.string v, .string a, .int .i64 k, .int .i64 n, .string s] 54) := ⟨_, rfl⟩
  have hq := heap_alloc_new w (.cells #[.string v, .string a, .int .i64 k, .int .i64 n, .string s] 54)
  have hb0 : Below w.heap.size w W := by rw [hW]; exact (Below.refl _ _).alloc (Nat.le_refl _) _
  rw [← hW] at hq
  obtain ⟨P, hP⟩ : ∃ P, P = w.heap.size := ⟨_, rfl⟩
  rw [← hP] at hq hb0 ⊢
  have HQ := Lib.hid hq; have HB := Lib.hid hb0; have HPW := Lib.hid (Nat.le_of_eq hP)
  obtain ⟨_, h2, h3⟩ := hwd
  simp only at h2 h3
  have CV := fun u : World => r3Check_any k n s u h3
  have CN := fun u : World => r3Name_any a u h2
  have CC := fun (u : World) (hu : Below P w u) => r7Has_any l v G ao cap u (hv.keep (fun b hb => hu.block b (by rw [hP]; exact hG b hb))) hl
  have HCV := Lib.hid CV; have HCN := Lib.hid CN; have HCC := Lib.hid CC
  have HW := Lib.hid hW; have HP := Lib.hid hP
  obtain ⟨c0, c1, c2, c3, c4⟩ := cell_of_five hq
  clear hq hb0 h2 h3 hl hv hG CV CN CC hW hP
  unfold okO
  simp only
  by_cases ha : a = em
  · subst ha
    simp only [if_true]
    by_cases hve : v = em
    · subst hve
      simp only [decide_true, Bool.true_and]
      cases hck : ckB k n (nb s) with
      | true =>
        have e1 : ckI k n s.data.toList = 0 := ckI_ok hck
        simp only [e1] at HCV
        unfold em at *
        go_enter Try.func141, Try.ntmps141
        go_wp2_with fail
        rw [← HW.out, ← HP.out]
        go_wp2_with (first | (go_at_call 161; (with_reducible refine (HCV.out _).mono ?_); rintro e u2 ⟨rfl, hb⟩; have HB2 := Lib.hid (below_next HB.out HPW.out hb); clear hb))
        go_ret
        exact ⟨rfl, HB2.out⟩
      | false =>
        have e1 : ckI k n s.data.toList = 30 := ckI_no hck
        simp only [e1] at HCV
        unfold em at *
        go_enter Try.func141, Try.ntmps141
        go_wp2_with fail
        rw [← HW.out, ← HP.out]
        go_wp2_with (first | (go_at_call 161; (with_reducible refine (HCV.out _).mono ?_); rintro e u2 ⟨rfl, hb⟩; have HB2 := Lib.hid (below_next HB.out HPW.out hb); clear hb))
        go_ret
        exact ⟨rfl, HB2.out⟩
    · have n1 := ne_em2 hve; have n2 := ne_em3 hve
      rw [decide_eq_false hve]
      simp only [Bool.false_and]
      unfold em at *
      go_enter Try.func141, Try.ntmps141
      go_wp2_with fail
      rw [← HW.out, ← HP.out]
      go_wp2
      go_ret
      exact ⟨rfl, HB.out⟩
  · rw [if_neg ha]
    have n1 := ne_em2 ha; have n2 := ne_em3 ha
    have hne := fun w => vEq_run k n s 0 0 ⟨#[]⟩ w
    have hgd := fun (op : BinOp) (x y : Operand) (w : World) => vGuard op x y k n s 0 0 ⟨#[]⟩ w
    rw [vEq_zero] at hne
    generalize hz : (decide (k = 0) && decide (n = 0) && decide (s = em)) = z at hne ⊢
    cases l with
    | nil =>
      simp only [List.length_nil, if_true]
      by_cases hve : v = em
      · subst hve
        rw [decide_eq_true rfl, Bool.and_true]
        unfold em at *
        cases z with
        | false =>
          simp only [Bool.false_and]
          go_enter Try.func141, Try.ntmps141
          go_wp2_with fail
          rw [← HW.out, ← HP.out]
          go_wp2_with (first | fail)
          go_ret
          exact ⟨rfl, HB.out⟩
        | true =>
          simp only [Bool.true_and]
          cases hnm : nameB (nb a) with
          | false =>
            have e1 : nameB a.data.toList = false := hnm
            simp only [e1] at HCN
            clear hnm e1
            go_enter Try.func141, Try.ntmps141
            go_wp2_with fail
            rw [← HW.out, ← HP.out]
            go_wp2_with (first | (go_at_call 112; (with_reducible refine (HCN.out _).mono ?_); rintro e u2 ⟨rfl, rfl⟩))
            go_ret
            exact ⟨rfl, HB.out⟩
          | true =>
            have e1 : nameB a.data.toList = true := hnm
            simp only [e1] at HCN
            clear hnm e1
            go_enter Try.func141, Try.ntmps141
            go_wp2_with fail
            rw [← HW.out, ← HP.out]
            go_wp2_with (first | (go_at_call 112; (with_reducible refine (HCN.out _).mono ?_); rintro e u2 ⟨rfl, rfl⟩))
            go_ret
            exact ⟨rfl, HB.out⟩
      · have m1 := ne_em2 hve; have m2 := ne_em3 hve
        rw [decide_eq_false hve, Bool.and_false]
        go_enter Try.func141, Try.ntmps141
        go_wp2_with fail
        rw [← HW.out, ← HP.out]
        go_wp2
        go_ret
        exact ⟨rfl, HB.out⟩
    | cons y r =>
      rw [if_neg (List.cons_ne_nil y r)]
      have hpos : 0 < (y :: r).length := by simp
      generalize (y :: r) = l at hpos HCC ⊢
      have l1 : (0 : Int) < (l.length : Int) := by omega
      have l2 := decide_eq_true l1
      by_cases hm : nb v ∈ l
      · rw [decide_eq_true hm, Bool.and_true]
        simp only [decide_eq_true hm] at HCC
        clear hm hpos
        by_cases hve : v = em
        · subst hve
          unfold em at *
          cases z with
          | false =>
            simp only [Bool.false_and]
            go_enter Try.func141, Try.ntmps141
            go_wp2_with fail
            rw [← HW.out, ← HP.out]
            go_wp2_with (first | (go_at_call 96; (with_reducible refine (HCC.out _ HB.out).mono ?_); rintro e u3 ⟨rfl, rfl⟩) | fail)
            go_ret
            exact ⟨rfl, HB.out⟩
          | true =>
            simp only [Bool.true_and]
            cases hnm : nameB (nb a) with
            | false =>
              have e1 : nameB a.data.toList = false := hnm
              simp only [e1] at HCN
              clear hnm e1
              go_enter Try.func141, Try.ntmps141
              go_wp2_with fail
              rw [← HW.out, ← HP.out]
              go_wp2_with (first | (go_at_call 96; (with_reducible refine (HCC.out _ HB.out).mono ?_); rintro e u3 ⟨rfl, rfl⟩) | (go_at_call 112; (with_reducible refine (HCN.out _).mono ?_); rintro e u2 ⟨rfl, rfl⟩))
              go_ret
              exact ⟨rfl, HB.out⟩
            | true =>
              have e1 : nameB a.data.toList = true := hnm
              simp only [e1] at HCN
              clear hnm e1
              go_enter Try.func141, Try.ntmps141
              go_wp2_with fail
              rw [← HW.out, ← HP.out]
              go_wp2_with (first | (go_at_call 96; (with_reducible refine (HCC.out _ HB.out).mono ?_); rintro e u3 ⟨rfl, rfl⟩) | (go_at_call 112; (with_reducible refine (HCN.out _).mono ?_); rintro e u2 ⟨rfl, rfl⟩))
              go_ret
              exact ⟨rfl, HB.out⟩
        · have m1 := ne_em2 hve; have m2 := ne_em3 hve
          clear hve
          cases z with
          | false =>
            simp only [Bool.false_and]
            go_enter Try.func141, Try.ntmps141
            go_wp2_with fail
            rw [← HW.out, ← HP.out]
            go_wp2_with (first | (go_at_call 96; (with_reducible refine (HCC.out _ HB.out).mono ?_); rintro e u3 ⟨rfl, rfl⟩) | fail)
            go_ret
            exact ⟨rfl, HB.out⟩
          | true =>
            simp only [Bool.true_and]
            cases hnm : nameB (nb a) with
            | false =>
              have e1 : nameB a.data.toList = false := hnm
              simp only [e1] at HCN
              clear hnm e1
              go_enter Try.func141, Try.ntmps141
              go_wp2_with fail
              rw [← HW.out, ← HP.out]
              go_wp2_with (first | (go_at_call 96; (with_reducible refine (HCC.out _ HB.out).mono ?_); rintro e u3 ⟨rfl, rfl⟩) | (go_at_call 112; (with_reducible refine (HCN.out _).mono ?_); rintro e u2 ⟨rfl, rfl⟩))
              go_ret
              exact ⟨rfl, HB.out⟩
            | true =>
              have e1 : nameB a.data.toList = true := hnm
              simp only [e1] at HCN
              clear hnm e1
              go_enter Try.func141, Try.ntmps141
              go_wp2_with fail
              rw [← HW.out, ← HP.out]
              go_wp2_with (first | (go_at_call 96; (with_reducible refine (HCC.out _ HB.out).mono ?_); rintro e u3 ⟨rfl, rfl⟩) | (go_at_call 112; (with_reducible refine (HCN.out _).mono ?_); rintro e u2 ⟨rfl, rfl⟩))
              go_ret
              exact ⟨rfl, HB.out⟩
      · rw [decide_eq_false hm, Bool.and_false]
        simp only [decide_eq_false hm] at HCC
        clear hm hpos
        by_cases hve : v = em
        · subst hve
          unfold em at *
          go_enter Try.func141, Try.ntmps141
          go_wp2_with fail
          rw [← HW.out, ← HP.out]
          go_wp2_with (first | (go_at_call 96; (with_reducible refine (HCC.out _ HB.out).mono ?_); rintro e u3 ⟨rfl, rfl⟩))
          go_ret
          exact ⟨rfl, HB.out⟩
        · have m1 := ne_em2 hve; have m2 := ne_em3 hve
          clear hve
          go_enter Try.func141, Try.ntmps141
          go_wp2_with fail
          rw [← HW.out, ← HP.out]
          go_wp2_with (first | (go_at_call 96; (with_reducible refine (HCC.out _ HB.out).mono ?_); rintro e u3 ⟨rfl, rfl⟩))
          go_ret
          exact ⟨rfl, HB.out⟩
set_option maxRecDepth 100000 in
set_option maxHeartbeats 2000000 in
theorem r7Cond_any (c : Cnd) (G : Nat → Prop) (ao : Option Addr) (cap : Nat) (l : List Nm) (w : World) (hwd : wdC c) (hG : ∀ b, G b → b < w.heap.size) (hl : l.length ≤ 140737488355328) (hv : SsV w G (.slice ao l.length cap) l) :
    Calls Try.prog 113 #[cdV c, .slice ao l.length cap] w fun e w' => e = .returned (.int .i64 (condE c l)) ∧ Below w.heap.size w w' := by
  obtain ⟨⟨lv, la, lk, ln, ls⟩, rel, ⟨rv, ra, rk, rn, rs⟩⟩ := c
  obtain ⟨W, hW⟩ : ∃ W, W = w.alloc (.cells #[.string lv, .string la, .int .i64 lk, .int .i64 ln, .string ls, .int .i64 rel, .string rv, .string ra, .int .i64 rk, .int .i64 rn, .string rs] 56) := ⟨_, rfl⟩
  have hq := heap_alloc_new w (.cells #[.string lv, .string la, .int .i64 lk, .int .i64 ln, .string ls, .int .i64 rel, .string rv, .string ra, .int .i64 rk, .int .i64 rn, .string rs] 56)
  have hb0 : Below w.heap.size w W := by rw [hW]; exact (Below.refl _ _).alloc (Nat.le_refl _) _
  rw [← hW] at hq
  obtain ⟨P, hP⟩ : ∃ P, P = w.heap.size := ⟨_, rfl⟩
  have hk : ∀ u : World, Below P w u → SsV u G (.slice ao l.length cap) l ∧ ∀ b, G b → b < u.heap.size := fun u hu =>
    ⟨hv.keep (fun b hb => hu.block b (by rw [hP]; exact hG b hb)), fun b hb => Nat.lt_of_lt_of_le (hG b hb) hu.size⟩
  rw [← hP] at hq hb0 ⊢
  have CL := fun (u : World) (hu : Below P w u) => r7operand_any lv la lk ln ls G ao cap l u hwd.1 (hk u hu).2 hl (hk u hu).1
  have CR := fun (u : World) (hu : Below P w u) => r7operand_any rv ra rk rn rs G ao cap l u hwd.2 (hk u hu).2 hl (hk u hu).1
  have HQ := Lib.hid hq; have HB := Lib.hid hb0; have HPW := Lib.hid (Nat.le_of_eq hP); have HW := Lib.hid hW; have HP := Lib.hid hP
  clear hq hb0 hwd hl hv hG hk hW hP
  unfold condE okC cdV
  simp only
  by_cases h1 : 1 ≤ rel
  · have r1 : ¬ rel < 1 := by omega
    have r1' : decide (rel < 1) = false := decide_eq_false r1
    by_cases h2 : rel ≤ 6
    · have r2 : ¬ 6 < rel := by omega
      have r2' : decide (6 < rel) = false := decide_eq_false r2
      rw [decide_eq_true h1, decide_eq_true h2]
      simp only [Bool.true_and]
      cases hL : okO ⟨lv, la, lk, ln, ls⟩ l with
      | false =>
        simp only [hL] at CL
        simp only [Bool.false_and, Bool.false_eq_true, if_false]
        have HCL := Lib.hid CL; clear CL CR
        go_enter Try.func113, Try.ntmps113
        go_wp2_with fail
        rw [← HW.out, ← HP.out]
        obtain ⟨c0, c1, c2, c3, c4, c5, c6, c7, c8, c9, c10⟩ := cell_of_eleven HQ.out
        go_wp2_with (first | (go_at_call 141; (with_reducible refine (HCL.out _ HB.out).mono ?_); rintro e u1 ⟨rfl, hb⟩; have HQ1 := Lib.hid ((hb.block P (Array.getElem?_eq_some_iff.1 HQ.out).1).trans HQ.out); have HB1 := Lib.hid (below_next HB.out HPW.out hb); clear hb c0 c1 c2 c3 c4 c5 c6 c7 c8 c9 c10; obtain ⟨c0, c1, c2, c3, c4, c5, c6, c7, c8, c9, c10⟩ := cell_of_eleven HQ1.out))
        go_wp2
        go_ret
        exact ⟨rfl, HB1.out⟩
      | true =>
        simp only [hL] at CL
        simp only [Bool.true_and]
        have HCL := Lib.hid CL; clear CL
        cases hR : okO ⟨rv, ra, rk, rn, rs⟩ l with
        | false =>
          simp only [hR] at CR
          simp only [Bool.false_and, Bool.false_eq_true, if_false]
          have HCR := Lib.hid CR; clear CR
          go_enter Try.func113, Try.ntmps113
          go_wp2_with fail
          rw [← HW.out, ← HP.out]
          obtain ⟨c0, c1, c2, c3, c4, c5, c6, c7, c8, c9, c10⟩ := cell_of_eleven HQ.out
          go_wp2_with (first | (go_at_call 141; (with_reducible refine (HCL.out _ HB.out).mono ?_); rintro e u1 ⟨rfl, hb⟩; have HQ1 := Lib.hid ((hb.block P (Array.getElem?_eq_some_iff.1 HQ.out).1).trans HQ.out); have HB1 := Lib.hid (below_next HB.out HPW.out hb); clear hb c0 c1 c2 c3 c4 c5 c6 c7 c8 c9 c10; obtain ⟨c0, c1, c2, c3, c4, c5, c6, c7, c8, c9, c10⟩ := cell_of_eleven HQ1.out))
          go_wp2_with (first | (go_at_call 141; (with_reducible refine (HCR.out _ HB1.out).mono ?_); rintro e u2 ⟨rfl, hb⟩; have HQ2 := Lib.hid ((hb.block P (Array.getElem?_eq_some_iff.1 HQ1.out).1).trans HQ1.out); have HB2 := Lib.hid (below_next HB1.out HPW.out hb); clear hb c0 c1 c2 c3 c4 c5 c6 c7 c8 c9 c10; obtain ⟨c0, c1, c2, c3, c4, c5, c6, c7, c8, c9, c10⟩ := cell_of_eleven HQ2.out))
          go_wp2
          go_ret
          exact ⟨rfl, HB2.out⟩
        | true =>
          simp only [hR] at CR
          simp only [Bool.true_and]
          have HCR := Lib.hid CR; clear CR hL hR
          by_cases ha : la = em
          · by_cases hb : ra = em
            · rw [decide_eq_true ha, decide_eq_true hb]
              simp only [Bool.true_and, Bool.not_true, Bool.false_eq_true, if_false]
              subst ha hb
              unfold em at *
              go_enter Try.func113, Try.ntmps113
              go_wp2_with fail
              rw [← HW.out, ← HP.out]
              obtain ⟨c0, c1, c2, c3, c4, c5, c6, c7, c8, c9, c10⟩ := cell_of_eleven HQ.out
              go_wp2_with (first | (go_at_call 141; (with_reducible refine (HCL.out _ HB.out).mono ?_); rintro e u1 ⟨rfl, hb⟩; have HQ1 := Lib.hid ((hb.block P (Array.getElem?_eq_some_iff.1 HQ.out).1).trans HQ.out); have HB1 := Lib.hid (below_next HB.out HPW.out hb); clear hb c0 c1 c2 c3 c4 c5 c6 c7 c8 c9 c10; obtain ⟨c0, c1, c2, c3, c4, c5, c6, c7, c8, c9, c10⟩ := cell_of_eleven HQ1.out))
              go_wp2_with (first | (go_at_call 141; (with_reducible refine (HCR.out _ HB1.out).mono ?_); rintro e u2 ⟨rfl, hb⟩; have HQ2 := Lib.hid ((hb.block P (Array.getElem?_eq_some_iff.1 HQ1.out).1).trans HQ1.out); have HB2 := Lib.hid (below_next HB1.out HPW.out hb); clear hb c0 c1 c2 c3 c4 c5 c6 c7 c8 c9 c10; obtain ⟨c0, c1, c2, c3, c4, c5, c6, c7, c8, c9, c10⟩ := cell_of_eleven HQ2.out))
              go_wp2
              go_ret
              exact ⟨rfl, HB2.out⟩
            · rw [decide_eq_true ha, decide_eq_false hb]
              simp only [Bool.and_false, Bool.not_false, if_true]
              have n1 := ne_em2 hb; have n2 := ne_em3 hb
              subst ha
              unfold em at *
              clear hb
              go_enter Try.func113, Try.ntmps113
              go_wp2_with fail
              rw [← HW.out, ← HP.out]
              obtain ⟨c0, c1, c2, c3, c4, c5, c6, c7, c8, c9, c10⟩ := cell_of_eleven HQ.out
              go_wp2_with (first | (go_at_call 141; (with_reducible refine (HCL.out _ HB.out).mono ?_); rintro e u1 ⟨rfl, hb⟩; have HQ1 := Lib.hid ((hb.block P (Array.getElem?_eq_some_iff.1 HQ.out).1).trans HQ.out); have HB1 := Lib.hid (below_next HB.out HPW.out hb); clear hb c0 c1 c2 c3 c4 c5 c6 c7 c8 c9 c10; obtain ⟨c0, c1, c2, c3, c4, c5, c6, c7, c8, c9, c10⟩ := cell_of_eleven HQ1.out))
              go_wp2_with (first | (go_at_call 141; (with_reducible refine (HCR.out _ HB1.out).mono ?_); rintro e u2 ⟨rfl, hb⟩; have HQ2 := Lib.hid ((hb.block P (Array.getElem?_eq_some_iff.1 HQ1.out).1).trans HQ1.out); have HB2 := Lib.hid (below_next HB1.out HPW.out hb); clear hb c0 c1 c2 c3 c4 c5 c6 c7 c8 c9 c10; obtain ⟨c0, c1, c2, c3, c4, c5, c6, c7, c8, c9, c10⟩ := cell_of_eleven HQ2.out))
              go_wp2
              go_ret
              exact ⟨rfl, HB2.out⟩
          · rw [decide_eq_false ha]
            simp only [Bool.false_and, Bool.not_false, if_true]
            have n1 := ne_em2 ha; have n2 := ne_em3 ha
            clear ha
            go_enter Try.func113, Try.ntmps113
            go_wp2_with fail
            rw [← HW.out, ← HP.out]
            obtain ⟨c0, c1, c2, c3, c4, c5, c6, c7, c8, c9, c10⟩ := cell_of_eleven HQ.out
            go_wp2_with (first | (go_at_call 141; (with_reducible refine (HCL.out _ HB.out).mono ?_); rintro e u1 ⟨rfl, hb⟩; have HQ1 := Lib.hid ((hb.block P (Array.getElem?_eq_some_iff.1 HQ.out).1).trans HQ.out); have HB1 := Lib.hid (below_next HB.out HPW.out hb); clear hb c0 c1 c2 c3 c4 c5 c6 c7 c8 c9 c10; obtain ⟨c0, c1, c2, c3, c4, c5, c6, c7, c8, c9, c10⟩ := cell_of_eleven HQ1.out))
            go_wp2_with (first | (go_at_call 141; (with_reducible refine (HCR.out _ HB1.out).mono ?_); rintro e u2 ⟨rfl, hb⟩; have HQ2 := Lib.hid ((hb.block P (Array.getElem?_eq_some_iff.1 HQ1.out).1).trans HQ1.out); have HB2 := Lib.hid (below_next HB1.out HPW.out hb); clear hb c0 c1 c2 c3 c4 c5 c6 c7 c8 c9 c10; obtain ⟨c0, c1, c2, c3, c4, c5, c6, c7, c8, c9, c10⟩ := cell_of_eleven HQ2.out))
            go_wp2
            go_ret
            exact ⟨rfl, HB2.out⟩
    · have r2 : 6 < rel := by omega
      have r2' : decide (6 < rel) = true := decide_eq_true r2
      rw [decide_eq_false h2]
      simp only [Bool.and_false, Bool.false_and, Bool.false_eq_true, if_false]
      clear CL CR
      go_enter Try.func113, Try.ntmps113
      go_wp2_with fail
      rw [← HW.out, ← HP.out]
      obtain ⟨c0, c1, c2, c3, c4, c5, c6, c7, c8, c9, c10⟩ := cell_of_eleven HQ.out
      go_wp2
      go_ret
      exact ⟨rfl, HB.out⟩
  · have r1 : rel < 1 := by omega
    have r1' : decide (rel < 1) = true := decide_eq_true r1
    rw [decide_eq_false h1]
    simp only [Bool.false_and, Bool.false_eq_true, if_false]
    clear CL CR
    go_enter Try.func113, Try.ntmps113
    go_wp2_with fail
    rw [← HW.out, ← HP.out]
    obtain ⟨c0, c1, c2, c3, c4, c5, c6, c7, c8, c9, c10⟩ := cell_of_eleven HQ.out
    go_wp2
    go_ret
    exact ⟨rfl, HB.out⟩
end Go.Proofs.Ytghmaphpmnjiiaa
