/- Joined: Ec, Bd0, Ms0. -/
import Derived.Deep.RegionHeld3
import Derived.Test.YtcnecokamckfaaaGreatDoorEv
import Derived.Test.YtcnecokamckfaaaGreatDoorK2
import Derived.Test.YtcnecokamckfaaaGreatDoorSmall
import Derived.Test.YtcnecokamckfaaaGreatDoorBm0
import Derived.Lib.Hide
import Derived.Sort.Grow
import Derived.Lib.QuietBelow
import Derived.BigQuiet
import Derived.Deep.QuietTactic
set_option linter.unusedVariables false
set_option linter.unusedSimpArgs false
/- Events: Clone, the program's and the document's: the same event, its attributes a row of its own. -/
namespace Go.Proofs.YtcnecokamckfaaaGreatDoor
open Go Go.RowKit

theorem infoAttr : (Tryz.prog.info? 58).map (fun i => (i.zero, i.size, i.bytes)) = some (some (.agg #[.string ⟨#[]⟩, .int .i64 0, .int .i64 0, .string ⟨#[]⟩]), 4, 48) := by kernel_rfl
theorem cell_of_five {w : World} {q : Nat} {c0 c1 c2 c3 c4 : Value} {t : Nat} {fr : Nat × Nat} (h : w.heap[q]? = some (.cells #[c0, c1, c2, c3, c4] t fr)) :
    w.cell? ⟨q, 0, none⟩ = some c0 ∧ w.cell? ⟨q, 1, none⟩ = some c1 ∧ w.cell? ⟨q, 2, none⟩ = some c2 ∧ w.cell? ⟨q, 3, none⟩ = some c3 ∧ w.cell? ⟨q, 4, none⟩ = some c4 := by
  refine ⟨?_, ?_, ?_, ?_, ?_⟩ <;> simp [World.cell?, h]
theorem free_of_five {w : World} {q : Nat} {c0 c1 c2 c3 c4 : Value} {t : Nat} (h : w.heap[q]? = some (.cells #[c0, c1, c2, c3, c4] t (0, 0))) :
    w.frozen? ⟨q, 0, none⟩ = false ∧ w.frozen? ⟨q, 1, none⟩ = false ∧ w.frozen? ⟨q, 2, none⟩ = false ∧ w.frozen? ⟨q, 3, none⟩ = false ∧ w.frozen? ⟨q, 4, none⟩ = false := by
  refine ⟨?_, ?_, ?_, ?_, ?_⟩ <;> simp [World.frozen?, h]
theorem own_lower0 {w : World} {B B' e size n : Nat} {v : Value} {xs : List Value} (h : w.ownsRow B e size v n xs) (hB : B' ≤ B) : w.ownsRow B' e size v n xs := by
  refine ⟨h.1, ?_⟩
  rcases h.2 with hn | ⟨g, cap, cur, rfl, hg, rest⟩
  · exact .inl hn
  · exact .inr ⟨g, cap, cur, rfl, by omega, rest⟩
theorem own_slice {w : World} {B e size n : Nat} {v : Value} {xs : List Value} (h : w.ownsRow B e size v n xs) : ∃ ao cap, v = .slice ao n cap := by
  rcases h.2 with ⟨hv, hn0⟩ | ⟨g, cap, cur, hv, _⟩
  · exact ⟨none, 0, by rw [hv, hn0]⟩
  · exact ⟨_, _, hv⟩
theorem heap_alloc_at {w : World} {ob o : Obj} {q : Nat} (hq : q = w.heap.size) (h : ob = o) : (w.alloc o).heap[q]? = some ob := by
  subst hq h; exact heap_alloc_new w _
theorem five_set {w : World} {q : Nat} {c0 c1 c2 c3 c4 : Value} {t : Nat} (h : w.heap[q]? = some (.cells #[c0, c1, c2, c3, c4] t (0, 0))) (d0 d1 d2 d3 d4 : Value) :
    (((((w.setCell ⟨q, 0, none⟩ d0).setCell ⟨q, 1, none⟩ d1).setCell ⟨q, 2, none⟩ d2).setCell ⟨q, 3, none⟩ d3).setCell ⟨q, 4, none⟩ d4).heap[q]? = some (.cells #[d0, d1, d2, d3, d4] t (0, 0)) := by
  rw [heap_setCell_same (heap_setCell_same (heap_setCell_same (heap_setCell_same (heap_setCell_same h _) _) _) _) _]
  simp
theorem heap_setCell_far {w : World} {q : Nat} {p : Addr} {ob : Obj} (h : w.heap[q]? = some ob) (hne : q ≠ p.block) (u : Value) : (w.setCell p u).heap[q]? = some ob := by
  rw [Below.heap_setCell _ _ _ _ hne]; exact h
theorem below_five {B q : Nat} {a w : World} (h : Below B a w) (hq : B ≤ q) (d0 d1 d2 d3 d4 : Value) :
    Below B a (((((w.setCell ⟨q, 0, none⟩ d0).setCell ⟨q, 1, none⟩ d1).setCell ⟨q, 2, none⟩ d2).setCell ⟨q, 3, none⟩ d3).setCell ⟨q, 4, none⟩ d4) :=
  ((((h.setCell (p := ⟨q, 0, none⟩) hq _).setCell (p := ⟨q, 1, none⟩) hq _).setCell (p := ⟨q, 2, none⟩) hq _).setCell (p := ⟨q, 3, none⟩) hq _).setCell (p := ⟨q, 4, none⟩) hq _
theorem own_five {w : World} {base e size n q t : Nat} {v : Value} {xs : List Value} (h : w.ownsRow base e size v n xs) {c0 c1 c2 c3 c4 : Value} (hq : w.heap[q]? = some (.cells #[c0, c1, c2, c3, c4] t (0, 0))) (hne : t ≠ e) (d0 d1 d2 d3 d4 : Value) :
    (((((w.setCell ⟨q, 0, none⟩ d0).setCell ⟨q, 1, none⟩ d1).setCell ⟨q, 2, none⟩ d2).setCell ⟨q, 3, none⟩ d3).setCell ⟨q, 4, none⟩ d4).ownsRow base e size v n xs := by
  have a0 := heap_setCell_same (k := 0) hq d0
  have a1 := heap_setCell_same (k := 1) a0 d1
  have a2 := heap_setCell_same (k := 2) a1 d2
  have a3 := heap_setCell_same (k := 3) a2 d3
  have b0 := ownsRow_setCell_typed (a := ⟨q, 0, none⟩) h hq hne d0
  have b1 := ownsRow_setCell_typed (a := ⟨q, 1, none⟩) b0 a0 hne d1
  have b2 := ownsRow_setCell_typed (a := ⟨q, 2, none⟩) b1 a1 hne d2
  have b3 := ownsRow_setCell_typed (a := ⟨q, 3, none⟩) b2 a2 hne d3
  exact ownsRow_setCell_typed (a := ⟨q, 4, none⟩) b3 a3 hne d4

set_option maxRecDepth 100000 in
set_option maxHeartbeats 1600000 in
/-- What comes back: the same attributes in a row of the call's own; nil of nil. -/
theorem cloneAt_any (B : Nat) (ao : Option Addr) (n cap : Nat) (xs : List At) (w : World) (h : Av w B (.slice ao n cap) xs) :
    Calls Tryz.prog 75 #[.slice ao n cap] w fun e w' => ∃ v', e = .returned v' ∧ w'.ownsRow w.heap.size 58 4 v' xs.length (xs.flatMap enc4) ∧ Below w.heap.size w w' := by
  obtain ⟨i0, hi, hz0, hz1, hz2⟩ := info_parts infoAttr
  obtain ⟨hn, hn63⟩ := h.num
  have q := fun (w : World) (a : Option Addr) (n c n' c' : Nat) => Lib.run_eql_slice_nil w 50 58 a n c n' c' Tryz.underlying50
  cases ao with
  | none =>
    have h0 : n = 0 := by
      rcases Nat.eq_zero_or_pos n with h0 | h0
      · exact h0
      · obtain ⟨b, o, he, _⟩ := h.at h0
        cases he
    obtain rfl : xs = [] := List.length_eq_zero_iff.1 (by omega)
    clear h hn
    go_enter Tryz.func75, Tryz.ntmps75
    go_wp2
    go_ret
    exact ⟨_, rfl, World.ownsRow_nil _ _ _ _, Below.refl _ _⟩
  | some ad =>
    have hc : ∀ j u, (xs.flatMap enc4)[j]? = some u → w.cell? (ad.add j) = some u := fun j u hj => by
      have hjl := (List.getElem?_eq_some_iff.1 hj).1
      rw [flat4_len] at hjl
      obtain ⟨b, o, he, _, _, _, _, hc⟩ := h.at (by omega)
      simp only [Option.some.injEq] at he
      subst he
      have h1 : j / 4 < xs.length := by omega
      have hx : (enc4 xs[j / 4]!)[j % 4]? = some u := by
        have hlt : j % 4 < (enc4 xs[j / 4]!).length := by rw [enc4_len]; omega
        have h2 := flat_at xs (j / 4) (j % 4) h1 _ (List.getElem?_eq_getElem hlt)
        rw [show j / 4 * 4 + j % 4 = j by omega, hj] at h2
        rw [List.getElem?_eq_getElem hlt, ← h2]
      have h3 := hc (j / 4) h1 (j % 4) u hx
      have e : (⟨b, o, none⟩ : Addr).add j = ⟨b, o + j, none⟩ := by unfold Addr.add; split <;> simp_all
      rw [e, show o + j = o + j / 4 * 4 + j % 4 by omega]; exact h3
    have hl48 := h.len
    have HC := Lib.hid hc; have HN := Lib.hid hn
    clear h hn hc
    go_enter Tryz.func75, Tryz.ntmps75
    go_wp2_with (at_builtin; refine wpList_append_own _ rfl _ _ 50 rfl w.heap.size 58 i0 (.agg #[.string ⟨#[]⟩, .int .i64 0, .int .i64 0, .string ⟨#[]⟩]) 4 48 Tryz.underlying50 hi hz0 hz1 hz2 rfl (by decide) _ _ _ rfl (World.ownsRow_made w #[] 0 (Nat.le_refl _) (Nat.zero_le _) (by simp)) ad n cap (xs.flatMap enc4) rfl (by rw [flat4_len, HN.out]) (fun j u hj => Lib.cell?_alloc_some _ (HC.out j u hj)) (flat4_one xs) (by unfold maxLen; omega) (by have := HN.out; omega) (by simp) ?_; intro v' w1 hown hgrow hnil; clear hnil; have HO := Lib.hid hown; have HG := Lib.hid hgrow; clear hown hgrow)
    go_ret
    refine ⟨_, rfl, by have := HO.out; rw [HN.out] at this; simpa using this, ?_⟩
    exact ((Below.refl _ w).alloc (Nat.le_refl _) _).grown HG.out (by simp) (fun k hk => ((World.ownsRow_made (base := w.heap.size) (e := 58) (size := 4) w #[] 0 (Nat.le_refl _) (Nat.zero_le _) (by simp)).lt k hk).1)

set_option maxRecDepth 100000 in
set_option maxHeartbeats 1600000 in
theorem eClone_any (ev : Ev) (B : Nat) (ao : Option Addr) (n cap : Nat) (w : World) (h : Av w B (.slice ao n cap) ev.ats) (hB : B ≤ w.heap.size) :
    Calls Tryz.prog 48 #[evV ev (.slice ao n cap)] w fun e w' => ∃ v', e = .returned (evV ev v') ∧ w'.ownsRow w.heap.size 58 4 v' ev.ats.length (ev.ats.flatMap enc4) ∧ Below w.heap.size w w' := by
  obtain ⟨s, q, t, ty, ats⟩ := ev
  simp only at h
  unfold evV
  simp only
  have hbel : Below w.heap.size w ((w.alloc (.cells #[.int .i64 s, .int .i64 q, .int .i64 t, .string ty, .slice ao n cap] 52)).alloc (.cells #[.int .i64 0, .int .i64 0, .int .i64 0, .string ⟨#[]⟩, .slice none 0 0] 52)) := ((Below.refl _ _).alloc (Nat.le_refl _) _).alloc (by simp) _
  have C := cloneAt_any B ao n cap ats _ (h.below hbel hB)
  have hq0 : ((w.alloc (.cells #[.int .i64 s, .int .i64 q, .int .i64 t, .string ty, .slice ao n cap] 52)).alloc (.cells #[.int .i64 0, .int .i64 0, .int .i64 0, .string ⟨#[]⟩, .slice none 0 0] 52)).heap[w.heap.size]? = some (.cells #[.int .i64 s, .int .i64 q, .int .i64 t, .string ty, .slice ao n cap] 52 (0, 0)) := heap_alloc_keeps (heap_alloc_new w _) _
  have hq1 : ((w.alloc (.cells #[.int .i64 s, .int .i64 q, .int .i64 t, .string ty, .slice ao n cap] 52)).alloc (.cells #[.int .i64 0, .int .i64 0, .int .i64 0, .string ⟨#[]⟩, .slice none 0 0] 52)).heap[w.heap.size + 1]? = some (.cells #[.int .i64 0, .int .i64 0, .int .i64 0, .string ⟨#[]⟩, .slice none 0 0] 52 (0, 0)) := heap_alloc_at (by simp) rfl
  have HQ0 := hide hq0; have HQ1 := hide hq1; have HBel := hide hbel
  obtain ⟨X, hX⟩ : ∃ X, X = ats.length := ⟨_, rfl⟩
  obtain ⟨Y, hY⟩ : ∃ Y, Y = ats.flatMap enc4 := ⟨_, rfl⟩
  rw [← hX, ← hY] at C ⊢
  have HC := hide C
  clear h hB hq0 hq1 hbel hX hY C
  go_enter Tryz.func48, Tryz.ntmps48
  go_wp2_with fail
  refine HC.out.mono ?_
  rintro e w3 ⟨v3, rfl, hown, hb⟩
  obtain ⟨ao3, cap3, rfl⟩ := own_slice hown
  have p0 := (hb.block w.heap.size (by simp <;> omega)).trans HQ0.out
  have p1 := (hb.block (w.heap.size + 1) (by simp)).trans HQ1.out
  obtain ⟨c0, c1, c2, c3, c4⟩ := cell_of_five p0
  obtain ⟨f0, f1, f2, f3, f4⟩ := free_of_five p0
  obtain ⟨d0, d1, d2, d3, d4⟩ := cell_of_five p1
  obtain ⟨g0, g1, g2, g3, g4⟩ := free_of_five p1
  have HP0 := hide p0
  have HP1 := hide (heap_setCell_far (p := ⟨w.heap.size, 4, none⟩) p1 (by simp) (.slice ao3 X cap3))
  have HO := hide hown; have HB := hide hb
  clear hown hb p0 p1
  go_wp2
  have z := cell_of_five (five_set HP1.out (.int .i64 s) (.int .i64 q) (.int .i64 t) (.string ty) (.slice ao3 X cap3))
  refine bodyPost_ret (v := .agg #[.int .i64 s, .int .i64 q, .int .i64 t, .string ty, .slice ao3 X cap3]) (by simp [results, Tryz.results48, go_sem, z]) rfl ⟨_, rfl, ?_, ?_⟩
  · have o1 := ownsRow_setCell_typed (a := ⟨w.heap.size, 4, none⟩) HO.out HP0.out (by decide) (.slice ao3 X cap3)
    exact own_lower0 (own_five o1 HP1.out (by decide) _ _ _ _ _) (by simp <;> omega)
  · exact below_five ((HBel.out.trans (HB.out.mono (by simp <;> omega))).setCell (p := ⟨w.heap.size, 4, none⟩) (Nat.le_refl _) _) (by omega) _ _ _ _ _
end Go.Proofs.YtcnecokamckfaaaGreatDoor
namespace Go.Proofs.YtcnecokamckfaaaGreatDoor
open Go Go.RowKit

theorem cell_of_two' {w : World} {q : Nat} {c0 c1 : Value} {t : Nat} {fr : Nat × Nat} (h : w.heap[q]? = some (.cells #[c0, c1] t fr)) : w.cell? ⟨q, 0, none⟩ = some c0 ∧ w.cell? ⟨q, 1, none⟩ = some c1 := by
  refine ⟨?_, ?_⟩ <;> simp [World.cell?, h]

set_option maxRecDepth 100000 in
set_option maxHeartbeats 1600000 in
theorem eCompare_any (s q s' q' : Int) (w : World) :
    Calls Tryz.prog 70 #[.agg #[.int .i64 s, .int .i64 q], .agg #[.int .i64 s', .int .i64 q']] w fun e w' => e = .returned (.int .i64 (cmpID s q s' q')) ∧ Below w.heap.size w w' := by
  obtain ⟨P, hP⟩ : ∃ P, P = w.heap.size := ⟨_, rfl⟩
  obtain ⟨W, hW⟩ : ∃ W, W = (w.alloc (.cells #[.int .i64 s, .int .i64 q] 49)).alloc (.cells #[.int .i64 s', .int .i64 q'] 49) := ⟨_, rfl⟩
  have hb0 : Below P w W := by rw [hW, hP]; exact ((Below.refl _ _).alloc (Nat.le_refl _) _).alloc (by simp) _
  have HB := hide hb0
  have hx0 : W.heap[P]? = some (.cells #[.int .i64 s, .int .i64 q] 49 (0, 0)) := by rw [hW, hP]; exact heap_alloc_keeps (heap_alloc_new w _) _
  have hx1 : W.heap[P + 1]? = some (.cells #[.int .i64 s', .int .i64 q'] 49 (0, 0)) := by rw [hW, hP]; exact heap_alloc_at (by simp) rfl
  have hpw : P ≤ W.heap.size := by rw [hW, hP]; simp; omega
  obtain ⟨c0, c1⟩ := cell_of_two' hx0
  obtain ⟨d0, d1⟩ := cell_of_two' hx1
  have HW := hide hW; have HP := hide hP
  have HPW := hide hpw
  obtain ⟨x, hx⟩ : ∃ x, x = cmpI s s' := ⟨_, rfl⟩
  obtain ⟨y, hy⟩ : ∃ y, y = cmpI q q' := ⟨_, rfl⟩
  have C1 := fun w => cmpInt_any s s' w
  have C2 := fun w => cmpI_any q q' w
  rw [← hx] at C1; rw [← hy] at C2
  have HC1 := hide C1; have HC2 := hide C2
  have HR : Hid (cmpID s q s' q' = orI x y) := by rw [hx, hy]; rfl
  rw [← hP]
  clear hP hW hx0 hx1 hx hy C1 C2 hb0 hpw
  go_enter Tryz.func70, Tryz.ntmps70
  go_wp2_with fail
  rw [← HW.out, ← HP.out]
  go_region_held3 (fun w' => w'.cell? ⟨P, 0, none⟩ = some (.int .i64 s) ∧ w'.cell? ⟨P, 1, none⟩ = some (.int .i64 q) ∧ w'.cell? ⟨P + 1, 0, none⟩ = some (.int .i64 s') ∧ w'.cell? ⟨P + 1, 1, none⟩ = some (.int .i64 q'))
    (first | exact ⟨c0, c1, d0, d1⟩ | go_keep)
    (first
      | (go_at_call 99; (with_reducible refine (HC1.out _).mono ?_); rintro e w1 ⟨rfl, rfl⟩)
      | (go_at_call 100; (with_reducible refine (HC2.out _).mono ?_); rintro e w1 ⟨rfl, rfl⟩)
      | (go_at_call 69; (refine (cmpOr_any x y W.heap.size (W.alloc (.cells #[.int .i64 x, .int .i64 y] 3)).drew (cell_of_two' (show (W.alloc (.cells #[.int .i64 x, .int .i64 y] 3)).heap[W.heap.size]? = _ from heap_alloc_new W _)).1 (cell_of_two' (show (W.alloc (.cells #[.int .i64 x, .int .i64 y] 3)).heap[W.heap.size]? = _ from heap_alloc_new W _)).2).mono ?_); rintro e w1 ⟨rfl, rfl⟩))
  all_goals go_wp2
  all_goals go_ret
  all_goals exact ⟨by rw [HR.out]; rfl, (HB.out.alloc HPW.out _).drew⟩

theorem cmpID_src {s q s' q' : Int} (h : s < s') : cmpID s q s' q' = -1 := by unfold cmpID; rw [cmpI_lt h]; rfl
theorem cmpID_src' {s q s' q' : Int} (h : s' < s) : cmpID s q s' q' = 1 := by unfold cmpID; rw [cmpI_gt h]; rfl
theorem cmpID_seq (s q q' : Int) : cmpID s q s q' = cmpI q q' := by unfold cmpID; rw [cmpI_eq]; rfl
set_option maxRecDepth 100000 in
set_option maxHeartbeats 1600000 in
theorem r4Compare_any (s q s' q' : Int) (w : World) :
    Calls Tryz.prog 64 #[.agg #[.int .i64 s, .int .i64 q], .agg #[.int .i64 s', .int .i64 q']] w fun e w' => e = .returned (.int .i64 (cmpID s q s' q')) ∧ Below w.heap.size w w' := by
  have hb0 : Below w.heap.size w ((w.alloc (.cells #[.int .i64 s, .int .i64 q] 49)).alloc (.cells #[.int .i64 s', .int .i64 q'] 49)) := ((Below.refl _ _).alloc (Nat.le_refl _) _).alloc (by simp) _
  have HB := hide hb0
  clear hb0
  have e1 := idEq_run s q s' q'
  have g1 := fun op x y => idGuard op x y s q s' q'
  rcases Int.lt_trichotomy s s' with h | h | h
  · rw [cmpID_src h]
    clear e1 g1
    go_enter Tryz.func64, Tryz.ntmps64
    go_wp2
    go_ret
    exact ⟨rfl, HB.out⟩
  · subst h
    rw [cmpID_seq]
    rcases Int.lt_trichotomy q q' with h | h | h
    · rw [cmpI_lt h]
      clear e1 g1
      go_enter Tryz.func64, Tryz.ntmps64
      go_wp2
      go_ret
      exact ⟨rfl, HB.out⟩
    · subst h
      rw [cmpI_eq]
      rw [show (decide (s = s) && decide (q = q)) = true by simp] at e1
      go_enter Tryz.func64, Tryz.ntmps64
      go_wp2
      go_ret
      exact ⟨rfl, HB.out⟩
    · rw [cmpI_gt h]
      have h' : ¬ q < q' := by omega
      rw [show (decide (s = s) && decide (q = q')) = false by simp; omega] at e1
      go_enter Tryz.func64, Tryz.ntmps64
      go_wp2
      go_ret
      exact ⟨rfl, HB.out⟩
  · rw [cmpID_src' h]
    have h' : ¬ s < s' := by omega
    have h2 : (s == s') = false := by simp; omega
    rw [show (decide (s = s') && decide (q = q')) = false by simp; omega] at e1
    go_enter Tryz.func64, Tryz.ntmps64
    go_wp2
    go_ret
    exact ⟨rfl, HB.out⟩

/-- append(row of the call's own, attributes..). -/
theorem wpList_append_av {w : World} {ops : Array Oper} {rest : List Oper} {o : Oper} {a : Act} {Q : Exit → Act → World → Prop} (hgd : o.guard = none) (s x : Operand)
    (ho : o.op = .call { callee := .builtin .append, args := #[s, x], argTypes := #[50, 50] }) (base : Nat) (v : Value) (n : Nat) (xs : List Value) (hs : a.eval s = v) (hown : w.ownsRow base 58 4 v n xs)
    (B : Nat) (ao : Option Addr) (m c : Nat) (ys : List At) (hx : a.eval x = .slice ao m c) (hy : Av w B (.slice ao m c) ys) (hnil : ao = none → c = 0) (hb : (n + m) * 48 ≤ 140737488355328) (hbase : base ≤ w.heap.size)
    (h : ∀ v' w', w'.ownsRow base 58 4 v' (n + m) (xs ++ ys.flatMap enc4) → w.grownBy w' v.ownBlock → wpList Tryz.prog ops Q rest (a.put o.dst v') w') : wpList Tryz.prog ops Q (o :: rest) a w := by
  obtain ⟨i0, hi, hz0, hz1, hz2⟩ := info_parts infoAttr
  obtain ⟨hm, hm63⟩ := hy.num
  cases ao with
  | none =>
    have h0 : m = 0 := by
      rcases Nat.eq_zero_or_pos m with h0 | h0
      · exact h0
      · obtain ⟨b, o, he, _⟩ := hy.at h0
        cases he
    obtain rfl : ys = [] := List.length_eq_zero_iff.1 (by omega)
    subst h0
    obtain rfl : c = 0 := hnil rfl
    exact wpList_append_own_none hgd s x 50 ho base 58 i0 4 Tryz.underlying50 hi v n xs hs hown hx (h v w (by simpa using hown) (World.grownBy.refl w _))
  | some ad =>
    have hc : ∀ j u, (ys.flatMap enc4)[j]? = some u → w.cell? (ad.add j) = some u := fun j u hj => by
      have hjl := (List.getElem?_eq_some_iff.1 hj).1
      rw [flat4_len] at hjl
      obtain ⟨b, o, he, _, _, _, _, hc⟩ := hy.at (by omega)
      simp only [Option.some.injEq] at he
      subst he
      have h1 : j / 4 < ys.length := by omega
      have hx : (enc4 ys[j / 4]!)[j % 4]? = some u := by
        have hlt : j % 4 < (enc4 ys[j / 4]!).length := by rw [enc4_len]; omega
        have h2 := flat_at ys (j / 4) (j % 4) h1 _ (List.getElem?_eq_getElem hlt)
        rw [show j / 4 * 4 + j % 4 = j by omega, hj] at h2
        rw [List.getElem?_eq_getElem hlt, ← h2]
      have h3 := hc (j / 4) h1 (j % 4) u hx
      have e : (⟨b, o, none⟩ : Addr).add j = ⟨b, o + j, none⟩ := by unfold Addr.add; split <;> simp_all
      rw [e, show o + j = o + j / 4 * 4 + j % 4 by omega]; exact h3
    exact wpList_append_own w hgd s x 50 ho base 58 i0 (.agg #[.string ⟨#[]⟩, .int .i64 0, .int .i64 0, .string ⟨#[]⟩]) 4 48 Tryz.underlying50 hi hz0 hz1 hz2 rfl (by decide) v n xs hs hown ad m c (ys.flatMap enc4) hx (by rw [flat4_len, hm]) hc (flat4_one ys) (by unfold maxLen; omega) (by omega) hbase (fun v' w' h1 h2 _ => h v' w' h1 h2)

set_option maxRecDepth 100000 in
set_option maxHeartbeats 1600000 in
theorem r4Clone_any (ev : Ev) (B : Nat) (ao : Option Addr) (n cap : Nat) (w : World) (h : Av w B (.slice ao n cap) ev.ats) (hnil : ao = none → cap = 0) (hB : B ≤ w.heap.size) :
    Calls Tryz.prog 42 #[evV ev (.slice ao n cap)] w fun e w' => ∃ v', e = .returned (evV ev v') ∧ w'.ownsRow w.heap.size 58 4 v' ev.ats.length (ev.ats.flatMap enc4) ∧ Below w.heap.size w w' := by
  obtain ⟨s, q, t, ty, ats⟩ := ev
  simp only at h
  unfold evV
  simp only
  have hbel : Below w.heap.size w ((w.alloc (.cells #[.int .i64 s, .int .i64 q, .int .i64 t, .string ty, .slice ao n cap] 52)).alloc (.cells #[.int .i64 0, .int .i64 0, .int .i64 0, .string ⟨#[]⟩, .slice none 0 0] 52)) := ((Below.refl _ _).alloc (Nat.le_refl _) _).alloc (by simp) _
  have HX2 := hide (h.below hbel hB)
  have hnx := h.num.1
  have hxl := h.len
  have hq0 : ((w.alloc (.cells #[.int .i64 s, .int .i64 q, .int .i64 t, .string ty, .slice ao n cap] 52)).alloc (.cells #[.int .i64 0, .int .i64 0, .int .i64 0, .string ⟨#[]⟩, .slice none 0 0] 52)).heap[w.heap.size]? = some (.cells #[.int .i64 s, .int .i64 q, .int .i64 t, .string ty, .slice ao n cap] 52 (0, 0)) := heap_alloc_keeps (heap_alloc_new w _) _
  have hq1 : ((w.alloc (.cells #[.int .i64 s, .int .i64 q, .int .i64 t, .string ty, .slice ao n cap] 52)).alloc (.cells #[.int .i64 0, .int .i64 0, .int .i64 0, .string ⟨#[]⟩, .slice none 0 0] 52)).heap[w.heap.size + 1]? = some (.cells #[.int .i64 0, .int .i64 0, .int .i64 0, .string ⟨#[]⟩, .slice none 0 0] 52 (0, 0)) := heap_alloc_at (by simp) rfl
  have HQ0 := hide hq0; have HQ1 := hide hq1; have HBel := hide hbel; have HNIL := hide hnil
  have hnb : n * 48 ≤ 140737488355328 := by omega
  have HNB := hide hnb
  have HX := hide hnx
  clear h hB hq0 hq1 hbel hnx hxl hnil hnb
  go_enter Tryz.func42, Tryz.ntmps42
  go_wp2_with (at_builtin; refine wpList_append_av rfl (.const (.slice none 0 0)) (.tmp 4) rfl w.heap.size (.slice none 0 0) 0 [] rfl (World.ownsRow_nil _ _ _ _) B ao n cap ats rfl HX2.out HNIL.out (by have := HNB.out; omega) (by simp <;> omega) ?_; intro v3 w3 hown3 hgrow3; obtain ⟨ao3, cap3, rfl⟩ := own_slice hown3; have p0 := (hgrow3.block w.heap.size (by simp <;> omega) (by simp [Value.ownBlock])).trans HQ0.out; have p1 := (hgrow3.block (w.heap.size + 1) (by simp) (by simp [Value.ownBlock])).trans HQ1.out; obtain ⟨c0, c1, c2, c3, c4⟩ := cell_of_five p0; obtain ⟨f0, f1, f2, f3, f4⟩ := free_of_five p0; obtain ⟨d0, d1, d2, d3, d4⟩ := cell_of_five p1; obtain ⟨g0, g1, g2, g3, g4⟩ := free_of_five p1; have HP0 := hide p0; have HP1 := hide p1; have HO := hide hown3; have HG := hide hgrow3; clear hown3 hgrow3 p0 p1)
  have hp1 := heap_setCell_far (p := ⟨w.heap.size, 4, none⟩) HP1.out (by simp) (.slice ao3 (0 + n) cap3)
  have z := cell_of_five (five_set hp1 (.int .i64 s) (.int .i64 q) (.int .i64 t) (.string ty) (.slice ao3 (0 + n) cap3))
  rw [Nat.zero_add] at z
  refine bodyPost_ret (v := .agg #[.int .i64 s, .int .i64 q, .int .i64 t, .string ty, .slice ao3 n cap3]) (by simp [results, Tryz.results42, go_sem, z]) rfl ⟨_, rfl, ?_, ?_⟩
  · have o0 := HO.out
    rw [Nat.zero_add, List.nil_append, HX.out] at o0
    have o1 := ownsRow_setCell_typed (a := ⟨w.heap.size, 4, none⟩) o0 HP0.out (by decide) (.slice ao3 n cap3)
    rw [Nat.zero_add] at hp1
    rw [HX.out] at hp1 ⊢
    rw [HX.out] at o1
    exact own_five o1 hp1 (by decide) _ _ _ _ _
  · have b1 := HBel.out.grown HG.out (by simp <;> omega) (fun k hk => by simp [Value.ownBlock] at hk)
    exact below_five (b1.setCell (p := ⟨w.heap.size, 4, none⟩) (Nat.le_refl _) _) (by omega) _ _ _ _ _
end Go.Proofs.YtcnecokamckfaaaGreatDoor

/- How bounds lie in memory. -/
namespace Go.Proofs.YtcnecokamckfaaaGreatDoor
open Go Go.RowKit

def encB (x : Bd) (a : Value) : List Value := [.string x.var, .int .i64 x.ev.src, .int .i64 x.ev.seq, .int .i64 x.ev.time, .string x.ev.ty, a]
theorem encB_len (x : Bd) (a : Value) : (encB x a).length = 6 := rfl
theorem encB_one (x : Bd) (aa : Option Addr) (n c : Nat) : ∀ u ∈ encB x (.slice aa n c), u.oneCell' = true := by
  intro u hu
  simp only [encB, List.mem_cons, List.not_mem_nil, or_false] at hu
  rcases hu with rfl | rfl | rfl | rfl | rfl | rfl <;> rfl
/-- A bound as a value. -/
def bdV (x : Bd) (a : Value) : Value := .agg #[.string x.var, .int .i64 x.ev.src, .int .i64 x.ev.seq, .int .i64 x.ev.time, .string x.ev.ty, a]
/-- A row of bounds at an address; their attributes lie below block B. -/
def BdAt (w : World) (B : Nat) : List Bd → Nat → Nat → Prop
  | [], _, _ => True
  | x :: r, b, o => (∃ aa ac, (∀ j u, (encB x (.slice aa x.ev.ats.length ac))[j]? = some u → w.cell? ⟨b, o + j, none⟩ = some u) ∧ Av w B (.slice aa x.ev.ats.length ac) x.ev.ats ∧ (aa = none → ac = 0)) ∧ BdAt w B r b (o + 6)
/-- In w the value v is a slice of the bounds, which lie below block B. -/
structure BsV (w : World) (B : Nat) (v : Value) (bs : List Bd) : Prop where
  wide : ∀ x ∈ bs, x.var.size ≤ maxLen ∧ x.ev.ty.size ≤ maxLen
  len : bs.length * 80 ≤ 140737488355328
  row : ∃ ao cap, v = .slice ao bs.length cap ∧ bs.length ≤ cap ∧ cap ≤ 9223372036854775807 ∧ (ao = none → cap = 0) ∧ (bs ≠ [] → ∃ b o, ao = some ⟨b, o, none⟩ ∧ b < B ∧ BdAt w B bs b o)
theorem BdAt.keep {w w' : World} {B : Nat} (hk : ∀ b, b < B → w'.heap[b]? = w.heap[b]?) : ∀ {l : List Bd} {b o : Nat}, w'.heap[b]? = w.heap[b]? → BdAt w B l b o → BdAt w' B l b o
  | [], _, _, _, _ => trivial
  | x :: r, b, o, hb, ⟨⟨aa, ac, hc, ha, hn⟩, hr⟩ => by
    refine ⟨⟨aa, ac, fun j u hu => ?_, ha.keep fun b' o' h' => by simp only [World.cell?, hk b' h'], hn⟩, BdAt.keep hk hb hr⟩
    rw [← hc j u hu]
    simp only [World.cell?, hb]
theorem BdAt.mono {w : World} {B B' : Nat} (hB : B ≤ B') : ∀ {l : List Bd} {b o : Nat}, BdAt w B l b o → BdAt w B' l b o
  | [], _, _, _ => trivial
  | x :: r, b, o, ⟨⟨aa, ac, hc, ha, hn⟩, hr⟩ => ⟨⟨aa, ac, hc, ha.mono hB, hn⟩, BdAt.mono hB hr⟩
theorem BdAt.take {w : World} {B : Nat} : ∀ {l : List Bd} {b o : Nat} (k : Nat), BdAt w B l b o → BdAt w B (l.take k) b o
  | [], _, _, k, h => by simpa using h
  | x :: r, b, o, 0, h => trivial
  | x :: r, b, o, k + 1, h => ⟨h.1, BdAt.take k h.2⟩
theorem BsV.below {w w' : World} {B B' : Nat} {v : Value} {bs : List Bd} (h : BsV w B v bs) (hb : Below B' w w') (hB : B ≤ B') : BsV w' B v bs := by
  obtain ⟨h1, h2, ao, cap, rfl, h3, h4, h5, hh⟩ := h
  refine ⟨h1, h2, ao, cap, rfl, h3, h4, h5, fun hl => ?_⟩
  obtain ⟨b, o, e, hlt, hat⟩ := hh hl
  exact ⟨b, o, e, hlt, BdAt.keep (fun x hx => hb.block x (Nat.lt_of_lt_of_le hx hB)) (hb.block b (Nat.lt_of_lt_of_le hlt hB)) hat⟩
theorem BsV.mono {w : World} {B B' : Nat} {v : Value} {bs : List Bd} (h : BsV w B v bs) (hB : B ≤ B') : BsV w B' v bs := by
  obtain ⟨h1, h2, ao, cap, rfl, h3, h4, h5, hh⟩ := h
  refine ⟨h1, h2, ao, cap, rfl, h3, h4, h5, fun hl => ?_⟩
  obtain ⟨b, o, e, hlt, hat⟩ := hh hl
  exact ⟨b, o, e, Nat.lt_of_lt_of_le hlt hB, hat.mono hB⟩
theorem BsV.shape {w : World} {B : Nat} {v : Value} {bs : List Bd} (h : BsV w B v bs) : ∃ ao cap, v = .slice ao bs.length cap := by
  obtain ⟨_, _, ao, cap, rfl, _⟩ := h
  exact ⟨ao, cap, rfl⟩
theorem BsV.nil (w : World) (B : Nat) : BsV w B (.slice none 0 0) [] := ⟨by simp, by simp, none, 0, rfl, Nat.le_refl _, by omega, fun _ => rfl, fun h => absurd rfl h⟩
theorem BsV.num {w : World} {B : Nat} {ao : Option Addr} {n cap : Nat} {bs : List Bd} (h : BsV w B (.slice ao n cap) bs) : n = bs.length ∧ n ≤ 9223372036854775807 ∧ n ≤ cap ∧ cap ≤ 9223372036854775807 ∧ (ao = none → cap = 0) ∧ n * 80 ≤ 140737488355328 := by
  obtain ⟨ao', cap', he, h1, h2, h3, _⟩ := h.row
  have hl := h.len
  simp only [Value.slice.injEq] at he
  obtain ⟨rfl, rfl, rfl⟩ := he
  exact ⟨rfl, by omega, h1, h2, h3, hl⟩
theorem BdAt.drop {w : World} {B : Nat} : ∀ {l : List Bd} {b o : Nat} (k : Nat) (x : Bd), BdAt w B l b o → l[k]? = some x →
    ∃ aa ac, (∀ j u, (encB x (.slice aa x.ev.ats.length ac))[j]? = some u → w.cell? ⟨b, o + k * 6 + j, none⟩ = some u) ∧ Av w B (.slice aa x.ev.ats.length ac) x.ev.ats ∧ (aa = none → ac = 0)
  | [], _, _, k, x, _, hx => by simp at hx
  | y :: r, b, o, 0, x, h, hx => by
    obtain rfl : y = x := by simpa using hx
    obtain ⟨aa, ac, hc, ha⟩ := h.1
    exact ⟨aa, ac, fun j u hu => by rw [Nat.zero_mul, Nat.add_zero]; exact hc j u hu, ha⟩
  | y :: r, b, o, k + 1, x, h, hx => by
    obtain ⟨aa, ac, hc, ha⟩ := BdAt.drop k x h.2 (by simpa using hx)
    exact ⟨aa, ac, fun j u hu => by rw [show o + (k + 1) * 6 + j = o + 6 + k * 6 + j by omega]; exact hc j u hu, ha⟩
theorem six_cells {w : World} {b a : Nat} {x : Bd} {v : Value} (h : ∀ i u, (encB x v)[i]? = some u → w.cell? ⟨b, a + i, none⟩ = some u) :
    w.cell? ⟨b, a, none⟩ = some (.string x.var) ∧ w.cell? ⟨b, a + 1, none⟩ = some (.int .i64 x.ev.src) ∧ w.cell? ⟨b, a + 2, none⟩ = some (.int .i64 x.ev.seq) ∧ w.cell? ⟨b, a + 3, none⟩ = some (.int .i64 x.ev.time) ∧ w.cell? ⟨b, a + 4, none⟩ = some (.string x.ev.ty) ∧ w.cell? ⟨b, a + 5, none⟩ = some v :=
  ⟨h 0 _ rfl, h 1 _ rfl, h 2 _ rfl, h 3 _ rfl, h 4 _ rfl, h 5 _ rfl⟩
/-- Where the k-th of a slice of bounds lies. -/
theorem BsV.at {w : World} {B : Nat} {ao : Option Addr} {n cap k : Nat} {bs : List Bd} (h : BsV w B (.slice ao n cap) bs) (hk : k < n) :
    ∃ b o aa ac, ao = some ⟨b, o, none⟩ ∧ b < B ∧ k < bs.length ∧ bs[k]!.var.size ≤ maxLen ∧ bs[k]!.ev.ty.size ≤ maxLen ∧ (aa = none → ac = 0) ∧ Av w B (.slice aa bs[k]!.ev.ats.length ac) bs[k]!.ev.ats ∧
      ∀ u : World, Below B w u → ∀ j v, (encB bs[k]! (.slice aa bs[k]!.ev.ats.length ac))[j]? = some v → u.cell? ⟨b, o + k * 6 + j, none⟩ = some v := by
  obtain ⟨hw, _, ao', cap', he, h1, h2, h3, hh⟩ := h
  simp only [Value.slice.injEq] at he
  obtain ⟨rfl, rfl, rfl⟩ := he
  obtain ⟨b, o, rfl, hlt, hat⟩ := hh (fun e => by rw [e] at hk; simp at hk)
  obtain ⟨aa, ac, hc, ha, hn⟩ := hat.drop k bs[k]! (by rw [getElem!_pos bs k hk, List.getElem?_eq_getElem hk])
  have hx := hw bs[k]! (by rw [getElem!_pos bs k hk]; exact List.getElem_mem _)
  exact ⟨b, o, aa, ac, rfl, hlt, hk, hx.1, hx.2, hn, ha, fun u hu j v hj => by rw [hu.cell (p := ⟨b, _, none⟩) hlt]; exact hc j v hj⟩
/-- The first k of them. -/
theorem BsV.take {w : World} {B : Nat} {ao : Option Addr} {n cap k : Nat} {bs : List Bd} (h : BsV w B (.slice ao n cap) bs) (hk : k ≤ n) : BsV w B (.slice ao k cap) (bs.take k) := by
  obtain ⟨hw, hl, ao', cap', he, h1, h2, h3, hh⟩ := h
  simp only [Value.slice.injEq] at he
  obtain ⟨rfl, rfl, rfl⟩ := he
  have hlk : (bs.take k).length = k := by rw [List.length_take]; omega
  refine ⟨fun x hx => hw x (List.mem_of_mem_take hx), by rw [hlk]; omega, ao, cap, by rw [hlk], by rw [hlk]; omega, h2, h3, fun hne => ?_⟩
  obtain ⟨b, o, e, hlt, hat⟩ := hh (fun e => hne (by rw [e]; exact List.take_nil))
  exact ⟨b, o, e, hlt, hat.take k⟩
theorem take_one {bs : List Bd} {k : Nat} (hk : k < bs.length) : bs.take (k + 1) = bs.take k ++ [bs[k]!] := by
  rw [List.take_succ_eq_append_getElem hk, getElem!_pos bs k hk]
theorem cells_six {w : World} {q : Nat} {c0 c1 c2 c3 c4 c5 : Value} {t : Nat} (h : w.heap[q]? = some (.cells #[c0, c1, c2, c3, c4, c5] t (0, 0))) :
    w.cell? ⟨q, 0, none⟩ = some c0 ∧ w.cell? ⟨q, 1, none⟩ = some c1 ∧ w.cell? ⟨q, 2, none⟩ = some c2 ∧ w.cell? ⟨q, 3, none⟩ = some c3 ∧ w.cell? ⟨q, 4, none⟩ = some c4 ∧ w.cell? ⟨q, 5, none⟩ = some c5 := by
  refine ⟨?_, ?_, ?_, ?_, ?_, ?_⟩ <;> simp [World.cell?, h]
theorem cells_one0 {w : World} {q : Nat} {c0 : Value} {t : Nat} (h : w.heap[q]? = some (.cells #[c0] t (0, 0))) : w.cell? ⟨q, 0, none⟩ = some c0 := by simp [World.cell?, h]
/-- A contract that ends in 'Below', met in a world of the class of a region whose operations only read. -/
theorem rg {P : Program} {f : FuncId} {args : Array Value} {w : World} {v : Value} (h : ∀ u, Below w.heap.size w u → Calls P f args u fun e w' => e = .returned v ∧ Below u.heap.size u w') (d : Nat) (os : Array Obj) :
    Calls P f args (Sort.grow (redrawn w d) os) fun e w'' => e = .returned v ∧ ∃ p : Regrown, w'' = Sort.grow (redrawn w p.d) p.os := Calls.regrown_of (h _ (below_regrown w d os))
theorem ret_bool0 {a b : Bool} (h : a = b) : Ending.returned (.bool a) = Ending.returned (.bool b) := by rw [h]
theorem ret_int0 {k : IntKind} {a b : Int} (h : a = b) : Ending.returned (.int k a) = Ending.returned (.int k b) := by rw [h]
end Go.Proofs.YtcnecokamckfaaaGreatDoor

/- Contracts: whether a bound may stand where it does. -/
namespace Go.Proofs.YtcnecokamckfaaaGreatDoor
open Go Go.RowKit

set_option maxRecDepth 100000 in
set_option maxHeartbeats 1600000 in
theorem mMayStand1_any (P : Nat) (x y : Bd) (v u : Value) (w : World) (hP : w.heap[P]? = some (.cells #[.string x.var, .int .i64 x.ev.src, .int .i64 x.ev.seq, .int .i64 x.ev.time, .string x.ev.ty, v] 54 (0, 0))) :
    Calls Tryz.prog 92 #[bdV y u, .pointer (some ⟨P, 0, none⟩)] w fun e w' => e = .returned (.bool (idE y x)) ∧ Below w.heap.size w w' := by
  have e1 := idEq_run y.ev.src y.ev.seq x.ev.src x.ev.seq
  have g1 := fun op a b => idGuard op a b y.ev.src y.ev.seq x.ev.src x.ev.seq
  rw [show (decide (y.ev.src = x.ev.src) && decide (y.ev.seq = x.ev.seq)) = idE y x from rfl] at e1
  have hlt := lt_of_block hP
  obtain ⟨c0, c1, c2, c3, c4, c5⟩ := cells_six hP
  have hne : P ≠ w.heap.size := by omega
  generalize idE y x = r at e1 ⊢
  unfold bdV
  clear hP
  go_enter Tryz.func92, Tryz.ntmps92
  go_wp2
  go_ret
  exact ⟨rfl, (Below.refl _ _).alloc (Nat.le_refl _) _⟩

set_option maxRecDepth 100000 in
set_option maxHeartbeats 3200000 in
theorem IndexFuncBd_any (P : Nat) (x : Bd) (v : Value) (B : Nat) (ao : Option Addr) (n cap : Nat) (bs : List Bd) (w : World) (h : BsV w B (.slice ao n cap) bs) (hB : B ≤ w.heap.size)
    (hP : w.heap[P]? = some (.cells #[.string x.var, .int .i64 x.ev.src, .int .i64 x.ev.seq, .int .i64 x.ev.time, .string x.ev.ty, v] 54 (0, 0))) :
    Calls Tryz.prog 130 #[.slice ao n cap, .func (.func 92) #[] #[.pointer (some ⟨P, 0, none⟩)]] w fun e w' => ∃ i : Int, e = .returned (.int .i64 i) ∧ decide (0 ≤ i) = (bs.any fun o => idE o x) ∧ Below w.heap.size w w' := by
  obtain ⟨hn, hn63, _⟩ := h.num
  have HN := Lib.hid hn
  have HH := Lib.hid h
  have hlt := lt_of_block hP
  have HPP := Lib.hid (fun (u : World) (hu : Below w.heap.size w u) => (hu.block P hlt).trans hP)
  have HBB := Lib.hid hB
  have eg : ∀ args w, (callFunc 92 args).run Tryz.prog w = .ok (.enter 92 args) w := enters_of Tryz.func92 (by kernel_rfl) rfl
  clear h hn hP hB hlt
  go_enter Tryz.func130, Tryz.ntmps130
  go_wp2_with fail
  go_loopw [8] (fun iv wr => ∃ k : Nat, k ≤ n ∧ iv = .int .i64 k ∧ Hid (∀ o ∈ bs.take k, idE o x = false) ∧ Below w.heap.size w wr) (fun iv _ => n - (intOf iv).toNat)
  case atStart => exact ⟨0, Nat.zero_le _, rfl, Lib.hid (fun o ho => by simp at ho), Below.refl _ _⟩
  case round =>
    obtain ⟨k, hk, rfl, HK, hb⟩ := hrel
    have HB := Lib.hid hb; clear hb
    by_cases hlt : k < n
    · obtain ⟨b, o, aa, ac, rfl, hbB, hkl, _, _, _, _, hc⟩ := HH.out.at hlt
      obtain ⟨a0, a1, a2, a3, a4, a5⟩ := six_cells (hc _ (HB.out.mono HBB.out))
      have HT := Lib.hid (take_one hkl)
      obtain ⟨y, hy⟩ : ∃ x, x = bs[k]! := ⟨_, rfl⟩
      rw [← hy] at a0 a1 a2 a3 a4 a5 HT
      have HC := Lib.hid (fun u => mMayStand1_any P x y u v)
      have HC := Lib.hid (mMayStand1_any P x y v (.slice aa y.ev.ats.length ac) _ (HPP.out _ HB.out))
      have HM : Hid (y ∈ bs) := by rw [hy, getElem!_pos bs k hkl]; exact List.getElem_mem _
      unfold bdV at HC
      have e1 : IntKind.i64.wrap ((k : Int) + 1) = (k : Int) + 1 := IntWalk.i64_in _ (by omega)
      clear hy hc hkl
      cases hr : idE y x with
      | true =>
        rw [hr] at HC
        have HR := Lib.hid hr
        clear hr
        go_wp2_with (go_at_fn 92; (with_reducible refine HC.out.mono ?_); rintro e w1 ⟨rfl, hb⟩; have HB1 := Lib.hid hb; clear hb)
        go_ret
        refine ⟨_, rfl, ?_, HB.out.trans (HB1.out.mono HB.out.size)⟩
        rw [List.any_eq_true.2 ⟨y, HM.out, HR.out⟩]
        exact decide_eq_true (by omega)
      | false =>
        rw [hr] at HC
        have HR := Lib.hid hr
        clear hr
        go_wp2_with (go_at_fn 92; (with_reducible refine HC.out.mono ?_); rintro e w1 ⟨rfl, hb⟩; have HB1 := Lib.hid hb; clear hb)
        go_roundw
        case rel => exact ⟨k + 1, by omega, by go_num, Lib.hid (fun o ho => by rw [HT.out] at ho; rcases List.mem_append.1 ho with ho | ho; exact HK.out o ho; rw [List.mem_singleton.1 ho]; exact HR.out), HB.out.trans (HB1.out.mono HB.out.size)⟩
        case measure => simp [intOf]; omega
    · go_wp2
      go_ret
      refine ⟨_, rfl, ?_, HB.out⟩
      have : (bs.any fun o => idE o x) = false := by
        rw [List.any_eq_false]
        intro o ho
        rw [HK.out o (by rw [List.take_of_length_le (by have := HN.out; omega)]; exact ho)]
        exact Bool.false_ne_true
      rw [this]; rfl

set_option maxRecDepth 100000 in
set_option maxHeartbeats 1600000 in
theorem ContainsBd_any (P : Nat) (x : Bd) (v : Value) (B : Nat) (ao : Option Addr) (n cap : Nat) (bs : List Bd) (w : World) (h : BsV w B (.slice ao n cap) bs) (hB : B ≤ w.heap.size)
    (hP : w.heap[P]? = some (.cells #[.string x.var, .int .i64 x.ev.src, .int .i64 x.ev.seq, .int .i64 x.ev.time, .string x.ev.ty, v] 54 (0, 0))) :
    Calls Tryz.prog 91 #[.slice ao n cap, .func (.func 92) #[] #[.pointer (some ⟨P, 0, none⟩)]] w fun e w' => e = .returned (.bool (bs.any fun o => idE o x)) ∧ Below w.heap.size w w' := by
  have HC := Lib.hid (IndexFuncBd_any P x v B ao n cap bs w h hB hP)
  clear h hB hP
  go_enter Tryz.func91, Tryz.ntmps91
  go_wp2_with (go_at_call 130; (with_reducible refine HC.out.mono ?_); rintro e w1 ⟨i, rfl, hi, hb⟩; have HB1 := Lib.hid hb; have HI := Lib.hid hi; clear hb hi)
  go_ret
  exact ⟨ret_bool0 HI.out, HB1.out⟩
end Go.Proofs.YtcnecokamckfaaaGreatDoor
