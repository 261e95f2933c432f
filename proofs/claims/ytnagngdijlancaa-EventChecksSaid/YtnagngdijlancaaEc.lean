/- Events: Clone, the program's and the document's: the same event, its attributes a row of its own. -/
import Derived.Test.YtnagngdijlancaaEs
import Derived.Test.YtnagngdijlancaaBv
namespace Go.Proofs.Ytnagngdijlancaa
open Go Go.RowKit

theorem infoAttr : (Try.prog.info? 91).map (fun i => (i.zero, i.size, i.bytes)) = some (some (.agg #[.string ⟨#[]⟩, .int .i64 0, .int .i64 0, .string ⟨#[]⟩]), 4, 48) := by kernel_rfl
theorem cell_of_five {w : World} {q : Nat} {c0 c1 c2 c3 c4 : Value} {t : Nat} {fr : Nat × Nat} (h : w.heap[q]? = some (.cells #[c0, c1, c2, c3, c4] t fr)) :
    w.cell? ⟨q, 0, none⟩ = some c0 ∧ w.cell? ⟨q, 1, none⟩ = some c1 ∧ w.cell? ⟨q, 2, none⟩ = some c2 ∧ w.cell? ⟨q, 3, none⟩ = some c3 ∧ w.cell? ⟨q, 4, none⟩ = some c4 := by
  refine ⟨?_, ?_, ?_, ?_, ?_⟩ <;> simp [World.cell?, h]
theorem free_of_five {w : World} {q : Nat} {c0 c1 c2 c3 c4 : Value} {t : Nat} (h : w.heap[q]? = some (.cells #[c0, c1, c2, c3, c4] t (0, 0))) :
    w.frozen? ⟨q, 0, none⟩ = false ∧ w.frozen? ⟨q, 1, none⟩ = false ∧ w.frozen? ⟨q, 2, none⟩ = false ∧ w.frozen? ⟨q, 3, none⟩ = false ∧ w.frozen? ⟨q, 4, none⟩ = false := by
  refine ⟨?_, ?_, ?_, ?_, ?_⟩ <;> simp [World.frozen?, h]
theorem own_slice {w : World} {B e size n : Nat} {v : Value} {xs : List Value} (h : w.ownsRow B e size v n xs) : ∃ ao cap, v = .slice ao n cap := by
  rcases h.2 with ⟨hv, hn0⟩ | ⟨g, cap, cur, hv, _⟩
  · exact ⟨none, 0, by rw [hv, hn0]⟩
  · exact ⟨_, _, hv⟩
theorem heap_alloc_at {w : World} {ob o : Obj} {q : Nat} (hq : q = w.heap.size) (h : ob = o) : (w.alloc o).heap[q]? = some ob := by
  subst hq h; exact heap_alloc_new w _
theorem five_set {w : World} {q : Nat} {c0 c1 c2 c3 c4 : Value} {t : Nat} (h : w.heap[q]? = some (.cells #[c0, c1, c2, c3, c4] t (0, 0))) (d0 d1 d2 d3 d4 : Value) :
    (((((w.setCell ⟨q, 0, none⟩ d0).setCell ⟨q, 1, none⟩ d1).setCell ⟨q, 2, none⟩ d2).setCell ⟨q, 3, none⟩ d3).setCell ⟨q, 4, none⟩ d4).heap[q]? = some (.cells #[d0, d1, d2, d3, d4] t (0, 0)) := by
  rw [heap_setCell_same (heap_setCell_same (heap_setCell_same (heap_setCell_same (heap_setCell_same h _) _) _) _) _]
  simp
theorem heap_setCell_far {w : World} {q : Nat} {p : Addr} {ob : Obj} (h : w.heap[q]? = some ob) (hne : q ≠ p.block) (u : Value) : (w.setCell p u).heap[q]? = some ob := by
  rw [Below.heap_setCell _ _ _ _ hne]; exact h
theorem below_five {B q : Nat} {a w : World} (h : Below B a w) (hq : B ≤ q) (d0 d1 d2 d3 d4 : Value) :
    Below B a (((((w.setCell ⟨q, 0, none⟩ d0).setCell ⟨q, 1, none⟩ d1).setCell ⟨q, 2, none⟩ d2).setCell ⟨q, 3, none⟩ d3).setCell ⟨q, 4, none⟩ d4) :=
  ((((h.setCell (p := ⟨q, 0, none⟩) hq _).setCell (p := ⟨q, 1, none⟩) hq _).setCell (p := ⟨q, 2, none⟩) hq _).setCell (p := ⟨q, 3, none⟩) hq _).setCell (p := ⟨q, 4, none⟩) hq _
theorem own_five {w : World} {base e size n q t : Nat} {v : Value} {xs : List Value} (h : w.ownsRow base e size v n xs) {c0 c1 c2 c3 c4 : Value} (hq : w.heap[q]? = some (.cells #[c0, c1, c2, c3, c4] t (0, 0))) (hne : t ≠ e) (d0 d1 d2 d3 d4 : Value) :
    (((((w.setCell ⟨q, 0, none⟩ d0).setCell ⟨q, 1, none⟩ d1).setCell ⟨q, 2, none⟩ d2).setCell ⟨q, 3, none⟩ d3).setCell ⟨q, 4, none⟩ d4).ownsRow base e size v n xs := by
  have a0 := heap_setCell_same (k := 0) hq d0
  have a1 := heap_setCell_same (k := 1) a0 d1
  have a2 := heap_setCell_same (k := 2) a1 d2
  have a3 := heap_setCell_same (k := 3) a2 d3
  have b0 := ownsRow_setCell_typed (a := ⟨q, 0, none⟩) h hq hne d0
  have b1 := ownsRow_setCell_typed (a := ⟨q, 1, none⟩) b0 a0 hne d1
  have b2 := ownsRow_setCell_typed (a := ⟨q, 2, none⟩) b1 a1 hne d2
  have b3 := ownsRow_setCell_typed (a := ⟨q, 3, none⟩) b2 a2 hne d3
  exact ownsRow_setCell_typed (a := ⟨q, 4, none⟩) b3 a3 hne d4

set_option maxRecDepth 100000 in
set_option maxHeartbeats 1600000 in
/-- What comes back: the same attributes in a row of the call's own; nil of nil. -/
theorem cloneAt_any (B : Nat) (ao : Option Addr) (n cap : Nat) (xs : List At) (w : World) (h : Av w B (.slice ao n cap) xs) :
    Calls Try.prog 69 #[.slice ao n cap] w fun e w' => ∃ v', e = .returned v' ∧ w'.ownsRow w.heap.size 91 4 v' xs.length (xs.flatMap enc4) ∧ Below w.heap.size w w' := by
  obtain ⟨i0, hi, hz0, hz1, hz2⟩ := info_parts infoAttr
  obtain ⟨hn, hn63⟩ := h.num
  have q := fun (w : World) (a : Option Addr) (n c n' c' : Nat) => Lib.run_eql_slice_nil w 24 91 a n c n' c' Try.underlying24
  cases ao with
  | none =>
    have h0 : n = 0 := by
      rcases Nat.eq_zero_or_pos n with h0 | h0
      · exact h0
      · obtain ⟨b, o, he, _⟩ := h.at h0
        cases he
    obtain rfl : xs = [] := List.length_eq_zero_iff.1 (by omega)
    clear h hn
    go_enter Try.func69, Try.ntmps69
    go_wp2
    go_ret
    exact ⟨_, rfl, World.ownsRow_nil _ _ _ _, Below.refl _ _⟩
  | some ad =>
    have hc : ∀ j u, (xs.flatMap enc4)[j]? = some u → w.cell? (ad.add j) = some u := fun j u hj => by
      have hjl := (List.getElem?_eq_some_iff.1 hj).1
      rw [flat4_len] at hjl
      obtain ⟨b, o, he, _, _, _, _, hc⟩ := h.at (by omega)
      simp only [Option.some.injEq] at he
      subst he
      have h1 : j / 4 < xs.length := by omega
      have hx : (enc4 xs[j / 4]!)[j % 4]? = some u := by
        have hlt : j % 4 < (enc4 xs[j / 4]!).length := by rw [enc4_len]; omega
        have h2 := flat_at xs (j / 4) (j % 4) h1 _ (List.getElem?_eq_getElem hlt)
        rw [show j / 4 * 4 + j % 4 = j by omega, hj] at h2
        rw [List.getElem?_eq_getElem hlt, ← h2]
      have h3 := hc (j / 4) h1 (j % 4) u hx
      have e : (⟨b, o, none⟩ : Addr).add j = ⟨b, o + j, none⟩ := by unfold Addr.add; split <;> simp_all
      rw [e, show o + j = o + j / 4 * 4 + j % 4 by omega]; exact h3
    have hl48 := h.len
    have HC := Lib.hid hc; have HN := Lib.hid hn
    clear h hn hc
    go_enter Try.func69, Try.ntmps69
    go_wp2_with (at_builtin; refine wpList_append_own _ rfl _ _ 24 rfl w.heap.size 91 i0 (.agg #[.string ⟨#[]⟩, .int .i64 0, .int .i64 0, .string ⟨#[]⟩]) 4 48 Try.underlying24 hi hz0 hz1 hz2 rfl (by decide) _ _ _ rfl (World.ownsRow_made w #[] 0 (Nat.le_refl _) (Nat.zero_le _) (by simp)) ad n cap (xs.flatMap enc4) rfl (by rw [flat4_len, HN.out]) (fun j u hj => Lib.cell?_alloc_some _ (HC.out j u hj)) (flat4_one xs) (by unfold maxLen; omega) (by have := HN.out; omega) (by simp) ?_; intro v' w1 hown hgrow hnil; clear hnil; have HO := Lib.hid hown; have HG := Lib.hid hgrow; clear hown hgrow)
    go_ret
    refine ⟨_, rfl, by have := HO.out; rw [HN.out] at this; simpa using this, ?_⟩
    exact ((Below.refl _ w).alloc (Nat.le_refl _) _).grown HG.out (by simp) (fun k hk => ((World.ownsRow_made (base := w.heap.size) (e := 91) (size := 4) w #[] 0 (Nat.le_refl _) (Nat.zero_le _) (by simp)).lt k hk).1)

set_option maxRecDepth 100000 in
set_option maxHeartbeats 1600000 in
theorem eClone_any (ev : Ev) (B : Nat) (ao : Option Addr) (n cap : Nat) (w : World) (h : Av w B (.slice ao n cap) ev.ats) (hB : B ≤ w.heap.size) :
    Calls Try.prog 18 #[evV ev (.slice ao n cap)] w fun e w' => ∃ v', e = .returned (evV ev v') ∧ w'.ownsRow w.heap.size 91 4 v' ev.ats.length (ev.ats.flatMap enc4) ∧ Below w.heap.size w w' := by
  obtain ⟨s, q, t, ty, ats⟩ := ev
  simp only at h
  unfold evV
  simp only
  have hbel : Below w.heap.size w ((w.alloc (.cells #[.int .i64 s, .int .i64 q, .int .i64 t, .string ty, .slice ao n cap] 26)).alloc (.cells #[.int .i64 0, .int .i64 0, .int .i64 0, .string ⟨#[]⟩, .slice none 0 0] 26)) := ((Below.refl _ _).alloc (Nat.le_refl _) _).alloc (by simp) _
  have C := cloneAt_any B ao n cap ats _ (h.below hbel hB)
  have hq0 : ((w.alloc (.cells #[.int .i64 s, .int .i64 q, .int .i64 t, .string ty, .slice ao n cap] 26)).alloc (.cells #[.int .i64 0, .int .i64 0, .int .i64 0, .string ⟨#[]⟩, .slice none 0 0] 26)).heap[w.heap.size]? = some (.cells #[.int .i64 s, .int .i64 q, .int .i64 t, .string ty, .slice ao n cap] 26 (0, 0)) := heap_alloc_keeps (heap_alloc_new w _) _
  have hq1 : ((w.alloc (.cells #[.int .i64 s, .int .i64 q, .int .i64 t, .string ty, .slice ao n cap] 26)).alloc (.cells #[.int .i64 0, .int .i64 0, .int .i64 0, .string ⟨#[]⟩, .slice none 0 0] 26)).heap[w.heap.size + 1]? = some (.cells #[.int .i64 0, .int .i64 0, .int .i64 0, .string ⟨#[]⟩, .slice none 0 0] 26 (0, 0)) := heap_alloc_at (by simp) rfl
  have HQ0 := hide hq0; have HQ1 := hide hq1; have HBel := hide hbel
  obtain ⟨X, hX⟩ : ∃ X, X = ats.length := ⟨_, rfl⟩
  obtain ⟨Y, hY⟩ : ∃ Y, Y = ats.flatMap enc4 := ⟨_, rfl⟩
  rw [← hX, ← hY] at C ⊢
  have HC := hide C
  clear h hB hq0 hq1 hbel hX hY C
  go_enter Try.func18, Try.ntmps18
  go_wp2_with fail
  refine HC.out.mono ?_
  rintro e w3 ⟨v3, rfl, hown, hb⟩
  obtain ⟨ao3, cap3, rfl⟩ := own_slice hown
  have p0 := (hb.block w.heap.size (by simp <;> omega)).trans HQ0.out
  have p1 := (hb.block (w.heap.size + 1) (by simp)).trans HQ1.out
  obtain ⟨c0, c1, c2, c3, c4⟩ := cell_of_five p0
  obtain ⟨f0, f1, f2, f3, f4⟩ := free_of_five p0
  obtain ⟨d0, d1, d2, d3, d4⟩ := cell_of_five p1
  obtain ⟨g0, g1, g2, g3, g4⟩ := free_of_five p1
  have HP0 := hide p0
  have HP1 := hide (heap_setCell_far (p := ⟨w.heap.size, 4, none⟩) p1 (by simp) (.slice ao3 X cap3))
  have HO := hide hown; have HB := hide hb
  clear hown hb p0 p1
  go_wp2
  have z := cell_of_five (five_set HP1.out (.int .i64 s) (.int .i64 q) (.int .i64 t) (.string ty) (.slice ao3 X cap3))
  refine bodyPost_ret (v := .agg #[.int .i64 s, .int .i64 q, .int .i64 t, .string ty, .slice ao3 X cap3]) (by simp [results, Try.results18, go_sem, z]) rfl ⟨_, rfl, ?_, ?_⟩
  · have o1 := ownsRow_setCell_typed (a := ⟨w.heap.size, 4, none⟩) HO.out HP0.out (by decide) (.slice ao3 X cap3)
    exact ownsRow_lower (own_five o1 HP1.out (by decide) _ _ _ _ _) (by simp <;> omega)
  · exact below_five ((HBel.out.trans (HB.out.mono (by simp <;> omega))).setCell (p := ⟨w.heap.size, 4, none⟩) (Nat.le_refl _) _) (by omega) _ _ _ _ _
end Go.Proofs.Ytnagngdijlancaa
