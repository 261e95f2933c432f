/- Contracts: Clone, the program's and the document's: the same datagram, its body a row of its own. -/
import Derived.Test.YtebojmjbolphfaaBv
namespace Go.Proofs.Ytebojmjbolphfaa
open Go Go.RowKit

theorem cell_of_six {w : World} {q : Nat} {c0 c1 c2 c3 c4 c5 : Value} {t : Nat} (h : w.heap[q]? = some (.cells #[c0, c1, c2, c3, c4, c5] t (0, 0))) :
    w.cell? ⟨q, 0, none⟩ = some c0 ∧ w.cell? ⟨q, 1, none⟩ = some c1 ∧ w.cell? ⟨q, 2, none⟩ = some c2 ∧ w.cell? ⟨q, 3, none⟩ = some c3 ∧ w.cell? ⟨q, 4, none⟩ = some c4 ∧ w.cell? ⟨q, 5, none⟩ = some c5 := by
  refine ⟨?_, ?_, ?_, ?_, ?_, ?_⟩ <;> simp [World.cell?, h]
theorem free_of_six {w : World} {q : Nat} {c0 c1 c2 c3 c4 c5 : Value} {t : Nat} (h : w.heap[q]? = some (.cells #[c0, c1, c2, c3, c4, c5] t (0, 0))) :
    w.frozen? ⟨q, 0, none⟩ = false ∧ w.frozen? ⟨q, 1, none⟩ = false ∧ w.frozen? ⟨q, 2, none⟩ = false ∧ w.frozen? ⟨q, 3, none⟩ = false ∧ w.frozen? ⟨q, 4, none⟩ = false ∧ w.frozen? ⟨q, 5, none⟩ = false := by
  refine ⟨?_, ?_, ?_, ?_, ?_, ?_⟩ <;> simp [World.frozen?, h]
theorem own_slice {w : World} {B e size n : Nat} {v : Value} {xs : List Value} (h : w.ownsRow B e size v n xs) : ∃ ao cap, v = .slice ao n cap := by
  rcases h.2 with ⟨hv, hn0⟩ | ⟨g, cap, cur, hv, _⟩
  · exact ⟨none, 0, by rw [hv, hn0]⟩
  · exact ⟨_, _, hv⟩
theorem heap_alloc_at {w : World} {ob o : Obj} {q : Nat} (hq : q = w.heap.size) (h : ob = o) : (w.alloc o).heap[q]? = some ob := by
  subst hq h; exact heap_alloc_new w _

/-- A block of six cells, all of them written. -/
theorem six_set {w : World} {q : Nat} {c0 c1 c2 c3 c4 c5 : Value} {t : Nat} (h : w.heap[q]? = some (.cells #[c0, c1, c2, c3, c4, c5] t (0, 0))) (d0 d1 d2 d3 d4 d5 : Value) :
    ((((((w.setCell ⟨q, 0, none⟩ d0).setCell ⟨q, 1, none⟩ d1).setCell ⟨q, 2, none⟩ d2).setCell ⟨q, 3, none⟩ d3).setCell ⟨q, 4, none⟩ d4).setCell ⟨q, 5, none⟩ d5).heap[q]? = some (.cells #[d0, d1, d2, d3, d4, d5] t (0, 0)) := by
  rw [heap_setCell_same (heap_setCell_same (heap_setCell_same (heap_setCell_same (heap_setCell_same (heap_setCell_same h _) _) _) _) _) _]
  simp
theorem heap_setCell_far {w : World} {q : Nat} {p : Addr} {ob : Obj} (h : w.heap[q]? = some ob) (hne : q ≠ p.block) (u : Value) : (w.setCell p u).heap[q]? = some ob := by
  rw [Below.heap_setCell _ _ _ _ hne]; exact h
theorem below_six {B q : Nat} {a w : World} (h : Below B a w) (hq : B ≤ q) (d0 d1 d2 d3 d4 d5 : Value) :
    Below B a ((((((w.setCell ⟨q, 0, none⟩ d0).setCell ⟨q, 1, none⟩ d1).setCell ⟨q, 2, none⟩ d2).setCell ⟨q, 3, none⟩ d3).setCell ⟨q, 4, none⟩ d4).setCell ⟨q, 5, none⟩ d5) :=
  (((((h.setCell (p := ⟨q, 0, none⟩) hq _).setCell (p := ⟨q, 1, none⟩) hq _).setCell (p := ⟨q, 2, none⟩) hq _).setCell (p := ⟨q, 3, none⟩) hq _).setCell (p := ⟨q, 4, none⟩) hq _).setCell (p := ⟨q, 5, none⟩) hq _
theorem own_six {w : World} {base e size n q t : Nat} {v : Value} {xs : List Value} (h : w.ownsRow base e size v n xs) {c0 c1 c2 c3 c4 c5 : Value} (hq : w.heap[q]? = some (.cells #[c0, c1, c2, c3, c4, c5] t (0, 0))) (hne : t ≠ e) (d0 d1 d2 d3 d4 d5 : Value) :
    ((((((w.setCell ⟨q, 0, none⟩ d0).setCell ⟨q, 1, none⟩ d1).setCell ⟨q, 2, none⟩ d2).setCell ⟨q, 3, none⟩ d3).setCell ⟨q, 4, none⟩ d4).setCell ⟨q, 5, none⟩ d5).ownsRow base e size v n xs := by
  have a0 := heap_setCell_same (k := 0) hq d0
  have a1 := heap_setCell_same (k := 1) a0 d1
  have a2 := heap_setCell_same (k := 2) a1 d2
  have a3 := heap_setCell_same (k := 3) a2 d3
  have a4 := heap_setCell_same (k := 4) a3 d4
  have b0 := ownsRow_setCell_typed (a := ⟨q, 0, none⟩) h hq hne d0
  have b1 := ownsRow_setCell_typed (a := ⟨q, 1, none⟩) b0 a0 hne d1
  have b2 := ownsRow_setCell_typed (a := ⟨q, 2, none⟩) b1 a1 hne d2
  have b3 := ownsRow_setCell_typed (a := ⟨q, 3, none⟩) b2 a2 hne d3
  have b4 := ownsRow_setCell_typed (a := ⟨q, 4, none⟩) b3 a3 hne d4
  exact ownsRow_setCell_typed (a := ⟨q, 5, none⟩) b4 a4 hne d5

set_option maxRecDepth 100000 in
set_option maxHeartbeats 800000 in
theorem fClone_any (f t k s a : Int) (ao : Option Addr) (n cap B : Nat) (x : List Nat) (w : World) (hx : Bv w B (.slice ao n cap) x) (hB : B ≤ w.heap.size) :
    Calls Try.prog 15 #[.agg #[.int .i64 f, .int .i64 t, .int .i64 k, .int .i64 s, .int .i64 a, .slice ao n cap]] w
      fun e w' => ∃ v', e = .returned (.agg #[.int .i64 f, .int .i64 t, .int .i64 k, .int .i64 s, .int .i64 a, v']) ∧ w'.ownsRow w.heap.size 5 1 v' x.length (byteVs x) ∧ Below w.heap.size w w' := by
  have hbel : Below w.heap.size w ((w.alloc (.cells #[.int .i64 f, .int .i64 t, .int .i64 k, .int .i64 s, .int .i64 a, .slice ao n cap] 24)).alloc (.cells #[.int .i64 0, .int .i64 0, .int .i64 0, .int .i64 0, .int .i64 0, .slice none 0 0] 24)) := ((Below.refl _ _).alloc (Nat.le_refl _) _).alloc (by simp) _
  have C := cloneB_any _ B ao n cap x (hx.below hbel hB)
  have hq0 : ((w.alloc (.cells #[.int .i64 f, .int .i64 t, .int .i64 k, .int .i64 s, .int .i64 a, .slice ao n cap] 24)).alloc (.cells #[.int .i64 0, .int .i64 0, .int .i64 0, .int .i64 0, .int .i64 0, .slice none 0 0] 24)).heap[w.heap.size]? = some (.cells #[.int .i64 f, .int .i64 t, .int .i64 k, .int .i64 s, .int .i64 a, .slice ao n cap] 24 (0, 0)) := heap_alloc_keeps (heap_alloc_new w _) _
  have hq1 : ((w.alloc (.cells #[.int .i64 f, .int .i64 t, .int .i64 k, .int .i64 s, .int .i64 a, .slice ao n cap] 24)).alloc (.cells #[.int .i64 0, .int .i64 0, .int .i64 0, .int .i64 0, .int .i64 0, .slice none 0 0] 24)).heap[w.heap.size + 1]? = some (.cells #[.int .i64 0, .int .i64 0, .int .i64 0, .int .i64 0, .int .i64 0, .slice none 0 0] 24 (0, 0)) := heap_alloc_at (by simp) rfl
  have HQ0 := hide hq0; have HQ1 := hide hq1; have HBel := hide hbel
  obtain ⟨X, hX⟩ : ∃ X, X = x.length := ⟨_, rfl⟩
  rw [← hX] at C ⊢
  clear hx hB hq0 hq1 hbel hX
  go_enter Try.func15, Try.ntmps15
  go_wp2_with fail
  refine C.mono ?_
  clear C
  rintro e w3 ⟨v3, rfl, hown, hb⟩
  obtain ⟨ao3, cap3, rfl⟩ := own_slice hown
  have p0 := (hb.block w.heap.size (by simp <;> omega)).trans HQ0.out
  have p1 := (hb.block (w.heap.size + 1) (by simp)).trans HQ1.out
  obtain ⟨c0, c1, c2, c3, c4, c5⟩ := cell_of_six p0
  obtain ⟨f0, f1, f2, f3, f4, f5⟩ := free_of_six p0
  obtain ⟨d0, d1, d2, d3, d4, d5⟩ := cell_of_six p1
  obtain ⟨g0, g1, g2, g3, g4, g5⟩ := free_of_six p1
  have HP0 := hide p0
  have HP1 := hide (heap_setCell_far (p := ⟨w.heap.size, 5, none⟩) p1 (by simp) (.slice ao3 X cap3))
  have HO := hide hown; have HB := hide hb
  clear hown hb p0 p1
  go_wp2
  have z := cell_of_six (six_set HP1.out (.int .i64 f) (.int .i64 t) (.int .i64 k) (.int .i64 s) (.int .i64 a) (.slice ao3 X cap3))
  refine bodyPost_ret (v := .agg #[.int .i64 f, .int .i64 t, .int .i64 k, .int .i64 s, .int .i64 a, .slice ao3 X cap3]) (by simp [results, Try.results15, go_sem, z]) rfl ⟨_, rfl, ?_, ?_⟩
  · have o1 := ownsRow_setCell_typed (a := ⟨w.heap.size, 5, none⟩) HO.out HP0.out (by decide) (.slice ao3 X cap3)
    exact ownsRow_lower (own_six o1 HP1.out (by decide) _ _ _ _ _ _) (by simp <;> omega)
  · exact below_six ((HBel.out.trans (HB.out.mono (by simp <;> omega))).setCell (p := ⟨w.heap.size, 5, none⟩) (Nat.le_refl _) _) (by omega) _ _ _ _ _ _

set_option maxRecDepth 100000 in
set_option maxHeartbeats 800000 in
theorem r2Clone_any (f t k s a : Int) (ao : Option Addr) (n cap B : Nat) (x : List Nat) (w : World) (hx : Bv w B (.slice ao n cap) x) (hB : B ≤ w.heap.size) :
    Calls Try.prog 25 #[.agg #[.int .i64 f, .int .i64 t, .int .i64 k, .int .i64 s, .int .i64 a, .slice ao n cap]] w
      fun e w' => ∃ v', e = .returned (.agg #[.int .i64 f, .int .i64 t, .int .i64 k, .int .i64 s, .int .i64 a, v']) ∧ w'.ownsRow w.heap.size 5 1 v' x.length (byteVs x) ∧ Below w.heap.size w w' := by
  have hbel : Below w.heap.size w ((w.alloc (.cells #[.int .i64 f, .int .i64 t, .int .i64 k, .int .i64 s, .int .i64 a, .slice ao n cap] 24)).alloc (.cells #[.int .i64 0, .int .i64 0, .int .i64 0, .int .i64 0, .int .i64 0, .slice none 0 0] 24)) := ((Below.refl _ _).alloc (Nat.le_refl _) _).alloc (by simp) _
  have HX2 := hide (hx.below hbel hB)
  have hnx := hx.bytesIn.1
  have hxl := hx.len
  have hq0 : ((w.alloc (.cells #[.int .i64 f, .int .i64 t, .int .i64 k, .int .i64 s, .int .i64 a, .slice ao n cap] 24)).alloc (.cells #[.int .i64 0, .int .i64 0, .int .i64 0, .int .i64 0, .int .i64 0, .slice none 0 0] 24)).heap[w.heap.size]? = some (.cells #[.int .i64 f, .int .i64 t, .int .i64 k, .int .i64 s, .int .i64 a, .slice ao n cap] 24 (0, 0)) := heap_alloc_keeps (heap_alloc_new w _) _
  have hq1 : ((w.alloc (.cells #[.int .i64 f, .int .i64 t, .int .i64 k, .int .i64 s, .int .i64 a, .slice ao n cap] 24)).alloc (.cells #[.int .i64 0, .int .i64 0, .int .i64 0, .int .i64 0, .int .i64 0, .slice none 0 0] 24)).heap[w.heap.size + 1]? = some (.cells #[.int .i64 0, .int .i64 0, .int .i64 0, .int .i64 0, .int .i64 0, .slice none 0 0] 24 (0, 0)) := heap_alloc_at (by simp) rfl
  have HQ0 := hide hq0; have HQ1 := hide hq1; have HBel := hide hbel
  have hnb : n ≤ 140737488355328 := by omega
  have HX := hide hnx
  clear hx hB hq0 hq1 hbel hnx hxl
  go_enter Try.func25, Try.ntmps25
  go_wp2_with (at_builtin; refine wpList_append_bv rfl (.const (.slice none 0 0)) (.tmp 4) rfl w.heap.size (.slice none 0 0) 0 [] rfl (World.ownsRow_nil _ _ _ _) B ao n cap x rfl HX2.out (by omega) (by simp <;> omega) ?_; intro v3 w3 hown3 hgrow3; obtain ⟨ao3, cap3, rfl⟩ := own_slice hown3; have p0 := (hgrow3.block w.heap.size (by simp <;> omega) (by simp [Value.ownBlock])).trans HQ0.out; have p1 := (hgrow3.block (w.heap.size + 1) (by simp) (by simp [Value.ownBlock])).trans HQ1.out; obtain ⟨c0, c1, c2, c3, c4, c5⟩ := cell_of_six p0; obtain ⟨f0, f1, f2, f3, f4, f5⟩ := free_of_six p0; obtain ⟨d0, d1, d2, d3, d4, d5⟩ := cell_of_six p1; obtain ⟨g0, g1, g2, g3, g4, g5⟩ := free_of_six p1; have HP0 := hide p0; have HP1 := hide p1; have HO := hide hown3; have HG := hide hgrow3; clear hown3 hgrow3 p0 p1)
  have hp1 := heap_setCell_far (p := ⟨w.heap.size, 5, none⟩) HP1.out (by simp) (.slice ao3 (0 + n) cap3)
  have z := cell_of_six (six_set hp1 (.int .i64 f) (.int .i64 t) (.int .i64 k) (.int .i64 s) (.int .i64 a) (.slice ao3 (0 + n) cap3))
  rw [Nat.zero_add] at z
  refine bodyPost_ret (v := .agg #[.int .i64 f, .int .i64 t, .int .i64 k, .int .i64 s, .int .i64 a, .slice ao3 n cap3]) (by simp [results, Try.results25, go_sem, z]) rfl ⟨_, rfl, ?_, ?_⟩
  · have o0 := HO.out
    rw [Nat.zero_add, List.nil_append, HX.out] at o0
    have o1 := ownsRow_setCell_typed (a := ⟨w.heap.size, 5, none⟩) o0 HP0.out (by decide) (.slice ao3 n cap3)
    rw [Nat.zero_add] at hp1
    rw [HX.out] at hp1 ⊢
    rw [HX.out] at o1
    exact own_six o1 hp1 (by decide) _ _ _ _ _ _
  · have b1 := HBel.out.grown HG.out (by simp <;> omega) (fun k hk => by simp [Value.ownBlock] at hk)
    exact below_six (b1.setCell (p := ⟨w.heap.size, 5, none⟩) (Nat.le_refl _) _) (by omega) _ _ _ _ _ _
end Go.Proofs.Ytebojmjbolphfaa
