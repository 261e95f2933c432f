/- Contracts: slices.Clone of nodes and of conditions; cloned; the closure of Clone; Clone. -/
import Derived.Test.YtnfjodkpapmfkaaOw8
import Derived.Test.YtnfjodkpapmfkaaTr7
import Derived.Test.YtnfjodkpapmfkaaPt7
import Derived.Deep.RegionHeld3
namespace Go.Proofs.Ytnfjodkpapmfkaa
open Go Go.RowKit

theorem infoNd : (Try.prog.info? 25).map (fun i => (i.zero, i.size, i.bytes)) = some (some (.agg #[.int .i64 0, .string ⟨#[]⟩, .string ⟨#[]⟩, .slice none 0 0, .slice none 0 0]), 5, 88) := by kernel_rfl
theorem infoCd : (Try.prog.info? 37).map (fun i => (i.zero, i.size, i.bytes)) = some (some (.agg #[.string ⟨#[]⟩, .string ⟨#[]⟩, .int .i64 0, .int .i64 0, .string ⟨#[]⟩, .int .i64 0, .string ⟨#[]⟩, .string ⟨#[]⟩, .int .i64 0, .int .i64 0, .string ⟨#[]⟩]), 11, 136) := by kernel_rfl
theorem add_off (b o j : Nat) : (⟨b, o, none⟩ : Addr).add j = ⟨b, o + j, none⟩ := by unfold Addr.add; split <;> simp_all
set_option maxRecDepth 100000 in
set_option maxHeartbeats 1600000 in
theorem CloneNd_any (b o n cap : Nat) (xs : List Value) (w : World) (hl : xs.length = n * 5) (hn : n ≤ 1048576) (hc : ∀ j u, xs[j]? = some u → w.cell? ⟨b, o + j, none⟩ = some u) (h1 : ∀ u ∈ xs, u.oneCell' = true) :
    Calls Try.prog 92 #[.slice (some ⟨b, o, none⟩) n cap] w fun e w' => ∃ v', e = .returned v' ∧ w'.ownsRow w.heap.size 25 5 v' n xs ∧ Below w.heap.size w w' := by
  obtain ⟨i0, hi, hz0, hz1, hz2⟩ := info_parts infoNd
  have q := fun (w : World) (a : Option Addr) (n c n' c' : Nat) => Lib.run_eql_slice_nil w 23 25 a n c n' c' Try.underlying23
  have HC := Lib.hid hc; have HN := Lib.hid hn; have HL := Lib.hid hl; have H1 := Lib.hid h1
  clear hn hc hl h1
  go_enter Try.func92, Try.ntmps92
  go_wp2_with (at_builtin; refine wpList_append_own _ rfl _ _ 23 rfl w.heap.size 25 i0 (.agg #[.int .i64 0, .string ⟨#[]⟩, .string ⟨#[]⟩, .slice none 0 0, .slice none 0 0]) 5 88 Try.underlying23 hi hz0 hz1 hz2 rfl (by decide) _ _ _ rfl (World.ownsRow_made w #[] 0 (Nat.le_refl _) (Nat.zero_le _) (by simp)) ⟨b, o, none⟩ n cap xs rfl HL.out (fun j u hj => Lib.cell?_alloc_some _ (by rw [add_off]; exact HC.out j u hj)) H1.out (by have := HN.out; unfold maxLen; omega) (by have := HN.out; omega) (by simp) ?_; intro v' w1 hown hgrow hnil; clear hnil; have HO := Lib.hid hown; have HG := Lib.hid hgrow; clear hown hgrow)
  go_ret
  refine ⟨_, rfl, by have := HO.out; simpa using this, ?_⟩
  exact ((Below.refl _ w).alloc (Nat.le_refl _) _).grown HG.out (by simp) (fun k hk => ((World.ownsRow_made (base := w.heap.size) (e := 25) (size := 5) w #[] 0 (Nat.le_refl _) (Nat.zero_le _) (by simp)).lt k hk).1)
set_option maxRecDepth 100000 in
set_option maxHeartbeats 1600000 in
theorem CloneCd_any (b o n cap : Nat) (xs : List Value) (w : World) (hl : xs.length = n * 11) (hn : n ≤ 1048576) (hc : ∀ j u, xs[j]? = some u → w.cell? ⟨b, o + j, none⟩ = some u) (h1 : ∀ u ∈ xs, u.oneCell' = true) :
    Calls Try.prog 98 #[.slice (some ⟨b, o, none⟩) n cap] w fun e w' => ∃ v', e = .returned v' ∧ w'.ownsRow w.heap.size 37 11 v' n xs ∧ Below w.heap.size w w' := by
  obtain ⟨i0, hi, hz0, hz1, hz2⟩ := info_parts infoCd
  have q := fun (w : World) (a : Option Addr) (n c n' c' : Nat) => Lib.run_eql_slice_nil w 22 37 a n c n' c' Try.underlying22
  have HC := Lib.hid hc; have HN := Lib.hid hn; have HL := Lib.hid hl; have H1 := Lib.hid h1
  clear hn hc hl h1
  go_enter Try.func98, Try.ntmps98
  go_wp2_with (at_builtin; refine wpList_append_own _ rfl _ _ 22 rfl w.heap.size 37 i0 (.agg #[.string ⟨#[]⟩, .string ⟨#[]⟩, .int .i64 0, .int .i64 0, .string ⟨#[]⟩, .int .i64 0, .string ⟨#[]⟩, .string ⟨#[]⟩, .int .i64 0, .int .i64 0, .string ⟨#[]⟩]) 11 136 Try.underlying22 hi hz0 hz1 hz2 rfl (by decide) _ _ _ rfl (World.ownsRow_made w #[] 0 (Nat.le_refl _) (Nat.zero_le _) (by simp)) ⟨b, o, none⟩ n cap xs rfl HL.out (fun j u hj => Lib.cell?_alloc_some _ (by rw [add_off]; exact HC.out j u hj)) H1.out (by have := HN.out; unfold maxLen; omega) (by have := HN.out; omega) (by simp) ?_; intro v' w1 hown hgrow hnil; clear hnil; have HO := Lib.hid hown; have HG := Lib.hid hgrow; clear hown hgrow)
  go_ret
  refine ⟨_, rfl, by have := HO.out; simpa using this, ?_⟩
  exact ((Below.refl _ w).alloc (Nat.le_refl _) _).grown HG.out (by simp) (fun k hk => ((World.ownsRow_made (base := w.heap.size) (e := 37) (size := 11) w #[] 0 (Nat.le_refl _) (Nat.zero_le _) (by simp)).lt k hk).1)

theorem flatC_len : ∀ l : List Cnd, (l.flatMap encC).length = l.length * 11
  | [] => rfl
  | c :: r => by rw [List.flatMap_cons, List.length_append, encC_len, flatC_len r, List.length_cons]; omega
theorem flatC_one (l : List Cnd) : ∀ u ∈ l.flatMap encC, u.oneCell' = true := by
  intro u hu
  obtain ⟨c, _, hc⟩ := List.mem_flatMap.1 hu
  simp only [encC, List.mem_cons, List.not_mem_nil, or_false] at hc
  rcases hc with rfl | rfl | rfl | rfl | rfl | rfl | rfl | rfl | rfl | rfl | rfl <;> rfl
theorem CdAt.flat {w : World} : ∀ {l : List Cnd} {b o : Nat}, CdAt w l b o → ∀ j u, (l.flatMap encC)[j]? = some u → w.cell? ⟨b, o + j, none⟩ = some u
  | [], _, _, _, j, u, hj => by simp at hj
  | c :: r, b, o, h, j, u, hj => by
    rw [List.flatMap_cons] at hj
    by_cases hlt : j < 11
    · rw [List.getElem?_append_left (by rw [encC_len]; exact hlt)] at hj
      exact h.1 j u hj
    · rw [List.getElem?_append_right (by rw [encC_len]; omega), encC_len] at hj
      have := CdAt.flat h.2 (j - 11) u hj
      rwa [show o + 11 + (j - 11) = o + j by omega] at this
theorem CdAt.of_flat {w : World} : ∀ {l : List Cnd} {b o : Nat}, (∀ j u, (l.flatMap encC)[j]? = some u → w.cell? ⟨b, o + j, none⟩ = some u) → CdAt w l b o
  | [], _, _, _ => trivial
  | c :: r, b, o, h => ⟨fun j u hj => h j u (by rw [List.flatMap_cons, List.getElem?_append_left (List.getElem?_eq_some_iff.1 hj).1]; exact hj), CdAt.of_flat (fun j u hj => by
      have := h (11 + j) u (by rw [List.flatMap_cons, List.getElem?_append_right (by rw [encC_len]; omega), encC_len, show 11 + j - 11 = j by omega]; exact hj)
      rwa [show o + 11 + j = o + (11 + j) by omega])⟩
/-- A row of conditions that the call made. -/
theorem CdO.of_own {w : World} {base : Nat} {v : Value} {l : List Cnd} (h : w.ownsRow base 37 11 v l.length (l.flatMap encC)) (hl : l ≠ []) :
    ∃ ao cap, v = .slice ao l.length cap ∧ CdO w (fun x => base ≤ x ∧ x < w.heap.size) ao l := by
  rcases h.2 with ⟨rfl, h0⟩ | ⟨g, cap, cur, rfl, hb, hg, hcap, _, hcs, ht⟩
  · exact absurd (List.eq_nil_of_length_eq_zero h0) hl
  · refine ⟨some ⟨g, 0, none⟩, cap, rfl, fun _ => ⟨g, cur, rfl, ⟨hb, (Array.getElem?_eq_some_iff.1 hg).1⟩, hg, by rw [hcs]; omega, CdAt.of_flat (fun j u hj => ?_)⟩⟩
    have := h.cells (g := g) rfl j u hj
    rwa [add_off] at this
set_option maxRecDepth 100000 in
set_option maxHeartbeats 1000000 in
theorem clonedC_any (ta : Option Addr) (tc : Nat) (l : List Cnd) (G : Nat → Prop) (w : World) (h : CdV w G (.slice ta l.length tc) l) (hn : l.length ≤ 1048576) :
    Calls Try.prog 55 #[.slice ta l.length tc] w fun e w' => ∃ ao cap, e = .returned (.slice ao l.length cap) ∧ CdO w' (fun x => w.heap.size ≤ x ∧ x < w'.heap.size) ao l ∧ Below w.heap.size w w' := by
  by_cases hl : l = []
  · subst hl
    go_enter Try.func55, Try.ntmps55
    go_wp2
    go_ret
    exact ⟨none, 0, rfl, fun h => absurd rfl h, Below.refl _ _⟩
  · obtain ⟨ao, cap, he, hh⟩ := h
    obtain ⟨b, o, rfl, hb, hc⟩ := hh hl
    simp only [Value.slice.injEq, true_and] at he
    obtain ⟨rfl, rfl⟩ := he
    have hpos : 0 < l.length := List.length_pos_iff.2 hl
    have h1 : ¬ ((l.length : Nat) : Int) = 0 := by omega
    have h2 : ((l.length : Int) == 0) = false := beq_eq_false_iff_ne.2 h1
    have HC := Lib.hid (fun u (hu : u = w) => CloneCd_any b o l.length tc (l.flatMap encC) u (flatC_len l) hn (by rw [hu]; exact hc.flat) (flatC_one l))
    have HL := Lib.hid hl
    clear hc hl hpos hn hh
    go_enter Try.func55, Try.ntmps55
    go_wp2_with (go_at_call 98; (with_reducible refine (HC.out _ rfl).mono ?_); rintro e w1 ⟨v, rfl, ho, hb1⟩; obtain ⟨ao, cap, rfl, hcd⟩ := CdO.of_own ho HL.out; have HD := Lib.hid hcd; have HB := Lib.hid hb1; clear hcd hb1 ho)
    go_ret
    exact ⟨ao, cap, rfl, HD.out, HB.out⟩
/-- A row of nodes that the call made: its cells are those handed over. -/
theorem row_of_own {w : World} {base n : Nat} {v : Value} {xs : List Value} (h : w.ownsRow base 25 5 v n xs) (hl : 0 < n) :
    ∃ g cap cs, v = .slice (some ⟨g, 0, none⟩) n cap ∧ base ≤ g ∧ g < w.heap.size ∧ w.heap[g]? = some (.cells cs 25 (0, 0)) ∧ 5 * n ≤ cs.size ∧ cs.toList.take (5 * n) = xs := by
  rcases h.2 with ⟨rfl, h0⟩ | ⟨g, cap, cur, rfl, hb, hg, hcap, _, hcs, ht⟩
  · omega
  · exact ⟨g, cap, cur, rfl, hb, (Array.getElem?_eq_some_iff.1 hg).1, hg, by rw [hcs]; omega, by rw [Nat.mul_comm]; exact ht⟩
set_option maxRecDepth 100000 in
set_option maxHeartbeats 1000000 in
theorem clonedN_any (ka : Option Addr) (kc : Nat) (k : Fo) (G : Nat → Prop) (w : World) (h : k.isNil = false → ∃ b o, ka = some ⟨b, o, none⟩ ∧ G b ∧ FoAt w G k b o) (hn : k.len ≤ 1048576) :
    Calls Try.prog 56 #[.slice ka k.len kc] w fun e w' => ∃ ao cap, e = .returned (.slice ao k.len cap) ∧ Below w.heap.size w w' ∧ (0 < k.len → ∃ g cs xs, ao = some ⟨g, 0, none⟩ ∧ w.heap.size ≤ g ∧ g < w'.heap.size ∧ w'.heap[g]? = some (.cells cs 25 (0, 0)) ∧ 5 * k.len ≤ cs.size ∧ cs.toList.take (5 * k.len) = xs ∧ SF w G k xs) := by
  by_cases hl : k.len = 0
  · rw [hl]
    go_enter Try.func56, Try.ntmps56
    go_wp2
    go_ret
    exact ⟨none, 0, rfl, Below.refl _ _, fun h => absurd h (Nat.lt_irrefl _)⟩
  · obtain ⟨b, o, rfl, hb, hf⟩ := h (by rw [Fo.isNil_len]; exact decide_eq_false hl)
    obtain ⟨xs, hsf, hc⟩ := hf.list
    have h1 : ¬ ((k.len : Nat) : Int) = 0 := by omega
    have h2 : ((k.len : Int) == 0) = false := beq_eq_false_iff_ne.2 h1
    have hln := hsf.len
    have HC := Lib.hid (fun u (hu : u = w) => CloneNd_any b o k.len kc xs u (by rw [hln]; omega) hn (by rw [hu]; exact hc) hsf.one)
    have HS := Lib.hid hsf
    clear hc hn hsf hf h hb hln
    have HL := Lib.hid hl
    clear hl
    go_enter Try.func56, Try.ntmps56
    go_wp2_with (go_at_call 92; (with_reducible refine (HC.out _ rfl).mono ?_); rintro e w1 ⟨v, rfl, ho, hb1⟩; obtain ⟨g, cap, cs, rfl, r1, r2, r3, r4, r5⟩ := row_of_own ho (Nat.pos_of_ne_zero HL.out); have HD := Lib.hid (And.intro r1 (And.intro r2 (And.intro r3 (And.intro r4 r5)))); have HB := Lib.hid hb1; clear r1 r2 r3 r4 r5 hb1 ho)
    go_ret
    obtain ⟨r1, r2, r3, r4, r5⟩ := HD.out
    exact ⟨some ⟨g, 0, none⟩, cap, rfl, HB.out, fun _ => ⟨g, cs, xs, rfl, r1, r2, r3, r4, r5, HS.out⟩⟩
end Go.Proofs.Ytnfjodkpapmfkaa
