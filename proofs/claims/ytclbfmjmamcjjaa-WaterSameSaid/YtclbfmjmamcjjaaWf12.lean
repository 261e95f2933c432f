/- The document's marks: what they are in memory; the contracts of their calls; slices.Equal of numbers. -/
import Derived.Test.YtclbfmjmamcjjaaWe12
import Derived.Test.YtclbfmjmamcjjaaWr12
import Derived.Deep.OwnRows
namespace Go.Proofs.Ytclbfmjmamcjjaa
open Go Go.RowKit

/-- In w the block q is the document's marks ms; neither it nor its row is the block p. -/
structure RwIs (w : World) (q p : Nat) (ms : List Int) : Prop where
  k0 : 1 ≤ ms.length
  k12 : ms.length ≤ 12
  may : ∀ t ∈ ms, 0 ≤ t ∧ t ≤ 1099511627777
  qp : q ≠ p
  row : ∃ g cap, w.heap[q]? = some (.cells #[.slice (some ⟨g, 0, none⟩) ms.length cap] 56 (0, 0)) ∧ RowAt w g ms ∧ g ≠ p ∧ g ≠ q
theorem RwIs.lt {w : World} {q p : Nat} {ms : List Int} (h : RwIs w q p ms) : q < w.heap.size := by obtain ⟨g, c, h1, _⟩ := h.row; exact lt_of_block h1
theorem RwIs.turn {w w' : World} {q p : Nat} {ms : List Int} (h : RwIs w q p ms) (hc : Chg (fun b => b = p) w w') : RwIs w' q p ms := by
  obtain ⟨g, c, h1, h2, h3, h4⟩ := h.row
  exact ⟨h.k0, h.k12, h.may, h.qp, g, c, (hc.block q h.lt h.qp).trans h1, h2.turn hc h3, h3, h4⟩
theorem RwIs.call {w w' : World} {q p : Nat} {ms : List Int} (h : RwIs w q p ms) (hb : Below w.heap.size w w') : RwIs w' q p ms := by
  obtain ⟨g, c, h1, h2, h3, h4⟩ := h.row
  exact ⟨h.k0, h.k12, h.may, h.qp, g, c, (hb.block q h.lt).trans h1, h2.call hb, h3, h4⟩
theorem RwIs.drewN {w : World} {q p : Nat} {ms : List Int} (h : RwIs w q p ms) (n : Nat) : RwIs (w.drewN n) q p ms := by
  obtain ⟨g, c, h1, h2, h3, h4⟩ := h.row
  exact ⟨h.k0, h.k12, h.may, h.qp, g, c, h1, h2.drewN n, h3, h4⟩
theorem RwIs.other {w : World} {q p p' : Nat} {ms : List Int} (h : RwIs w q p ms) (hp : w.heap.size ≤ p') : RwIs w q p' ms := by
  obtain ⟨g, c, h1, h2, h3, h4⟩ := h.row
  have := lt_of_block h1; have := h2.lt
  exact ⟨h.k0, h.k12, h.may, by omega, g, c, h1, h2, by omega, h4⟩
theorem RwIs.cell {w : World} {q p : Nat} {ms : List Int} (h : RwIs w q p ms) : ∃ g cap, w.cell? ⟨q, 0, none⟩ = some (.slice (some ⟨g, 0, none⟩) ms.length cap) ∧ (∀ j, j < ms.length → w.cell? ⟨g, j, none⟩ = some (.int .i64 ms[j]!)) ∧ w.frozen? ⟨q, 0, none⟩ = false := by
  obtain ⟨g, c, h1, h2, _⟩ := h.row
  exact ⟨g, c, by simp [World.cell?, h1], h2.at', by simp [World.frozen?, h1]⟩

set_option maxRecDepth 100000 in
set_option maxHeartbeats 1600000 in
theorem r12Merged_any (q p : Nat) (ms : List Int) (w : World) (h : RwIs w q p ms) :
    Calls Try.prog 29 #[.pointer (some ⟨q, 0, none⟩)] w fun e w' => e = .returned (.int .i64 (minI ms)) ∧ w = w' := by
  obtain ⟨g, cap, c0, hc, _⟩ := h.cell
  obtain ⟨n, hn⟩ : ∃ n, n = ms.length := ⟨_, rfl⟩
  have HC := Lib.hid hc; have HN := Lib.hid hn
  have HTN : Hid (ms.take n = ms) := List.take_of_length_le (by omega)
  have h12 : n ≤ 12 := by rw [hn]; exact h.k12
  rw [← hn] at c0
  clear hc hn h
  go_enter Try.func29, Try.ntmps29
  go_wp2_with fail
  go_loop [3, 4] (fun mv iv => ∃ k : Nat, k ≤ n ∧ iv = .int .i64 (k : Int) ∧ mv = .int .i64 (minI (ms.take k))) (fun _ iv => n - (intOf iv).toNat)
  case atStart => exact ⟨0, Nat.zero_le _, rfl, rfl⟩
  case round =>
    obtain ⟨k, hk, rfl, rfl⟩ := hrel
    by_cases hlt : k < n
    · have c1 := HC.out k (by have := HN.out; omega)
      have HS : Hid (minI (ms.take (k + 1)) = min (minI (ms.take k)) ms[k]!) := by rw [take_one (by have := HN.out; omega), minI_snoc]; rfl
      generalize ms[k]! = x at c1 HS
      generalize minI (ms.take k) = t at HS ⊢
      have e1 : IntKind.i64.wrap ((k : Int) + 1) = (k : Int) + 1 := IntWalk.i64_in _ (by omega)
      by_cases hc2 : x < t
      · have HE : Hid (min t x = x) := by unfold Hid; omega
        go_wp2
        go_round
        case rel => exact ⟨k + 1, by omega, by go_num, by rw [HS.out, HE.out]⟩
        case measure => simp [intOf]; omega
      · have HE : Hid (min t x = t) := by unfold Hid; omega
        go_wp2
        go_round
        case rel => exact ⟨k + 1, by omega, by go_num, by rw [HS.out, HE.out]⟩
        case measure => simp [intOf]; omega
    · obtain rfl : k = n := by omega
      rw [HTN.out]
      go_wp2
      go_ret
      exact ⟨rfl, rfl⟩

set_option maxRecDepth 100000 in
set_option maxHeartbeats 1600000 in
theorem r12At_any (q p : Nat) (ms : List Int) (i : Int) (w : World) (h : RwIs w q p ms) :
    Calls Try.prog 30 #[.pointer (some ⟨q, 0, none⟩), .int .i64 i] w fun e w' => e = .returned (.int .i64 (atI ms i)) ∧ w = w' := by
  obtain ⟨g, cap, c0, hc, _⟩ := h.cell
  cases hh : hasI ms.length i with
  | false =>
    rw [atI_not _ _ hh]
    unfold hasI at hh
    generalize ms.length = n at c0 hh
    by_cases h0 : i < 0
    · have d0 : decide (i < 0) = true := by simpa using h0
      clear hh hc h h0
      go_enter Try.func30, Try.ntmps30
      go_wp2
      go_ret
      exact ⟨rfl, rfl⟩
    · have d0 : decide (i < 0) = false := by simpa using h0
      have d1 : decide (i ≥ (n : Int)) = true := by
        rw [show decide (0 ≤ i) = true by simp; omega, Bool.true_and, decide_eq_false_iff_not] at hh
        simp; omega
      clear hh hc h h0
      go_enter Try.func30, Try.ntmps30
      go_wp2
      go_ret
      exact ⟨rfl, rfl⟩
  | true =>
    obtain ⟨j, rfl, hj⟩ := hasI_nat hh
    rw [atI_nat _ _ hj]
    have c1 := hc j hj
    have hj0 : (0 : Int) ≤ (j : Int) := by omega
    have hj1 : (j : Int) < (ms.length : Int) := by omega
    have d0 : decide ((j : Int) < 0) = false := by simp
    have d1 : decide ((j : Int) ≥ (ms.length : Int)) = false := by simp; omega
    generalize ms[j]! = x at c1 ⊢
    generalize ms.length = n at c0 hj hj1 d1
    clear h hh hc
    go_enter Try.func30, Try.ntmps30
    go_wp2
    go_ret
    exact ⟨rfl, rfl⟩

set_option maxRecDepth 100000 in
set_option maxHeartbeats 1600000 in
theorem r12Horizon_any (q p : Nat) (ms : List Int) (window : Int) (w : World) (h : RwIs w q p ms) :
    Calls Try.prog 31 #[.pointer (some ⟨q, 0, none⟩), .int .i64 window] w fun e w' => e = .returned (.int .i64 (horI (minI ms) window)) ∧ w = w' := by
  have HC := Lib.hid (r12Merged_any q p ms w h)
  have hm0 := minI_nonneg h.may
  have hmF := minI_le ms
  generalize minI ms = m at HC hm0 hmF ⊢
  clear h
  unfold horI
  by_cases hm : m = 1099511627777
  · rw [if_pos hm]
    subst hm
    clear hm0 hmF
    go_enter Try.func31, Try.ntmps31
    go_wp2_with (go_at_call 29; (with_reducible refine HC.out.mono ?_); rintro e w1 ⟨rfl, rfl⟩)
    go_ret
    exact ⟨rfl, rfl⟩
  · rw [if_neg hm]
    have hb : (m == 1099511627777) = false := by simp [hm]
    clear hm
    by_cases h1 : window < 0
    · rw [if_pos (.inl h1)]
      have d1 : decide (window < 0) = true := by simpa using h1
      clear hm0 hmF h1
      go_enter Try.func31, Try.ntmps31
      go_wp2_with (go_at_call 29; (with_reducible refine HC.out.mono ?_); rintro e w1 ⟨rfl, rfl⟩)
      go_ret
      exact ⟨rfl, rfl⟩
    · by_cases h2 : m < window
      · rw [if_pos (.inr h2)]
        have d1 : decide (window < 0) = false := by simpa using h1
        have d2 : decide (window > m) = true := by simpa using h2
        clear hm0 hmF h1 h2
        go_enter Try.func31, Try.ntmps31
        go_wp2_with (go_at_call 29; (with_reducible refine HC.out.mono ?_); rintro e w1 ⟨rfl, rfl⟩)
        go_ret
        exact ⟨rfl, rfl⟩
      · rw [if_neg (by omega)]
        have d1 : decide (window < 0) = false := by simpa using h1
        have d2 : decide (window > m) = false := by simpa using h2
        have e1 : IntKind.i64.wrap (m - window) = m - window := IntWalk.i64_in _ (by omega)
        clear hm0 hmF h1 h2
        go_enter Try.func31, Try.ntmps31
        go_wp2_with (go_at_call 29; (with_reducible refine HC.out.mono ?_); rintro e w1 ⟨rfl, rfl⟩)
        go_ret
        exact ⟨rfl, rfl⟩

theorem own_some {w : World} {B e size n : Nat} {v : Value} {xs : List Value} (h : w.ownsRow B e size v n xs) (hn : 0 < n) : ∃ g cap, v = .slice (some ⟨g, 0, none⟩) n cap ∧ B ≤ g := by
  rcases h.2 with ⟨hv, hn0⟩ | ⟨g, cap, cur, hv, hb, _⟩
  · omega
  · exact ⟨g, cap, hv, hb⟩
theorem RwIs.of_new {w : World} {g p cap : Nat} {ms : List Int} (h0 : 1 ≤ ms.length) (h12 : ms.length ≤ 12) (hm : ∀ t ∈ ms, 0 ≤ t ∧ t ≤ 1099511627777) (hp : p < w.heap.size) (hr : RowAt w g ms) (hg : g ≠ p) :
    RwIs (w.alloc (.cells #[.slice (some ⟨g, 0, none⟩) ms.length cap] 56)) w.heap.size p ms :=
  ⟨h0, h12, hm, by omega, g, cap, heap_alloc_new _ _, hr.call ((Below.refl _ _).alloc (Nat.le_refl _) _), hg, by have := hr.lt; omega⟩

set_option maxRecDepth 100000 in
set_option maxHeartbeats 1600000 in
theorem r12New_ok (n p : Nat) (h1 : 1 ≤ n) (h2 : n ≤ 12) (w : World) (hp : p < w.heap.size) :
    Calls Try.prog 8 #[.int .i64 (n : Int)] w fun e w' => ∃ q, e = .returned (.tuple #[.pointer (some ⟨q, 0, none⟩), .int .i64 0]) ∧ RwIs w' q p (List.replicate n 0) ∧ w.heap.size ≤ q ∧ Below w.heap.size w w' := by
  have hk1 : decide ((n : Int) < 1) = false := by simp; omega
  have hk2 : decide ((n : Int) > 12) = false := by simp; omega
  have hmk : ∀ w : World, (Instr.makeSlice 22 (.int .i64 (n : Int)) (.int .i64 (n : Int))).run Try.prog w = .ok (.slice (some ⟨w.heap.size, 0, none⟩) n n) (w.alloc (.cells (madeCells #[.int .i64 0] n) 2)) := run_make_row' (P := Try.prog) 22 2 (.int .i64 0) 8 Try.underlying22 infoI64 rfl .i64 .i64 n (by omega) (by omega)
  go_enter Try.func8, Try.ntmps8
  go_wp2
  go_ret2
  have hb : Below w.heap.size w ((w.alloc (.cells (madeCells #[.int .i64 0] n) 2)).alloc (.cells #[.slice (some ⟨w.heap.size, 0, none⟩) n n] 56)) := ((Below.refl _ _).alloc (Nat.le_refl _) _).alloc (by simp) _
  have hr : RowAt (w.alloc (.cells (madeCells #[.int .i64 0] n) 2)) w.heap.size (List.replicate n 0) := ⟨by simp, fun j hj => by
    have h := heap_alloc_new w (.cells (madeCells #[.int .i64 0] n) 2)
    have hj' : j < n := by simpa using hj
    simp only [World.cell?, h]
    simp [madeCells, hj', Nat.mod_one]⟩
  have hw := RwIs.of_new (cap := n) (p := p) (by simpa using h1) (by simpa using h2) (fun t ht => by rw [(List.mem_replicate.1 ht).2]; decide) (by simp; omega) hr (by omega)
  have es : (w.alloc (.cells (madeCells #[.int .i64 0] n) 2)).heap.size = w.heap.size + 1 := by simp
  rw [List.length_replicate, es] at hw
  exact ⟨_, rfl, hw, by omega, hb⟩
set_option maxRecDepth 100000 in
theorem r12New_err (n : Int) (h : newB n = false) (w : World) :
    Calls Try.prog 8 #[.int .i64 n] w fun e w' => e = .returned (.tuple #[.pointer none, .int .i64 1]) ∧ w = w' := by
  unfold newB at h
  by_cases h1 : n < 1
  · have hk1 : decide (n < 1) = true := by simpa using h1
    clear h
    go_enter Try.func8, Try.ntmps8
    go_wp2
    go_ret2
    exact ⟨rfl, rfl⟩
  · have hk1 : decide (n < 1) = false := by simpa using h1
    have hk2 : decide (n > 12) = true := by
      rw [show decide (1 ≤ n) = true by simp; omega, Bool.true_and, decide_eq_false_iff_not] at h
      simp; omega
    clear h
    go_enter Try.func8, Try.ntmps8
    go_wp2
    go_ret2
    exact ⟨rfl, rfl⟩
end Go.Proofs.Ytclbfmjmamcjjaa
