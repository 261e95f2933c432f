/- Contracts: the least of marks, and what is asked of marks. -/
import Derived.Test.YtclbfmjmamcjjaaWa
namespace Go.Proofs.Ytclbfmjmamcjjaa
open Go Go.RowKit

set_option maxRecDepth 100000 in
set_option maxHeartbeats 1600000 in
theorem MinI64_any (q o cap : Nat) (ms : List Int) (w : World) (h1 : 1 ≤ ms.length) (h12 : ms.length ≤ 140737488355328) (hm : ∀ t ∈ ms, t ≤ 1099511627777) (hc : ∀ j, j < ms.length → w.cell? ⟨q, o + j, none⟩ = some (.int .i64 ms[j]!)) :
    Calls Try.prog 33 #[.slice (some ⟨q, o, none⟩) ms.length cap] w fun e w' => e = .returned (.int .i64 (minI ms)) ∧ w = w' := by
  obtain ⟨n, hn⟩ : ∃ n, n = ms.length := ⟨_, rfl⟩
  have c0 := hc 0 (by omega)
  rw [Nat.add_zero] at c0
  have hm0 := hm ms[0]! (by rw [getElem!_pos ms 0 (by omega)]; exact List.getElem_mem _)
  have HC := Lib.hid hc
  rw [← hn] at h1 h12 ⊢
  have HN := Lib.hid hn
  have HT1 : Hid (minI (ms.take 1) = ms[0]!) := by
    have : ms.take 1 = [ms[0]!] := by rw [take_one (k := 0) (by omega)]; rfl
    rw [this]
    show min (1099511627777 : Int) ms[0]! = ms[0]!
    omega
  have HTN : Hid (ms.take n = ms) := List.take_of_length_le (by omega)
  generalize ms[0]! = m0 at c0 HT1
  have h1z : decide ((n : Int) < 1) = false := by simp; omega
  have h0n : 0 < n := by omega
  clear hc hn hm hm0
  go_enter Try.func33, Try.ntmps33
  go_wp2_with fail
  go_loop [3, 4] (fun mv iv => ∃ k : Nat, 1 ≤ k ∧ k ≤ n ∧ iv = .int .i64 (k : Int) ∧ mv = .int .i64 (minI (ms.take k))) (fun _ iv => n - (intOf iv).toNat)
  case atStart => exact ⟨1, Nat.le_refl _, h1, rfl, by rw [HT1.out]⟩
  case round =>
    obtain ⟨k, hk1, hk, rfl, rfl⟩ := hrel
    by_cases hlt : k < n
    · have c1 := HC.out k (by have := HN.out; omega)
      have HS : Hid (minI (ms.take (k + 1)) = min (minI (ms.take k)) ms[k]!) := by rw [take_one (by have := HN.out; omega), minI_snoc]; rfl
      generalize ms[k]! = x at c1 HS
      generalize minI (ms.take k) = t at HS ⊢
      have e1 : IntKind.i64.wrap ((k : Int) + 1) = (k : Int) + 1 := IntWalk.i64_in _ (by omega)
      by_cases hc2 : x < t
      · have HE : Hid (min t x = x) := by unfold Hid; omega
        go_wp2
        go_round
        case rel => exact ⟨k + 1, by omega, by omega, by go_num, by rw [HS.out, HE.out]⟩
        case measure => simp [intOf]; omega
      · have HE : Hid (min t x = t) := by unfold Hid; omega
        go_wp2
        go_round
        case rel => exact ⟨k + 1, by omega, by omega, by go_num, by rw [HS.out, HE.out]⟩
        case measure => simp [intOf]; omega
    · obtain rfl : k = n := by omega
      rw [HTN.out]
      go_wp2
      go_ret
      exact ⟨rfl, rfl⟩

theorem WtIs.mle {w : World} {q : Nat} {ms : List Int} (h : WtIs w q ms) : ∀ t ∈ ms, t ≤ 1099511627777 := fun t ht => (h.may t ht).2
theorem WtIs.posB {w : World} {q : Nat} {ms : List Int} (h : WtIs w q ms) : decide (0 < ms.length) = true := decide_eq_true h.k0

/-- A call that reads only, and may draw. -/
def QC (f : Nat) (args : Array Value) (v : Value) (w : World) : Prop := ∀ n, Calls Try.prog f args (w.drewN n) fun e w' => e = .returned v ∧ ∃ m, w' = w.drewN m
theorem QC.one {f : Nat} {args : Array Value} {v : Value} {w : World} (h : QC f args v w) : Calls Try.prog f args w fun e w' => e = .returned v ∧ ∃ m, w' = w.drewN m := h 0
theorem QC.same {f : Nat} {args : Array Value} {v : Value} {w : World} (h : ∀ n, Calls Try.prog f args (w.drewN n) fun e w' => e = .returned v ∧ w.drewN n = w') : QC f args v w :=
  fun n => (h n).mono fun _ _ ⟨h1, h2⟩ => ⟨h1, n, h2.symm⟩
theorem QC.of {f : Nat} {args : Array Value} {v : Value} {w : World} (h : ∀ n, Calls Try.prog f args (w.drewN n) fun e w' => e = .returned v ∧ ∃ m, w' = (w.drewN n).drewN m) : QC f args v w :=
  fun n => (h n).mono fun _ _ ⟨h1, m, h2⟩ => ⟨h1, n + m, by rw [h2, World.drewN_drewN]⟩
theorem WtIs.drewN {w : World} {q : Nat} {ms : List Int} (h : WtIs w q ms) (n : Nat) : WtIs (w.drewN n) q ms := ⟨h.k0, h.k12, h.may, h.blk⟩

set_option maxRecDepth 100000 in
set_option maxHeartbeats 1600000 in
theorem wMerged_one (q : Nat) (ms : List Int) (w : World) (h : WtIs w q ms) :
    Calls Try.prog 18 #[.pointer (some ⟨q, 0, none⟩)] w fun e w' => e = .returned (.int .i64 (minI ms)) ∧ ∃ m, w' = w.drewN m := by
  have C1 := wIsMade_any q ms.length w h.num
  rw [h.posB] at C1
  have c0 := h.num
  have h1 := h.k0; have h12 := h.k12
  have hz0 : (0 : Int) ≤ (ms.length : Int) := by omega
  have hz1 : (ms.length : Int) ≤ 12 := by omega
  have CM : ∀ cap n, Calls Try.prog 33 #[.slice (some ⟨q, 1, none⟩) ms.length cap] (w.drewN n) fun e w' => e = .returned (.int .i64 (minI ms)) ∧ ∃ m, w' = w.drewN m := fun cap n => (MinI64_any q 1 cap ms (w.drewN n) h.k0 (by omega) h.mle (h.drewN n).at).mono fun _ _ ⟨h1, h2⟩ => ⟨h1, n, h2.symm⟩
  generalize hn : ms.length = n at *
  have HC1 := Lib.hid C1; have HCM := Lib.hid CM
  clear C1 h CM h1 h12 hn
  go_enter Try.func18, Try.ntmps18
  go_wp2_with (go_at_call 27; (with_reducible refine HC1.out.mono ?_); rintro e w1 ⟨rfl, rfl⟩)
  go_quiet (exact HCM.out _ _)
  go_wp2
  go_ret
  exact ⟨rfl, _, rfl⟩
theorem wMerged_any (q : Nat) (ms : List Int) (w : World) (h : WtIs w q ms) : QC 18 #[.pointer (some ⟨q, 0, none⟩)] (.int .i64 (minI ms)) w := QC.of fun n => wMerged_one q ms _ (h.drewN n)
theorem wMerged_not (x : Value) (w : World) (C1 : ∀ n, Calls Try.prog 27 #[x] (w.drewN n) fun e w' => e = .returned (.bool false) ∧ w.drewN n = w') : QC 18 #[x] (.int .i64 0) w := by
  refine QC.same fun n => ?_
  have HC1 := Lib.hid (C1 n)
  generalize w.drewN n = w at HC1 ⊢
  clear C1
  go_enter Try.func18, Try.ntmps18
  go_wp2_with (go_at_call 27; (with_reducible refine HC1.out.mono ?_); rintro e w1 ⟨rfl, rfl⟩)
  go_ret
  exact ⟨rfl, rfl⟩

/-- An input's mark; 0, if there is no such input. -/
def atI (ms : List Int) (i : Int) : Int := if hasI ms.length i then ms[i.toNat]! else 0
theorem atI_nat (ms : List Int) (j : Nat) (h : j < ms.length) : atI ms (j : Int) = ms[j]! := by
  unfold atI
  have : hasI ms.length (j : Int) = true := by unfold hasI; simp; omega
  rw [if_pos this]; rfl
theorem atI_not (ms : List Int) (i : Int) (h : hasI ms.length i = false) : atI ms i = 0 := by
  unfold atI; rw [h]; rfl
set_option maxRecDepth 100000 in
set_option maxHeartbeats 1600000 in
theorem wAt_any (q : Nat) (ms : List Int) (i : Int) (w : World) (h : WtIs w q ms) :
    Calls Try.prog 22 #[.pointer (some ⟨q, 0, none⟩), .int .i64 i] w fun e w' => e = .returned (.int .i64 (atI ms i)) ∧ w = w' := by
  have C1 := wIsMade_any q ms.length w h.num
  rw [h.posB] at C1
  have C2 := wHas_any q ms.length i w h.num
  cases hh : hasI ms.length i with
  | false =>
    rw [atI_not _ _ hh]
    rw [hh] at C2
    have HC1 := Lib.hid C1; have HC2 := Lib.hid C2
    clear C1 C2 h hh
    go_enter Try.func22, Try.ntmps22
    go_wp2_with (first | (go_at_call 27; (with_reducible refine HC1.out.mono ?_); rintro e w1 ⟨rfl, rfl⟩) | (go_at_call 28; (with_reducible refine HC2.out.mono ?_); rintro e w1 ⟨rfl, rfl⟩))
    go_ret
    exact ⟨rfl, rfl⟩
  | true =>
    rw [hh] at C2
    obtain ⟨j, rfl, hj⟩ := hasI_nat hh
    rw [atI_nat _ _ hj]
    have c1 := h.at j hj
    have hj0 : (0 : Int) ≤ (j : Int) := by omega
    have hj1 : (j : Int) < 12 := by have := h.k12; omega
    generalize ms[j]! = x at c1 ⊢
    have HC1 := Lib.hid C1; have HC2 := Lib.hid C2
    clear C1 C2 h hh hj
    go_enter Try.func22, Try.ntmps22
    go_wp2_with (first | (go_at_call 27; (with_reducible refine HC1.out.mono ?_); rintro e w1 ⟨rfl, rfl⟩) | (go_at_call 28; (with_reducible refine HC2.out.mono ?_); rintro e w1 ⟨rfl, rfl⟩))
    go_ret
    exact ⟨rfl, rfl⟩
theorem wAt_not (x : Value) (i : Int) (w : World) (C1 : Calls Try.prog 27 #[x] w fun e w' => e = .returned (.bool false) ∧ w = w') :
    Calls Try.prog 22 #[x, .int .i64 i] w fun e w' => e = .returned (.int .i64 0) ∧ w = w' := by
  have HC1 := Lib.hid C1
  clear C1
  go_enter Try.func22, Try.ntmps22
  go_wp2_with (go_at_call 27; (with_reducible refine HC1.out.mono ?_); rintro e w1 ⟨rfl, rfl⟩)
  go_ret
  exact ⟨rfl, rfl⟩

theorem wLate_any (q : Nat) (ms : List Int) (i t : Int) (w : World) (h : WtIs w q ms) :
    Calls Try.prog 20 #[.pointer (some ⟨q, 0, none⟩), .int .i64 i, .int .i64 t] w fun e w' => e = .returned (.bool (decide (t < atI ms i))) ∧ w = w' := by
  have C1 := wIsMade_any q ms.length w h.num
  rw [h.posB] at C1
  have HC1 := Lib.hid C1; have HC2 := Lib.hid (wAt_any q ms i w h)
  clear C1 h
  go_enter Try.func20, Try.ntmps20
  go_wp2_with (first | (go_at_call 27; (with_reducible refine HC1.out.mono ?_); rintro e w1 ⟨rfl, rfl⟩) | (go_at_call 22; (with_reducible refine HC2.out.mono ?_); rintro e w1 ⟨rfl, rfl⟩))
  go_ret
  exact ⟨rfl, rfl⟩
theorem wLate_not (x : Value) (i t : Int) (w : World) (C1 : Calls Try.prog 27 #[x] w fun e w' => e = .returned (.bool false) ∧ w = w') :
    Calls Try.prog 20 #[x, .int .i64 i, .int .i64 t] w fun e w' => e = .returned (.bool false) ∧ w = w' := by
  have HC1 := Lib.hid C1
  clear C1
  go_enter Try.func20, Try.ntmps20
  go_wp2_with (go_at_call 27; (with_reducible refine HC1.out.mono ?_); rintro e w1 ⟨rfl, rfl⟩)
  go_ret
  exact ⟨rfl, rfl⟩

theorem wDone_any (x : Value) (m : Int) (w : World) (C1 : QC 18 #[x] (.int .i64 m) w) : QC 21 #[x] (.bool (decide (m = 1099511627777))) w := by
  intro n
  have HC1 := Lib.hid (C1 n)
  generalize hW : w.drewN n = W at HC1 ⊢
  clear C1 hW
  by_cases hm : m = 1099511627777
  · have hb : (m == 1099511627777) = true := by simp [hm]
    rw [decide_eq_true hm]
    clear hm
    go_enter Try.func21, Try.ntmps21
    go_wp2_with (go_at_call 18; (with_reducible refine HC1.out.mono ?_); rintro e w1 ⟨rfl, k1, rfl⟩)
    go_ret
    exact ⟨rfl, _, rfl⟩
  · have hb : (m == 1099511627777) = false := by simp [hm]
    rw [decide_eq_false hm]
    clear hm
    go_enter Try.func21, Try.ntmps21
    go_wp2_with (go_at_call 18; (with_reducible refine HC1.out.mono ?_); rintro e w1 ⟨rfl, k1, rfl⟩)
    go_ret
    exact ⟨rfl, _, rfl⟩

/-- The begin below which nothing is needed. -/
def horI (m window : Int) : Int := if m = 1099511627777 then 1099511627777 else if window < 0 ∨ m < window then 0 else m - window
theorem wHorizon_any (x : Value) (m window : Int) (w : World) (hm0 : 0 ≤ m) (hmF : m ≤ 1099511627777) (C1 : QC 18 #[x] (.int .i64 m) w) : QC 19 #[x, .int .i64 window] (.int .i64 (horI m window)) w := by
  intro n
  have C2 := wDone_any x m w C1
  have HC1 := Lib.hid (C1 n); have HC2 := Lib.hid (show ∀ n, _ from C2)
  generalize hW : w.drewN n = W at HC1 ⊢
  clear C1 C2 hW
  unfold horI
  by_cases hm : m = 1099511627777
  · rw [decide_eq_true hm] at HC2
    rw [if_pos hm]
    clear hm hm0 hmF
    go_enter Try.func19, Try.ntmps19
    go_wp2_with (first | (go_at_call 18; (with_reducible refine HC1.out.mono ?_); rintro e w1 ⟨rfl, k1, rfl⟩) | (go_at_call 21; (with_reducible refine (HC2.out _).mono ?_); rintro e w1 ⟨rfl, k2, rfl⟩))
    go_ret
    exact ⟨rfl, _, rfl⟩
  · rw [decide_eq_false hm] at HC2
    rw [if_neg hm]
    clear hm
    by_cases h1 : window < 0
    · rw [if_pos (.inl h1)]
      have d1 : decide (window < 0) = true := by simpa using h1
      clear hm0 hmF
      go_enter Try.func19, Try.ntmps19
      go_wp2_with (first | (go_at_call 18; (with_reducible refine HC1.out.mono ?_); rintro e w1 ⟨rfl, k1, rfl⟩) | (go_at_call 21; (with_reducible refine (HC2.out _).mono ?_); rintro e w1 ⟨rfl, k2, rfl⟩))
      go_ret
      exact ⟨rfl, _, rfl⟩
    · by_cases h2 : m < window
      · rw [if_pos (.inr h2)]
        have d1 : decide (window < 0) = false := by simpa using h1
        have d2 : decide (window > m) = true := by simpa using h2
        clear hm0 hmF
        go_enter Try.func19, Try.ntmps19
        go_wp2_with (first | (go_at_call 18; (with_reducible refine HC1.out.mono ?_); rintro e w1 ⟨rfl, k1, rfl⟩) | (go_at_call 21; (with_reducible refine (HC2.out _).mono ?_); rintro e w1 ⟨rfl, k2, rfl⟩))
        go_ret
        exact ⟨rfl, _, rfl⟩
      · rw [if_neg (by omega)]
        have d1 : decide (window < 0) = false := by simpa using h1
        have d2 : decide (window > m) = false := by simpa using h2
        have e1 : IntKind.i64.wrap (m - window) = m - window := IntWalk.i64_in _ (by omega)
        go_enter Try.func19, Try.ntmps19
        go_wp2_with (first | (go_at_call 18; (with_reducible refine HC1.out.mono ?_); rintro e w1 ⟨rfl, k1, rfl⟩) | (go_at_call 21; (with_reducible refine (HC2.out _).mono ?_); rintro e w1 ⟨rfl, k2, rfl⟩))
        go_ret
        exact ⟨rfl, _, rfl⟩
end Go.Proofs.Ytclbfmjmamcjjaa
