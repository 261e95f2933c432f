/- Contracts: rows of marks; Marks, New, Clone, Mark. -/
import Derived.Test.YtclbfmjmamcjjaaWb
import Derived.Lib.SliceRun
import Derived.Deep.LoopGhost
namespace Go.Proofs.Ytclbfmjmamcjjaa
open Go Go.RowKit

theorem own_slice {w : World} {B e size n : Nat} {v : Value} {xs : List Value} (h : w.ownsRow B e size v n xs) : ∃ ao cap, v = .slice ao n cap := by
  rcases h.2 with ⟨hv, hn0⟩ | ⟨g, cap, cur, hv, _⟩
  · exact ⟨none, 0, by rw [hv, hn0]⟩
  · exact ⟨_, _, hv⟩
theorem infoI64 : (Try.prog.info? 2).map (fun i => (i.zero, i.size, i.bytes)) = some (some (.int .i64 0), 1, 8) := by kernel_rfl
theorem infoI64' : ∃ i, Try.prog.info? 2 = some i ∧ i.zero = some (.int .i64 0) ∧ i.size = 1 ∧ i.bytes = 8 := by
  have h := infoI64
  cases hi : Try.prog.info? 2 with
  | none => rw [hi] at h; cases h
  | some i => rw [hi] at h; simp at h; exact ⟨i, rfl, h.1, h.2.1, h.2.2⟩
/-- The cells of a row of marks. -/
def rowI (ms : List Int) : List Value := ms.map (fun t => Value.int .i64 t)
theorem rowI_len (ms : List Int) : (rowI ms).length = ms.length := by unfold rowI; simp
theorem rowI_at {ms : List Int} {j : Nat} (h : j < ms.length) : (rowI ms)[j]? = some (.int .i64 ms[j]!) := by
  unfold rowI; rw [List.getElem?_map, List.getElem?_eq_getElem h, getElem!_pos ms j h]; rfl

set_option maxRecDepth 100000 in
set_option maxHeartbeats 1600000 in
theorem CloneI64_any (q o cap : Nat) (ms : List Int) (w : World) (h12 : ms.length * 8 ≤ 140737488355328) (hc : ∀ j, j < ms.length → w.cell? ⟨q, o + j, none⟩ = some (.int .i64 ms[j]!)) :
    Calls Try.prog 32 #[.slice (some ⟨q, o, none⟩) ms.length cap] w fun e w' => ∃ v', e = .returned v' ∧ w'.ownsRow w.heap.size 2 1 v' ms.length (rowI ms) ∧ v' ≠ .slice none 0 0 ∧ Below w.heap.size w w' := by
  obtain ⟨i0, hi, hz0, hz1, hz2⟩ := infoI64'
  have q22 : ∀ (w : World) (a : Option Addr) (n c n' c' : Nat), (binOp .eql 22 (.slice a n c) (.slice none n' c')).run Try.prog w = .ok (.bool a.isNone) w := fun w a n c n' c' => Lib.run_eql_slice_nil w _ _ a n c n' c' Try.underlying22
  have A : Aside (∀ j, j < ms.length → w.cell? ⟨q, o + j, none⟩ = some (.int .i64 ms[j]!)) := hc
  clear hc
  go_enter Try.func32, Try.ntmps32
  go_wp2_with (at_builtin; refine wpList_append_own _ rfl _ _ 22 rfl w.heap.size 2 i0 (.int .i64 0) 1 8 Try.underlying22 hi hz0 hz1 hz2 rfl (by decide) _ _ _ rfl (World.ownsRow_made w #[] 0 (Nat.le_refl _) (Nat.zero_le _) rfl) ⟨q, o, none⟩ ms.length cap (rowI ms) rfl ?qc1 ?qc2 ?qc3 ?qc4 ?qc5 ?qc6 ?_)
  case qc1 => rw [rowI_len]; omega
  case qc2 =>
    intro j u hj
    have hjn : j < ms.length := by have := (List.getElem?_eq_some_iff.1 hj).1; rwa [rowI_len] at this
    rw [Addr.add_lit]
    refine Lib.cell?_alloc_some _ ?_
    rw [A.out j hjn, ← hj, rowI_at hjn]
  case qc3 => intro u hu; obtain ⟨x, _, rfl⟩ := List.mem_map.1 hu; rfl
  case qc4 => unfold maxLen; omega
  case qc5 => omega
  case qc6 => simp
  intro v' w1 hown hgrow hnil
  go_wp2
  go_ret
  refine ⟨v', rfl, by simpa using hown, hnil, ?_⟩
  exact ((Below.refl _ w).alloc (Nat.le_refl _) _).grown hgrow (by simp) (by intro k hk; simp [Value.ownBlock] at hk; omega)

set_option maxRecDepth 100000 in
set_option maxHeartbeats 1600000 in
theorem wMarks_any (q : Nat) (ms : List Int) (w : World) (h : WtIs w q ms) :
    Calls Try.prog 17 #[.pointer (some ⟨q, 0, none⟩)] w fun e w' => ∃ g cap, e = .returned (.slice (some ⟨g, 0, none⟩) ms.length cap) ∧ w'.ownsRow w.heap.size 2 1 (.slice (some ⟨g, 0, none⟩) ms.length cap) ms.length (rowI ms) ∧ Below w.heap.size w w' := by
  have C1 := wIsMade_any q ms.length w h.num
  rw [h.posB] at C1
  have c0 := h.num
  have h1 := h.k0; have h12 := h.k12
  have hz0 : (0 : Int) ≤ (ms.length : Int) := by omega
  have hz1 : (ms.length : Int) ≤ 12 := by omega
  have CM := Lib.hid (fun cap => CloneI64_any q 1 cap ms w.drew (by omega) h.drew.at)
  generalize hn : ms.length = n at *
  have HC1 := Lib.hid C1
  clear C1 h hn h1 h12
  go_enter Try.func17, Try.ntmps17
  go_wp2_with (go_at_call 27; (with_reducible refine HC1.out.mono ?_); rintro e w1 ⟨rfl, rfl⟩)
  go_region_with (go_at_call 32; (with_reducible refine (CM.out _).mono ?_); rintro e w1 ⟨v', rfl, ho, hne, hb⟩; have HO := Lib.hid ho; have HB := Lib.hid hb; have HN := Lib.hid hne; clear ho hb hne)
  all_goals
    go_wp2
    go_ret
    rcases HO.out.2 with ⟨hv, hn0⟩ | ⟨g, cap, cur, rfl, _⟩
    · exact absurd (by rw [hv]) HN.out
    · exact ⟨g, cap, rfl, HO.out, (Below.refl w.heap.size w).drew.trans HB.out⟩
theorem wMarks_not (x : Value) (w : World) (C1 : Calls Try.prog 27 #[x] w fun e w' => e = .returned (.bool false) ∧ w = w') :
    Calls Try.prog 17 #[x] w fun e w' => e = .returned (.slice none 0 0) ∧ w = w' := by
  have HC1 := Lib.hid C1
  clear C1
  go_enter Try.func17, Try.ntmps17
  go_wp2_with (go_at_call 27; (with_reducible refine HC1.out.mono ?_); rintro e w1 ⟨rfl, rfl⟩)
  go_ret
  exact ⟨rfl, rfl⟩

/-- How many inputs there may be. -/
def newB (n : Int) : Bool := decide (1 ≤ n) && decide (n ≤ 12)
theorem wNew_ok (n : Nat) (h1 : 1 ≤ n) (h2 : n ≤ 12) (w : World) :
    Calls Try.prog 7 #[.int .i64 (n : Int)] w fun e w' => e = .returned (.tuple #[.pointer (some ⟨w.heap.size, 0, none⟩), .int .i64 0]) ∧ WtIs w' w.heap.size (List.replicate n 0) ∧ Below w.heap.size w w' := by
  have hk1 : decide ((n : Int) < 1) = false := by simp; omega
  have hk2 : decide ((n : Int) > 12) = false := by simp; omega
  go_enter Try.func7, Try.ntmps7
  go_wp2
  go_ret2
  refine ⟨rfl, ⟨by simpa using h1, by simpa using h2, fun t ht => ?_, ?_⟩, (Below.refl _ _).alloc (Nat.le_refl _) _⟩
  · rw [(List.mem_replicate.1 ht).2]; decide
  · rw [heap_alloc_new]
    have : (wtCells (List.replicate n 0)).toArray = #[.int .i64 (n : Int), .int .i64 0, .int .i64 0, .int .i64 0, .int .i64 0, .int .i64 0, .int .i64 0, .int .i64 0, .int .i64 0, .int .i64 0, .int .i64 0, .int .i64 0, .int .i64 0] := by
      unfold wtCells
      rw [List.length_replicate, List.replicate_append_replicate, show n + (12 - n) = 12 by omega]
      rfl
    rw [this]
theorem wNew_err (n : Int) (h : newB n = false) (w : World) :
    Calls Try.prog 7 #[.int .i64 n] w fun e w' => e = .returned (.tuple #[.pointer none, .int .i64 1]) ∧ w = w' := by
  unfold newB at h
  by_cases h1 : n < 1
  · have hk1 : decide (n < 1) = true := by simpa using h1
    clear h
    go_enter Try.func7, Try.ntmps7
    go_wp2
    go_ret2
    exact ⟨rfl, rfl⟩
  · have hk1 : decide (n < 1) = false := by simpa using h1
    have hk2 : decide (n > 12) = true := by
      rw [show decide (1 ≤ n) = true by simp; omega, Bool.true_and, decide_eq_false_iff_not] at h
      simp; omega
    clear h
    go_enter Try.func7, Try.ntmps7
    go_wp2
    go_ret2
    exact ⟨rfl, rfl⟩

/-- What Mark answers; what the marks are behind it. -/
def mkErr (ms : List Int) (i t : Int) : Int := if (hasI ms.length i && mayB t) = false then 1 else if t < ms[i.toNat]! then 120 else 0
def mkL (ms : List Int) (i t : Int) : List Int := if mkErr ms i t = 0 then ms.set i.toNat t else ms
theorem mkL_len (ms : List Int) (i t : Int) : (mkL ms i t).length = ms.length := by unfold mkL; split <;> simp
theorem mkL_err {ms : List Int} {i t : Int} (h : mkErr ms i t ≠ 0) : mkL ms i t = ms := by unfold mkL; rw [if_neg h]
/-- Marks never fall. -/
theorem mkL_rise (ms : List Int) (i t : Int) (j : Nat) : ms[j]! ≤ (mkL ms i t)[j]! := by
  unfold mkL
  by_cases h : mkErr ms i t = 0
  · rw [if_pos h]
    unfold mkErr at h
    by_cases h1 : (hasI ms.length i && mayB t) = false
    · rw [if_pos h1] at h; omega
    · rw [if_neg h1] at h
      have hh : hasI ms.length i = true := by
        cases hq : hasI ms.length i with
        | true => rfl
        | false => rw [hq] at h1; exact absurd rfl h1
      obtain ⟨k, rfl, hk⟩ := hasI_nat hh
      rw [show ((k : Int)).toNat = k from rfl] at h ⊢
      by_cases h2 : t < ms[k]!
      · rw [if_pos h2] at h; omega
      · by_cases hj : j < ms.length
        · rw [getElem!_pos (ms.set k t) j (by simpa using hj), List.getElem_set]
          by_cases hkj : k = j
          · subst hkj; rw [if_pos rfl]; omega
          · rw [if_neg hkj, getElem!_pos ms j hj]; exact Int.le_refl _
        · rw [getElem!_neg ms j hj, getElem!_neg (ms.set k t) j (by simpa using hj)]; exact Int.le_refl _
  · rw [if_neg h]; exact Int.le_refl _
theorem mem_idx {ms : List Int} {x : Int} (h : x ∈ ms) : ∃ j, j < ms.length ∧ x = ms[j]! := by
  obtain ⟨j, hj, rfl⟩ := List.mem_iff_getElem.1 h
  exact ⟨j, hj, (getElem!_pos ms j hj).symm⟩
theorem mkL_min (ms : List Int) (i t : Int) : minI ms ≤ minI (mkL ms i t) := by
  refine minI_ge (minI_le ms) fun x hx => ?_
  obtain ⟨j, hj, rfl⟩ := mem_idx hx
  rw [mkL_len] at hj
  refine Int.le_trans (minI_mem (x := ms[j]!) ?_) (mkL_rise ms i t j)
  rw [getElem!_pos ms j hj]; exact List.getElem_mem _
theorem minI_nonneg {ms : List Int} (h : ∀ t ∈ ms, 0 ≤ t ∧ t ≤ 1099511627777) : 0 ≤ minI ms := minI_ge (by decide) fun x hx => (h x hx).1

theorem Chg.drewN {F : Nat → Prop} {a w : World} (h : Chg F a w) (n : Nat) : Chg F a (w.drewN n) := ⟨h.os, h.tape, h.output, h.size, h.block⟩
set_option maxRecDepth 100000 in
set_option maxHeartbeats 3200000 in
theorem wMark_any (q : Nat) (ms : List Int) (i t : Int) (w : World) (h : WtIs w q ms) :
    Calls Try.prog 14 #[.pointer (some ⟨q, 0, none⟩), .int .i64 i, .int .i64 t] w fun e w' => e = .returned (.tuple #[.bool (decide (minI ms < minI (mkL ms i t))), .int .i64 (mkErr ms i t)]) ∧ WtIs w' q (mkL ms i t) ∧ Chg (fun b => b = q) w w' := by
  have C1 := wIsMade_any q ms.length w h.num
  rw [h.posB] at C1
  have C2 := wHas_any q ms.length i w h.num
  have C3 := wIsMark_any t w
  cases hh : hasI ms.length i with
  | false =>
    have he : mkErr ms i t = 1 := by unfold mkErr; rw [hh]; rfl
    rw [mkL_err (by rw [he]; decide), he, decide_eq_false (Int.lt_irrefl _)]
    rw [hh] at C2
    have HC1 := Lib.hid C1; have HC2 := Lib.hid C2; have HH := Lib.hid h
    clear C1 C2 C3 h hh he
    go_enter Try.func14, Try.ntmps14
    go_wp2_with (first | (go_at_call 27; (with_reducible refine HC1.out.mono ?_); rintro e w1 ⟨rfl, rfl⟩) | (go_at_call 28; (with_reducible refine HC2.out.mono ?_); rintro e w1 ⟨rfl, rfl⟩))
    go_ret2
    exact ⟨rfl, HH.out, Chg.refl _ _⟩
  | true =>
    cases hm : mayB t with
    | false =>
      have he : mkErr ms i t = 1 := by unfold mkErr; rw [hm, Bool.and_false]; rfl
      rw [mkL_err (by rw [he]; decide), he, decide_eq_false (Int.lt_irrefl _)]
      rw [hh] at C2; rw [hm] at C3
      have HC1 := Lib.hid C1; have HC2 := Lib.hid C2; have HC3 := Lib.hid C3; have HH := Lib.hid h
      clear C1 C2 C3 h hh he hm
      go_enter Try.func14, Try.ntmps14
      go_wp2_with (first | (go_at_call 27; (with_reducible refine HC1.out.mono ?_); rintro e w1 ⟨rfl, rfl⟩) | (go_at_call 28; (with_reducible refine HC2.out.mono ?_); rintro e w1 ⟨rfl, rfl⟩) | (go_at_call 25; (with_reducible refine HC3.out.mono ?_); rintro e w1 ⟨rfl, rfl⟩))
      go_ret2
      exact ⟨rfl, HH.out, Chg.refl _ _⟩
    | true =>
      rw [hh] at C2; rw [hm] at C3
      obtain ⟨j, rfl, hj⟩ := hasI_nat hh
      have c1 := h.at j hj
      have f1 := h.free (1 + j)
      have hj0 : (0 : Int) ≤ (j : Int) := by omega
      have hj1 : (j : Int) < 12 := by have := h.k12; omega
      by_cases hlt : t < ms[j]!
      · have he : mkErr ms (j : Int) t = 120 := by unfold mkErr; rw [hh, hm]; exact if_pos hlt
        rw [mkL_err (by rw [he]; decide), he, decide_eq_false (Int.lt_irrefl _)]
        generalize ms[j]! = x at c1 hlt
        have hd : decide (t < x) = true := by simpa using hlt
        have HC1 := Lib.hid C1; have HC2 := Lib.hid C2; have HC3 := Lib.hid C3; have HH := Lib.hid h
        clear C1 C2 C3 h hh he hm hlt hj
        go_enter Try.func14, Try.ntmps14
        go_wp2_with (first | (go_at_call 27; (with_reducible refine HC1.out.mono ?_); rintro e w1 ⟨rfl, rfl⟩) | (go_at_call 28; (with_reducible refine HC2.out.mono ?_); rintro e w1 ⟨rfl, rfl⟩) | (go_at_call 25; (with_reducible refine HC3.out.mono ?_); rintro e w1 ⟨rfl, rfl⟩))
        all_goals try go_quiet (fail)
        all_goals try go_wp2
        go_ret2
        exact ⟨rfl, HH.out, Chg.refl _ _⟩
      · have he : mkErr ms (j : Int) t = 0 := by unfold mkErr; rw [hh, hm]; exact if_neg hlt
        have hL : mkL ms (j : Int) t = ms.set j t := by unfold mkL; rw [if_pos he]; rfl
        have hmt : 0 ≤ t ∧ t ≤ 1099511627777 := by unfold mayB at hm; rw [Bool.and_eq_true, decide_eq_true_iff, decide_eq_true_iff] at hm; exact hm
        rw [he, hL]
        have CM := Lib.hid (wMerged_one q ms w h)
        have CM2 := Lib.hid (fun n => wMerged_one q (ms.set j t) _ ((h.drewN n).mark j hj t hmt))
        have HMN := Lib.hid (fun n => (h.drewN n).mark j hj t hmt)
        generalize ms[j]! = x at c1 hlt
        have hd : decide (t < x) = false := by simpa using hlt
        generalize ms.set j t = ns at HMN CM2 ⊢
        generalize minI ms = m1 at CM ⊢
        generalize minI ns = m2 at CM2 ⊢
        have HC1 := Lib.hid C1; have HC2 := Lib.hid C2; have HC3 := Lib.hid C3
        clear C1 C2 C3 h hh he hm hlt hj hL hmt
        go_enter Try.func14, Try.ntmps14
        go_wp2_with (first | (go_at_call 27; (with_reducible refine HC1.out.mono ?_); rintro e w1 ⟨rfl, rfl⟩) | (go_at_call 28; (with_reducible refine HC2.out.mono ?_); rintro e w1 ⟨rfl, rfl⟩) | (go_at_call 25; (with_reducible refine HC3.out.mono ?_); rintro e w1 ⟨rfl, rfl⟩) | (go_at_call 18; (with_reducible refine CM.out.mono ?_); rintro e w1 ⟨rfl, n1, rfl⟩) | (go_at_call 18; (with_reducible refine (CM2.out _).mono ?_); rintro e w1 ⟨rfl, n2, rfl⟩))
        go_ret2
        exact ⟨rfl, (HMN.out n1).drewN n2, (((Chg.refl (fun b => b = q) _).drewN n1).setCell (p := ⟨q, 1 + j, none⟩) rfl _).drewN n2⟩
theorem wMark_not (x : Value) (i t : Int) (w : World) (C1 : Calls Try.prog 27 #[x] w fun e w' => e = .returned (.bool false) ∧ w = w') :
    Calls Try.prog 14 #[x, .int .i64 i, .int .i64 t] w fun e w' => e = .returned (.tuple #[.bool false, .int .i64 2]) ∧ w = w' := by
  have HC1 := Lib.hid C1
  clear C1
  go_enter Try.func14, Try.ntmps14
  go_wp2_with (go_at_call 27; (with_reducible refine HC1.out.mono ?_); rintro e w1 ⟨rfl, rfl⟩)
  go_ret2
  exact ⟨rfl, rfl⟩
end Go.Proofs.Ytclbfmjmamcjjaa
