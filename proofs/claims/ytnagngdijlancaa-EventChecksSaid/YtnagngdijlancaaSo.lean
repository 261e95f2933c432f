/- Streams: of, Mark, Next, Closed, Len. -/
import Derived.Test.YtnagngdijlancaaSt
namespace Go.Proofs.Ytnagngdijlancaa
open Go Go.RowKit

theorem three_set {w : World} {q : Nat} {c0 c1 c2 : Value} {t : Nat} (h : w.heap[q]? = some (.cells #[c0, c1, c2] t (0, 0))) (d0 d1 d2 : Value) :
    (((w.setCell ⟨q, 0, none⟩ d0).setCell ⟨q, 1, none⟩ d1).setCell ⟨q, 2, none⟩ d2).heap[q]? = some (.cells #[d0, d1, d2] t (0, 0)) := by
  rw [heap_setCell_same (heap_setCell_same (heap_setCell_same h _) _) _]
  simp
theorem below_three {B q : Nat} {a w : World} (h : Below B a w) (hq : B ≤ q) (d0 d1 d2 : Value) :
    Below B a (((w.setCell ⟨q, 0, none⟩ d0).setCell ⟨q, 1, none⟩ d1).setCell ⟨q, 2, none⟩ d2) :=
  ((h.setCell (p := ⟨q, 0, none⟩) hq _).setCell (p := ⟨q, 1, none⟩) hq _).setCell (p := ⟨q, 2, none⟩) hq _
theorem saidAt_no {k : Nat} {sd : List Sd} {n : Int} (h : hasB k n = false) : saidAt k sd n = ⟨0, 0, false⟩ := by unfold saidAt; rw [h]; rfl
theorem saidAt_nat {k : Nat} {sd : List Sd} {j : Nat} (h : j < k) : saidAt k sd (j : Int) = sd[j]! := by
  unfold saidAt; rw [show hasB k (j : Int) = true by simp [hasB]; omega, if_pos rfl]; rfl

set_option maxRecDepth 100000 in
set_option maxHeartbeats 1600000 in
theorem sOf_any (F : Nat → Prop) (q k : Nat) (sd : List Sd) (evs : List Ev) (n : Int) (w : World) (h : StIs w F q k sd evs) :
    Calls Try.prog 90 #[.pointer (some ⟨q, 0, none⟩), .int .i64 n] w fun e w' => e = .returned (of3 (saidAt k sd n)) ∧ Below w.heap.size w w' := by
  have hlt := h.flt q h.fq
  have h0 := h.num
  have hk1 := h.k0
  have hx : (w.alloc (.cells #[.int .i64 0, .int .i64 0, .bool false] 93)).heap[w.heap.size]? = some (.cells #[.int .i64 0, .int .i64 0, .bool false] 93 (0, 0)) := heap_alloc_new w _
  have HX := hide hx
  have hm : (w.alloc (.cells #[.int .i64 0, .int .i64 0, .bool false] 93)).cell? ⟨q, 0, none⟩ = some (.int .i64 (k : Int)) := Lib.cell?_alloc_some _ h0
  have C1 := sIsMadeS_any q k _ hm hk1
  have C2 := sHas_any q k n _ hm
  obtain ⟨f0, f1, f2⟩ := cell_of_three' hx
  have g0 := free_of_st hx 0; have g1 := free_of_st hx 1; have g2 := free_of_st hx 2
  cases hh : hasB k n with
  | false =>
    rw [saidAt_no hh]
    rw [hh] at C2
    have HC1 := hide C1; have HC2 := hide C2
    have HH := hide h
    clear C1 C2 h hh hx hm h0
    go_enter Try.func90, Try.ntmps90
    go_wp2_with (first | (go_at_call 85; (with_reducible refine (HC1.out).mono ?_); rintro e w1 ⟨rfl, rfl⟩) | (go_at_call 86; (with_reducible refine (HC2.out).mono ?_); rintro e w1 ⟨rfl, rfl⟩))
    refine bodyPost_ret (v := .agg #[.int .i64 0, .int .i64 0, .bool false]) (by simp [results, Try.results90, go_sem]) rfl ⟨rfl, ?_⟩
    exact (Below.refl _ _).alloc (Nat.le_refl _) _
  | true =>
    obtain ⟨j, rfl, hj⟩ := hasB_nat hh
    rw [saidAt_nat hj]
    rw [hh] at C2
    have hj16 : j < 16 := by have := h.k16; omega
    obtain ⟨s0, s1, s2⟩ := h.said j hj16
    have hne : q ≠ w.heap.size := by omega
    have hj0 : (0 : Int) ≤ (j : Int) := by omega
    have hj1 : (j : Int) < 16 := by omega
    generalize sd[j]! = sj at s0 s1 s2
    obtain ⟨m, l, g⟩ := sj
    simp only at s0 s1 s2
    unfold of3
    simp only
    have HC1 := hide C1; have HC2 := hide C2
    clear C1 C2 h hh hx hm h0
    go_enter Try.func90, Try.ntmps90
    go_wp2_with (first | (go_at_call 85; (with_reducible refine (HC1.out).mono ?_); rintro e w1 ⟨rfl, rfl⟩) | (go_at_call 86; (with_reducible refine (HC2.out).mono ?_); rintro e w1 ⟨rfl, rfl⟩))
    refine bodyPost_ret (v := .agg #[.int .i64 m, .int .i64 l, .bool g]) (by simp [results, Try.results90, go_sem]) rfl ⟨rfl, ?_⟩
    exact (Below.refl _ _).alloc (Nat.le_refl _) _

def markI (s : Sd) : Int := if s.gone then 1099511627777 else s.last
set_option maxRecDepth 100000 in
theorem sMark_any (F : Nat → Prop) (q k : Nat) (sd : List Sd) (evs : List Ev) (n : Int) (w : World) (h : StIs w F q k sd evs) :
    Calls Try.prog 47 #[.pointer (some ⟨q, 0, none⟩), .int .i64 n] w fun e w' => e = .returned (.int .i64 (markI (saidAt k sd n))) ∧ Below w.heap.size w w' := by
  have C := sOf_any F q k sd evs n w h
  generalize saidAt k sd n = sj at C
  obtain ⟨m, l, g⟩ := sj
  unfold of3 at C
  simp only at C
  have HC := hide C
  clear C h
  cases g with
  | true =>
    rw [show markI _ = 1099511627777 from rfl]
    go_enter Try.func47, Try.ntmps47
    go_wp2_with (go_at_call 90; (with_reducible refine (HC.out).mono ?_); rintro e w1 ⟨rfl, hb⟩; have HB := hide hb; clear hb)
    go_ret
    exact ⟨rfl, HB.out.alloc HB.out.size _⟩
  | false =>
    rw [show markI _ = l from rfl]
    go_enter Try.func47, Try.ntmps47
    go_wp2_with (go_at_call 90; (with_reducible refine (HC.out).mono ?_); rintro e w1 ⟨rfl, hb⟩; have HB := hide hb; clear hb)
    go_ret
    exact ⟨rfl, HB.out.alloc HB.out.size _⟩
theorem said_field0 (m l : Int) (g : Bool) (w : World) : (Instr.field 93 (.agg #[.int .i64 m, .int .i64 l, .bool g]) 0).run Try.prog w = .ok (.int .i64 m) w := by
  have a2 := Try.isAgg2; have z2 := Try.sizeOf2
  unfold Instr.field
  go_simp
  unfold asAgg
  go_simp
theorem said_field2 (m l : Int) (g : Bool) (w : World) : (Instr.field 93 (.agg #[.int .i64 m, .int .i64 l, .bool g]) 2).run Try.prog w = .ok (.bool g) w := by
  have a2 := Try.isAgg4; have z2 := Try.sizeOf4
  unfold Instr.field
  go_simp
  unfold asAgg
  go_simp
set_option maxRecDepth 100000 in
theorem sNext_any (F : Nat → Prop) (q k : Nat) (sd : List Sd) (evs : List Ev) (n : Int) (w : World) (h : StIs w F q k sd evs) :
    Calls Try.prog 45 #[.pointer (some ⟨q, 0, none⟩), .int .i64 n] w fun e w' => e = .returned (.int .i64 (saidAt k sd n).many) ∧ Below w.heap.size w w' := by
  have C := sOf_any F q k sd evs n w h
  generalize saidAt k sd n = sj at C
  obtain ⟨m, l, g⟩ := sj
  unfold of3 at C
  simp only at C
  have HC := hide C
  clear C h
  have e0 := said_field0 m l g
  go_enter Try.func45, Try.ntmps45
  go_wp2_with (go_at_call 90; (with_reducible refine (HC.out).mono ?_); rintro e w1 ⟨rfl, hb⟩; have HB := hide hb; clear hb)
  go_ret
  exact ⟨rfl, HB.out⟩
set_option maxRecDepth 100000 in
theorem sClosed_any (F : Nat → Prop) (q k : Nat) (sd : List Sd) (evs : List Ev) (n : Int) (w : World) (h : StIs w F q k sd evs) :
    Calls Try.prog 49 #[.pointer (some ⟨q, 0, none⟩), .int .i64 n] w fun e w' => e = .returned (.bool (saidAt k sd n).gone) ∧ Below w.heap.size w w' := by
  have C := sOf_any F q k sd evs n w h
  generalize saidAt k sd n = sj at C
  obtain ⟨m, l, g⟩ := sj
  unfold of3 at C
  simp only at C
  have HC := hide C
  clear C h
  have e2 := said_field2 m l g
  go_enter Try.func49, Try.ntmps49
  go_wp2_with (go_at_call 90; (with_reducible refine (HC.out).mono ?_); rintro e w1 ⟨rfl, hb⟩; have HB := hide hb; clear hb)
  go_ret
  exact ⟨rfl, HB.out⟩
set_option maxRecDepth 100000 in
theorem sLen_any (F : Nat → Prop) (q k : Nat) (sd : List Sd) (evs : List Ev) (w : World) (h : StIs w F q k sd evs) :
    Calls Try.prog 51 #[.pointer (some ⟨q, 0, none⟩)] w fun e w' => e = .returned (.int .i64 (evs.length : Int)) ∧ w = w' := by
  have C := sIsMadeS_any q k w h.num h.k0
  obtain ⟨ao, c, he⟩ := h.evs
  have hm := h.many
  generalize evs.length = m at he hm
  have HC := hide C
  clear C h
  go_enter Try.func51, Try.ntmps51
  go_wp2_with (go_at_call 85; (with_reducible refine (HC.out).mono ?_); rintro e w1 ⟨rfl, rfl⟩)
  go_ret
  exact ⟨rfl, rfl⟩
/-- New. -/
def sd0 : List Sd := List.replicate 16 ⟨0, 0, false⟩
set_option maxRecDepth 100000 in
set_option maxHeartbeats 1600000 in
theorem eNew_ok (k : Nat) (h1 : 1 ≤ k) (h2 : k ≤ 16) (w : World) :
    Calls Try.prog 38 #[.int .i64 (k : Int)] w fun e w' => e = .returned (.tuple #[.pointer (some ⟨w.heap.size, 0, none⟩), .int .i64 0]) ∧ StIs w' (fun b => b = w.heap.size) w.heap.size k sd0 [] ∧ Below w.heap.size w w' := by
  have hk1 : ¬ (k : Int) < 1 := by omega
  have hk2 : (k : Int) ≤ 16 := by omega
  go_enter Try.func38, Try.ntmps38
  go_wp2
  go_ret2
  refine ⟨rfl, ⟨.slice none 0 0, [], rfl, fun b hb => by rw [hb]; simp, h1, h2, rfl, by simp, by simp, ?_, World.ownsRow_nil _ _ _ _, rfl, (fun a n c h => by cases h), (fun i hi => by simp at hi), fun i hi => by simp at hi⟩, (Below.refl _ _).alloc (Nat.le_refl _) _⟩
  exact heap_alloc_new w _
theorem eNew_no (n : Int) (h : n < 1 ∨ 16 < n) (w : World) :
    Calls Try.prog 38 #[.int .i64 n] w fun e w' => e = .returned (.tuple #[.pointer none, .int .i64 1]) ∧ w = w' := by
  rcases h with h | h
  · go_enter Try.func38, Try.ntmps38
    go_wp2
    go_ret2
    exact ⟨rfl, rfl⟩
  · have h1 : ¬ n < 1 := by omega
    go_enter Try.func38, Try.ntmps38
    go_wp2
    go_ret2
    exact ⟨rfl, rfl⟩
end Go.Proofs.Ytnagngdijlancaa
