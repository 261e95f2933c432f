/- live answers true. -/
import Derived.Test.YtehdimaihkckkaaSo13
namespace Go.Proofs.Ytehdimaihkckkaa
open Go Go.RowKit

/-- A shelf of the call's own, laid from w on. -/
def Lv (w : World) (q most nx : Nat) (ts : List Tg) (u : World) : Prop := ∃ F, ShIs u F q most nx ts ∧ (∀ b, F b → w.heap.size ≤ b) ∧ Below w.heap.size w u
theorem Lv.call {w : World} {q most nx : Nat} {ts : List Tg} {u u' : World} (h : Lv w q most nx ts u) (hb : Below u.heap.size u u') : Lv w q most nx ts u' := by
  obtain ⟨F, h1, h2, h3⟩ := h
  exact ⟨F, h1.below hb, h2, h3.trans (hb.mono h3.size)⟩
theorem Lv.chg {w : World} {q most nx' : Nat} {ts' : List Tg} {u u' : World} {F : Nat → Prop} (h2 : ∀ b, F b → w.heap.size ≤ b) (h3 : Below w.heap.size w u) (h1 : ShIs u' (grF F u u') q most nx' ts') (hc : Chg F u u') : Lv w q most nx' ts' u' :=
  ⟨_, h1, fun b hb => hb.elim (h2 b) (fun h => Nat.le_trans h3.size h.1), h3.trans (hc.below h3.size h2)⟩
theorem Lv.put {w : World} {q most nx : Nat} {ts : List Tg} {u : World} (h : Lv w q most nx ts u) (b e : Int) (x : ByteArray) (hnx : nx < 4611686018427387904) :
    Calls Try.prog 12 #[.pointer (some ⟨q, 0, none⟩), .agg #[.int .i64 b, .int .i64 e], .string x] u fun r u' => r = .returned (.int .i64 (putE most ts b e)) ∧ Lv w q most (putN most nx ts b e) (putL most nx ts b e x) u' := by
  obtain ⟨F, h1, h2, h3⟩ := h
  exact (hPut_any F q most nx ts b e x u h1 hnx).mono fun r u' hh => ⟨hh.1, Lv.chg h2 h3 hh.2.1 hh.2.2⟩
theorem Lv.clear {w : World} {q most nx : Nat} {ts : List Tg} {u : World} (h : Lv w q most nx ts u) (t : Int) :
    Calls Try.prog 14 #[.pointer (some ⟨q, 0, none⟩), .int .i64 t] u fun r u' => r = .returned (.int .i64 ((ts.length : Int) - ((ts.filter fun x => decide (x.beg ≥ t)).length : Int))) ∧ Lv w q most nx (ts.filter fun x => decide (x.beg ≥ t)) u' := by
  obtain ⟨F, h1, h2, h3⟩ := h
  exact (hClear_any F q most nx ts t u h1).mono fun r u' hh => ⟨hh.1, Lv.chg h2 h3 hh.2.1 hh.2.2⟩
theorem Lv.len {w : World} {q most nx : Nat} {ts : List Tg} {u : World} (h : Lv w q most nx ts u) : Calls Try.prog 18 #[.pointer (some ⟨q, 0, none⟩)] u fun v u' => v = .returned (.int .i64 (ts.length : Int)) ∧ u = u' := by
  obtain ⟨F, ⟨v, hv⟩, _⟩ := h
  obtain ⟨va, vc, rfl⟩ := hv.slice
  exact hLen_any _ va ts.length vc u (hList_any q va ts.length vc u (cells_three hv.blk).2.2.1)
theorem Lv.below {w : World} {q most nx : Nat} {ts : List Tg} {u : World} (h : Lv w q most nx ts u) : Below w.heap.size w u := by obtain ⟨F, h1, h2, h3⟩ := h; exact h3
def liA : Tg := ⟨0, 1, 4, ⟨#[97]⟩⟩
def liB : Tg := ⟨1, 3, 3, ⟨#[98]⟩⟩
theorem li1 : putE 2 [] 1 4 = 0 ∧ putN 2 0 [] 1 4 = 1 ∧ putL 2 0 [] 1 4 ⟨#[97]⟩ = [liA] := by refine ⟨?_, ?_, ?_⟩ <;> decide +kernel
theorem li2 : putE 2 [liA] 3 3 = 0 ∧ putN 2 1 [liA] 3 3 = 2 ∧ putL 2 1 [liA] 3 3 ⟨#[98]⟩ = [liA, liB] := by refine ⟨?_, ?_, ?_⟩ <;> decide +kernel
theorem li3 : putE 2 [liA, liB] 0 0 = 6 ∧ putN 2 2 [liA, liB] 0 0 = 2 ∧ putL 2 2 [liA, liB] 0 0 ⟨#[99]⟩ = [liA, liB] := by refine ⟨?_, ?_, ?_⟩ <;> decide +kernel
theorem li4 : ([liA, liB].filter fun t => decide (t.fin < 4)) = [liB] := by decide +kernel
theorem li5 : ([liA, liB].filter fun t => decide (t.beg ≥ 2)) = [liB] := by decide +kernel

set_option maxRecDepth 100000 in
set_option maxHeartbeats 3200000 in
theorem live13_any (w : World) : Calls Try.prog 8 #[] w fun e w' => e = .returned (.bool true) ∧ Below w.heap.size w w' := by
  have HN : Hid (Calls Try.prog 6 #[.int .i64 2] w fun e w' => e = .returned (.tuple #[.pointer (some ⟨w.heap.size, 0, none⟩), .int .i64 0]) ∧ ShIs w' (fun b => b = w.heap.size) w.heap.size 2 0 [] ∧ Below w.heap.size w w') := Lib.hid (hNew_ok 2 (by decide) (by decide) w)
  have HL : Hid (∀ u, ShIs u (fun b => b = w.heap.size) w.heap.size 2 0 [] → Below w.heap.size w u → Lv w w.heap.size 2 0 [] u) := Lib.hid (fun u h1 h2 => ⟨_, h1, fun b hb => by rw [hb]; exact Nat.le_refl _, h2⟩)
  have H1 : Hid (∀ u, Lv w w.heap.size 2 0 [] u → Calls Try.prog 12 #[.pointer (some ⟨w.heap.size, 0, none⟩), .agg #[.int .i64 1, .int .i64 4], .string ⟨#[97]⟩] u fun r u' => r = .returned (.int .i64 0) ∧ Lv w w.heap.size 2 1 [liA] u') := Lib.hid (fun u h => by
    have := h.put 1 4 ⟨#[97]⟩ (by decide)
    rwa [li1.1, li1.2.1, li1.2.2] at this)
  have H2 : Hid (∀ u, Lv w w.heap.size 2 1 [liA] u → Calls Try.prog 12 #[.pointer (some ⟨w.heap.size, 0, none⟩), .agg #[.int .i64 3, .int .i64 3], .string ⟨#[98]⟩] u fun r u' => r = .returned (.int .i64 0) ∧ Lv w w.heap.size 2 2 [liA, liB] u') := Lib.hid (fun u h => by
    have := h.put 3 3 ⟨#[98]⟩ (by decide)
    rwa [li2.1, li2.2.1, li2.2.2] at this)
  have H3 : Hid (∀ u, Lv w w.heap.size 2 2 [liA, liB] u → Calls Try.prog 12 #[.pointer (some ⟨w.heap.size, 0, none⟩), .agg #[.int .i64 0, .int .i64 0], .string ⟨#[99]⟩] u fun r u' => r = .returned (.int .i64 6) ∧ Lv w w.heap.size 2 2 [liA, liB] u') := Lib.hid (fun u h => by
    have := h.put 0 0 ⟨#[99]⟩ (by decide)
    rwa [li3.1, li3.2.1, li3.2.2] at this)
  have H4 : Hid (∀ u, Lv w w.heap.size 2 2 [liA, liB] u → Calls Try.prog 21 #[.pointer (some ⟨w.heap.size, 0, none⟩), .int .i64 4] u fun e u' => ∃ n₀ Ba Bf gf cp, e = .returned (.func (.func 56) #[] #[.pointer (some ⟨Ba, 0, none⟩), .pointer (some ⟨Bf, 0, none⟩)]) ∧ SomeAt u' n₀ Ba Bf gf cp [liA, liB] (fun t => decide (t.fin < 4)) ∧ Below u.heap.size u u') := Lib.hid (fun u h => by
    obtain ⟨F, h1, _⟩ := h
    exact hEnding_any F _ 2 2 _ 4 u h1)
  have H5 : Hid (∀ u (_ : Lv w w.heap.size 2 2 [liA, liB] u) n₀ Ba Bf gf cp, SomeAt u n₀ Ba Bf gf cp [liA, liB] (fun t => decide (t.fin < 4)) → Calls Try.prog 20 #[.func (.func 56) #[] #[.pointer (some ⟨Ba, 0, none⟩), .pointer (some ⟨Bf, 0, none⟩)], .slice (some ⟨u.heap.size, 0, none⟩) 1 1, .int .i64 0] (u.alloc (.cells #[.string ⟨#[98]⟩] 9)) fun e u' => e = .returned (.bool true) ∧ Lv w w.heap.size 2 2 [liA, liB] u') := Lib.hid (fun u hl n₀ Ba Bf gf cp h => by
    have hb : Below u.heap.size u (u.alloc (.cells #[.string ⟨#[98]⟩] 9)) := (Below.refl _ _).alloc (Nat.le_refl _) _
    refine (told13_any n₀ Ba Bf gf cp [liA, liB] _ _ 0 _ (h.below hb) ?_).mono fun e u' hh => ⟨hh.1, (hl.call hb).call hh.2⟩
    rw [li4]
    refine ⟨_, _, rfl, fun _ => ⟨u.heap.size, rfl, by simp, fun j hj => ?_⟩⟩
    obtain rfl : j = 0 := by simpa using hj
    exact cells_one0 (heap_alloc_new u _))
  have H6 : Hid (∀ u, Lv w w.heap.size 2 2 [liA, liB] u → Calls Try.prog 14 #[.pointer (some ⟨w.heap.size, 0, none⟩), .int .i64 2] u fun r u' => r = .returned (.int .i64 1) ∧ Lv w w.heap.size 2 2 [liB] u') := Lib.hid (fun u h => by
    have := h.clear 2
    rwa [li5] at this)
  have H7 : Hid (∀ u, Lv w w.heap.size 2 2 [liB] u → Calls Try.prog 18 #[.pointer (some ⟨w.heap.size, 0, none⟩)] u fun v u' => v = .returned (.int .i64 1) ∧ u = u') := Lib.hid (fun u h => h.len)
  go_enter Try.func8, Try.ntmps8
  go_wp2_with (first
    | (go_at_call 6; (with_reducible refine (HN.out).mono ?_); rintro e u0 ⟨rfl, h1, h2⟩; have K0 := Lib.hid (HL.out u0 h1 h2); clear h1 h2)
    | (go_at_call 12; (with_reducible refine (H1.out _ K0.out).mono ?_); rintro e u1 ⟨rfl, h1⟩; have K1 := Lib.hid h1; clear h1)
    | (go_at_call 12; (with_reducible refine (H2.out _ K1.out).mono ?_); rintro e u2 ⟨rfl, h1⟩; have K2 := Lib.hid h1; clear h1)
    | (go_at_call 12; (with_reducible refine (H3.out _ K2.out).mono ?_); rintro e u3 ⟨rfl, h1⟩; have K3 := Lib.hid h1; clear h1)
    | (go_at_call 21; (with_reducible refine (H4.out _ K3.out).mono ?_); rintro e u4 ⟨n₀, Ba, Bf, gf, cp, rfl, hs, hb⟩; have K4 := Lib.hid (K3.out.call hb); have KS := Lib.hid hs; clear hs hb)
    | (go_at_call 20; (with_reducible refine (H5.out _ K4.out _ _ _ _ _ KS.out).mono ?_); rintro e u5 ⟨rfl, h1⟩; have K5 := Lib.hid h1; clear h1)
    | (go_at_call 14; (with_reducible refine (H6.out _ K5.out).mono ?_); rintro e u6 ⟨rfl, h1⟩; have K6 := Lib.hid h1; clear h1)
    | (go_at_call 18; (with_reducible refine (H7.out _ K6.out).mono ?_); rintro e u7 ⟨rfl, rfl⟩))
  go_ret
  exact ⟨by simp, K6.out.below⟩
end Go.Proofs.Ytehdimaihkckkaa
