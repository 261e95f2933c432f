/- The program's shelf: Ending, Beginning. -/
import Derived.Test.YtehdimaihkckkaaSj13
namespace Go.Proofs.Ytehdimaihkckkaa
open Go Go.RowKit Go.Shelf

theorem hSome_any (f1 f2 : Fn) (u1 v1 u2 v2 : Array Value) (w : World) : Calls Try.prog 47 #[.func f1 u1 v1, .func f2 u2 v2] w fun e w' => e = .returned (.func (.func 56) #[] #[.pointer (some ⟨w.heap.size, 0, none⟩), .pointer (some ⟨w.heap.size + 1, 0, none⟩)]) ∧ w' = (w.alloc (.cells #[.func f1 u1 v1] 44)).alloc (.cells #[.func f2 u2 v2] 87) := by
  go_enter Try.func47, Try.ntmps47
  go_wp2
  go_ret
  exact ⟨rfl, rfl⟩
theorem AllAt.raise {w : World} {n₀ n₁ Bs : Nat} {zs : List Tg} (h : AllAt w n₀ Bs zs) (h1 : n₀ ≤ n₁) (h2 : n₁ ≤ w.heap.size) : AllAt w n₁ Bs zs := by
  obtain ⟨ao, cap, hc, hr⟩ := h.row
  refine ⟨h.many, h.lt, h2, ao, cap, hc, fun h0 => ?_⟩
  obtain ⟨g, e, hg, hh⟩ := hr h0
  exact ⟨g, e, by omega, hh⟩
/-- The boxes of some, laid behind All. -/
theorem allAt_some {w1 : World} {n₀ Bs Bh gf : Nat} {zs : List Tg} {p : Tg → Bool} {h : Int} (ha : AllAt w1 n₀ Bs zs) (hh : w1.heap[Bh]? = some (.cells #[.int .i64 h] 2 (0, 0)))
    (eg : ∀ args w, (callFunc gf args).run Try.prog w = .ok (.enter gf args) w)
    (tell : ∀ (x : Tg) (u : World), u.cell? ⟨Bh, 0, none⟩ = some (.int .i64 h) → Calls Try.prog gf #[.agg #[.int .i64 x.beg, .int .i64 x.fin], .pointer (some ⟨Bh, 0, none⟩)] u fun e u' => e = .returned (.bool (p x)) ∧ Below u.heap.size u u') :
    SomeAt ((w1.alloc (.cells #[.func (.func 46) #[] #[.pointer (some ⟨Bs, 0, none⟩)]] 44)).alloc (.cells #[.func (.func gf) #[] #[.pointer (some ⟨Bh, 0, none⟩)]] 87)) (w1.heap.size + 2) w1.heap.size (w1.heap.size + 1) gf (.pointer (some ⟨Bh, 0, none⟩)) zs p := by
  have hb : Below w1.heap.size w1 ((w1.alloc (.cells #[.func (.func 46) #[] #[.pointer (some ⟨Bs, 0, none⟩)]] 44)).alloc (.cells #[.func (.func gf) #[] #[.pointer (some ⟨Bh, 0, none⟩)]] 87)) := ((Below.refl _ _).alloc (Nat.le_refl _) _).alloc (by simp) _
  have hle := ha.le
  have hl := lt_of_block hh
  refine ⟨by simp, by omega, by omega, ⟨Bs, cells_one0 (heap_alloc_keeps (heap_alloc_new w1 _) _), (ha.below hb).raise (by omega) (by simp)⟩, cells_one0 (heap_alloc_at (by simp) rfl), eg, fun x u hu => tell x u ?_⟩
  exact (hu.cell (p := ⟨Bh, 0, none⟩) (by show Bh < _; omega)).trans ((hb.cell (p := ⟨Bh, 0, none⟩) hl).trans (cells_one0 hh))

theorem hEnding1_any (x : Tg) (Bh : Nat) (h : Int) (w : World) (hc : w.cell? ⟨Bh, 0, none⟩ = some (.int .i64 h)) :
    Calls Try.prog 48 #[.agg #[.int .i64 x.beg, .int .i64 x.fin], .pointer (some ⟨Bh, 0, none⟩)] w fun e w' => e = .returned (.bool (decide (x.fin < h))) ∧ Below w.heap.size w w' := by
  have c1 := cell_alloc13 (.cells #[.int .i64 x.beg, .int .i64 x.fin] 32) hc
  have HB : Hid (Below w.heap.size w (w.alloc (.cells #[.int .i64 x.beg, .int .i64 x.fin] 32))) := (Below.refl _ _).alloc (Nat.le_refl _) _
  clear hc
  go_enter Try.func48, Try.ntmps48
  go_wp2
  go_ret
  exact ⟨rfl, HB.out⟩
/-- hEnding, given All. -/
theorem hEnding_of (pq : Value) (zs : List Tg) (h : Int) (w : World) (hA : ∀ u, Below w.heap.size w u → Calls Try.prog 15 #[pq] u fun e w' => ∃ Bs n₀, e = .returned (.func (.func 46) #[] #[.pointer (some ⟨Bs, 0, none⟩)]) ∧ AllAt w' n₀ Bs zs ∧ Below u.heap.size u w') :
    Calls Try.prog 21 #[pq, .int .i64 h] w fun e w' => ∃ n₀ Ba Bf gf cp, e = .returned (.func (.func 56) #[] #[.pointer (some ⟨Ba, 0, none⟩), .pointer (some ⟨Bf, 0, none⟩)]) ∧ SomeAt w' n₀ Ba Bf gf cp zs (fun t => decide (t.fin < h)) ∧ Below w.heap.size w w' := by
  obtain ⟨W, hW⟩ : ∃ W, W = w.alloc (.cells #[.int .i64 h] 2) := ⟨_, rfl⟩
  have hb0 : Below w.heap.size w W := by rw [hW]; exact (Below.refl _ _).alloc (Nat.le_refl _) _
  have hpW : W.heap[w.heap.size]? = some (.cells #[.int .i64 h] 2 (0, 0)) := by rw [hW]; exact heap_alloc_new w _
  have HA := Lib.hid (hA W hb0); have HW := Lib.hid hW; have HB := Lib.hid hb0; have HP := Lib.hid hpW
  have HS := Lib.hid (fun (u : World) (f1 f2 : Fn) (u1 v1 u2 v2 : Array Value) => hSome_any f1 f2 u1 v1 u2 v2 u)
  clear hA hW hb0 hpW
  go_enter Try.func21, Try.ntmps21
  go_wp2_with fail
  rw [← HW.out]
  go_wp2_with (first
    | (go_at_call 15; (with_reducible refine (HA.out).mono ?_); rintro e w1 ⟨Bs, n₀, rfl, hall, hb1⟩; have HL := Lib.hid hall; have HB1 := Lib.hid hb1; clear hall hb1)
    | (go_at_call 47; (with_reducible refine (HS.out _ _ _ _ _ _ _).mono ?_); rintro e w2 ⟨rfl, rfl⟩))
  go_ret
  have hl := lt_of_block HP.out
  have hb := HB1.out
  have hsz := HB.out.size
  have hsz1 := hb.size
  refine ⟨_, _, _, _, _, rfl, allAt_some HL.out ((hb.block _ hl).trans HP.out) (enters_of Try.func48 (by kernel_rfl) rfl) (fun x u hc => hEnding1_any x _ h u hc), ?_⟩
  exact ((HB.out.trans (hb.mono hsz)).alloc (by omega) _).alloc (by simp; omega) _
theorem hEnding_any (F : Nat → Prop) (q most nx : Nat) (ts : List Tg) (h : Int) (w : World) (hr : ShIs w F q most nx ts) :
    Calls Try.prog 21 #[.pointer (some ⟨q, 0, none⟩), .int .i64 h] w fun e w' => ∃ n₀ Ba Bf gf cp, e = .returned (.func (.func 56) #[] #[.pointer (some ⟨Ba, 0, none⟩), .pointer (some ⟨Bf, 0, none⟩)]) ∧ SomeAt w' n₀ Ba Bf gf cp ts (fun t => decide (t.fin < h)) ∧ Below w.heap.size w w' :=
  hEnding_of _ ts h w (fun u hu => (hAll_any F q most nx ts w u hr hu).mono fun e w' ⟨Bs, h1, h2, h3⟩ => ⟨Bs, _, h1, h2, h3⟩)
theorem hEnding_no (pq : Value) (h : Int) (w : World) (hl : ∀ u, Below w.heap.size w u → Calls Try.prog 37 #[pq] u fun e w' => e = .returned (.slice none 0 0) ∧ u = w') :
    Calls Try.prog 21 #[pq, .int .i64 h] w fun e w' => ∃ n₀ Ba Bf gf cp, e = .returned (.func (.func 56) #[] #[.pointer (some ⟨Ba, 0, none⟩), .pointer (some ⟨Bf, 0, none⟩)]) ∧ SomeAt w' n₀ Ba Bf gf cp [] (fun t => decide (t.fin < h)) ∧ Below w.heap.size w w' :=
  hEnding_of _ [] h w (fun u hu => (hAll_no pq u (hl u hu)).mono fun e w' ⟨Bs, h1, h2, h3⟩ => ⟨Bs, _, h1, h2, h3⟩)

theorem hBeginning1_any (x : Tg) (Bh : Nat) (h : Int) (w : World) (hc : w.cell? ⟨Bh, 0, none⟩ = some (.int .i64 h)) :
    Calls Try.prog 49 #[.agg #[.int .i64 x.beg, .int .i64 x.fin], .pointer (some ⟨Bh, 0, none⟩)] w fun e w' => e = .returned (.bool (decide (x.beg > h))) ∧ Below w.heap.size w w' := by
  have c1 := cell_alloc13 (.cells #[.int .i64 x.beg, .int .i64 x.fin] 32) hc
  have HB : Hid (Below w.heap.size w (w.alloc (.cells #[.int .i64 x.beg, .int .i64 x.fin] 32))) := (Below.refl _ _).alloc (Nat.le_refl _) _
  clear hc
  go_enter Try.func49, Try.ntmps49
  go_wp2
  go_ret
  exact ⟨rfl, HB.out⟩
/-- hBeginning, given All. -/
theorem hBeginning_of (pq : Value) (zs : List Tg) (h : Int) (w : World) (hA : ∀ u, Below w.heap.size w u → Calls Try.prog 15 #[pq] u fun e w' => ∃ Bs n₀, e = .returned (.func (.func 46) #[] #[.pointer (some ⟨Bs, 0, none⟩)]) ∧ AllAt w' n₀ Bs zs ∧ Below u.heap.size u w') :
    Calls Try.prog 22 #[pq, .int .i64 h] w fun e w' => ∃ n₀ Ba Bf gf cp, e = .returned (.func (.func 56) #[] #[.pointer (some ⟨Ba, 0, none⟩), .pointer (some ⟨Bf, 0, none⟩)]) ∧ SomeAt w' n₀ Ba Bf gf cp zs (fun t => decide (t.beg > h)) ∧ Below w.heap.size w w' := by
  obtain ⟨W, hW⟩ : ∃ W, W = w.alloc (.cells #[.int .i64 h] 2) := ⟨_, rfl⟩
  have hb0 : Below w.heap.size w W := by rw [hW]; exact (Below.refl _ _).alloc (Nat.le_refl _) _
  have hpW : W.heap[w.heap.size]? = some (.cells #[.int .i64 h] 2 (0, 0)) := by rw [hW]; exact heap_alloc_new w _
  have HA := Lib.hid (hA W hb0); have HW := Lib.hid hW; have HB := Lib.hid hb0; have HP := Lib.hid hpW
  have HS := Lib.hid (fun (u : World) (f1 f2 : Fn) (u1 v1 u2 v2 : Array Value) => hSome_any f1 f2 u1 v1 u2 v2 u)
  clear hA hW hb0 hpW
  go_enter Try.func22, Try.ntmps22
  go_wp2_with fail
  rw [← HW.out]
  go_wp2_with (first
    | (go_at_call 15; (with_reducible refine (HA.out).mono ?_); rintro e w1 ⟨Bs, n₀, rfl, hall, hb1⟩; have HL := Lib.hid hall; have HB1 := Lib.hid hb1; clear hall hb1)
    | (go_at_call 47; (with_reducible refine (HS.out _ _ _ _ _ _ _).mono ?_); rintro e w2 ⟨rfl, rfl⟩))
  go_ret
  have hl := lt_of_block HP.out
  have hb := HB1.out
  have hsz := HB.out.size
  have hsz1 := hb.size
  refine ⟨_, _, _, _, _, rfl, allAt_some HL.out ((hb.block _ hl).trans HP.out) (enters_of Try.func49 (by kernel_rfl) rfl) (fun x u hc => hBeginning1_any x _ h u hc), ?_⟩
  exact ((HB.out.trans (hb.mono hsz)).alloc (by omega) _).alloc (by simp; omega) _
theorem hBeginning_any (F : Nat → Prop) (q most nx : Nat) (ts : List Tg) (h : Int) (w : World) (hr : ShIs w F q most nx ts) :
    Calls Try.prog 22 #[.pointer (some ⟨q, 0, none⟩), .int .i64 h] w fun e w' => ∃ n₀ Ba Bf gf cp, e = .returned (.func (.func 56) #[] #[.pointer (some ⟨Ba, 0, none⟩), .pointer (some ⟨Bf, 0, none⟩)]) ∧ SomeAt w' n₀ Ba Bf gf cp ts (fun t => decide (t.beg > h)) ∧ Below w.heap.size w w' :=
  hBeginning_of _ ts h w (fun u hu => (hAll_any F q most nx ts w u hr hu).mono fun e w' ⟨Bs, h1, h2, h3⟩ => ⟨Bs, _, h1, h2, h3⟩)
theorem hBeginning_no (pq : Value) (h : Int) (w : World) (hl : ∀ u, Below w.heap.size w u → Calls Try.prog 37 #[pq] u fun e w' => e = .returned (.slice none 0 0) ∧ u = w') :
    Calls Try.prog 22 #[pq, .int .i64 h] w fun e w' => ∃ n₀ Ba Bf gf cp, e = .returned (.func (.func 56) #[] #[.pointer (some ⟨Ba, 0, none⟩), .pointer (some ⟨Bf, 0, none⟩)]) ∧ SomeAt w' n₀ Ba Bf gf cp [] (fun t => decide (t.beg > h)) ∧ Below w.heap.size w w' :=
  hBeginning_of _ [] h w (fun u hu => (hAll_no pq u (hl u hu)).mono fun e w' ⟨Bs, h1, h2, h3⟩ => ⟨Bs, _, h1, h2, h3⟩)
end Go.Proofs.Ytehdimaihkckkaa
