/- The program's shelf: Clear; says (a deferred recover); what is not made. -/
import Derived.Test.YtehdimaihkckkaaSe13
import Derived.Defers
import Derived.Recover
namespace Go.Proofs.Ytehdimaihkckkaa
open Go Go.RowKit Go.Sort

theorem hClear1_any (t : Tg) (B : Nat) (h : Int) (w : World) (hc : w.cell? ⟨B, 0, none⟩ = some (.int .i64 h)) (hB : B < w.heap.size) :
    Calls Try.prog 45 #[tgV t, .pointer (some ⟨B, 0, none⟩)] w fun e w' => e = .returned (.bool (decide (t.beg < h))) ∧ Below w.heap.size w w' := by
  have hbX : Below w.heap.size w (w.alloc (.cells #[.int .i64 t.num, .int .i64 t.beg, .int .i64 t.fin, .string t.txt] 81)) := (Below.refl _ _).alloc (Nat.le_refl _) _
  have c1 := cell_alloc13 (.cells #[.int .i64 t.num, .int .i64 t.beg, .int .i64 t.fin, .string t.txt] 81) hc
  have HB := Lib.hid hbX
  unfold tgV
  clear hbX hc hB
  go_enter Try.func45, Try.ntmps45
  go_wp2
  go_ret
  exact ⟨rfl, HB.out⟩
theorem not_lt_dec (ts : List Tg) (h : Int) : (ts.filter fun t => !decide (t.beg < h)) = ts.filter fun t => decide (t.beg ≥ h) := by
  congr 1
  funext t
  by_cases hh : t.beg < h
  · simp [hh]
  · simp [hh]; omega

set_option maxRecDepth 100000 in
set_option maxHeartbeats 1600000 in
theorem hClear_any (F : Nat → Prop) (q most nx : Nat) (ts : List Tg) (h : Int) (w : World) (hr : ShIs w F q most nx ts) :
    Calls Try.prog 14 #[.pointer (some ⟨q, 0, none⟩), .int .i64 h] w fun r w' => r = .returned (.int .i64 ((ts.length : Int) - ((ts.filter fun t => decide (t.beg ≥ h)).length : Int))) ∧ ShIs w' (grF F w w') q most nx (ts.filter fun t => decide (t.beg ≥ h)) ∧ Chg F w w' := by
  obtain ⟨W, hW⟩ : ∃ W, W = w.alloc (.cells #[.int .i64 h] 2) := ⟨_, rfl⟩
  have hb0 : Below w.heap.size w W := by rw [hW]; exact (Below.refl _ _).alloc (Nat.le_refl _) _
  have hpW : W.heap[w.heap.size]? = some (.cells #[.int .i64 h] 2 (0, 0)) := by rw [hW]; exact heap_alloc_new w _
  have hlt := lt_of_block hpW
  have hC := hDrop_any 45 (.pointer (some ⟨w.heap.size, 0, none⟩)) (fun t => decide (t.beg < h)) F q most nx ts W (hr.below hb0) (enters_of Try.func45 (by kernel_rfl) rfl)
    (fun t _ u hu => hClear1_any t w.heap.size h u ((hu.cell (p := ⟨w.heap.size, 0, none⟩) hlt).trans (cells_one0 hpW)) (Nat.lt_of_lt_of_le hlt hu.size))
  rw [not_lt_dec] at hC
  have HC := Lib.hid hC; have HW := Lib.hid hW; have HB := Lib.hid hb0
  have HF := Lib.hid hr.flt
  clear hC hW hb0 hpW hr hlt
  go_enter Try.func14, Try.ntmps14
  go_wp2_with fail
  rw [← HW.out]
  go_wp2_with ((go_at_call 39; (with_reducible refine (HC.out).mono ?_); rintro r w1 ⟨rfl, hs, hc⟩; have HS := Lib.hid hs; have HC1 := Lib.hid hc; clear hs hc))
  go_ret
  have hsz := HB.out.size
  refine ⟨rfl, ShIs.widen HS.out (fun b hb => ?_) (grF_lt HF.out (Nat.le_trans hsz HC1.out.size)), (Chg.of_below HB.out).trans HC1.out (fun j hj => .inl hj)⟩
  rcases hb with hb | hb
  · exact .inl hb
  · exact .inr ⟨Nat.le_trans hsz hb.1, hb.2⟩

/-- drop of a shelf that no call made. -/
theorem hDrop_no (p f : Value) (hf : ∃ a b c, f = .func a b c) (w : World) (h : Calls Try.prog 42 #[p] w fun e w' => e = .returned (.bool false) ∧ w = w') : Calls Try.prog 39 #[p, f] w fun e w' => e = .returned (.int .i64 0) ∧ w = w' := by
  obtain ⟨a, b, c, rfl⟩ := hf
  have H := Lib.hid h
  clear h
  go_enter Try.func39, Try.ntmps39
  go_wp2_with (go_at_call 42; (with_reducible refine H.out.mono ?_); rintro e w1 ⟨rfl, rfl⟩)
  go_ret
  exact ⟨rfl, rfl⟩
theorem hClear_no (p : Value) (t : Int) (w : World) (h : ∀ u, Below w.heap.size w u → Calls Try.prog 42 #[p] u fun e w' => e = .returned (.bool false) ∧ u = w') : Calls Try.prog 14 #[p, .int .i64 t] w fun e w' => e = .returned (.int .i64 0) ∧ Below w.heap.size w w' := by
  obtain ⟨W, hW⟩ : ∃ W, W = w.alloc (.cells #[.int .i64 t] 2) := ⟨_, rfl⟩
  have hb0 : Below w.heap.size w W := by rw [hW]; exact (Below.refl _ _).alloc (Nat.le_refl _) _
  have HC := Lib.hid (fun f hf => hDrop_no p f hf W (h W hb0)); have HW := Lib.hid hW; have HB := Lib.hid hb0
  clear hW hb0 h
  go_enter Try.func14, Try.ntmps14
  go_wp2_with fail
  rw [← HW.out]
  go_wp2_with (go_at_call 39; (with_reducible refine (HC.out _ ⟨_, _, _, rfl⟩).mono ?_); rintro e w1 ⟨rfl, rfl⟩)
  go_ret
  exact ⟨rfl, HB.out⟩
theorem hClone_no (p : Value) (w : World) (h : Calls Try.prog 42 #[p] w fun e w' => e = .returned (.bool false) ∧ w = w') : Calls Try.prog 13 #[p] w fun e w' => e = .returned (.pointer none) ∧ w = w' := by
  have H := Lib.hid h
  clear h
  go_enter Try.func13, Try.ntmps13
  go_wp2_with (go_at_call 42; (with_reducible refine H.out.mono ?_); rintro e w1 ⟨rfl, rfl⟩)
  go_ret
  exact ⟨rfl, rfl⟩
theorem hPut_made (p : Value) (b e : Int) (x : ByteArray) (w : World) (h : ∀ u, Below w.heap.size w u → Calls Try.prog 42 #[p] u fun e w' => e = .returned (.bool false) ∧ u = w') : Calls Try.prog 12 #[p, .agg #[.int .i64 b, .int .i64 e], .string x] w fun r w' => r = .returned (.int .i64 2) ∧ Below w.heap.size w w' := by
  obtain ⟨W, hW⟩ : ∃ W, W = w.alloc (.cells #[.int .i64 b, .int .i64 e] 32) := ⟨_, rfl⟩
  have hb0 : Below w.heap.size w W := by rw [hW]; exact (Below.refl _ _).alloc (Nat.le_refl _) _
  have HC := Lib.hid (h W hb0); have HW := Lib.hid hW; have HB := Lib.hid hb0
  clear hW hb0 h
  go_enter Try.func12, Try.ntmps12
  go_wp2_with fail
  rw [← HW.out]
  go_wp2_with (go_at_call 42; (with_reducible refine (HC.out).mono ?_); rintro r w1 ⟨rfl, rfl⟩)
  go_ret
  exact ⟨rfl, HB.out⟩

/-- recover, where nothing panics. -/
theorem hSays1_idle (w : World) : CallsD Try.prog 53 #[] .returning w fun e u' w' => e = .returned (.tuple #[]) ∧ u' = .returning ∧ w' = w := by
  refine callsD_of_wpS Try.func53 rfl fun c₀ cs hu => ?_
  apply wpS_region
  simp [wpOpsS, go_sem, recoverD, hu, Try.ntmps53, Exit.thenS]
  cases c₀
  simp_all [bodyPostS, results, Try.results53]
set_option maxRecDepth 100000 in
set_option maxHeartbeats 1600000 in
theorem hSays_any (gf : Nat) (cp : Value) (t : Tg) (b : Bool) (w : World) (eg : ∀ args w, (callFunc gf args).run Try.prog w = .ok (.enter gf args) w)
    (HF : ∀ u : World, Below w.heap.size w u → Calls Try.prog gf #[.agg #[.int .i64 t.beg, .int .i64 t.fin], .string t.txt, cp] u fun e w' => e = .returned (.bool b) ∧ Below u.heap.size u w') :
    Calls Try.prog 38 #[.func (.func gf) #[] #[cp], tgV t] w fun e w' => e = .returned (.bool b) ∧ Below w.heap.size w w' := by
  have hmf : ∀ (fn : Fn) (first cap : Array Value) (w : World), (Instr.makeFunc fn first cap).run Try.prog w = .ok (.func fn first cap) w := fun _ _ _ _ => rfl
  obtain ⟨X, hX⟩ : ∃ X, X = w.alloc (.cells #[.int .i64 t.num, .int .i64 t.beg, .int .i64 t.fin, .string t.txt] 81) := ⟨_, rfl⟩
  have hbX : Below w.heap.size w X := by rw [hX]; exact (Below.refl _ _).alloc (Nat.le_refl _) _
  have hXn : X.heap[w.heap.size]? = some (.cells #[.int .i64 t.num, .int .i64 t.beg, .int .i64 t.fin, .string t.txt] 81 (0, 0)) := by rw [hX]; exact heap_alloc_new w _
  obtain ⟨y0, y1, y2, y3⟩ := cell_of_four hXn
  have HC := Lib.hid (HF X hbX)
  have HX := Lib.hid hX; have HB := Lib.hid hbX
  unfold tgV
  clear hX hbX hXn HF
  go_enter_defers Try.func38, Try.ntmps38
  go_wp2_with fail
  rw [← HX.out]
  go_wp2_with (go_at_fn gf; (with_reducible refine (HC.out).mono ?_); rintro e w2 ⟨rfl, hb2⟩; have HB2 := Lib.hid hb2; clear hb2)
  refine leaves_cons (f := 53) (args := #[]) (by simp) (by simp [go_sem]) ?_
  refine (hSays1_idle _).mono ?_
  rintro e u' w'' ⟨rfl, rfl, rfl⟩
  simp [Leaves, settle, results, Try.results38, go_sem]
  exact HB.out.trans (HB2.out.mono HB.out.size)
end Go.Proofs.Ytehdimaihkckkaa
