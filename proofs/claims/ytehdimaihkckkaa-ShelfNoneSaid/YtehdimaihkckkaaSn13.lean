/- does: an operation done with both shelves. -/
import Derived.Test.YtehdimaihkckkaaSm13
namespace Go.Proofs.Ytehdimaihkckkaa
open Go Go.RowKit

/-- Both shelves hold the things ts; of what was there in w0, only blocks of F0 and G0 have turned. -/
structure T2 (w0 : World) (F0 G0 : Nat → Prop) (q r most nx : Nat) (ts us : List Tg) (F G : Nat → Prop) (u : World) : Prop where
  sh : ShIs u F q most nx ts
  rs : RsIs u G r most us
  fg : ∀ b, F b → ¬ G b
  f0 : ∀ b, F b → F0 b ∨ w0.heap.size ≤ b
  g0 : ∀ b, G b → G0 b ∨ w0.heap.size ≤ b
  chg : Chg (fun b => F0 b ∨ G0 b) w0 u
variable {w0 : World} {F0 G0 : Nat → Prop} {q r most : Nat}
theorem T2.prog {nx nx' : Nat} {ts ts' us : List Tg} {F G : Nat → Prop} {u u' : World} (h : T2 w0 F0 G0 q r most nx ts us F G u) (hs : ShIs u' (grF F u u') q most nx' ts') (hc : Chg F u u') : T2 w0 F0 G0 q r most nx' ts' us (grF F u u') G u' := by
  have hsz := h.chg.size
  refine ⟨hs, h.rs.chg hc (fun b hb hf => h.fg b hf hb), fun b hb hg => ?_, fun b hb => ?_, h.g0, h.chg.trans hc (fun j hj => ?_)⟩
  · rcases hb with hb | hb
    · exact h.fg b hb hg
    · have := h.rs.flt b hg; omega
  · rcases hb with hb | hb
    · exact h.f0 b hb
    · exact .inr (by omega)
  · rcases h.f0 j hj with h1 | h1
    · exact .inl (.inl h1)
    · exact .inr h1
theorem T2.ref {nx : Nat} {ts us us' : List Tg} {F G : Nat → Prop} {u u' : World} (h : T2 w0 F0 G0 q r most nx ts us F G u) (hs : RsIs u' (grF G u u') r most us') (hc : Chg G u u') : T2 w0 F0 G0 q r most nx ts us' F (grF G u u') u' := by
  have hsz := h.chg.size
  refine ⟨h.sh.chg hc (fun b hb hf => h.fg b hb hf), hs, fun b hb hg => ?_, h.f0, fun b hb => ?_, h.chg.trans hc (fun j hj => ?_)⟩
  · rcases hg with hg | hg
    · exact h.fg b hb hg
    · have := h.sh.flt b hb; omega
  · rcases hb with hb | hb
    · exact h.g0 b hb
    · exact .inr (by omega)
  · rcases h.g0 j hj with h1 | h1
    · exact .inl (.inr h1)
    · exact .inr h1
theorem T2.call {nx : Nat} {ts us : List Tg} {F G : Nat → Prop} {u u' : World} (h : T2 w0 F0 G0 q r most nx ts us F G u) (hb : Below u.heap.size u u') : T2 w0 F0 G0 q r most nx ts us F G u' :=
  ⟨h.sh.below hb, h.rs.below hb, h.fg, h.f0, h.g0, h.chg.trans (G := fun _ => False) (Chg.of_below hb) (fun _ h => h.elim)⟩
/-- .. and the box of the operation stands. -/
structure D13 (w0 : World) (F0 G0 : Nat → Prop) (P : Nat) (cs : Array Value) (q r most nx : Nat) (ts us : List Tg) (F G : Nat → Prop) (u : World) : Prop where
  t : T2 w0 F0 G0 q r most nx ts us F G u
  box : u.heap[P]? = some (.cells cs 34 (0, 0))
  fp : ¬ F P
  gp : ¬ G P
variable {P : Nat} {cs : Array Value}
theorem D13.prog {nx nx' : Nat} {ts ts' us : List Tg} {F G : Nat → Prop} {u u' : World} (h : D13 w0 F0 G0 P cs q r most nx ts us F G u) (hs : ShIs u' (grF F u u') q most nx' ts') (hc : Chg F u u') : D13 w0 F0 G0 P cs q r most nx' ts' us (grF F u u') G u' :=
  ⟨h.t.prog hs hc, (hc.block P (lt_of_block h.box) h.fp).trans h.box, fun hb => hb.elim h.fp (fun hb => by have := lt_of_block h.box; omega), h.gp⟩
theorem D13.ref {nx : Nat} {ts us us' : List Tg} {F G : Nat → Prop} {u u' : World} (h : D13 w0 F0 G0 P cs q r most nx ts us F G u) (hs : RsIs u' (grF G u u') r most us') (hc : Chg G u u') : D13 w0 F0 G0 P cs q r most nx ts us' F (grF G u u') u' :=
  ⟨h.t.ref hs hc, (hc.block P (lt_of_block h.box) h.gp).trans h.box, h.fp, fun hb => hb.elim h.gp (fun hb => by have := lt_of_block h.box; omega)⟩
theorem D13.call {nx : Nat} {ts us : List Tg} {F G : Nat → Prop} {u u' : World} (h : D13 w0 F0 G0 P cs q r most nx ts us F G u) (hb : Below u.heap.size u u') : D13 w0 F0 G0 P cs q r most nx ts us F G u' :=
  ⟨h.t.call hb, (hb.block P (lt_of_block h.box)).trans h.box, h.fp, h.gp⟩
theorem cells_op {w : World} {q : Nat} {c0 c1 c2 c3 c4 : Value} {t : Nat} (h : w.heap[q]? = some (.cells #[c0, c1, c2, c3, c4] t (0, 0))) :
    w.cell? ⟨q, 0, none⟩ = some c0 ∧ w.cell? ⟨q, 1, none⟩ = some c1 ∧ w.cell? ⟨q, 2, none⟩ = some c2 ∧ w.cell? ⟨q, 3, none⟩ = some c3 ∧ w.cell? ⟨q, 4, none⟩ = some c4 := by
  refine ⟨?_, ?_, ?_, ?_, ?_⟩ <;> simp [World.cell?, h]
theorem does13c_any (b e : Int) (v : ByteArray) (P : Nat) (c0 c1 c2 c4 : Value) (x : ByteArray) (w : World) (h : w.heap[P]? = some (.cells #[c0, c1, c2, .string x, c4] 34 (0, 0))) :
    Calls Try.prog 32 #[.agg #[.int .i64 b, .int .i64 e], .string v, .pointer (some ⟨P, 0, none⟩)] w fun r w' => r = .returned (.bool (decide (v = x))) ∧ Below w.heap.size w w' := by
  have c1 := cell_alloc13 (.cells #[.int .i64 b, .int .i64 e] 32) (cells_op h).2.2.2.1
  have HB : Hid (Below w.heap.size w (w.alloc (.cells #[.int .i64 b, .int .i64 e] 32))) := (Below.refl _ _).alloc (Nat.le_refl _) _
  rw [← txt_beq]
  clear h
  go_enter Try.func32, Try.ntmps32
  go_wp2
  go_ret
  exact ⟨rfl, HB.out⟩

set_option maxRecDepth 100000 in
set_option maxHeartbeats 3200000 in
theorem does13_any (nx : Nat) (ts : List Tg) (F G : Nat → Prop) (d b e : Int) (x : ByteArray) (at' : Int) (w : World) (h : T2 w0 F0 G0 q r most nx ts ts F G w) (hnx : nx < 4611686018427387904) :
    Calls Try.prog 9 #[.pointer (some ⟨q, 0, none⟩), .pointer (some ⟨r, 0, none⟩), .agg #[.int .i64 d, .int .i64 b, .int .i64 e, .string x, .int .i64 at']] w fun e w' => e = .returned (.bool true) ∧ ∃ nx' ts' F' G', nx' ≤ nx + 1 ∧ T2 w0 F0 G0 q r most nx' ts' ts' F' G' w' := by
  obtain ⟨P, hP⟩ : ∃ P, P = w.heap.size := ⟨_, rfl⟩
  obtain ⟨cs, hcs⟩ : ∃ cs : Array Value, cs = #[.int .i64 d, .int .i64 b, .int .i64 e, .string x, .int .i64 at'] := ⟨_, rfl⟩
  obtain ⟨W, hW⟩ : ∃ W, W = w.alloc (.cells cs 34) := ⟨_, rfl⟩
  have hD : D13 w0 F0 G0 P cs q r most nx ts ts F G W := by
    refine ⟨h.call (by rw [hW]; exact (Below.refl _ _).alloc (Nat.le_refl _) _), by rw [hW, hP]; exact heap_alloc_new w _, fun hf => ?_, fun hg => ?_⟩
    · have := h.sh.flt P hf; omega
    · have := h.rs.flt P hg; omega
  have HCELL : Hid (∀ nx ts us F G u, D13 w0 F0 G0 P cs q r most nx ts us F G u → u.cell? ⟨P, 0, none⟩ = some (.int .i64 d) ∧ u.cell? ⟨P, 1, none⟩ = some (.int .i64 b) ∧ u.cell? ⟨P, 2, none⟩ = some (.int .i64 e) ∧ u.cell? ⟨P, 3, none⟩ = some (.string x) ∧ u.cell? ⟨P, 4, none⟩ = some (.int .i64 at')) := Lib.hid (fun nx ts us F G u hd => cells_op (by rw [← hcs]; exact hd.box))
  have HP := Lib.hid hP
  have HCS := Lib.hid hcs
  have hW' : W = w.alloc (.cells #[.int .i64 d, .int .i64 b, .int .i64 e, .string x, .int .i64 at'] 34) := by rw [hW, hcs]
  have HW := Lib.hid hW'
  obtain ⟨t0, t1, t2, t3, t4⟩ := HCELL.out _ _ _ _ _ _ hD
  have HKW := Lib.hid hD
  have HK : Hid (D13 w0 F0 G0 P cs q r most nx ts ts F G W.drew) := Lib.hid (hD.call (Below.refl _ _).drew)
  have HBOX : Hid (∀ nx ts us F G u, D13 w0 F0 G0 P cs q r most nx ts us F G u → u.heap[P]? = some (.cells #[.int .i64 d, .int .i64 b, .int .i64 e, .string x, .int .i64 at'] 34 (0, 0))) := Lib.hid (fun nx ts us F G u hd => by rw [← hcs]; exact hd.box)
  clear hD hP hcs hW hW' h
  by_cases d0 : d = 0
  · have HF : Hid (∀ us F G u, D13 w0 F0 G0 P cs q r most nx ts us F G u → Calls Try.prog 12 #[.pointer (some ⟨q, 0, none⟩), .agg #[.int .i64 b, .int .i64 e], .string x] u fun v u' => v = .returned (.int .i64 (putE most ts b e)) ∧ ∃ F', D13 w0 F0 G0 P cs q r most (putN most nx ts b e) (putL most nx ts b e x) us F' G u') := Lib.hid (fun us F G u hk => (hPut_any F q most nx ts b e x u hk.t.sh hnx).mono (fun v u' hh => ⟨hh.1, _, hk.prog hh.2.1 hh.2.2⟩))
    have HG : Hid (∀ nx0 ts0 F G u, D13 w0 F0 G0 P cs q r most nx0 ts0 ts F G u → Calls Try.prog 30 #[.pointer (some ⟨r, 0, none⟩), .agg #[.int .i64 b, .int .i64 e], .string x] u fun v u' => v = .returned (.int .i64 (putE most ts b e)) ∧ ∃ G', D13 w0 F0 G0 P cs q r most nx0 ts0 (putL most nx ts b e x) F G' u') := Lib.hid (fun nx0 ts0 F G u hk => (r13Put_any G r most nx ts b e x u hk.t.rs).mono (fun v u' hh => ⟨hh.1, _, hk.ref hh.2.1 hh.2.2⟩))
    have HNX : Hid (putN most nx ts b e ≤ nx + 1) := Lib.hid (by unfold putN; split <;> omega)
    generalize putN most nx ts b e = nx1 at HF HNX
    generalize putL most nx ts b e x = ts1 at HF HG
    generalize putE most ts b e = E at HF HG
    subst d0
    clear hnx
    go_enter Try.func9, Try.ntmps9
    go_wp2_with fail
    rw [← HW.out, ← HP.out]
    go_wp2
    go_region_held3 (fun w' => w'.cell? ⟨P, 1, none⟩ = some (.int .i64 b) ∧ w'.cell? ⟨P, 2, none⟩ = some (.int .i64 e) ∧ w'.cell? ⟨P, 3, none⟩ = some (.string x))
      (first | (with_reducible exact ⟨t1, t2, t3⟩) | go_keep)
      (first
        | (go_at_call 12; (with_reducible refine (HF.out _ _ _ _ HK.out).mono ?_); rintro e1 w1 ⟨rfl, F1, hk⟩; have HK := Lib.hid hk; obtain ⟨t0, t1, t2, t3, t4⟩ := HCELL.out _ _ _ _ _ _ hk; clear hk)
        | (go_at_call 30; (with_reducible refine (HG.out _ _ _ _ _ HK.out).mono ?_); rintro e1 w1 ⟨rfl, G1, hk⟩; have HK := Lib.hid hk; obtain ⟨t0, t1, t2, t3, t4⟩ := HCELL.out _ _ _ _ _ _ hk; clear hk))
    all_goals go_wp2
    all_goals go_ret
    all_goals exact ⟨by simp, _, _, _, _, HNX.out, HK.out.t⟩
  · by_cases d1 : d = 1
    · have HF : Hid (∀ us F G u, D13 w0 F0 G0 P cs q r most nx ts us F G u → Calls Try.prog 14 #[.pointer (some ⟨q, 0, none⟩), .int .i64 at'] u fun v u' => v = .returned (.int .i64 ((ts.length : Int) - ((ts.filter fun t => decide (t.beg ≥ at')).length : Int))) ∧ ∃ F', D13 w0 F0 G0 P cs q r most nx (ts.filter fun t => decide (t.beg ≥ at')) us F' G u') := Lib.hid (fun us F G u hk => (hClear_any F q most nx ts at' u hk.t.sh).mono (fun v u' hh => ⟨hh.1, _, hk.prog hh.2.1 hh.2.2⟩))
      have HG : Hid (∀ nx0 ts0 F G u, D13 w0 F0 G0 P cs q r most nx0 ts0 ts F G u → Calls Try.prog 31 #[.pointer (some ⟨r, 0, none⟩), .int .i64 at'] u fun v u' => v = .returned (.int .i64 ((ts.length : Int) - ((ts.filter fun t => decide (t.beg ≥ at')).length : Int))) ∧ ∃ G', D13 w0 F0 G0 P cs q r most nx0 ts0 (ts.filter fun t => decide (t.beg ≥ at')) F G' u') := Lib.hid (fun nx0 ts0 F G u hk => (r13Clear_any G r most ts at' u hk.t.rs).mono (fun v u' hh => ⟨hh.1, _, hk.ref hh.2.1 hh.2.2⟩))
      have HNX : Hid (nx ≤ nx + 1) := Nat.le_succ _
      generalize ((ts.length : Int) - ((ts.filter fun t => decide (t.beg ≥ at')).length : Int)) = E at HF HG
      generalize (ts.filter fun t => decide (t.beg ≥ at')) = ts1 at HF HG
      subst d1
      clear hnx d0
      go_enter Try.func9, Try.ntmps9
      go_wp2_with fail
      rw [← HW.out, ← HP.out]
      go_wp2
      go_region_held3 (fun w' => w'.cell? ⟨P, 4, none⟩ = some (.int .i64 at'))
        (first | (with_reducible exact t4) | go_keep)
        (first
          | (go_at_call 14; (with_reducible refine (HF.out _ _ _ _ HK.out).mono ?_); rintro e1 w1 ⟨rfl, F1, hk⟩; have HK := Lib.hid hk; obtain ⟨t0, t1, t2, t3, t4⟩ := HCELL.out _ _ _ _ _ _ hk; clear hk)
          | (go_at_call 31; (with_reducible refine (HG.out _ _ _ _ _ HK.out).mono ?_); rintro e1 w1 ⟨rfl, G1, hk⟩; have HK := Lib.hid hk; obtain ⟨t0, t1, t2, t3, t4⟩ := HCELL.out _ _ _ _ _ _ hk; clear hk))
      all_goals go_wp2
      all_goals go_ret
      all_goals exact ⟨by simp, _, _, _, _, HNX.out, HK.out.t⟩
    · by_cases d2 : d = 2
      · have HF : Hid (∀ us F G u, D13 w0 F0 G0 P cs q r most nx ts us F G u → Calls Try.prog 11 #[.pointer (some ⟨q, 0, none⟩), .func (.func 32) #[] #[.pointer (some ⟨P, 0, none⟩)]] u fun v u' => v = .returned (.int .i64 ((ts.length : Int) - ((ts.filter fun t => !decide (t.txt = x)).length : Int))) ∧ ∃ F', D13 w0 F0 G0 P cs q r most nx (ts.filter fun t => !decide (t.txt = x)) us F' G u') := Lib.hid (fun us F G u hk => (hTake_any 32 (.pointer (some ⟨P, 0, none⟩)) (fun t => decide (t.txt = x)) F q most nx ts u hk.t.sh (enters_of Try.func32 (by kernel_rfl) rfl) (fun t _ v hv => does13c_any t.beg t.fin t.txt P _ _ _ _ x v ((hv.block P (lt_of_block hk.box)).trans (HBOX.out _ _ _ _ _ _ hk)))).mono (fun v u' hh => ⟨hh.1, _, hk.prog hh.2.1 hh.2.2⟩))
        have HG : Hid (∀ nx0 ts0 F G u, D13 w0 F0 G0 P cs q r most nx0 ts0 ts F G u → Calls Try.prog 33 #[.pointer (some ⟨r, 0, none⟩), .string x] u fun v u' => v = .returned (.int .i64 ((ts.length : Int) - ((ts.filter fun t => !decide (t.txt = x)).length : Int))) ∧ ∃ G', D13 w0 F0 G0 P cs q r most nx0 ts0 (ts.filter fun t => !decide (t.txt = x)) F G' u') := Lib.hid (fun nx0 ts0 F G u hk => (r13Drop_any G r most ts x u hk.t.rs).mono (fun v u' hh => ⟨hh.1, _, hk.ref hh.2.1 hh.2.2⟩))
        have HNX : Hid (nx ≤ nx + 1) := Nat.le_succ _
        generalize ((ts.length : Int) - ((ts.filter fun t => !decide (t.txt = x)).length : Int)) = E at HF HG
        generalize (ts.filter fun t => !decide (t.txt = x)) = ts1 at HF HG
        subst d2
        clear hnx d0 d1
        go_enter Try.func9, Try.ntmps9
        go_wp2_with fail
        rw [← HW.out, ← HP.out]
        go_wp2
        go_region_held3 (fun w' => w'.cell? ⟨P, 3, none⟩ = some (.string x))
          (first | (with_reducible exact t3) | go_keep)
          (first
            | (go_at_call 11; (with_reducible refine (HF.out _ _ _ _ HK.out).mono ?_); rintro e1 w1 ⟨rfl, F1, hk⟩; have HK := Lib.hid hk; obtain ⟨t0, t1, t2, t3, t4⟩ := HCELL.out _ _ _ _ _ _ hk; clear hk)
            | (go_at_call 33; (with_reducible refine (HG.out _ _ _ _ _ HK.out).mono ?_); rintro e1 w1 ⟨rfl, G1, hk⟩; have HK := Lib.hid hk; obtain ⟨t0, t1, t2, t3, t4⟩ := HCELL.out _ _ _ _ _ _ hk; clear hk))
        all_goals go_wp2
        all_goals go_ret
        all_goals exact ⟨by simp, _, _, _, _, HNX.out, HK.out.t⟩
      · have e0 : (d == 0) = false := by simp [d0]
        have e1 : (d == 1) = false := by simp [d1]
        have e2 : (d == 2) = false := by simp [d2]
        have HNX : Hid (nx ≤ nx + 1) := Nat.le_succ _
        clear hnx d0 d1 d2
        go_enter Try.func9, Try.ntmps9
        go_wp2_with fail
        rw [← HW.out, ← HP.out]
        go_wp2
        go_ret
        exact ⟨rfl, _, _, _, _, HNX.out, HKW.out.t⟩
end Go.Proofs.Ytehdimaihkckkaa
