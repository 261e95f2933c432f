/- The errors of the document's own Accept. Written by wip/genda4.py. -/
import Derived.Test.YthjhbnfedelniaaDc4
import Derived.BigQuiet
import Derived.Deep.QuietTactic
namespace Go.Proofs.Ythjhbnfedelniaa
open Go Go.RowKit

/-- What the document's Accept answers. -/
def rAccErr (k : Nat) (evs : List Ev) (gone : List Bool) (ev : Ev) : Int :=
  if ckE ev ≠ 0 then ckE ev else if hasB k ev.src = false then 40 else if gone[ev.src.toNat]! = true then 43 else if ev.seq ≠ (cntL evs ev.src : Int) then 42 else if ev.time < rMark k evs gone ev.src then 41 else if 65536 ≤ evs.length then 3 else 0
theorem RsAt.goneCell {w : World} {G : Nat → Prop} {q k : Nat} {evs : List Ev} {vs : List Value} {gone : List Bool} (h : RsAt w G q k evs vs gone) {j : Nat} (hj : j < k) :
    ∃ b o cg, w.cell? ⟨q, 2, none⟩ = some (.slice (some ⟨b, o, none⟩) k cg) ∧ w.cell? ⟨b, o + j, none⟩ = some (.bool gone[j]!) := by
  obtain ⟨ao, cap, ag, cg, h1, _, h3, _, _⟩ := h.row
  obtain ⟨b, o, rfl, _, hc⟩ := h3 (by omega)
  exact ⟨b, o, cg, (cell_of_three h1).2.2, hc j hj⟩
theorem RsAt.evCell {w : World} {G : Nat → Prop} {q k : Nat} {evs : List Ev} {vs : List Value} {gone : List Bool} (h : RsAt w G q k evs vs gone) :
    ∃ ao cap, w.cell? ⟨q, 1, none⟩ = some (.slice ao evs.length cap) := by
  obtain ⟨ao, cap, ag, cg, h1, _⟩ := h.row
  exact ⟨ao, cap, (cell_of_three h1).2.1⟩
theorem RsAt.drewN {w : World} {G : Nat → Prop} {q k : Nat} {evs : List Ev} {vs : List Value} {gone : List Bool} (h : RsAt w G q k evs vs gone) (n : Nat) : RsAt (w.drewN n) G q k evs vs gone :=
  h.below ⟨rfl, rfl, rfl, Nat.le_refl _, fun _ _ => rfl⟩
theorem r4Next_quiet (G : Nat → Prop) (q k : Nat) (evs : List Ev) (vs : List Value) (gone : List Bool) (n : Int) (w : World) (h : RsAt w G q k evs vs gone) (d : Nat) :
    Calls Try.prog 14 #[.pointer (some ⟨q, 0, none⟩), .int .i64 n] (w.drewN d) fun e w' => e = .returned (.int .i64 (cntL evs n : Int)) ∧ ∃ m, w' = w.drewN m :=
  (r4Next_any G q k evs vs gone n _ (h.drewN d)).mono fun _ _ ⟨he, hw⟩ => ⟨he, d, hw.symm⟩
theorem r4Mark_quiet (G : Nat → Prop) (q k : Nat) (evs : List Ev) (vs : List Value) (gone : List Bool) (n : Int) (w : World) (h : RsAt w G q k evs vs gone) (d : Nat) :
    Calls Try.prog 16 #[.pointer (some ⟨q, 0, none⟩), .int .i64 n] (w.drewN d) fun e w' => e = .returned (.int .i64 (rMark k evs gone n)) ∧ ∃ m, w' = w.drewN m :=
  (r4Mark_any G q k evs vs gone n _ (h.drewN d)).mono fun _ _ ⟨he, hw⟩ => ⟨he, d, hw.symm⟩

set_option maxRecDepth 100000 in
set_option maxHeartbeats 1600000 in
theorem r4Acc1 (G : Nat → Prop) (q k : Nat) (evs : List Ev) (vs : List Value) (gone : List Bool) (s sq tm : Int) (ty : ByteArray) (ats : List At) (B : Nat) (ao : Option Addr) (n cap : Nat) (w : World) (h : RsAt w G q k evs vs gone)
    (hv : Av w B (.slice ao n cap) ats) (hB : B ≤ w.heap.size) (hty : ty.size ≤ maxLen) (hck : ckE ⟨s, sq, tm, ty, ats⟩ ≠ 0) :
    Calls Try.prog 9 #[.pointer (some ⟨q, 0, none⟩), .agg #[.int .i64 s, .int .i64 sq, .int .i64 tm, .string ty, .slice ao n cap]] w fun e w' => e = .returned (.int .i64 (ckE ⟨s, sq, tm, ty, ats⟩)) ∧ Below w.heap.size w w' := by
  obtain ⟨P, hP⟩ : ∃ P, P = w.heap.size := ⟨_, rfl⟩
  obtain ⟨W, hW⟩ : ∃ W, W = w.alloc (.cells #[.int .i64 s, .int .i64 sq, .int .i64 tm, .string ty, .slice ao n cap] 35) := ⟨_, rfl⟩
  have hb0 : Below P w W := by rw [hW, hP]; exact (Below.refl _ _).alloc (Nat.le_refl _) _
  have hx0 : W.heap[P]? = some (.cells #[.int .i64 s, .int .i64 sq, .int .i64 tm, .string ty, .slice ao n cap] 35 (0, 0)) := by rw [hW, hP]; exact heap_alloc_new w _
  have hsz : P < W.heap.size := by rw [hW, hP]; simp
  have hst : RsAt W G q k evs vs gone := h.below (by rw [← hP]; exact hb0)
  have C2 := r4Check_any ⟨s, sq, tm, ty, ats⟩ B ao n cap W (hv.below hb0 (by omega)) (by omega) hty
  unfold evV at C2
  obtain ⟨c0, c1, c2, c3, c4⟩ := cell_of_five hx0
  have HST := hide hst; have HB0 := hide hb0; have HX0 := hide hx0; have HSZ := hide hsz; have HW := hide hW; have HP := hide hP
  rw [← hP]
  have HK16 := h.k16; have HMANY := h.many
  clear hv hst hb0 hx0 hsz hW h hB hty hP
  generalize ckE ⟨s, sq, tm, ty, ats⟩ = c at C2 hck ⊢
  have b1 : (c == 0) = false := by simp [hck]
  have b2 : (c != 0) = true := by simp [hck]
  have HC2 := hide C2
  clear C2 hck
  go_enter Try.func9, Try.ntmps9
  go_wp2_with fail
  rw [← HW.out, ← HP.out]
  go_wp2_with (go_at_call 33; (with_reducible refine (HC2.out).mono ?_); rintro e w1 ⟨rfl, hb⟩; have HB1 := hide (HB0.out.trans (hb.mono (Nat.le_of_lt HSZ.out))); have HS1 := hide (HST.out.below hb); have hx1 := (hb.block P HSZ.out).trans HX0.out; clear hb c0 c1 c2 c3 c4; obtain ⟨c0, c1, c2, c3, c4⟩ := cell_of_five hx1; clear hx1)
  go_ret
  exact ⟨rfl, HB1.out⟩

set_option maxRecDepth 100000 in
set_option maxHeartbeats 1600000 in
theorem r4Acc2 (G : Nat → Prop) (q k : Nat) (evs : List Ev) (vs : List Value) (gone : List Bool) (s sq tm : Int) (ty : ByteArray) (ats : List At) (B : Nat) (ao : Option Addr) (n cap : Nat) (w : World) (h : RsAt w G q k evs vs gone)
    (hv : Av w B (.slice ao n cap) ats) (hB : B ≤ w.heap.size) (hty : ty.size ≤ maxLen) (hck : ckE ⟨s, sq, tm, ty, ats⟩ = 0) (hh : hasB k s = false) :
    Calls Try.prog 9 #[.pointer (some ⟨q, 0, none⟩), .agg #[.int .i64 s, .int .i64 sq, .int .i64 tm, .string ty, .slice ao n cap]] w fun e w' => e = .returned (.int .i64 40) ∧ Below w.heap.size w w' := by
  obtain ⟨P, hP⟩ : ∃ P, P = w.heap.size := ⟨_, rfl⟩
  obtain ⟨W, hW⟩ : ∃ W, W = w.alloc (.cells #[.int .i64 s, .int .i64 sq, .int .i64 tm, .string ty, .slice ao n cap] 35) := ⟨_, rfl⟩
  have hb0 : Below P w W := by rw [hW, hP]; exact (Below.refl _ _).alloc (Nat.le_refl _) _
  have hx0 : W.heap[P]? = some (.cells #[.int .i64 s, .int .i64 sq, .int .i64 tm, .string ty, .slice ao n cap] 35 (0, 0)) := by rw [hW, hP]; exact heap_alloc_new w _
  have hsz : P < W.heap.size := by rw [hW, hP]; simp
  have hst : RsAt W G q k evs vs gone := h.below (by rw [← hP]; exact hb0)
  have C2 := r4Check_any ⟨s, sq, tm, ty, ats⟩ B ao n cap W (hv.below hb0 (by omega)) (by omega) hty
  unfold evV at C2
  obtain ⟨c0, c1, c2, c3, c4⟩ := cell_of_five hx0
  have HST := hide hst; have HB0 := hide hb0; have HX0 := hide hx0; have HSZ := hide hsz; have HW := hide hW; have HP := hide hP
  rw [← hP]
  have HK16 := h.k16; have HMANY := h.many
  clear hv hst hb0 hx0 hsz hW h hB hty hP
  rw [hck] at C2
  have HC2 := hide C2
  clear C2 hck
  have C3 := fun (w : World) (h : RsAt w G q k evs vs gone) => r4is_any G q k evs vs gone s w h
  rw [hh] at C3
  have HC3 := hide C3
  clear C3 hh
  go_enter Try.func9, Try.ntmps9
  go_wp2_with fail
  rw [← HW.out, ← HP.out]
  go_wp2_with (first | (go_at_call 33; (with_reducible refine (HC2.out).mono ?_); rintro e w1 ⟨rfl, hb⟩; have HB1 := hide (HB0.out.trans (hb.mono (Nat.le_of_lt HSZ.out))); have HS1 := hide (HST.out.below hb); have hx1 := (hb.block P HSZ.out).trans HX0.out; clear hb c0 c1 c2 c3 c4; obtain ⟨c0, c1, c2, c3, c4⟩ := cell_of_five hx1; clear hx1) | (go_at_call 34; (with_reducible refine (HC3.out _ HS1.out).mono ?_); rintro e w2 ⟨rfl, rfl⟩))
  go_ret
  exact ⟨rfl, HB1.out⟩

set_option maxRecDepth 100000 in
set_option maxHeartbeats 1600000 in
theorem r4Acc3 (G : Nat → Prop) (q k : Nat) (evs : List Ev) (vs : List Value) (gone : List Bool) (s sq tm : Int) (ty : ByteArray) (ats : List At) (B : Nat) (ao : Option Addr) (n cap : Nat) (w : World) (h : RsAt w G q k evs vs gone)
    (hv : Av w B (.slice ao n cap) ats) (hB : B ≤ w.heap.size) (hty : ty.size ≤ maxLen) (hck : ckE ⟨s, sq, tm, ty, ats⟩ = 0) (hh : hasB k s = true) (hg : gone[s.toNat]! = true) :
    Calls Try.prog 9 #[.pointer (some ⟨q, 0, none⟩), .agg #[.int .i64 s, .int .i64 sq, .int .i64 tm, .string ty, .slice ao n cap]] w fun e w' => e = .returned (.int .i64 43) ∧ Below w.heap.size w w' := by
  obtain ⟨P, hP⟩ : ∃ P, P = w.heap.size := ⟨_, rfl⟩
  obtain ⟨W, hW⟩ : ∃ W, W = w.alloc (.cells #[.int .i64 s, .int .i64 sq, .int .i64 tm, .string ty, .slice ao n cap] 35) := ⟨_, rfl⟩
  have hb0 : Below P w W := by rw [hW, hP]; exact (Below.refl _ _).alloc (Nat.le_refl _) _
  have hx0 : W.heap[P]? = some (.cells #[.int .i64 s, .int .i64 sq, .int .i64 tm, .string ty, .slice ao n cap] 35 (0, 0)) := by rw [hW, hP]; exact heap_alloc_new w _
  have hsz : P < W.heap.size := by rw [hW, hP]; simp
  have hst : RsAt W G q k evs vs gone := h.below (by rw [← hP]; exact hb0)
  have C2 := r4Check_any ⟨s, sq, tm, ty, ats⟩ B ao n cap W (hv.below hb0 (by omega)) (by omega) hty
  unfold evV at C2
  obtain ⟨c0, c1, c2, c3, c4⟩ := cell_of_five hx0
  have HST := hide hst; have HB0 := hide hb0; have HX0 := hide hx0; have HSZ := hide hsz; have HW := hide hW; have HP := hide hP
  rw [← hP]
  have HK16 := h.k16; have HMANY := h.many
  clear hv hst hb0 hx0 hsz hW h hB hty hP
  rw [hck] at C2
  have HC2 := hide C2
  clear C2 hck
  have C3 := fun (w : World) (h : RsAt w G q k evs vs gone) => r4is_any G q k evs vs gone s w h
  rw [hh] at C3
  obtain ⟨j, rfl, hj⟩ := hasB_nat hh
  have HG : Hid (gone[j]! = true) := hg
  clear hg
  have hj0 : (0 : Int) ≤ (j : Int) := by omega
  have hj1 : (j : Int) < (k : Int) := by omega
  have HC3 := hide C3; have HJ := hide hj
  clear C3 hh hj
  go_enter Try.func9, Try.ntmps9
  go_wp2_with fail
  rw [← HW.out, ← HP.out]
  go_wp2_with (first | (go_at_call 33; (with_reducible refine (HC2.out).mono ?_); rintro e w1 ⟨rfl, hb⟩; have HB1 := hide (HB0.out.trans (hb.mono (Nat.le_of_lt HSZ.out))); have HS1 := hide (HST.out.below hb); have hx1 := (hb.block P HSZ.out).trans HX0.out; clear hb c0 c1 c2 c3 c4; obtain ⟨c0, c1, c2, c3, c4⟩ := cell_of_five hx1; clear hx1; obtain ⟨gb, go_, gcg, g2, gj⟩ := HS1.out.goneCell HJ.out; rw [HG.out] at gj) | (go_at_call 34; (with_reducible refine (HC3.out _ HS1.out).mono ?_); rintro e w2 ⟨rfl, rfl⟩))
  go_ret
  exact ⟨rfl, HB1.out⟩

set_option maxRecDepth 100000 in
set_option maxHeartbeats 1600000 in
theorem r4Acc4 (G : Nat → Prop) (q k : Nat) (evs : List Ev) (vs : List Value) (gone : List Bool) (s sq tm : Int) (ty : ByteArray) (ats : List At) (B : Nat) (ao : Option Addr) (n cap : Nat) (w : World) (h : RsAt w G q k evs vs gone)
    (hv : Av w B (.slice ao n cap) ats) (hB : B ≤ w.heap.size) (hty : ty.size ≤ maxLen) (hck : ckE ⟨s, sq, tm, ty, ats⟩ = 0) (hh : hasB k s = true) (hg : gone[s.toNat]! = false) (hsq : sq ≠ (cntL evs s : Int)) :
    Calls Try.prog 9 #[.pointer (some ⟨q, 0, none⟩), .agg #[.int .i64 s, .int .i64 sq, .int .i64 tm, .string ty, .slice ao n cap]] w fun e w' => e = .returned (.int .i64 42) ∧ Below w.heap.size w w' := by
  obtain ⟨P, hP⟩ : ∃ P, P = w.heap.size := ⟨_, rfl⟩
  obtain ⟨W, hW⟩ : ∃ W, W = w.alloc (.cells #[.int .i64 s, .int .i64 sq, .int .i64 tm, .string ty, .slice ao n cap] 35) := ⟨_, rfl⟩
  have hb0 : Below P w W := by rw [hW, hP]; exact (Below.refl _ _).alloc (Nat.le_refl _) _
  have hx0 : W.heap[P]? = some (.cells #[.int .i64 s, .int .i64 sq, .int .i64 tm, .string ty, .slice ao n cap] 35 (0, 0)) := by rw [hW, hP]; exact heap_alloc_new w _
  have hsz : P < W.heap.size := by rw [hW, hP]; simp
  have hst : RsAt W G q k evs vs gone := h.below (by rw [← hP]; exact hb0)
  have C2 := r4Check_any ⟨s, sq, tm, ty, ats⟩ B ao n cap W (hv.below hb0 (by omega)) (by omega) hty
  unfold evV at C2
  obtain ⟨c0, c1, c2, c3, c4⟩ := cell_of_five hx0
  have HST := hide hst; have HB0 := hide hb0; have HX0 := hide hx0; have HSZ := hide hsz; have HW := hide hW; have HP := hide hP
  rw [← hP]
  have HK16 := h.k16; have HMANY := h.many
  clear hv hst hb0 hx0 hsz hW h hB hty hP
  rw [hck] at C2
  have HC2 := hide C2
  clear C2 hck
  have C3 := fun (w : World) (h : RsAt w G q k evs vs gone) => r4is_any G q k evs vs gone s w h
  rw [hh] at C3
  obtain ⟨j, rfl, hj⟩ := hasB_nat hh
  have HG : Hid (gone[j]! = false) := hg
  clear hg
  have hj0 : (0 : Int) ≤ (j : Int) := by omega
  have hj1 : (j : Int) < (k : Int) := by omega
  have HC3 := hide C3; have HJ := hide hj
  clear C3 hh hj
  have C4 := fun (w : World) (h : RsAt w G q k evs vs gone) (d : Nat) => r4Next_quiet G q k evs vs gone (j : Int) w h d
  generalize (cntL evs (j : Int) : Int) = c at C4 hsq
  have bs : (sq != c) = true := by simp [hsq]
  have bs2 : (sq == c) = false := by simp [hsq]
  have HC4 := hide C4
  clear C4 hsq
  go_enter Try.func9, Try.ntmps9
  go_wp2_with fail
  rw [← HW.out, ← HP.out]
  go_wp2_with (first | (go_at_call 33; (with_reducible refine (HC2.out).mono ?_); rintro e w1 ⟨rfl, hb⟩; have HB1 := hide (HB0.out.trans (hb.mono (Nat.le_of_lt HSZ.out))); have HS1 := hide (HST.out.below hb); have hx1 := (hb.block P HSZ.out).trans HX0.out; clear hb c0 c1 c2 c3 c4; obtain ⟨c0, c1, c2, c3, c4⟩ := cell_of_five hx1; clear hx1; obtain ⟨gb, go_, gcg, g2, gj⟩ := HS1.out.goneCell HJ.out; rw [HG.out] at gj) | (go_at_call 34; (with_reducible refine (HC3.out _ HS1.out).mono ?_); rintro e w2 ⟨rfl, rfl⟩))
  go_quiet (exact HC4.out _ HS1.out _)
  go_wp2
  go_ret
  exact ⟨rfl, Below.drewN' HB1.out _⟩

set_option maxRecDepth 100000 in
set_option maxHeartbeats 1600000 in
theorem r4Acc5 (G : Nat → Prop) (q k : Nat) (evs : List Ev) (vs : List Value) (gone : List Bool) (s sq tm : Int) (ty : ByteArray) (ats : List At) (B : Nat) (ao : Option Addr) (n cap : Nat) (w : World) (h : RsAt w G q k evs vs gone)
    (hv : Av w B (.slice ao n cap) ats) (hB : B ≤ w.heap.size) (hty : ty.size ≤ maxLen) (hck : ckE ⟨s, sq, tm, ty, ats⟩ = 0) (hh : hasB k s = true) (hg : gone[s.toNat]! = false) (hsq : sq = (cntL evs s : Int)) (htm : tm < rMark k evs gone s) :
    Calls Try.prog 9 #[.pointer (some ⟨q, 0, none⟩), .agg #[.int .i64 s, .int .i64 sq, .int .i64 tm, .string ty, .slice ao n cap]] w fun e w' => e = .returned (.int .i64 41) ∧ Below w.heap.size w w' := by
  obtain ⟨P, hP⟩ : ∃ P, P = w.heap.size := ⟨_, rfl⟩
  obtain ⟨W, hW⟩ : ∃ W, W = w.alloc (.cells #[.int .i64 s, .int .i64 sq, .int .i64 tm, .string ty, .slice ao n cap] 35) := ⟨_, rfl⟩
  have hb0 : Below P w W := by rw [hW, hP]; exact (Below.refl _ _).alloc (Nat.le_refl _) _
  have hx0 : W.heap[P]? = some (.cells #[.int .i64 s, .int .i64 sq, .int .i64 tm, .string ty, .slice ao n cap] 35 (0, 0)) := by rw [hW, hP]; exact heap_alloc_new w _
  have hsz : P < W.heap.size := by rw [hW, hP]; simp
  have hst : RsAt W G q k evs vs gone := h.below (by rw [← hP]; exact hb0)
  have C2 := r4Check_any ⟨s, sq, tm, ty, ats⟩ B ao n cap W (hv.below hb0 (by omega)) (by omega) hty
  unfold evV at C2
  obtain ⟨c0, c1, c2, c3, c4⟩ := cell_of_five hx0
  have HST := hide hst; have HB0 := hide hb0; have HX0 := hide hx0; have HSZ := hide hsz; have HW := hide hW; have HP := hide hP
  rw [← hP]
  have HK16 := h.k16; have HMANY := h.many
  clear hv hst hb0 hx0 hsz hW h hB hty hP
  rw [hck] at C2
  have HC2 := hide C2
  clear C2 hck
  have C3 := fun (w : World) (h : RsAt w G q k evs vs gone) => r4is_any G q k evs vs gone s w h
  rw [hh] at C3
  obtain ⟨j, rfl, hj⟩ := hasB_nat hh
  have HG : Hid (gone[j]! = false) := hg
  clear hg
  have hj0 : (0 : Int) ≤ (j : Int) := by omega
  have hj1 : (j : Int) < (k : Int) := by omega
  have HC3 := hide C3; have HJ := hide hj
  clear C3 hh hj
  have C4 := fun (w : World) (h : RsAt w G q k evs vs gone) (d : Nat) => r4Next_quiet G q k evs vs gone (j : Int) w h d
  have C5 := fun (w : World) (h : RsAt w G q k evs vs gone) (d : Nat) => r4Mark_quiet G q k evs vs gone (j : Int) w h d
  generalize (cntL evs (j : Int) : Int) = c at C4 hsq
  generalize rMark k evs gone (j : Int) = m at C5 htm
  subst hsq
  have bs : (sq != sq) = false := by simp
  have bs2 : (sq == sq) = true := by simp
  have HC4 := hide C4; have HC5 := hide C5
  clear C4 C5
  go_enter Try.func9, Try.ntmps9
  go_wp2_with fail
  rw [← HW.out, ← HP.out]
  go_wp2_with (first | (go_at_call 33; (with_reducible refine (HC2.out).mono ?_); rintro e w1 ⟨rfl, hb⟩; have HB1 := hide (HB0.out.trans (hb.mono (Nat.le_of_lt HSZ.out))); have HS1 := hide (HST.out.below hb); have hx1 := (hb.block P HSZ.out).trans HX0.out; clear hb c0 c1 c2 c3 c4; obtain ⟨c0, c1, c2, c3, c4⟩ := cell_of_five hx1; clear hx1; obtain ⟨gb, go_, gcg, g2, gj⟩ := HS1.out.goneCell HJ.out; rw [HG.out] at gj) | (go_at_call 34; (with_reducible refine (HC3.out _ HS1.out).mono ?_); rintro e w2 ⟨rfl, rfl⟩))
  go_quiet (exact HC4.out _ HS1.out _)
  go_wp2
  have HS5 := hide (HS1.out.drewN nq)
  have HB5 := hide (Below.drewN' HB1.out nq)
  have c0 : (w1.drewN nq).cell? ⟨P, 0, none⟩ = _ := c0
  have c1 : (w1.drewN nq).cell? ⟨P, 1, none⟩ = _ := c1
  have c2 : (w1.drewN nq).cell? ⟨P, 2, none⟩ = _ := c2
  generalize w1.drewN nq = w5 at c0 c1 c2 HS5 HB5 ⊢
  go_quiet (exact HC5.out _ HS5.out _)
  go_wp2
  go_ret
  exact ⟨rfl, Below.drewN' HB5.out _⟩

set_option maxRecDepth 100000 in
set_option maxHeartbeats 1600000 in
theorem r4Acc6 (G : Nat → Prop) (q k : Nat) (evs : List Ev) (vs : List Value) (gone : List Bool) (s sq tm : Int) (ty : ByteArray) (ats : List At) (B : Nat) (ao : Option Addr) (n cap : Nat) (w : World) (h : RsAt w G q k evs vs gone)
    (hv : Av w B (.slice ao n cap) ats) (hB : B ≤ w.heap.size) (hty : ty.size ≤ maxLen) (hck : ckE ⟨s, sq, tm, ty, ats⟩ = 0) (hh : hasB k s = true) (hg : gone[s.toNat]! = false) (hsq : sq = (cntL evs s : Int)) (htm : ¬ tm < rMark k evs gone s) (hl : 65536 ≤ evs.length) :
    Calls Try.prog 9 #[.pointer (some ⟨q, 0, none⟩), .agg #[.int .i64 s, .int .i64 sq, .int .i64 tm, .string ty, .slice ao n cap]] w fun e w' => e = .returned (.int .i64 3) ∧ Below w.heap.size w w' := by
  obtain ⟨P, hP⟩ : ∃ P, P = w.heap.size := ⟨_, rfl⟩
  obtain ⟨W, hW⟩ : ∃ W, W = w.alloc (.cells #[.int .i64 s, .int .i64 sq, .int .i64 tm, .string ty, .slice ao n cap] 35) := ⟨_, rfl⟩
  have hb0 : Below P w W := by rw [hW, hP]; exact (Below.refl _ _).alloc (Nat.le_refl _) _
  have hx0 : W.heap[P]? = some (.cells #[.int .i64 s, .int .i64 sq, .int .i64 tm, .string ty, .slice ao n cap] 35 (0, 0)) := by rw [hW, hP]; exact heap_alloc_new w _
  have hsz : P < W.heap.size := by rw [hW, hP]; simp
  have hst : RsAt W G q k evs vs gone := h.below (by rw [← hP]; exact hb0)
  have C2 := r4Check_any ⟨s, sq, tm, ty, ats⟩ B ao n cap W (hv.below hb0 (by omega)) (by omega) hty
  unfold evV at C2
  obtain ⟨c0, c1, c2, c3, c4⟩ := cell_of_five hx0
  have HST := hide hst; have HB0 := hide hb0; have HX0 := hide hx0; have HSZ := hide hsz; have HW := hide hW; have HP := hide hP
  rw [← hP]
  have HK16 := h.k16; have HMANY := h.many
  clear hv hst hb0 hx0 hsz hW h hB hty hP
  rw [hck] at C2
  have HC2 := hide C2
  clear C2 hck
  have C3 := fun (w : World) (h : RsAt w G q k evs vs gone) => r4is_any G q k evs vs gone s w h
  rw [hh] at C3
  obtain ⟨j, rfl, hj⟩ := hasB_nat hh
  have HG : Hid (gone[j]! = false) := hg
  clear hg
  have hj0 : (0 : Int) ≤ (j : Int) := by omega
  have hj1 : (j : Int) < (k : Int) := by omega
  have HC3 := hide C3; have HJ := hide hj
  clear C3 hh hj
  have C4 := fun (w : World) (h : RsAt w G q k evs vs gone) (d : Nat) => r4Next_quiet G q k evs vs gone (j : Int) w h d
  have C5 := fun (w : World) (h : RsAt w G q k evs vs gone) (d : Nat) => r4Mark_quiet G q k evs vs gone (j : Int) w h d
  generalize (cntL evs (j : Int) : Int) = c at C4 hsq
  generalize rMark k evs gone (j : Int) = m at C5 htm
  subst hsq
  have bs : (sq != sq) = false := by simp
  have bs2 : (sq == sq) = true := by simp
  have HC4 := hide C4; have HC5 := hide C5
  clear C4 C5
  have hlb : ¬ (evs.length : Int) < 65536 := by omega
  clear hl
  go_enter Try.func9, Try.ntmps9
  go_wp2_with fail
  rw [← HW.out, ← HP.out]
  go_wp2_with (first | (go_at_call 33; (with_reducible refine (HC2.out).mono ?_); rintro e w1 ⟨rfl, hb⟩; have HB1 := hide (HB0.out.trans (hb.mono (Nat.le_of_lt HSZ.out))); have HS1 := hide (HST.out.below hb); have hx1 := (hb.block P HSZ.out).trans HX0.out; clear hb c0 c1 c2 c3 c4; obtain ⟨c0, c1, c2, c3, c4⟩ := cell_of_five hx1; clear hx1; obtain ⟨gb, go_, gcg, g2, gj⟩ := HS1.out.goneCell HJ.out; rw [HG.out] at gj) | (go_at_call 34; (with_reducible refine (HC3.out _ HS1.out).mono ?_); rintro e w2 ⟨rfl, rfl⟩))
  go_quiet (exact HC4.out _ HS1.out _)
  go_wp2
  have HS5 := hide (HS1.out.drewN nq)
  have HB5 := hide (Below.drewN' HB1.out nq)
  have c0 : (w1.drewN nq).cell? ⟨P, 0, none⟩ = _ := c0
  have c1 : (w1.drewN nq).cell? ⟨P, 1, none⟩ = _ := c1
  have c2 : (w1.drewN nq).cell? ⟨P, 2, none⟩ = _ := c2
  generalize w1.drewN nq = w5 at c0 c1 c2 HS5 HB5 ⊢
  go_quiet (exact HC5.out _ HS5.out _)
  obtain ⟨eo, ecap, x1⟩ := (HS5.out.drewN nq).evCell
  have HB6 := hide (Below.drewN' HB5.out nq)
  generalize w5.drewN nq = w6 at x1 HB6 ⊢
  go_wp2
  go_ret
  exact ⟨rfl, HB6.out⟩
end Go.Proofs.Ythjhbnfedelniaa
