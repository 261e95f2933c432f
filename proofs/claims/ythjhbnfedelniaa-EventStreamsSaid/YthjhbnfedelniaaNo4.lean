/- What streams answer that no call made; the calls of Streams that are left: Sources. -/
import Derived.Test.YthjhbnfedelniaaSa
import Derived.Test.YthjhbnfedelniaaTk
namespace Go.Proofs.Ythjhbnfedelniaa
open Go Go.RowKit

/-- Streams that no call made: nil, or of no source. -/
def NoS (o : Option Addr) (w : World) : Prop := o = none ∨ ∃ q, o = some ⟨q, 0, none⟩ ∧ w.cell? ⟨q, 0, none⟩ = some (.int .i64 0)
theorem NoS.below {o : Option Addr} {w w' : World} (h : NoS o w) (hb : Below w.heap.size w w') : NoS o w' := by
  rcases h with h | ⟨q, h, hc⟩
  · exact .inl h
  · exact .inr ⟨q, h, (hb.cell (p := ⟨q, 0, none⟩) (by
      show q < w.heap.size
      refine Nat.lt_of_not_le fun hn => ?_
      simp [World.cell?, Array.getElem?_eq_none hn] at hc)).trans hc⟩

theorem sIsMadeS_no (o : Option Addr) (w : World) (h : NoS o w) :
    Calls Try.prog 29 #[.pointer o] w fun e w' => e = .returned (.bool false) ∧ w = w' := by
  rcases h with rfl | ⟨q, rfl, h⟩
  · go_enter Try.func29, Try.ntmps29
    go_wp2
    go_ret
    exact ⟨rfl, rfl⟩
  · go_enter Try.func29, Try.ntmps29
    go_wp2
    go_ret
    exact ⟨rfl, rfl⟩
theorem sAccept_no (o : Option Addr) (ev : Ev) (v : Value) (w : World) (h : NoS o w) :
    Calls Try.prog 8 #[.pointer o, evV ev v] w fun e w' => e = .returned (.int .i64 2) ∧ Below w.heap.size w w' := by
  have HC := Lib.hid (fun w h => sIsMadeS_no o w h)
  have HB := Lib.hid ((Below.refl w.heap.size w).alloc (Nat.le_refl _) (.cells #[.int .i64 ev.src, .int .i64 ev.seq, .int .i64 ev.time, .string ev.ty, v] 35))
  have HN := Lib.hid (h.below HB.out)
  clear h
  unfold evV
  go_enter Try.func8, Try.ntmps8
  go_wp2_with (go_at_call 29; (with_reducible refine (HC.out _ HN.out).mono ?_); rintro e w1 ⟨rfl, rfl⟩)
  go_ret
  exact ⟨rfl, HB.out⟩
theorem sClose_no (o : Option Addr) (n : Int) (w : World) (h : NoS o w) :
    Calls Try.prog 10 #[.pointer o, .int .i64 n] w fun e w' => e = .returned (.int .i64 2) ∧ w = w' := by
  have HC := Lib.hid (sIsMadeS_no o w h)
  clear h
  go_enter Try.func10, Try.ntmps10
  go_wp2_with (go_at_call 29; (with_reducible refine (HC.out).mono ?_); rintro e w1 ⟨rfl, rfl⟩)
  go_ret
  exact ⟨rfl, rfl⟩
theorem sLen_no (o : Option Addr) (w : World) (h : NoS o w) :
    Calls Try.prog 19 #[.pointer o] w fun e w' => e = .returned (.int .i64 0) ∧ w = w' := by
  have HC := Lib.hid (sIsMadeS_no o w h)
  clear h
  go_enter Try.func19, Try.ntmps19
  go_wp2_with (go_at_call 29; (with_reducible refine (HC.out).mono ?_); rintro e w1 ⟨rfl, rfl⟩)
  go_ret
  exact ⟨rfl, rfl⟩
theorem sSources_no (o : Option Addr) (w : World) (h : NoS o w) :
    Calls Try.prog 22 #[.pointer o] w fun e w' => e = .returned (.int .i64 0) ∧ w = w' := by
  have HC := Lib.hid (sIsMadeS_no o w h)
  clear h
  go_enter Try.func22, Try.ntmps22
  go_wp2_with (go_at_call 29; (with_reducible refine (HC.out).mono ?_); rintro e w1 ⟨rfl, rfl⟩)
  go_ret
  exact ⟨rfl, rfl⟩
theorem sSources_any (F : Nat → Prop) (q k : Nat) (sd : List Sd) (evs : List Ev) (w : World) (h : StIs w F q k sd evs) :
    Calls Try.prog 22 #[.pointer (some ⟨q, 0, none⟩)] w fun e w' => e = .returned (.int .i64 (k : Int)) ∧ w = w' := by
  have HC := Lib.hid (sIsMadeS_any q k w h.num h.k0)
  have h0 := h.num
  clear h
  go_enter Try.func22, Try.ntmps22
  go_wp2_with (go_at_call 29; (with_reducible refine (HC.out).mono ?_); rintro e w1 ⟨rfl, rfl⟩)
  go_ret
  exact ⟨rfl, rfl⟩
theorem sCloneS_no (o : Option Addr) (w : World) (h : NoS o w) :
    Calls Try.prog 12 #[.pointer o] w fun e w' => e = .returned (.pointer none) ∧ w = w' := by
  have HC := Lib.hid (sIsMadeS_no o w h)
  clear h
  go_enter Try.func12, Try.ntmps12
  go_wp2_with (go_at_call 29; (with_reducible refine (HC.out).mono ?_); rintro e w1 ⟨rfl, rfl⟩)
  go_ret
  exact ⟨rfl, rfl⟩
theorem sOf_no (o : Option Addr) (n : Int) (w : World) (h : NoS o w) :
    Calls Try.prog 36 #[.pointer o, .int .i64 n] w fun e w' => e = .returned (of3 ⟨0, 0, false⟩) ∧ Below w.heap.size w w' := by
  have hb0 := (Below.refl w.heap.size w).alloc (Nat.le_refl _) (.cells #[.int .i64 0, .int .i64 0, .bool false] 60)
  have HC := Lib.hid (sIsMadeS_no o _ (h.below hb0))
  obtain ⟨W, hW⟩ : ∃ W, W = w.alloc (.cells #[.int .i64 0, .int .i64 0, .bool false] 60) := ⟨_, rfl⟩
  have hc0 : W.heap[w.heap.size]? = some (.cells #[.int .i64 0, .int .i64 0, .bool false] 60 (0, 0)) := by rw [hW]; exact heap_alloc_new _ _
  obtain ⟨q0, q1, q2⟩ := cell_of_three hc0
  obtain ⟨f0, f1, f2⟩ := free_of_three hc0
  rw [← hW] at HC hb0
  have HB := Lib.hid hb0; have HW := Lib.hid hW
  clear h hb0 hc0 hW
  go_enter Try.func36, Try.ntmps36
  go_wp2_with fail
  rw [← HW.out]
  go_wp2_with (go_at_call 29; (with_reducible refine (HC.out).mono ?_); rintro e w1 ⟨rfl, rfl⟩)
  refine bodyPost_ret (v := of3 ⟨0, 0, false⟩) (by simp [results, Try.results36, go_sem, q0, q1, q2, of3]) rfl ⟨rfl, ?_⟩
  repeat (first | exact HB.out | refine Below.drew ?_ | refine Below.setCell ?_ (by first | exact Nat.le_refl _ | (simp; done)) _)
theorem sMark_no (o : Option Addr) (n : Int) (w : World) (h : NoS o w) :
    Calls Try.prog 15 #[.pointer o, .int .i64 n] w fun e w' => e = .returned (.int .i64 0) ∧ Below w.heap.size w w' := by
  have HC := Lib.hid (sOf_no o n w h)
  clear h
  unfold of3 at HC
  go_enter Try.func15, Try.ntmps15
  go_wp2_with (go_at_call 36; (with_reducible refine (HC.out).mono ?_); rintro e w1 ⟨rfl, hb⟩; have HB := Lib.hid hb; clear hb)
  go_ret
  exact ⟨rfl, HB.out.alloc HB.out.size _⟩
theorem sNext_no (o : Option Addr) (n : Int) (w : World) (h : NoS o w) :
    Calls Try.prog 13 #[.pointer o, .int .i64 n] w fun e w' => e = .returned (.int .i64 0) ∧ Below w.heap.size w w' := by
  have HC := Lib.hid (sOf_no o n w h)
  clear h
  unfold of3 at HC
  have e0 := said_field0 0 0 false
  go_enter Try.func13, Try.ntmps13
  go_wp2_with (go_at_call 36; (with_reducible refine (HC.out).mono ?_); rintro e w1 ⟨rfl, hb⟩; have HB := Lib.hid hb; clear hb)
  go_ret
  exact ⟨rfl, HB.out⟩
theorem sClosed_no (o : Option Addr) (n : Int) (w : World) (h : NoS o w) :
    Calls Try.prog 17 #[.pointer o, .int .i64 n] w fun e w' => e = .returned (.bool false) ∧ Below w.heap.size w w' := by
  have HC := Lib.hid (sOf_no o n w h)
  clear h
  unfold of3 at HC
  have e2 := said_field2 0 0 false
  go_enter Try.func17, Try.ntmps17
  go_wp2_with (go_at_call 36; (with_reducible refine (HC.out).mono ?_); rintro e w1 ⟨rfl, hb⟩; have HB := Lib.hid hb; clear hb)
  go_ret
  exact ⟨rfl, HB.out⟩
theorem sAll_no (o : Option Addr) (w : World) (h : NoS o w) :
    Calls Try.prog 21 #[.pointer o] w fun e w' => e = .returned (.func (.func 37) #[] #[]) ∧ w = w' := by
  have HC := Lib.hid (sIsMadeS_no o w h)
  clear h
  go_enter Try.func21, Try.ntmps21
  go_wp2_with (go_at_call 29; (with_reducible refine (HC.out).mono ?_); rintro e w1 ⟨rfl, rfl⟩)
  go_ret
  exact ⟨rfl, rfl⟩
def Unmade (w : World) (po : Option Addr) : Prop := po = none ∨ ∃ z, po = some ⟨z, 0, none⟩ ∧ w.cell? ⟨z, 0, none⟩ = some (.bool false)

theorem kIsMade_no (po : Option Addr) (w : World) (h : Unmade w po) :
    Calls Try.prog 65 #[.pointer po] w fun e w' => e = .returned (.bool false) ∧ w = w' := by
  rcases h with rfl | ⟨z, rfl, hz⟩
  · go_enter Try.func65, Try.ntmps65
    go_wp2
    go_ret
    exact ⟨rfl, rfl⟩
  · go_enter Try.func65, Try.ntmps65
    go_wp2
    go_ret
    exact ⟨rfl, rfl⟩
theorem sIsMade_no (po : Option Addr) (w : World) (h : Unmade w po) :
    Calls Try.prog 58 #[.pointer po] w fun e w' => e = .returned (.bool false) ∧ w = w' := by
  rcases h with rfl | ⟨z, rfl, hz⟩
  · go_enter Try.func58, Try.ntmps58
    go_wp2
    go_ret
    exact ⟨rfl, rfl⟩
  · go_enter Try.func58, Try.ntmps58
    go_wp2
    go_ret
    exact ⟨rfl, rfl⟩

theorem kBits_no (po : Option Addr) (u n : Int) (w : World) (h : Unmade w po) :
    Calls Try.prog 44 #[.pointer po, .int .u64 u, .int .i64 n] w fun e w' => e = .returned (.int .i64 2) ∧ w = w' := by
  have C := kIsMade_no po w h
  clear h
  go_enter Try.func44, Try.ntmps44
  go_wp2_with (go_at_call 65; refine C.mono ?_; rintro e w' ⟨rfl, rfl⟩)
  go_ret
  exact ⟨rfl, rfl⟩
theorem sBits_no (po : Option Addr) (n : Int) (w : World) (h : Unmade w po) :
    Calls Try.prog 42 #[.pointer po, .int .i64 n] w fun e w' => e = .returned (.tuple #[.int .u64 0, .int .i64 2]) ∧ w = w' := by
  have C := sIsMade_no po w h
  clear h
  go_enter Try.func42, Try.ntmps42
  go_wp2_with (go_at_call 58; refine C.mono ?_; rintro e w' ⟨rfl, rfl⟩)
  go_ret2
  exact ⟨rfl, rfl⟩
set_option maxRecDepth 100000 in
set_option maxHeartbeats 1600000 in
theorem eTake_nil (w : World) :
    Calls Try.prog 26 #[.pointer none] w fun e w' => e = .returned (.tuple #[.agg #[.int .i64 0, .int .i64 0, .int .i64 0, .string ⟨#[]⟩, .slice none 0 0], .int .i64 2]) ∧ Below w.heap.size w w' := by
  have HC := Lib.hid (fun w => sBits_no none 0 w (.inl rfl))
  obtain ⟨W, hW⟩ : ∃ W, W = w.alloc (.cells #[.int .i64 0, .int .i64 0, .int .i64 0, .string ⟨#[]⟩, .slice none 0 0] 35) := ⟨_, rfl⟩
  have hr : W.heap[w.heap.size]? = some (.cells #[.int .i64 0, .int .i64 0, .int .i64 0, .string ⟨#[]⟩, .slice none 0 0] 35 (0, 0)) := by rw [hW]; exact heap_alloc_new _ _
  have HB : Hid (Below w.heap.size w W) := by rw [hW]; exact (Below.refl _ _).alloc (Nat.le_refl _) _
  obtain ⟨q0, q1, q2, q3, q4⟩ := cell_of_five hr
  have f0 := free_of_st hr 0; have f1 := free_of_st hr 1; have f2 := free_of_st hr 2; have f3 := free_of_st hr 3; have f4 := free_of_st hr 4
  have HW := Lib.hid hW
  clear hW hr
  go_enter Try.func26, Try.ntmps26
  go_wp2_with fail
  rw [← HW.out]
  go_wp2_with (go_at_call 42; (with_reducible refine (HC.out _).mono ?_); rintro e w1 ⟨rfl, rfl⟩)
  refine bodyPost_ret (v := .tuple #[.agg #[.int .i64 0, .int .i64 0, .int .i64 0, .string ⟨#[]⟩, .slice none 0 0], .int .i64 2]) (by simp [results, Try.results26, go_sem, q0, q1, q2, q3, q4]) rfl ⟨rfl, ?_⟩
  repeat (first | exact HB.out | refine Below.drew ?_ | refine Below.setCell ?_ (by first | exact Nat.le_refl _ | (simp; done)) _)
theorem ePut_nil (ev : Ev) (v : Value) (w : World) :
    Calls Try.prog 27 #[.pointer none, evV ev v] w fun e w' => e = .returned (.int .i64 2) ∧ Below w.heap.size w w' := by
  have HC := Lib.hid (fun w => kBits_no none 0 0 w (.inl rfl))
  have HB := Lib.hid ((Below.refl w.heap.size w).alloc (Nat.le_refl _) (.cells #[.int .i64 ev.src, .int .i64 ev.seq, .int .i64 ev.time, .string ev.ty, v] 35))
  unfold evV
  go_enter Try.func27, Try.ntmps27
  go_wp2_with (go_at_call 44; (with_reducible refine (HC.out _).mono ?_); rintro e w1 ⟨rfl, rfl⟩)
  go_ret
  exact ⟨rfl, HB.out⟩
end Go.Proofs.Ythjhbnfedelniaa
