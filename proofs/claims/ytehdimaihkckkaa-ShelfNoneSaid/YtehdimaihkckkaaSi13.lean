/- The program's shelf: Oldest. -/
import Derived.Test.YtehdimaihkckkaaSh13
import Derived.Test.YtehdimaihkckkaaRlb
namespace Go.Proofs.Ytehdimaihkckkaa
open Go Go.RowKit Go.Shelf
attribute [local go_sem] Oper.semAt_some

/-- The least beginning, from the greatest time on. -/
def accI (ts : List Tg) : Int := ts.foldl (fun m t => min m t.beg) 1099511627776
theorem accI_snoc (ts : List Tg) (x : Tg) : accI (ts ++ [x]) = min (accI ts) x.beg := by unfold accI; rw [List.foldl_append]; rfl
theorem accI_old {ts : List Tg} (h : 0 < ts.length) (hm : ∀ t ∈ ts, spB t.beg t.fin = true) : accI ts = oldI ts := by
  cases ts with
  | nil => simp at h
  | cons x r =>
    have hx := hm x (List.mem_cons_self ..)
    unfold spB at hx
    simp only [Bool.and_eq_true, decide_eq_true_eq] at hx
    unfold accI oldI
    rw [List.foldl_cons, show min 1099511627776 x.beg = x.beg by omega]

set_option maxRecDepth 100000 in
set_option maxHeartbeats 4000000 in
theorem hOldest_any (F : Nat → Prop) (q most nx : Nat) (ts : List Tg) (w : World) (h : ShIs w F q most nx ts) :
    Calls Try.prog 17 #[.pointer (some ⟨q, 0, none⟩)] w fun e w' => e = .returned (.tuple #[.int .i64 (oldI ts), .bool (decide (0 < ts.length))]) ∧ Below w.heap.size w w' := by
  obtain ⟨v, hv⟩ := id h
  obtain ⟨va, vc, rfl⟩ := hv.slice
  have hC := hLen_any (.pointer (some ⟨q, 0, none⟩)) va ts.length vc w (hList_any q va ts.length vc w (cells_three hv.blk).2.2.1)
  have hmay := hv.may
  have hl16 : ts.length ≤ 16384 := Nat.le_trans hv.len hv.m2
  clear hv
  rcases Nat.eq_zero_or_pos ts.length with h0 | h0
  · obtain rfl : ts = [] := List.eq_nil_of_length_eq_zero h0
    have HC := Lib.hid hC
    clear hC h hmay h0 hl16
    go_enter Try.func17, Try.ntmps17
    go_wp2_with (go_at_call 18; (with_reducible refine (HC.out).mono ?_); rintro e w1 ⟨rfl, rfl⟩)
    go_ret2
    exact ⟨rfl, Below.refl _ _⟩
  · rw [decide_eq_true h0]
    have hacc := accI_old h0 hmay
    have d0 : ((ts.length : Int) == 0) = false := by rw [beq_eq_false_iff_ne]; omega
    obtain ⟨P, hP⟩ : ∃ P, P = w.heap.size := ⟨_, rfl⟩
    obtain ⟨W0, hW0⟩ : ∃ W0, W0 = w.alloc (.cells #[.int .i64 1099511627776] 2) := ⟨_, rfl⟩
    have hb0 : Below w.heap.size w W0 := by rw [hW0]; exact (Below.refl _ _).alloc (Nat.le_refl _) _
    have hp0 : W0.heap[P]? = some (.cells #[.int .i64 1099511627776] 2 (0, 0)) := by rw [hW0, hP]; exact heap_alloc_new w _
    have hA := hAll_any F q most nx ts w W0 h hb0
    have HC := Lib.hid hC; have HA := Lib.hid hA; have HW0 := Lib.hid hW0; have HP := Lib.hid hP; have HB0 := Lib.hid hb0; have HP0 := Lib.hid hp0; have HACC := Lib.hid hacc
    clear hC hA hW0 hP hb0 hp0 h hmay h0 hacc
    refine (callsIn_wide (n := 12)).1 ?_
    refine callsIn_of_wp_marks Try.func17 rfl trivial ?_ rfl
    simp only [Try.ntmps17, List.size_toArray, List.length_cons, List.length_nil, Nat.reduceAdd, Nat.reduceSub, Array.replicate_succ, Array.replicate_zero, List.push_toArray, List.append_toArray, List.nil_append, List.cons_append]
    refine wpIn_wide.2 ?_
    go_wp2_with (go_at_call 18; (with_reducible refine (HC.out).mono ?_); rintro e w1 ⟨rfl, rfl⟩)
    rw [← HW0.out, ← HP.out]
    refine HA.out.mono ?_
    rintro e u7 ⟨Bs, rfl, hall, hb⟩
    have hPl : P < W0.heap.size := lt_of_block HP0.out
    have h7 : u7.heap[P]? = some (.cells #[.int .i64 (accI [])] 2 (0, 0)) := (hb.block P hPl).trans HP0.out
    have hb7 : Below P w u7 := by rw [HP.out]; exact HB0.out.trans (hb.mono HB0.out.size)
    have hP7 : P < u7.heap.size := lt_of_block h7
    have hPw : P ≤ w.heap.size := by rw [HP.out]; exact Nat.le_refl _
    rw [← HP.out] at hall
    have hstops := hAll1_stops Fence.wide 11 trivial rfl (by decide) Bs P ts u7 hall
    go_wp2_with fail
    refine (wpIn_wide (n := 12)).1 ?_
    refine wpIn_rangeFunc_HB 5 rfl (by decide) (gf := 46) (lb := #[.pointer (some ⟨Bs, 0, none⟩)]) rfl trivial (enters_of Try.func46 (by kernel_rfl) rfl)
      hstops Below.trans (belowK_b (Nat.le_of_lt hP7)) (Below.refl _ _) (fun _ => rfl)
      (fun (pre : List Tg) (W : World) => W.heap[P]? = some (.cells #[.int .i64 (accI pre)] 2 (0, 0)) ∧ Below P w W)
      (fun (c : Code) (_ : List Tg) (_ : World) => False) ?ownI (fun c => ownFrom_pure _ _) ⟨h7, hb7⟩
      (fun (x : Tg) (Bx : Nat) (W : World) => P < Bx ∧ W.heap[Bx]? = some (.cells #[.int .i64 x.beg, .int .i64 x.fin] 32 (0, 0)))
      ?ownA ?assign ?body ?done ?stop
    case ownI =>
      rintro pre A B row ⟨hs, hz⟩ hg hr
      have hPA := (Array.getElem?_eq_some_iff.1 hs).1
      exact ⟨(hg.block P hPA (fun e => by have := (hr _ e.symm).1; omega)).trans hs, hz.trans ((Below.refl _ _).grown hg (Nat.le_of_lt hPA) (fun k e => by have := (hr k e).1; omega))⟩
    case ownA =>
      rintro x Bx _ A B row ⟨g1, g2⟩ hg hr
      exact ⟨g1, (hg.block _ (Array.getElem?_eq_some_iff.1 g2).1 (fun e => by obtain ⟨_, o, ho, hc⟩ := hr _ e.symm; rw [g2] at ho; cases ho; cases hc)).trans g2⟩
    case assign =>
      rintro l' pre x W K ⟨hi, hbw⟩ hm hK
      have hlt : P < W.heap.size := (Array.getElem?_eq_some_iff.1 hi).1
      have hK := Lib.hid hK
      unfold encT
      gi_wp2
      have hbb : Below W.heap.size W (W.alloc (.cells #[.int .i64 x.beg, .int .i64 x.fin] 32)) := (Below.refl _ _).alloc (Nat.le_refl _) _
      have hk := hK.out W.heap.size _ ((KeepsOthers.alloc _ _).from _) (hbb.mono (Nat.le_of_lt hlt)) ⟨(hbb.block P hlt).trans hi, hbw.trans (hbb.mono (Nat.le_of_lt hlt))⟩ ⟨hlt, heap_alloc_new _ _⟩
      clear hK
      simpa [boxAct, encT] using hk
    case body =>
      rintro l' pre x Bx W hl' hr ⟨hi, hbw⟩ ⟨hPB, hx⟩ hlen
      unfold boxAct encT
      have c0 := cells_one0 hi; have f0 := free1 hi
      obtain ⟨x0, x1, -⟩ := cells_two hx
      have HS := Lib.hid (accI_snoc pre x)
      have HSET := Lib.hid (set1 hi (.int .i64 (min (accI pre) x.beg)))
      have HBW := Lib.hid hbw
      gi_wp2
      refine ⟨(KeepsOthers.setCell _ _ _).from _, (Below.refl P W).setCell (p := ⟨P, 0, none⟩) (Nat.le_refl _) _, ?_, HBW.out.setCell (p := ⟨P, 0, none⟩) (Nat.le_refl _) _⟩
      rw [HS.out]; exact HSET.out
    case done =>
      rintro D xs W hD rfl ⟨hi, hbw⟩ hK
      rw [HACC.out] at hi
      have c0 := cells_one0 hi
      have HBW := Lib.hid hbw
      have hlt : P < W.heap.size := (Array.getElem?_eq_some_iff.1 hi).1
      go_wp2
      refine ⟨by simp, .inl ⟨_, _, rfl, run_takeDeferred hK, ?_⟩⟩
      refine ⟨.tuple #[.int .i64 (oldI xs), .bool true], by simp [results, Try.results17, go_sem], rfl, ?_⟩
      rw [← HP.out]
      exact HBW.out.grown (grownBy_putObj' _ D _) (Nat.le_of_lt hlt) (fun k e => by cases e; omega)
    case stop =>
      rintro D c pre W hD hSp hF
      exact hF.elim

/-- Oldest of what no call made. -/
theorem hOldest_no (p : Value) (w : World) (h : Calls Try.prog 18 #[p] w fun e w' => e = .returned (.int .i64 0) ∧ w = w') :
    Calls Try.prog 17 #[p] w fun e w' => e = .returned (.tuple #[.int .i64 0, .bool false]) ∧ w = w' := by
  have HC := Lib.hid h
  clear h
  go_enter Try.func17, Try.ntmps17
  go_wp2_with (go_at_call 18; (with_reducible refine (HC.out).mono ?_); rintro e w1 ⟨rfl, rfl⟩)
  go_ret2
  exact ⟨rfl, rfl⟩
end Go.Proofs.Ytehdimaihkckkaa
