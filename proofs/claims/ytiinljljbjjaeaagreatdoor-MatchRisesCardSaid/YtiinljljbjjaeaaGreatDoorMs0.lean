/- Contracts: whether a bound may stand where it does. -/
import Derived.Test.YtiinljljbjjaeaaGreatDoorBd0
import Derived.BigQuiet
import Derived.Deep.QuietTactic
import Derived.Deep.RegionHeld3
namespace Go.Proofs.YtiinljljbjjaeaaGreatDoor
open Go Go.RowKit

set_option maxRecDepth 100000 in
set_option maxHeartbeats 1600000 in
theorem mMayStand1_any (P : Nat) (x y : Bd) (v u : Value) (w : World) (hP : w.heap[P]? = some (.cells #[.string x.var, .int .i64 x.ev.src, .int .i64 x.ev.seq, .int .i64 x.ev.time, .string x.ev.ty, v] 54 (0, 0))) :
    Calls Tryz.prog 92 #[bdV y u, .pointer (some ⟨P, 0, none⟩)] w fun e w' => e = .returned (.bool (idE y x)) ∧ Below w.heap.size w w' := by
  have e1 := idEq_run y.ev.src y.ev.seq x.ev.src x.ev.seq
  have g1 := fun op a b => idGuard op a b y.ev.src y.ev.seq x.ev.src x.ev.seq
  rw [show (decide (y.ev.src = x.ev.src) && decide (y.ev.seq = x.ev.seq)) = idE y x from rfl] at e1
  have hlt := lt_of_block hP
  obtain ⟨c0, c1, c2, c3, c4, c5⟩ := cells_six hP
  have hne : P ≠ w.heap.size := by omega
  generalize idE y x = r at e1 ⊢
  unfold bdV
  clear hP
  go_enter Tryz.func92, Tryz.ntmps92
  go_wp2
  go_ret
  exact ⟨rfl, (Below.refl _ _).alloc (Nat.le_refl _) _⟩

set_option maxRecDepth 100000 in
set_option maxHeartbeats 3200000 in
theorem IndexFuncBd_any (P : Nat) (x : Bd) (v : Value) (B : Nat) (ao : Option Addr) (n cap : Nat) (bs : List Bd) (w : World) (h : BsV w B (.slice ao n cap) bs) (hB : B ≤ w.heap.size)
    (hP : w.heap[P]? = some (.cells #[.string x.var, .int .i64 x.ev.src, .int .i64 x.ev.seq, .int .i64 x.ev.time, .string x.ev.ty, v] 54 (0, 0))) :
    Calls Tryz.prog 130 #[.slice ao n cap, .func (.func 92) #[] #[.pointer (some ⟨P, 0, none⟩)]] w fun e w' => ∃ i : Int, e = .returned (.int .i64 i) ∧ decide (0 ≤ i) = (bs.any fun o => idE o x) ∧ Below w.heap.size w w' := by
  obtain ⟨hn, hn63, _⟩ := h.num
  have HN := Lib.hid hn
  have HH := Lib.hid h
  have hlt := lt_of_block hP
  have HPP := Lib.hid (fun (u : World) (hu : Below w.heap.size w u) => (hu.block P hlt).trans hP)
  have HBB := Lib.hid hB
  have eg : ∀ args w, (callFunc 92 args).run Tryz.prog w = .ok (.enter 92 args) w := enters_of Tryz.func92 (by kernel_rfl) rfl
  clear h hn hP hB hlt
  go_enter Tryz.func130, Tryz.ntmps130
  go_wp2_with fail
  go_loopw [8] (fun iv wr => ∃ k : Nat, k ≤ n ∧ iv = .int .i64 k ∧ Hid (∀ o ∈ bs.take k, idE o x = false) ∧ Below w.heap.size w wr) (fun iv _ => n - (intOf iv).toNat)
  case atStart => exact ⟨0, Nat.zero_le _, rfl, Lib.hid (fun o ho => by simp at ho), Below.refl _ _⟩
  case round =>
    obtain ⟨k, hk, rfl, HK, hb⟩ := hrel
    have HB := Lib.hid hb; clear hb
    by_cases hlt : k < n
    · obtain ⟨b, o, aa, ac, rfl, hbB, hkl, _, _, _, _, hc⟩ := HH.out.at hlt
      obtain ⟨a0, a1, a2, a3, a4, a5⟩ := six_cells (hc _ (HB.out.mono HBB.out))
      have HT := Lib.hid (take_one hkl)
      obtain ⟨y, hy⟩ : ∃ x, x = bs[k]! := ⟨_, rfl⟩
      rw [← hy] at a0 a1 a2 a3 a4 a5 HT
      have HC := Lib.hid (fun u => mMayStand1_any P x y u v)
      have HC := Lib.hid (mMayStand1_any P x y v (.slice aa y.ev.ats.length ac) _ (HPP.out _ HB.out))
      have HM : Hid (y ∈ bs) := by rw [hy, getElem!_pos bs k hkl]; exact List.getElem_mem _
      unfold bdV at HC
      have e1 : IntKind.i64.wrap ((k : Int) + 1) = (k : Int) + 1 := IntWalk.i64_in _ (by omega)
      clear hy hc hkl
      cases hr : idE y x with
      | true =>
        rw [hr] at HC
        have HR := Lib.hid hr
        clear hr
        go_wp2_with (go_at_fn 92; (with_reducible refine HC.out.mono ?_); rintro e w1 ⟨rfl, hb⟩; have HB1 := Lib.hid hb; clear hb)
        go_ret
        refine ⟨_, rfl, ?_, HB.out.trans (HB1.out.mono HB.out.size)⟩
        rw [List.any_eq_true.2 ⟨y, HM.out, HR.out⟩]
        exact decide_eq_true (by omega)
      | false =>
        rw [hr] at HC
        have HR := Lib.hid hr
        clear hr
        go_wp2_with (go_at_fn 92; (with_reducible refine HC.out.mono ?_); rintro e w1 ⟨rfl, hb⟩; have HB1 := Lib.hid hb; clear hb)
        go_roundw
        case rel => exact ⟨k + 1, by omega, by go_num, Lib.hid (fun o ho => by rw [HT.out] at ho; rcases List.mem_append.1 ho with ho | ho; exact HK.out o ho; rw [List.mem_singleton.1 ho]; exact HR.out), HB.out.trans (HB1.out.mono HB.out.size)⟩
        case measure => simp [intOf]; omega
    · go_wp2
      go_ret
      refine ⟨_, rfl, ?_, HB.out⟩
      have : (bs.any fun o => idE o x) = false := by
        rw [List.any_eq_false]
        intro o ho
        rw [HK.out o (by rw [List.take_of_length_le (by have := HN.out; omega)]; exact ho)]
        exact Bool.false_ne_true
      rw [this]; rfl

set_option maxRecDepth 100000 in
set_option maxHeartbeats 1600000 in
theorem ContainsBd_any (P : Nat) (x : Bd) (v : Value) (B : Nat) (ao : Option Addr) (n cap : Nat) (bs : List Bd) (w : World) (h : BsV w B (.slice ao n cap) bs) (hB : B ≤ w.heap.size)
    (hP : w.heap[P]? = some (.cells #[.string x.var, .int .i64 x.ev.src, .int .i64 x.ev.seq, .int .i64 x.ev.time, .string x.ev.ty, v] 54 (0, 0))) :
    Calls Tryz.prog 91 #[.slice ao n cap, .func (.func 92) #[] #[.pointer (some ⟨P, 0, none⟩)]] w fun e w' => e = .returned (.bool (bs.any fun o => idE o x)) ∧ Below w.heap.size w w' := by
  have HC := Lib.hid (IndexFuncBd_any P x v B ao n cap bs w h hB hP)
  clear h hB hP
  go_enter Tryz.func91, Tryz.ntmps91
  go_wp2_with (go_at_call 130; (with_reducible refine HC.out.mono ?_); rintro e w1 ⟨i, rfl, hi, hb⟩; have HB1 := Lib.hid hb; have HI := Lib.hid hi; clear hb hi)
  go_ret
  exact ⟨ret_bool0 HI.out, HB1.out⟩
end Go.Proofs.YtiinljljbjjaeaaGreatDoor
