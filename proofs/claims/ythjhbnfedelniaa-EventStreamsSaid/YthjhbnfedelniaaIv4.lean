/- slices.Values of a list of events, as it is ranged over. -/
import Derived.RangeFuncBox
import Derived.RangeFuncNested
import Derived.RangeFuncBound
import Derived.RangeFuncCalls
import Derived.RangeFuncLeaves
import Derived.Shelf.Abstract
import Derived.Shelf.RegionOpen
import Derived.WalkKit
import Derived.OwnWalkIn
import Derived.TacticsInMore
import Derived.LoopNIn
import Derived.LoopIn
import Derived.Test.YthjhbnfedelniaaDs4
import Derived.Test.YthjhbnfedelniaaRl4
namespace Go.Proofs.Ythjhbnfedelniaa
open Go Go.RowKit Go.Shelf
attribute [local go_sem] Oper.semAt_some

theorem values_in (F : Fence) (n : Nat) (hf : F.fn 39) (hro : F.round = none) (a : Option Addr) (len cap : Nat) (w : World) :
    CallsIn F n Try.prog 39 #[.slice a len cap] w fun e w' => e = .returned (.func (.func 57) #[] #[.pointer (some ⟨w.heap.size, 0, none⟩)]) ∧ w' = w.alloc (.cells #[.slice a len cap] 44) := by
  refine callsIn_of_wp Try.func39 rfl hf ?_ hro
  simp only [Try.ntmps39, List.size_toArray, List.length_cons, List.length_nil, Nat.reduceAdd, Nat.reduceSub, Array.replicate_succ, Array.replicate_zero, List.push_toArray, List.append_toArray, List.nil_append, List.cons_append]
  gi_wp2
  go_ret
  exact ⟨rfl, rfl⟩

set_option maxRecDepth 100000 in
set_option maxHeartbeats 2000000 in
theorem values1_in {α : Type} (ex : α → Ev) (vo : α → Option Addr) (vn vc : α → Nat) (F : Fence) (n : Nat) (hf : F.fn 57) (hro : F.round = none) (hn : 1 ≤ n) (l Bs n₀ b o cap : Nat) (zs : List α) (hmany : zs.length ≤ 65536) (hb : b < n₀) (J Jx : List α → World → Prop)
    (W : World) (hJ : OwnFrom W.heap.size J) (hn₀ : n₀ ≤ W.heap.size)
    (hY : ∀ pre x W1, J pre W1 → x ∈ zs → pre.length < zs.length → YieldAt F (n - 1) Try.prog l #[evV (ex x) (.slice (vo x) (vn x) (vc x))] W1 fun e W' =>
      (e = .returned (.bool true) ∧ J (pre ++ [x]) W' ∧ Below n₀ W1 W') ∨ (e = .returned (.bool false) ∧ Jx (pre ++ [x]) W'))
    (hBs : W.cell? ⟨Bs, 0, none⟩ = some (.slice (some ⟨b, o, none⟩) zs.length cap)) (hc : ∀ j (hj : j < zs.length), ∀ i u, (evCells (ex zs[j]) (.slice (vo zs[j]) (vn zs[j]) (vc zs[j])))[i]? = some u → W.cell? ⟨b, o + j * 5 + i, none⟩ = some u) (h0 : J [] W) :
    CallsIn F n Try.prog 57 #[.func (.yield l) #[] #[], .pointer (some ⟨Bs, 0, none⟩)] W fun e W' => (∃ v, e = .returned v) ∧
      (J zs W' ∨ (∃ k, k ≤ zs.length ∧ Jx (zs.take k) W')) := by
  refine callsIn_of_wp Try.func57 rfl hf ?_ hro
  simp only [Try.ntmps57, List.size_toArray, List.length_cons, List.length_nil, Nat.reduceAdd, Nat.reduceSub, Array.replicate_succ, Array.replicate_zero, List.push_toArray, List.append_toArray, List.nil_append, List.cons_append]
  gi_wp2
  gi_loopw [7] (fun i wr => ∃ k : Nat, k ≤ zs.length ∧ i = .int .i64 k ∧ J (zs.take k) wr ∧ Below n₀ W wr)
    (fun i _ => zs.length - (intOf i).toNat)
  case atStart => exact ⟨0, Nat.zero_le _, rfl, h0, Below.refl _ _⟩
  case round =>
    obtain ⟨k, hk, rfl, hJs, hnx⟩ := hrel
    by_cases hlt : k < zs.length
    · obtain ⟨c0, c1, c2, c3, c4⟩ := five_cells (w := wr) (b := b) (a := o + k * 5) (x := ex zs[k]) (v := .slice (vo zs[k]) (vn zs[k]) (vc zs[k])) (fun i u hu => (hnx.cell (p := ⟨b, o + k * 5 + i, none⟩) hb).trans (hc k hlt i u hu))
      have hyy := hY _ zs[k] _ (hJ.alloc (.cells #[.int .i64 (ex zs[k]).src, .int .i64 (ex zs[k]).seq, .int .i64 (ex zs[k]).time, .string (ex zs[k]).ty, .slice (vo zs[k]) (vn zs[k]) (vc zs[k])] 35) hJs) (List.getElem_mem _) (by simp; omega)
      unfold evV at hyy
      obtain ⟨fn, tmps, assign, body, hy, hR⟩ := hyy
      have hT : zs.take (k + 1) = zs.take k ++ [zs[k]] := by rw [List.take_succ_eq_append_getElem hlt]
      gi_wp2
      refine hR.mono ?_
      rintro e W3 (⟨rfl, hJ3, hk3⟩ | ⟨rfl, hJx3⟩)
      · gi_wp2
        go_roundw
        case rel => exact ⟨k + 1, by omega, by simp, by rw [hT]; exact hJ3, (hnx.alloc (Nat.le_trans hn₀ hnx.size) _).trans hk3⟩
        case measure => simp [intOf]; omega
      · gi_wp2
        refine bodyPost_ret (results_none rfl _ _ _) rfl ?_
        exact ⟨⟨_, rfl⟩, .inr ⟨k + 1, by omega, by rw [hT]; exact hJx3⟩⟩
    · obtain rfl : k = zs.length := by omega
      gi_wp2
      go_end0
      exact ⟨⟨_, rfl⟩, .inl (by rw [List.take_length] at hJs; exact hJs)⟩

set_option maxRecDepth 100000 in
set_option maxHeartbeats 1000000 in
/-- .. at no event: no round. -/
theorem values1_nil_in {α : Type} (F : Fence) (n : Nat) (hf : F.fn 57) (hro : F.round = none) (l Bs : Nat) (ao : Option Addr) (cap : Nat) (J : List α → World → Prop) (W : World) (hBs : W.cell? ⟨Bs, 0, none⟩ = some (.slice ao 0 cap)) (h0 : J [] W) :
    CallsIn F n Try.prog 57 #[.func (.yield l) #[] #[], .pointer (some ⟨Bs, 0, none⟩)] W fun e W' => (∃ v, e = .returned v) ∧ J [] W' := by
  refine callsIn_of_wp Try.func57 rfl hf ?_ hro
  simp only [Try.ntmps57, List.size_toArray, List.length_cons, List.length_nil, Nat.reduceAdd, Nat.reduceSub, Array.replicate_succ, Array.replicate_zero, List.push_toArray, List.append_toArray, List.nil_append, List.cons_append]
  gi_wp2
  gi_loopw [7] (fun i wr => i = .int .i64 0 ∧ J [] wr) (fun _ _ => 0)
  case atStart => exact ⟨rfl, h0⟩
  case round =>
    obtain ⟨rfl, hJs⟩ := hrel
    gi_wp2
    go_end0
    exact ⟨⟨_, rfl⟩, hJs⟩
/-- slices.Values of a row of events: each in its place; the row lies below n₀. -/
theorem values_stops {α : Type} (ex : α → Ev) (vo : α → Option Addr) (vn vc : α → Nat) (F : Fence) (n : Nat) (hf : F.fn 57) (hro : F.round = none) (hn : 1 ≤ n) (Bs n₀ cap : Nat) (ao : Option Addr) (zs : List α) (hmany : zs.length ≤ 65536)
    (w : World) (hBl : Bs < w.heap.size) (hn₀ : n₀ ≤ w.heap.size) (hBs : w.cell? ⟨Bs, 0, none⟩ = some (.slice ao zs.length cap))
    (hrow : 0 < zs.length → ∃ b o, ao = some ⟨b, o, none⟩ ∧ b < n₀ ∧ ∀ j (hj : j < zs.length), ∀ i u, (evCells (ex zs[j]) (.slice (vo zs[j]) (vn zs[j]) (vc zs[j])))[i]? = some u → w.cell? ⟨b, o + j * 5 + i, none⟩ = some u) :
    SeqStopsH F n Try.prog 57 #[.pointer (some ⟨Bs, 0, none⟩)] (fun x : α => #[evV (ex x) (.slice (vo x) (vn x) (vc x))]) (fun x _ => x ∈ zs) (Below n₀) (fun ys => ys = zs) (fun pre => pre <+: zs) zs.length w := fun l J Jx W hW hJ hJx hY h0 => by
  have hc' := (hW.cell (p := ⟨Bs, 0, none⟩) hBl).trans hBs
  cases zs with
  | nil => exact (values1_nil_in F n hf hro l Bs ao cap J W hc' h0).mono fun e W' ⟨he, hj⟩ => ⟨he, .inl ⟨_, rfl, hj⟩⟩
  | cons z zs =>
    obtain ⟨b, o, rfl, hb, hc⟩ := hrow (by simp)
    refine (values1_in ex vo vn vc F n hf hro hn l Bs n₀ b o cap (z :: zs) hmany hb J Jx W hJ (Nat.le_trans hn₀ hW.size) (fun pre x W1 hj hm hl => (hY pre x W1 hj hm hl).mono (fun e W' h => h.imp (fun ⟨a, b, c, _⟩ => ⟨a, b, c⟩) (fun ⟨a, b, _⟩ => ⟨a, b⟩))) hc' (fun j hj i u hu => (hW.cell (p := ⟨b, o + j * 5 + i, none⟩) (by show b < w.heap.size; omega)).trans (hc j hj i u hu)) h0).mono ?_
    rintro e W' ⟨he, hj | ⟨k, hk, hj⟩⟩
    · exact ⟨he, .inl ⟨_, rfl, hj⟩⟩
    · exact ⟨he, .inr ⟨_, List.take_prefix _ _, hj⟩⟩
end Go.Proofs.Ythjhbnfedelniaa
