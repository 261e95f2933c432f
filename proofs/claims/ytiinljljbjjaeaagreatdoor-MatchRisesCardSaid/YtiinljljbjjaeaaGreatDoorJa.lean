/- Joined: Iv1, Ic1, To1, Wr1. -/
import Derived.RangeFuncBox
import Derived.RangeFuncNested
import Derived.RangeFuncBound
import Derived.RangeFuncCalls
import Derived.RangeFuncLeaves
import Derived.Shelf.Abstract
import Derived.Shelf.RegionOpen
import Derived.WalkKit
import Derived.OwnWalkIn
import Derived.TacticsInMore
import Derived.LoopNIn
import Derived.LoopIn
import Derived.Test.YtiinljljbjjaeaaGreatDoorSo1
import Derived.Test.YtiinljljbjjaeaaGreatDoorRl4
import Derived.Test.YtiinljljbjjaeaaGreatDoorCl0
import Derived.Test.YtiinljljbjjaeaaGreatDoorSe2
import Derived.Test.YtiinljljbjjaeaaGreatDoorBe0
import Derived.Test.YtiinljljbjjaeaaGreatDoorRlb
import Derived.BigQuiet
import Derived.Deep.RegionHeld3
/- slices.Values of a row of partial matches, as it is ranged over. -/
namespace Go.Proofs.YtiinljljbjjaeaaGreatDoor
open Go Go.RowKit Go.Shelf
attribute [local go_sem] Oper.semAt_some

/-- From w to w' the blocks below n₀ of which Z holds are as they were. -/
structure Kpt (Z : Nat → Prop) (n₀ : Nat) (w w' : World) : Prop where
  os : w'.os = w.os
  tape : w'.tape = w.tape
  output : w'.output = w.output
  size : w.heap.size ≤ w'.heap.size
  block : ∀ k, k < n₀ → Z k → w'.heap[k]? = w.heap[k]?
theorem Kpt.refl (Z : Nat → Prop) (n₀ : Nat) (w : World) : Kpt Z n₀ w w := ⟨rfl, rfl, rfl, Nat.le_refl _, fun _ _ _ => rfl⟩
theorem Kpt.trans {Z : Nat → Prop} {n₀ : Nat} {a b c : World} (h : Kpt Z n₀ a b) (k : Kpt Z n₀ b c) : Kpt Z n₀ a c :=
  ⟨k.os.trans h.os, k.tape.trans h.tape, k.output.trans h.output, Nat.le_trans h.size k.size, fun i hi hz => (k.block i hi hz).trans (h.block i hi hz)⟩
theorem Kpt.of {Z : Nat → Prop} {n₀ : Nat} {w w' : World} (h : Below n₀ w w') : Kpt Z n₀ w w' := ⟨h.os, h.tape, h.output, h.size, fun k hk _ => h.block k hk⟩
theorem Kpt.drew {Z : Nat → Prop} {n₀ : Nat} {a w : World} (h : Kpt Z n₀ a w) : Kpt Z n₀ a w.drew := ⟨h.os, h.tape, h.output, h.size, h.block⟩
theorem Kpt.alloc {Z : Nat → Prop} {n₀ : Nat} {a w : World} (h : Kpt Z n₀ a w) (hB : n₀ ≤ w.heap.size) (o : Obj) : Kpt Z n₀ a (w.alloc o) := h.trans (.of ((Below.refl _ _).alloc hB o))
theorem Kpt.setCell {Z : Nat → Prop} {n₀ : Nat} {a w : World} (h : Kpt Z n₀ a w) {p : Addr} (hp : ¬ Z p.block) (u : Value) : Kpt Z n₀ a (w.setCell p u) :=
  ⟨h.os, h.tape, h.output, by rw [World.size_setCell]; exact h.size, fun k hk hz => (Below.heap_setCell w p u k (fun e => hp (e ▸ hz))).trans (h.block k hk hz)⟩
theorem Kpt.cell {Z : Nat → Prop} {n₀ : Nat} {w w' : World} (h : Kpt Z n₀ w w') {p : Addr} (hp : p.block < n₀) (hz : Z p.block) : w'.cell? p = w.cell? p := World.cell?_of_block (w := w) (h.block p.block hp hz)
theorem Kpt.mono {Z : Nat → Prop} {n₀ n₁ : Nat} {w w' : World} (h : Kpt Z n₀ w w') (hn : n₁ ≤ n₀) : Kpt Z n₁ w w' := ⟨h.os, h.tape, h.output, h.size, fun k hk hz => h.block k (Nat.lt_of_lt_of_le hk hn) hz⟩
theorem kptK_b {Z : Nat → Prop} {n₀ : Nat} {w : World} (hn : n₀ ≤ w.heap.size) (W : World) (l : Nat) (o o' : Obj) (hl : w.heap.size ≤ l) (h : W.heap[l]? = some o) (_ : o.isCells = false) (_ : o.isWalk = false) : Kpt Z n₀ W (W.putObj l o') :=
  .of ((Below.refl n₀ W).grown (grownBy_putObj' W l o') (by have := (Array.getElem?_eq_some_iff.1 h).1; omega) (fun k e => by cases e; omega))
theorem ownFrom_kpt {β : Type} {Z : Nat → Prop} {n₀ B : Nat} {w₀ : World} (hn : n₀ ≤ w₀.heap.size) (hB : n₀ ≤ B) : OwnFrom B (fun (_ : β) W => Kpt Z n₀ w₀ W) :=
  fun _ _ _ _ hs hg hr => hs.trans (.of ((Below.refl _ _).grown hg (Nat.le_trans hn hs.size) (fun k e => Nat.le_trans hB (hr k e).1)))

theorem valuesP_in (F : Fence) (n : Nat) (hf : F.fn 30) (hro : F.round = none) (a : Option Addr) (len cap : Nat) (w : World) :
    CallsIn F n Tryz.prog 30 #[.slice a len cap] w fun e w' => e = .returned (.func (.func 58) #[] #[.pointer (some ⟨w.heap.size, 0, none⟩)]) ∧ w' = w.alloc (.cells #[.slice a len cap] 22) := by
  refine callsIn_of_wp Tryz.func30 rfl hf ?_ hro
  simp only [Tryz.ntmps30, List.size_toArray, List.length_cons, List.length_nil, Nat.reduceAdd, Nat.reduceSub, Array.replicate_succ, Array.replicate_zero, List.push_toArray, List.append_toArray, List.nil_append, List.cons_append]
  gi_wp2
  go_ret
  exact ⟨rfl, rfl⟩

set_option maxRecDepth 100000 in
set_option maxHeartbeats 2000000 in
theorem valuesP1_in (Z : Nat → Prop) (F : Fence) (n : Nat) (hf : F.fn 58) (hro : F.round = none) (hn : 1 ≤ n) (l Bs n₀ b o cap : Nat) (zs : List Pe) (hmany : zs.length ≤ 5864062014805) (hb : b < n₀) (hz : Z b) (J Jx : List Pe → World → Prop)
    (W : World) (hJ : OwnFrom W.heap.size J) (hn₀ : n₀ ≤ W.heap.size)
    (hY : ∀ pre x W1, J pre W1 → x ∈ zs → pre.length < zs.length → YieldAt F (n - 1) Tryz.prog l #[.agg #[slV x.s]] W1 fun e W' =>
      (e = .returned (.bool true) ∧ J (pre ++ [x]) W' ∧ Kpt Z n₀ W1 W') ∨ (e = .returned (.bool false) ∧ Jx (pre ++ [x]) W'))
    (hBs : W.cell? ⟨Bs, 0, none⟩ = some (.slice (some ⟨b, o, none⟩) zs.length cap)) (hc : ∀ j (hj : j < zs.length), W.cell? ⟨b, o + j, none⟩ = some (slV zs[j].s)) (h0 : J [] W) :
    CallsIn F n Tryz.prog 58 #[.func (.yield l) #[] #[], .pointer (some ⟨Bs, 0, none⟩)] W fun e W' => (∃ v, e = .returned v) ∧
      (J zs W' ∨ (∃ k, k ≤ zs.length ∧ Jx (zs.take k) W')) := by
  refine callsIn_of_wp Tryz.func58 rfl hf ?_ hro
  simp only [Tryz.ntmps58, List.size_toArray, List.length_cons, List.length_nil, Nat.reduceAdd, Nat.reduceSub, Array.replicate_succ, Array.replicate_zero, List.push_toArray, List.append_toArray, List.nil_append, List.cons_append]
  gi_wp2
  gi_loopw [7] (fun i wr => ∃ k : Nat, k ≤ zs.length ∧ i = .int .i64 k ∧ J (zs.take k) wr ∧ Kpt Z n₀ W wr)
    (fun i _ => zs.length - (intOf i).toNat)
  case atStart => exact ⟨0, Nat.zero_le _, rfl, h0, Kpt.refl _ _ _⟩
  case round =>
    obtain ⟨k, hk, rfl, hJs, hnx⟩ := hrel
    by_cases hlt : k < zs.length
    · have c0 : wr.cell? ⟨b, o + k, none⟩ = some (slV zs[k].s) := (hnx.cell (p := ⟨b, o + k, none⟩) hb hz).trans (hc k hlt)
      have hyy := hY _ zs[k] _ (hJ.alloc (.cells #[slV zs[k].s] 38) hJs) (List.getElem_mem _) (by simp; omega)
      unfold slV at hyy c0
      obtain ⟨fn, tmps, assign, body, hy, hR⟩ := hyy
      have hT : zs.take (k + 1) = zs.take k ++ [zs[k]] := by rw [List.take_succ_eq_append_getElem hlt]
      gi_wp2
      refine hR.mono ?_
      rintro e W3 (⟨rfl, hJ3, hk3⟩ | ⟨rfl, hJx3⟩)
      · gi_wp2
        go_roundw
        case rel => exact ⟨k + 1, by omega, by simp, by rw [hT]; exact hJ3, (hnx.alloc (Nat.le_trans hn₀ hnx.size) _).trans hk3⟩
        case measure => simp [intOf]; omega
      · gi_wp2
        refine bodyPost_ret (results_none rfl _ _ _) rfl ?_
        exact ⟨⟨_, rfl⟩, .inr ⟨k + 1, by omega, by rw [hT]; exact hJx3⟩⟩
    · obtain rfl : k = zs.length := by omega
      gi_wp2
      go_end0
      exact ⟨⟨_, rfl⟩, .inl (by rw [List.take_length] at hJs; exact hJs)⟩

set_option maxRecDepth 100000 in
set_option maxHeartbeats 1000000 in
/-- .. at no event: no round. -/
theorem valuesP1_nil_in (F : Fence) (n : Nat) (hf : F.fn 58) (hro : F.round = none) (l Bs : Nat) (ao : Option Addr) (cap : Nat) (J : List Pe → World → Prop) (W : World) (hBs : W.cell? ⟨Bs, 0, none⟩ = some (.slice ao 0 cap)) (h0 : J [] W) :
    CallsIn F n Tryz.prog 58 #[.func (.yield l) #[] #[], .pointer (some ⟨Bs, 0, none⟩)] W fun e W' => (∃ v, e = .returned v) ∧ J [] W' := by
  refine callsIn_of_wp Tryz.func58 rfl hf ?_ hro
  simp only [Tryz.ntmps58, List.size_toArray, List.length_cons, List.length_nil, Nat.reduceAdd, Nat.reduceSub, Array.replicate_succ, Array.replicate_zero, List.push_toArray, List.append_toArray, List.nil_append, List.cons_append]
  gi_wp2
  gi_loopw [7] (fun i wr => i = .int .i64 0 ∧ J [] wr) (fun _ _ => 0)
  case atStart => exact ⟨rfl, h0⟩
  case round =>
    obtain ⟨rfl, hJs⟩ := hrel
    gi_wp2
    go_end0
    exact ⟨⟨_, rfl⟩, hJs⟩
/-- slices.Values of a row of events: each in its place; the row lies below n₀. -/
theorem valuesP_stops (Z : Nat → Prop) (F : Fence) (n : Nat) (hf : F.fn 58) (hro : F.round = none) (hn : 1 ≤ n) (Bs n₀ cap : Nat) (ao : Option Addr) (zs : List Pe) (hmany : zs.length ≤ 5864062014805)
    (w : World) (hBl : Bs < w.heap.size) (hn₀ : n₀ ≤ w.heap.size) (hBs : w.cell? ⟨Bs, 0, none⟩ = some (.slice ao zs.length cap))
    (hrow : 0 < zs.length → ∃ b o, ao = some ⟨b, o, none⟩ ∧ b < n₀ ∧ Z b ∧ ∀ j (hj : j < zs.length), w.cell? ⟨b, o + j, none⟩ = some (slV zs[j].s)) :
    SeqStopsH F n Tryz.prog 58 #[.pointer (some ⟨Bs, 0, none⟩)] (fun x : Pe => #[.agg #[slV x.s]]) (fun x _ => x ∈ zs) (Kpt Z n₀) (fun ys => ys = zs) (fun pre => pre <+: zs) zs.length w := fun l J Jx W hW hJ hJx hY h0 => by
  have hc' := (hW.cell (p := ⟨Bs, 0, none⟩) hBl).trans hBs
  cases zs with
  | nil => exact (valuesP1_nil_in F n hf hro l Bs ao cap J W hc' h0).mono fun e W' ⟨he, hj⟩ => ⟨he, .inl ⟨_, rfl, hj⟩⟩
  | cons z zs =>
    obtain ⟨b, o, rfl, hb, hz, hc⟩ := hrow (by simp)
    refine (valuesP1_in Z F n hf hro hn l Bs n₀ b o cap (z :: zs) hmany hb hz J Jx W hJ (Nat.le_trans hn₀ hW.size) (fun pre x W1 hj hm hl => (hY pre x W1 hj hm hl).mono (fun e W' h => h.imp (fun ⟨a, b, c, _⟩ => ⟨a, b, c⟩) (fun ⟨a, b, _⟩ => ⟨a, b⟩))) hc' (fun j hj => (hW.cell (p := ⟨b, o + j, none⟩) (by show b < w.heap.size; omega)).trans (hc j hj)) h0).mono ?_
    rintro e W' ⟨he, hj | ⟨k, hk, hj⟩⟩
    · exact ⟨he, .inl ⟨_, rfl, hj⟩⟩
    · exact ⟨he, .inr ⟨_, List.take_prefix _ _, hj⟩⟩
end Go.Proofs.YtiinljljbjjaeaaGreatDoor

/- match.clones, as it is ranged over: each partial match in memory of its own. -/
namespace Go.Proofs.YtiinljljbjjaeaaGreatDoor
open Go Go.RowKit Go.Shelf
attribute [local go_sem] Oper.semAt_some

theorem mClones_in (F : Fence) (n : Nat) (hf : F.fn 29) (hro : F.round = none) (fv : Fn) (u v : Array Value) (w : World) :
    CallsIn F n Tryz.prog 29 #[.func fv u v] w fun e w' => e = .returned (.func (.func 57) #[] #[.pointer (some ⟨w.heap.size, 0, none⟩)]) ∧ w' = w.alloc (.cells #[.func fv u v] 30) := by
  refine callsIn_of_wp Tryz.func29 rfl hf ?_ hro
  simp only [Tryz.ntmps29, List.size_toArray, List.length_cons, List.length_nil, Nat.reduceAdd, Nat.reduceSub, Array.replicate_succ, Array.replicate_zero, List.push_toArray, List.append_toArray, List.nil_append, List.cons_append]
  gi_wp2
  go_ret
  exact ⟨rfl, rfl⟩

theorem row_base {w : World} {B B' : Nat} {e : TypeId} {size : Nat} {v : Value} {n : Nat} {xs : List Value} (h : w.ownsRow B e size v n xs) (hB : B' ≤ B) : w.ownsRow B' e size v n xs := by
  refine ⟨h.1, h.2.imp id ?_⟩
  rintro ⟨g, cap, cur, h1, h2, h3⟩
  exact ⟨g, cap, cur, h1, Nat.le_trans hB h2, h3⟩
theorem yield_deep {F : Fence} (hd : F.depth = none) {m : Nat} (m' : Nat) {P : Program} {l : Nat} {args : Array Value} {W : World} {R : Ending → World → Prop} (h : YieldAt F m P l args W R) : YieldAt F m' P l args W R := by
  obtain ⟨fn, tmps, assign, body, hy, hR⟩ := h
  exact ⟨fn, tmps, assign, body, hy, hR.1, fun c cs _ => hR.2 c cs (fun d h => by rw [hd] at h; cases h)⟩
/-- What clones hands: a partial match in memory of its own. -/
def HC (KX : List Bd → Prop) (n₀ : Nat) (x : List Bd × Value) (W : World) : Prop := BsO W n₀ x.2 x.1 ∧ KX x.1

/-- What a round keeps: what lay below n₀, and each box of a yield. -/
def KpY (Z : Nat → Prop) (n₀ : Nat) (A B : World) : Prop := Kpt Z n₀ A B ∧ ∀ (k : Nat) (cs : Array Value) (fr : Nat × Nat), A.heap[k]? = some (.cells cs 39 fr) → B.heap[k]? = some (.cells cs 39 fr)
set_option maxRecDepth 100000 in
set_option maxHeartbeats 2000000 in
theorem mClones_stops (Z : Nat → Prop) (KX : List Bd → Prop) (F : Fence) (n : Nat) (hf : F.fn 57) (hf2 : F.fn 58) (hf3 : F.fn 22) (hro : F.round = none) (hd : F.depth = none) (hn : 4 ≤ n) (Bc Bs n₀ cap : Nat) (ao : Option Addr) (zs : List Pe) (hmany : zs.length ≤ 5864062014805)
    (w : World) (hBl : Bs < w.heap.size) (hBc : Bc < w.heap.size) (hn₀ : n₀ ≤ w.heap.size) (hB : w.cell? ⟨Bc, 0, none⟩ = some (.func (.func 58) #[] #[.pointer (some ⟨Bs, 0, none⟩)])) (hBs : w.cell? ⟨Bs, 0, none⟩ = some (.slice ao zs.length cap))
    (hrow : 0 < zs.length → ∃ b o, ao = some ⟨b, o, none⟩ ∧ b < n₀ ∧ Z b ∧ ∀ j (hj : j < zs.length), w.cell? ⟨b, o + j, none⟩ = some (slV zs[j].s))
    (hC : ∀ (ao : Option Addr) (m c : Nat) (bs : List Bd) (W : World), BsV W W.heap.size (.slice ao m c) bs → CallsIn F (n - 1 - 1 - 1) Tryz.prog 22 #[.agg #[.slice ao m c]] W fun r W' => ∃ v', r = .returned (.agg #[v']) ∧ BsO W' W.heap.size v' bs ∧ Below W.heap.size W W')
    (hKX : ∀ z ∈ zs, KX z.l)
    (hats : ∀ z ∈ zs, ∀ u, Kpt Z n₀ w u → BsV u u.heap.size (slV z.s) z.l) :
    SeqStopsH F n Tryz.prog 57 #[.pointer (some ⟨Bc, 0, none⟩)] (fun x : List Bd × Value => #[.agg #[x.2]]) (HC KX n₀) (KpY Z n₀) (fun ys => ys.map Prod.fst = zs.map Pe.l) (fun pre => pre.map Prod.fst <+: zs.map Pe.l) zs.length w := fun l J Jx W hW hJ hJx hY h0 => by
  have hcB : ∀ o : Obj, (W.alloc o).cell? ⟨Bc, 0, none⟩ = some (.func (.func 58) #[] #[.pointer (some ⟨Bs, 0, none⟩)]) := fun o => Lib.cell?_alloc_some _ ((hW.cell (p := ⟨Bc, 0, none⟩) hBc).trans hB)
  refine callsIn_of_wp_marks Tryz.func57 rfl hf ?_ hro
  simp only [Tryz.ntmps57, List.size_toArray, List.length_cons, List.length_nil, Nat.reduceAdd, Nat.reduceSub, Array.replicate_succ, Array.replicate_zero, List.push_toArray, List.append_toArray, List.nil_append, List.cons_append]
  gi_wp2
  have hbW : Kpt Z n₀ w (W.alloc (.cells #[.func (.yield l) #[] #[]] 39)) := (Kpt.of (hW.mono hn₀)).alloc (Nat.le_trans hn₀ hW.size) _
  have hbw : Below w.heap.size w (W.alloc (.cells #[.func (.yield l) #[] #[]] 39)) := hW.alloc hW.size _
  have hy0 : (W.alloc (.cells #[.func (.yield l) #[] #[]] 39)).heap[W.heap.size]? = some (.cells #[.func (.yield l) #[] #[]] 39 (0, 0)) := heap_alloc_new _ _
  have hJ1 : J [] (W.alloc (.cells #[.func (.yield l) #[] #[]] 39)) := hJ.alloc _ h0
  have hjo : ∀ {K : List (List Bd × Value) → World → Prop}, OwnFrom W.heap.size K → OwnFrom (W.alloc (.cells #[.func (.yield l) #[] #[]] 39)).heap.size (fun (pre : List Pe) W' => ∃ ys, ys.map Prod.fst = pre.map Pe.l ∧ K ys W') := fun hK s A B row hs hg hr => by
    obtain ⟨ys, h1, h2⟩ := hs
    exact ⟨ys, h1, hK ys A B row h2 hg (fun r e => ⟨by have := (hr r e).1; simp at this; omega, (hr r e).2⟩)⟩
  refine wpIn_rangeFunc_H hro (by omega) (gf := 58) (lb := #[.pointer (some ⟨Bs, 0, none⟩)]) rfl hf2 (enters_of Tryz.func58 (by kernel_rfl) rfl)
    (valuesP_stops Z F (n - 1) hf2 hro (by omega) Bs n₀ cap ao zs hmany w hBl hn₀ hBs hrow) Kpt.trans (kptK_b (by have := hbW.size; omega)) hbw (fun _ => rfl)
    (fun pre W' => (∃ ys, ys.map Prod.fst = pre.map Pe.l ∧ J ys W') ∧ W'.heap[W.heap.size]? = some (.cells #[.func (.yield l) #[] #[]] 39 (0, 0)) ∧ Kpt Z n₀ w W')
    (fun c pre W' => c = .ret ∧ ∃ ys, ys.map Prod.fst = pre.map Pe.l ∧ Jx ys W')
    ?ownI ?ownX ⟨⟨[], rfl, hJ1⟩, hy0, hbW⟩
    (fun x a' W' => x ∈ zs ∧ ∃ Bx, W.heap.size < Bx ∧ W'.heap[Bx]? = some (.cells #[slV x.s] 38 (0, 0)) ∧
      a' = { tmps := #[.func (.yield l) #[] #[], .pointer (some ⟨Bc, 0, none⟩), .pointer (some ⟨W.heap.size, 0, none⟩), .pointer (some ⟨Bx, 0, none⟩), .func (.func 58) #[] #[.pointer (some ⟨Bs, 0, none⟩)], .agg #[slV x.s], undef, undef, undef, undef, undef], defers := [] })
    ?ownA ?assign ?body ?done ?stop
  case ownI => exact OwnFrom.and (hjo hJ) (OwnFrom.and (fun s A B row hs hg hr => (hg.block _ (Array.getElem?_eq_some_iff.1 hs).1 (fun e => by obtain ⟨_, o, ho, hc⟩ := hr _ e.symm; rw [hs] at ho; cases ho; cases hc)).trans hs) (ownFrom_kpt hn₀ (by have := hbW.size; omega)))
  case ownX => exact fun c => OwnFrom.and (ownFrom_pure _ _) (hjo hJx)
  case ownA =>
    rintro x a' s A B row ⟨hm, Bx, h1, h2, h3⟩ hg hr
    refine ⟨hm, Bx, h1, (hg.block Bx (Array.getElem?_eq_some_iff.1 h2).1 (fun e => ?_)).trans h2, h3⟩
    obtain ⟨_, o, ho, hc⟩ := hr Bx e.symm
    rw [h2] at ho; cases ho; cases hc
  case assign =>
    rintro l' pre x W' K ⟨⟨ys, h1, h2⟩, hc, hb⟩ hm hK
    have hlt : W.heap.size < W'.heap.size := (Array.getElem?_eq_some_iff.1 hc).1
    unfold slV
    gi_wp2
    exact hK _ _ ((KeepsOthers.alloc _ _).from _) ((Kpt.refl Z n₀ W').alloc (Nat.le_trans hn₀ hb.size) _) ⟨⟨ys, h1, hJ.alloc _ h2⟩, (Below.heap_alloc _ _ _ hlt).trans hc, hb.alloc (Nat.le_trans hn₀ hb.size) _⟩ ⟨hm, W'.heap.size, hlt, heap_alloc_new _ _, rfl⟩
  case body =>
    rintro l' pre x a' W' hl' hr ⟨⟨ys, h1, h2⟩, hc, hb⟩ ⟨hm, Bx, hBx, hbx, rfl⟩ hlen
    have c0 := cells_one0 hbx
    have hcell : W'.cell? ⟨W.heap.size, 0, none⟩ = some (.func (.yield l) #[] #[]) := by simp [World.cell?, hc]
    have hcl := fun (W2 : World) (h : BsV W2 W2.heap.size (slV x.s) x.l) => hC x.s.a x.s.n x.s.c x.l W2 h
    have hJn : ∀ W2, Below W'.heap.size W' W2 → J ys W2 := fun W2 h => hJ ys W' W2 none h2 ⟨h.os, h.tape, h.output, h.size, fun k hk _ => h.block k hk⟩ (fun r e => by cases e)
    have hlen' : ys.length < zs.length := by have h3 := congrArg List.length h1; simp at h3; omega
    have hmo : Tryz.prog.follows .mixedOrders = true := by kernel_rfl
    have hbd : Below W'.heap.size W' W'.drew := (Below.refl _ _).drew
    have havd : BsV W'.drew W'.drew.heap.size (slV x.s) x.l := hats x hm _ hb.drew
    have hnd : n₀ ≤ W'.drew.heap.size := Nat.le_trans hn₀ hb.size
    have hltP : W.heap.size < W'.heap.size := Nat.lt_trans hBx (Array.getElem?_eq_some_iff.1 hbx).1
    have hYY := fun (W2 : World) (v' : Value) (hJ2 : J ys W2) (hv : HC KX n₀ (x.l, v') W2) => (yield_deep hd (n - 1 - 1 - 1) (hY ys (x.l, v') W2 hJ2 hv hlen')).mono (R' := fun e W' => ∃ b, e = .returned (.bool b) ∧ (b = true → J (ys ++ [(x.l, v')]) W' ∧ KpY Z n₀ W2 W') ∧ (b = false → Jx (ys ++ [(x.l, v')]) W') ∧ KeepsFrom W.heap.size W2 W') (fun e W' h => by
      rcases h with ⟨rfl, h3, h4, h5⟩ | ⟨rfl, h3, h5⟩
      · exact ⟨true, rfl, fun _ => ⟨h3, h4⟩, (fun h => nomatch h), h5⟩
      · exact ⟨false, rfl, (fun h => nomatch h), (fun _ => h3), h5⟩)
    unfold slV at c0 hcl hYY havd ⊢
    gi_wp2
    gi_region_with_o (first
      | (gi_at_call 22; refine (CallsIn.inRound l' (hcl _ havd)).mono ?_; rintro r W2 ⟨v', rfl, ho, hb2⟩; obtain ⟨va, vk, rfl⟩ := ho.shape; have hbb := hbd.trans hb2; have hc2 := (hb2.cell (p := ⟨W.heap.size, 0, none⟩) hltP).trans (show W'.drew.cell? ⟨W.heap.size, 0, none⟩ = _ from hcell); obtain ⟨fn, tmps, assign, body, hy, hR⟩ := hYY W2 _ (hJn W2 hbb) ⟨ho.lower hnd, hKX x hm⟩; clear hbb)
      | (refine hR.mono ?_; rintro e W3 ⟨bb, rfl, hb3, hb4, hb5⟩))
    all_goals
      have hkf2 : KeepsFrom W.heap.size W' W2 := ⟨(hbd.trans hb2).size, fun k o _ hk _ => ((hbd.trans hb2).block k (Array.getElem?_eq_some_iff.1 hk).1).trans hk⟩
      have hkf3 := hkf2.trans hb5
      have hkf : KeepsFrom (W.heap.size + 1) W' W3 := ⟨hkf3.size, fun k o hk => hkf3.same k o (by omega)⟩
      have hc2 : W2.heap[W.heap.size]? = some (.cells #[.func (.yield l) #[] #[]] 39 (0, 0)) := ((hbd.trans hb2).block _ hltP).trans hc
      cases bb with
      | true =>
        obtain ⟨hj3, hbn3, hty3⟩ := hb3 rfl
        have hbn : Kpt Z n₀ W' W3 := (Kpt.of ((hbd.trans hb2).mono (Nat.le_trans hn₀ hb.size))).trans hbn3
        have hcy := hty3 _ _ _ hc2
        gi_wp2
        exact ⟨hkf, hbn, ⟨_, by simp [h1], hj3⟩, hcy, hb.trans hbn⟩
      | false =>
        have hj3 := hb4 rfl
        gi_wp2
        exact ⟨hkf, rfl, _, by simp [h1], hj3⟩
  case done =>
    rintro D xs W' hD rfl ⟨⟨ys, h1, h2⟩, hc, hb⟩ hK
    have hD' : W.heap.size ≤ D := by have := hD; simp at this; omega
    have hJD := hJ.putObj (.deferred none) h2 hD' hK rfl
    gi_wp2
    refine ⟨by simp, .inl ⟨_, _, rfl, run_takeDeferred hK, ?_⟩⟩
    exact ⟨_, results_none rfl _ _ _, ⟨_, rfl⟩, .inl ⟨ys, h1, hJD⟩⟩
  case stop =>
    rintro D c pre W' hD hp ⟨rfl, ys, h1, h2⟩ hK
    have hD' : W.heap.size ≤ D := by have := hD; simp at this; omega
    have hJD := hJx.putObj (.deferred none) h2 hD' hK rfl
    gi_wp2
    refine ⟨by simp, .inl ⟨_, _, rfl, run_takeDeferred hK, ?_⟩⟩
    exact ⟨_, results_none rfl _ _ _, ⟨_, rfl⟩, .inr ⟨ys, by rw [h1]; exact hp.map Pe.l, hJD⟩⟩
end Go.Proofs.YtiinljljbjjaeaaGreatDoor

/- All of a set: what it hands, in memory. -/
namespace Go.Proofs.YtiinljljbjjaeaaGreatDoor
open Go Go.RowKit Go.Shelf Go.Maps Go.WideMaps
attribute [local go_sem] Oper.semAt_some

/-- What All of a set hands back, in memory: it goes through zs; where Z holds nothing may turn. -/
def PAllAt (Z : Nat → Prop) (w : World) (n₀ Bc : Nat) (zs : List Pe) : Prop :=
  ∃ (Bs cap : Nat) (ao : Option Addr), zs.length ≤ 5864062014805 ∧ Bs < w.heap.size ∧ Bc < w.heap.size ∧ n₀ ≤ w.heap.size ∧
    w.cell? ⟨Bc, 0, none⟩ = some (.func (.func 58) #[] #[.pointer (some ⟨Bs, 0, none⟩)]) ∧ w.cell? ⟨Bs, 0, none⟩ = some (.slice ao zs.length cap) ∧
    (0 < zs.length → ∃ b o, ao = some ⟨b, o, none⟩ ∧ b < n₀ ∧ Z b ∧ ∀ j (hj : j < zs.length), w.cell? ⟨b, o + j, none⟩ = some (slV zs[j].s)) ∧
    (∀ z ∈ zs, ∀ u, Kpt Z n₀ w u → BsV u u.heap.size (slV z.s) z.l)
theorem PAllAt.below {Z : Nat → Prop} {w w' : World} {n₀ Bc : Nat} {zs : List Pe} (h : PAllAt Z w n₀ Bc zs) (hb : Below w.heap.size w w') : PAllAt Z w' n₀ Bc zs := by
  obtain ⟨Bs, cap, ao, h1, h2, h3, h4, h5, h6, h7, h8⟩ := h
  refine ⟨Bs, cap, ao, h1, Nat.lt_of_lt_of_le h2 hb.size, Nat.lt_of_lt_of_le h3 hb.size, Nat.le_trans h4 hb.size, (hb.cell (p := ⟨Bc, 0, none⟩) h3).trans h5, (hb.cell (p := ⟨Bs, 0, none⟩) h2).trans h6, fun h => ?_, fun z hz u hu => h8 z hz u ((Kpt.of (hb.mono h4)).trans hu)⟩
  obtain ⟨b, o, e, hB, hz, hc⟩ := h7 h
  exact ⟨b, o, e, hB, hz, fun j hj => (hb.cell (p := ⟨b, o + j, none⟩) (Nat.lt_of_lt_of_le hB h4)).trans (hc j hj)⟩
theorem PAllAt.stops {Z : Nat → Prop} {w : World} {n₀ Bc : Nat} {zs : List Pe} (h : PAllAt Z w n₀ Bc zs) (KX : List Bd → Prop) (hKX : ∀ z ∈ zs, KX z.l) (n : Nat) (hn : 4 ≤ n) :
    SeqStopsH Fence.wide n Tryz.prog 57 #[.pointer (some ⟨Bc, 0, none⟩)] (fun x : List Bd × Value => #[.agg #[x.2]]) (HC KX n₀) (KpY Z n₀) (fun ys => ys.map Prod.fst = zs.map Pe.l) (fun pre => pre.map Prod.fst <+: zs.map Pe.l) zs.length w := by
  obtain ⟨Bs, cap, ao, h1, h2, h3, h4, h5, h6, h7, h8⟩ := h
  exact mClones_stops Z KX Fence.wide n trivial trivial trivial rfl rfl hn Bc Bs n₀ cap ao zs h1 w h2 h3 h4 h5 h6 h7
    (fun ao m c bs W hav => callsIn_wide.2 (mClone_any W.heap.size ao m c bs W hav (Nat.le_refl _))) hKX h8
theorem kpY_t {Z : Nat → Prop} {B : Nat} {a b c : World} (h : KpY Z B a b) (h' : KpY Z B b c) : KpY Z B a c := ⟨h.1.trans h'.1, fun k cs fr hk => h'.2 k cs fr (h.2 k cs fr hk)⟩
theorem kpY_b {Z : Nat → Prop} {B l : Nat} {W : World} {o : Obj} (o' : Obj) (hB : B ≤ l) (hl : W.heap[l]? = some o) (ho : o.isCells = false) : KpY Z B W (W.putObj l o') :=
  ⟨.of ((Below.refl B W).grown (grownBy_putObj' W l o') (by have := (Array.getElem?_eq_some_iff.1 hl).1; omega) (fun k e => by cases e; omega)), fun k cs fr hk => by
    have hne : k ≠ l := by rintro rfl; rw [hk] at hl; cases hl; cases ho
    exact (World.putObj_heap_other hne).trans hk⟩

set_option maxRecDepth 100000 in
set_option maxHeartbeats 1600000 in
theorem mSetAll_any (Z F : Nat → Prop) (C q b : Nat) (L : List (Value × List Bd)) (w : World) (h : SetAt F C w q b L) (hZ : ∀ k, w.heap.size ≤ k → Z k) (hS : ∀ x ∈ L, ∀ u, Kpt Z w.heap.size w u → BsV u u.heap.size x.1 x.2) :
    Calls Tryz.prog 10 #[.pointer (some ⟨q, 0, none⟩)] w fun e w' => ∃ Bc n₀ zs, e = .returned (.func (.func 57) #[] #[.pointer (some ⟨Bc, 0, none⟩)]) ∧ InO L zs ∧ PAllAt Z w' n₀ Bc zs ∧ w.heap.size ≤ n₀ ∧ Below w.heap.size w w' := by
  have C0 := fun w => (callsIn_wide (n := 5)).1 (mapValues_in Fence.wide 5 trivial rfl (some b) w)
  have C1 := fun (w : World) (a : Option Addr) (n c : Nat) => (callsIn_wide (n := 5)).1 (valuesP_in Fence.wide 5 trivial rfl a n c w)
  have C2 := fun (w : World) (u v : Array Value) => (callsIn_wide (n := 5)).1 (mClones_in Fence.wide 5 trivial rfl (.func 58) u v w)
  have hq := h.cell
  have hm := h.many
  obtain ⟨N, D, hown, _, hL⟩ := h.map
  have hb0 : Below w.heap.size w (w.alloc (.cells #[.map (some b)] 60)) := (Below.refl _ _).alloc (Nat.le_refl _) _
  have CS := sortedP_any w.heap.size b N D L (w.alloc (.cells #[.map (some b)] 60)) (by simp) (cells_one0 (heap_alloc_new w _)) (owns_block0 hown (hb0.block b hown.lt)) hL hm (fun x hx => ((h.each x hx).1.now.below hb0 (Nat.le_refl _)).mono hb0.size)
  have HC0 := Lib.hid C0; have HC1 := Lib.hid C1; have HC2 := Lib.hid C2; have HCS := Lib.hid CS; have HB0 := Lib.hid hb0; have HS := Lib.hid hS; have HZ := Lib.hid hZ; have HM := Lib.hid hm
  have HP := Lib.hid (mSetParts_any q b w hq)
  clear h hown hL C0 C1 C2 CS hb0 hS hZ hm hq
  go_enter Tryz.func10, Tryz.ntmps10
  go_wp2_with (first
    | (go_at_call 33; (with_reducible refine (HP.out).mono ?_); rintro e w1 ⟨rfl, rfl⟩)
    | (go_at_call 32; (with_reducible refine (HC0.out _).mono ?_); rintro e w1 ⟨rfl, rfl⟩)
    | (go_at_call 31; (with_reducible refine (HCS.out).mono ?_); rintro e w2 ⟨v, zs, rfl, hio, ⟨ao, cap, rfl, hrow⟩, hb⟩; have HIO := Lib.hid hio; have HR := Lib.hid hrow; have HB := Lib.hid hb; clear hio hrow hb)
    | (go_at_call 30; (with_reducible refine (HC1.out _ _ _ _).mono ?_); rintro e w3 ⟨rfl, rfl⟩)
    | (go_at_call 29; (with_reducible refine (HC2.out _ _ _).mono ?_); rintro e w4 ⟨rfl, rfl⟩))
  go_ret
  have hb2 : Below w.heap.size w w2 := HB0.out.trans (HB.out.mono HB0.out.size)
  have hb3 : Below w2.heap.size w2 ((w2.alloc (.cells #[.slice ao zs.length cap] 22)).alloc (.cells #[.func (.func 58) #[] #[.pointer (some ⟨w2.heap.size, 0, none⟩)]] 30)) := ((Below.refl _ _).alloc (Nat.le_refl _) _).alloc (by simp) _
  have hzl : zs.length = L.length := by have := HIO.out.perm.length_eq; simpa using this
  refine ⟨_, w2.heap.size, zs, rfl, HIO.out, ⟨w2.heap.size, cap, ao, by have := HM.out; omega, by simp; omega, by simp, by simp; omega, ?_, ?_, fun h0 => ?_, fun z hz u hu => ?_⟩, hb2.size, hb2.trans (hb3.mono hb2.size)⟩
  · exact cells_one0 (heap_alloc_at (by simp) rfl)
  · exact cells_one0 (heap_alloc_keeps (heap_alloc_new w2 _) _)
  · obtain ⟨g, o, e, h1, h2, h3⟩ := HR.out h0
    exact ⟨g, o, e, h2, HZ.out g (Nat.le_trans HB0.out.size h1), fun j hj => (hb3.cell (p := ⟨g, o + j, none⟩) h2).trans (h3 j hj)⟩
  · have hin : (slV z.s, z.l) ∈ L := HIO.out.perm.mem_iff.1 (List.mem_map.2 ⟨z, hz, rfl⟩)
    exact HS.out _ hin u ((Kpt.of (hb2.trans (hb3.mono hb2.size))).trans (hu.mono hb2.size))
end Go.Proofs.YtiinljljbjjaeaaGreatDoor

/- The walk of MatchRises. -/
namespace Go.Proofs.YtiinljljbjjaeaaGreatDoor
open Go Go.RowKit Go.Shelf Go.Maps Go.WideMaps Go.Sort
attribute [local go_sem] Oper.semAt_some

theorem cmpI_range (a b : Int) : -1 ≤ cmpI a b ∧ cmpI a b ≤ 1 := by unfold cmpI; split <;> (try split) <;> omega
theorem orI_range {a b : Int} (h1 : -1 ≤ a ∧ a ≤ 1) (h2 : -1 ≤ b ∧ b ≤ 1) : -1 ≤ orI a b ∧ orI a b ≤ 1 := by unfold orI; split <;> assumption
theorem cmpBd_range (x y : Bd) : -1 ≤ cmpBd x y ∧ cmpBd x y ≤ 1 := orI_range (cb_range x.var.data.toList y.var.data.toList) (orI_range (cmpI_range _ _) (cmpI_range _ _))
theorem cmpL_range : ∀ a b : List Bd, -1 ≤ cmpL a b ∧ cmpL a b ≤ 1
  | [], [] => by rw [cmpL]; omega
  | [], _ :: _ => by rw [cmpL]; omega
  | _ :: _, [] => by rw [cmpL]; omega
  | x :: a, y :: b => by
    rw [cmpL]
    split
    · exact cmpL_range a b
    · exact cmpBd_range x y

theorem BsO.stays {W W' : World} {base : Nat} {v : Value} {bs : List Bd} (h : BsO W base v bs) (hk : ∀ (k : Nat) (cs : Array Value) (t : Nat) (fr : Nat × Nat), (t = 54 ∨ t = 58) → W.heap[k]? = some (.cells cs t fr) → W'.heap[k]? = some (.cells cs t fr)) : BsO W' base v bs := by
  obtain ⟨hw, hl, xs, h1, h2⟩ := h
  exact ⟨hw, hl, xs, own_stays0 h1 (fun k cs fr => hk k cs _ fr (.inl rfl)), h2.imp fun v x _ hx => ⟨own_stays0 hx.1 (fun k cs fr => hk k cs _ fr (.inr rfl)), hx.2⟩⟩
/-- What stands while a set's partial matches are gone through: the set; how many there were; the last of them. -/
structure RiS (N5 : Nat) (u5 : World) (q n₀ : Nat) (pre : List (List Bd × Value)) (W : World) : Prop where
  base : Below N5 u5 W
  set : W.heap[N5]? = some (.cells #[.pointer (some ⟨q, 0, none⟩)] 23 (0, 0))
  num : W.heap[N5 + 1 + 1]? = some (.cells #[.int .i64 (pre.length : Int)] 3 (0, 0))
  last : ∃ a n c, W.heap[N5 + 1]? = some (.cells #[.slice a n c] 38 (0, 0)) ∧ ∀ x, pre.getLast? = some x → BsO W n₀ (.slice a n c) x.1
theorem RiS.stays {N5 : Nat} {u5 : World} {q n₀ : Nat} {pre : List (List Bd × Value)} {W W' : World} (h : RiS N5 u5 q n₀ pre W) (hb : Below N5 W W') (hk : ∀ (k : Nat) (cs : Array Value) (t : Nat) (fr : Nat × Nat), W.heap[k]? = some (.cells cs t fr) → W'.heap[k]? = some (.cells cs t fr)) : RiS N5 u5 q n₀ pre W' := by
  obtain ⟨a, n, c, h1, h2⟩ := h.last
  exact ⟨h.base.trans hb, hk _ _ _ _ h.set, hk _ _ _ _ h.num, a, n, c, hk _ _ _ _ h1, fun x hx => (h2 x hx).stays fun k cs t fr _ hc => hk k cs t fr hc⟩
theorem RiS.call {N5 : Nat} {u5 : World} {q n₀ : Nat} {pre : List (List Bd × Value)} {W W' : World} (h : RiS N5 u5 q n₀ pre W) (hN : N5 ≤ u5.heap.size) (hb : Below W.heap.size W W') : RiS N5 u5 q n₀ pre W' :=
  h.stays (hb.mono (Nat.le_trans hN h.base.size)) fun k cs t fr hk => (hb.block k (Array.getElem?_eq_some_iff.1 hk).1).trans hk

theorem free1 {w : World} {q t : Nat} {c : Value} (h : w.heap[q]? = some (.cells #[c] t (0, 0))) : w.frozen? ⟨q, 0, none⟩ = false := by simp [World.frozen?, h]
theorem set1 {w : World} {q t : Nat} {c : Value} (h : w.heap[q]? = some (.cells #[c] t (0, 0))) (u : Value) : (w.setCell ⟨q, 0, none⟩ u).heap[q]? = some (.cells #[u] t (0, 0)) := by
  have := heap_setCell_same (k := 0) h u
  simpa using this
/-- One more is gone through: it is the last, the count is one more. -/
theorem RiS.step {N5 : Nat} {u5 : World} {q n₀ : Nat} {pre : List (List Bd × Value)} {W : World} (h : RiS N5 u5 q n₀ pre W) {x : List Bd} {va : Option Addr} {n vk : Nat} (hv : BsO W n₀ (.slice va n vk) x) :
    RiS N5 u5 q n₀ (pre ++ [(x, .slice va n vk)]) ((W.setCell ⟨N5 + 1, 0, none⟩ (.slice va n vk)).setCell ⟨N5 + 1 + 1, 0, none⟩ (.int .i64 ((pre.length : Int) + 1))) := by
  obtain ⟨a, n1, c, h1, _⟩ := h.last
  have e1 : ∀ k, k ≠ N5 + 1 → (W.setCell ⟨N5 + 1, 0, none⟩ (.slice va n vk)).heap[k]? = W.heap[k]? := fun k hk => Below.heap_setCell _ _ _ _ hk
  have e2 : ∀ (w : World) k, k ≠ N5 + 1 + 1 → (w.setCell ⟨N5 + 1 + 1, 0, none⟩ (.int .i64 ((pre.length : Int) + 1))).heap[k]? = w.heap[k]? := fun w k hk => Below.heap_setCell _ _ _ _ hk
  refine ⟨(h.base.setCell (p := ⟨N5 + 1, 0, none⟩) (Nat.le_succ _) _).setCell (p := ⟨N5 + 1 + 1, 0, none⟩) (by simp; omega) _, ?_, ?_, va, n, vk, ?_, fun y hy => ?_⟩
  · rw [e2 _ _ (by omega), e1 _ (by omega)]; exact h.set
  · have := set1 ((e1 (N5 + 1 + 1) (by omega)).trans h.num) (.int .i64 ((pre.length : Int) + 1))
    rw [this]; simp
  · rw [e2 _ _ (by omega)]; exact set1 h1 _
  · rw [List.getLast?_append, List.getLast?_singleton, Option.some_or, Option.some.injEq] at hy
    subst hy
    refine hv.stays fun k cs t fr ht hk => ?_
    rw [e2 _ _ (fun e => by rw [e, h.num] at hk; cases hk; rcases ht with h | h <;> cases h), e1 _ (fun e => by rw [e, h1] at hk; cases hk; rcases ht with h | h <;> cases h)]
    exact hk
theorem rise_next {zs : List Pe} (h : zs.Pairwise fun x y => cmpL x.l y.l < 0) {pre : List (List Bd × Value)} {y x : List Bd × Value} (hy : pre.getLast? = some y) (hp : (pre ++ [x]).map Prod.fst <+: zs.map Pe.l) : cmpL y.1 x.1 < 0 := by
  obtain ⟨p0, rfl⟩ : ∃ p0, pre = p0 ++ [y] := List.getLast?_eq_some_iff.1 hy
  have h2 : (zs.map Pe.l).Pairwise fun x y => cmpL x y < 0 := List.pairwise_map.2 h
  have h3 := h2.sublist hp.sublist
  rw [List.map_append, List.map_append, List.pairwise_append] at h3
  exact h3.2.2 _ (by simp) _ (by simp)
set_option maxRecDepth 100000 in
set_option maxHeartbeats 16000000 in
theorem rises_walk (a b c : List Bd) (aoa : Option Addr) (na ca : Nat) (aob : Option Addr) (nb cb : Nat) (aoc : Option Addr) (nc cc : Nat) (v : Value) (ls : List (List Bd)) (C : Nat) (w : World)
    (ha : BsV w w.heap.size (.slice aoa na ca) a) (hb : BsV w w.heap.size (.slice aob nb cb) b) (hc : BsV w w.heap.size (.slice aoc nc cc) c) (hl : LpV w w.heap.size v ls) (hC : C ≤ w.heap.size) (htab : Lib.TabBelow Tryz.prog C w "internal/strconv.uint64pow10" .u64 Lib.pow10Tab) :
    Calls Tryz.prog 4 #[.agg #[.slice aoa na ca], .agg #[.slice aob nb cb], .agg #[.slice aoc nc cc], v] w fun e w' => e = .returned (.bool true) ∧ Below w.heap.size w w' := by
  obtain ⟨P, hP⟩ : ∃ P, P = w.heap.size := ⟨_, rfl⟩
  obtain ⟨W0, hW0⟩ : ∃ W0, W0 = (((w.alloc (.cells #[.slice aoa na ca] 38)).alloc (.cells #[.slice aob nb cb] 38)).alloc (.cells #[.slice aoc nc cc] 38)).alloc (.cells #[.bool false] 4) := ⟨_, rfl⟩
  have hb0 : Below P w W0 := by rw [hW0, hP]; exact ((((Below.refl _ _).alloc (Nat.le_refl _) _).alloc (by simp) _).alloc (by simp; omega) _).alloc (by simp; omega) _
  have hs0 : W0.heap.size = P + 4 := by rw [hW0, hP]; simp
  have hx0 : W0.heap[P]? = some (.cells #[.slice aoa na ca] 38 (0, 0)) := by rw [hW0, hP]; exact heap_alloc_keeps (heap_alloc_keeps (heap_alloc_keeps (heap_alloc_new w _) _) _) _
  have hx1 : W0.heap[P + 1]? = some (.cells #[.slice aob nb cb] 38 (0, 0)) := by rw [hW0, hP]; exact heap_alloc_keeps (heap_alloc_keeps (heap_alloc_at (by simp) rfl) _) _
  have hx2 : W0.heap[P + 1 + 1]? = some (.cells #[.slice aoc nc cc] 38 (0, 0)) := by rw [hW0, hP]; exact heap_alloc_keeps (heap_alloc_at (by simp) rfl) _
  have hx3 : W0.heap[P + 1 + 1 + 1]? = some (.cells #[.bool false] 4 (0, 0)) := by rw [hW0, hP]; exact heap_alloc_at (by simp) rfl
  have HX : Hid (∀ W, Below (P + 4) W0 W → Below P w W ∧ W.cell? ⟨P, 0, none⟩ = some (.slice aoa na ca) ∧ W.cell? ⟨P + 1, 0, none⟩ = some (.slice aob nb cb) ∧ W.cell? ⟨P + 1 + 1, 0, none⟩ = some (.slice aoc nc cc) ∧ W.heap[P + 1 + 1 + 1]? = some (.cells #[.bool false] 4 (0, 0)) ∧ P + 4 ≤ W.heap.size) := Lib.hid fun W h =>
    ⟨hb0.trans (h.mono (by omega)), cells_one0 ((h.block P (by omega)).trans hx0), cells_one0 ((h.block (P + 1) (by omega)).trans hx1), cells_one0 ((h.block (P + 1 + 1) (by omega)).trans hx2), (h.block (P + 1 + 1 + 1) (by omega)).trans hx3, by have := h.size; omega⟩
  have cm : ∀ (ao : Option Addr) (n k : Nat) (bs : List Bd) (ao2 : Option Addr) (n2 k2 : Nat) (bs2 : List Bd), BsV w w.heap.size (.slice ao n k) bs → BsV w w.heap.size (.slice ao2 n2 k2) bs2 → ∀ u, Below P w u → Calls Tryz.prog 19 #[.agg #[.slice ao n k], .agg #[.slice ao2 n2 k2]] u fun e w' => e = .returned (.int .i64 (cmpL bs bs2)) ∧ Below u.heap.size u w' := fun ao n k bs ao2 n2 k2 bs2 h1 h2 u hu => by
    have hz := hu.size
    rw [hP] at hu
    exact mCompare_any w.heap.size w.heap.size ao n k ao2 n2 k2 bs bs2 u (h1.below hu (Nat.le_refl _)) (h2.below hu (Nat.le_refl _)) hz hz
  have CAB := cm _ _ _ _ _ _ _ _ ha hb; have CBC := cm _ _ _ _ _ _ _ _ hb hc; have CAC := cm _ _ _ _ _ _ _ _ ha hc; have CBA := cm _ _ _ _ _ _ _ _ hb ha; have CAA := cm _ _ _ _ _ _ _ _ ha ha
  rw [cmpL_swap a b] at CBA
  rw [cmpL_self] at CAA
  have htr := cmpL_trans (a := a) (b := b) (c := c)
  have hra := cmpL_range a b
  generalize cmpL a b = ab at CAB CBA htr hra
  generalize cmpL b c = bc at CBC htr
  generalize cmpL a c = ac at CAC htr
  have HAB := Lib.hid CAB; have HBC := Lib.hid CBC; have HAC := Lib.hid CAC; have HBA := Lib.hid CBA; have HAA := Lib.hid CAA
  obtain ⟨ao, cap, rfl, _⟩ := hl.row
  have HL : Hid (∀ u, Below P w u → LpV u P (.slice ao ls.length cap) ls ∧ Lib.TabBelow Tryz.prog C u "internal/strconv.uint64pow10" .u64 Lib.pow10Tab) := Lib.hid fun u hu => by
    rw [hP] at hu ⊢
    exact ⟨hl.below hu, htab.on (hu.mono hC)⟩
  have HCP : Hid (C ≤ P) := Lib.hid (by omega)
  have hlen : ls.length ≤ 5864062014805 := hl.len
  have HSK := Lib.hid (setK_len ls)
  have HP := Lib.hid hP; have HW0 := Lib.hid hW0; have HS0 := Lib.hid hs0
  have hX0 := HX.out W0 (Below.refl _ _)
  have mq0 := cell_regrown hX0.2.1; have mq1 := cell_regrown hX0.2.2.1; have mq2 := cell_regrown hX0.2.2.2.1
  have hup : ∀ u, Below W0.heap.size W0 u → Below P w u := fun u hu => (HX.out u (by rw [← HS0.out]; exact hu)).1
  have R1 := Lib.hid (rg (w := W0) (fun u hu => HAB.out u (hup u hu))); have R2 := Lib.hid (rg (w := W0) (fun u hu => HBC.out u (hup u hu))); have R3 := Lib.hid (rg (w := W0) (fun u hu => HAC.out u (hup u hu)))
  clear hup
  have e1 : IntKind.i64.wrap (-ab) = -ab := IntWalk.i64_in _ (by omega)
  have HTR := Lib.hid htr
  rw [← hP]
  clear hP hW0 hb0 hs0 hx0 hx1 hx2 hx3 ha hb hc hl htab hC cm CAB CBC CAC CBA CAA hra hX0 htr
  refine (callsIn_wide (n := 12)).1 ?_
  refine callsIn_of_wp_marks Tryz.func4 rfl trivial ?_ rfl
  simp only [Tryz.ntmps4, List.size_toArray, List.length_cons, List.length_nil, Nat.reduceAdd, Nat.reduceSub, Array.replicate_succ, Array.replicate_zero, List.push_toArray, List.append_toArray, List.nil_append, List.cons_append]
  refine wpIn_wide.2 ?_
  go_wp2_with fail
  rw [← HW0.out, ← HP.out]
  refine wp_region_quiet_below (by kernel_rfl) (by kernel_rfl) ?_
  repeat (quiet_step (first | (with_reducible exact R1.out _ _) | (with_reducible exact R2.out _ _) | (with_reducible exact R3.out _ _)))
  refine wpQuiet_nil ?_
  intro _ hw'
  obtain ⟨⟨dq, osq⟩, hw''⟩ := hw'
  subst hw''
  have hB1 : Below (P + 4) W0 (grow (redrawn W0 dq) osq) := by rw [← HS0.out]; exact below_regrown W0 dq osq
  clear mq0 mq1 mq2 R1 R2 R3
  generalize grow (redrawn W0 dq) osq = u1 at hB1 ⊢
  have HB1 := Lib.hid hB1
  clear hB1
  have hcase : (ab ≤ 0 ∧ bc ≤ 0 ∧ ¬ (0 < ac)) ∨ (ab ≤ 0 ∧ ¬ bc ≤ 0) ∨ ¬ ab ≤ 0 := by
    by_cases h1 : ab ≤ 0
    · by_cases h2 : bc ≤ 0
      · exact .inl ⟨h1, h2, by have := (HTR.out h1 h2).1; omega⟩
      · exact .inr (.inl ⟨h1, h2⟩)
    · exact .inr (.inr h1)
  obtain ⟨hp1, c0, c1, c2, hx3, hz1⟩ := HX.out u1 HB1.out
  have HZ1 := Lib.hid hz1
  clear hx3 hz1 hp1 c2
  rcases hcase with ⟨h1, h2, h3⟩ | ⟨h1, h2⟩ | h1
  all_goals
    try have d1 := decide_eq_true h1
    try have d1 := decide_eq_false h1
    try have d2 := decide_eq_true h2
    try have d2 := decide_eq_false h2
    try have d3 := decide_eq_false h3
    go_wp2_with fail
    (with_reducible refine (begun10_any _).mono ?_)
    rintro e u2 ⟨rfl, hb⟩
    have HB2 := Lib.hid (HB1.out.trans (hb.mono HZ1.out))
    clear hb c0 c1
    obtain ⟨hp2, c0, c1, c2, hx3, hz2⟩ := HX.out u2 HB2.out
    have HZ2 := Lib.hid hz2; have HP2 := Lib.hid hp2
    clear hx3 hz2 hp2 c2
    go_wp2_with fail
    (with_reducible refine (HBA.out _ HP2.out).mono ?_)
    rintro e u3 ⟨rfl, hb⟩
    have HB3 := Lib.hid (HB2.out.trans (hb.mono HZ2.out))
    clear hb c0 c1
    obtain ⟨hp2, c0, c1, c2, hx3, hz2⟩ := HX.out u3 HB3.out
    have HZ3 := Lib.hid hz2; have HP3 := Lib.hid hp2
    clear hx3 hz2 hp2 c2 c1
    go_wp2_with fail
    (with_reducible refine (HAA.out _ HP3.out).mono ?_)
    rintro e u4 ⟨rfl, hb⟩
    have HB4 := Lib.hid (HB3.out.trans (hb.mono HZ3.out))
    clear hb c0
    obtain ⟨hp2, c0, c1, c2, hx3, hz2⟩ := HX.out u4 HB4.out
    have HZ4 := Lib.hid hz2; have HP4 := Lib.hid hp2
    clear hx3 hz2 hp2 c2 c1 c0
    go_wp2_with fail
    (with_reducible refine (mNewSet_any (fun _ => False) C P _ ls _ (HL.out _ HP4.out).1 (by have := HZ4.out; omega) (by have := HZ4.out; have := HCP.out; omega) (fun k h => h.elim) (HL.out _ HP4.out).2).mono ?_)
    rintro e u5 ⟨q, bm, L, rfl, hq1, hq2, hset, hLs, hb⟩
    have HB5 := Lib.hid (HB4.out.trans (hb.mono HZ4.out))
    have HSET := Lib.hid hset; have HLS := Lib.hid hLs
    have HZ5 := Lib.hid (show P + 4 ≤ u5.heap.size from (HX.out _ HB5.out).2.2.2.2.2)
    clear hb hq1 hq2 hset hLs
    go_wp2_with fail
    have HF := Lib.hid (rfl : (fun k : Nat => k = bm ∨ False) = (fun k : Nat => k = bm ∨ False))
    obtain ⟨N5, hN5⟩ : ∃ N, N = u5.heap.size := ⟨_, rfl⟩
    obtain ⟨W6, hW6⟩ : ∃ W, W = ((u5.alloc (.cells #[.pointer (some ⟨q, 0, none⟩)] 23)).alloc (.cells #[.slice none 0 0] 38)).alloc (.cells #[.int .i64 0] 3) := ⟨_, rfl⟩
    have hs6 : W6.heap.size = N5 + 3 := by rw [hW6, hN5]; simp
    have hb6 : Below N5 u5 W6 := by rw [hW6, hN5]; exact (((Below.refl _ _).alloc (Nat.le_refl _) _).alloc (by simp) _).alloc (by simp; omega) _
    have hy0 : W6.heap[N5]? = some (.cells #[.pointer (some ⟨q, 0, none⟩)] 23 (0, 0)) := by rw [hW6, hN5]; exact heap_alloc_keeps (heap_alloc_keeps (heap_alloc_new u5 _) _) _
    have hy1 : W6.heap[N5 + 1]? = some (.cells #[.slice none 0 0] 38 (0, 0)) := by rw [hW6, hN5]; exact heap_alloc_keeps (heap_alloc_at (by simp) rfl) _
    have hy2 : W6.heap[N5 + 1 + 1]? = some (.cells #[.int .i64 0] 3 (0, 0)) := by rw [hW6, hN5]; exact heap_alloc_at (by simp) rfl
    have HSB : Hid (∀ W, Below N5 u5 W → SetAt (fun k => k = bm ∨ False) C W q bm L) := Lib.hid fun W h => HSET.out.call (by rw [← hN5]; exact h)
    have hKB : ∀ u, Kpt (fun k => k ≠ N5 + 1 ∧ k ≠ N5 + 1 + 1) W6.heap.size W6 u → Below N5 u5 u := fun u hu => hb6.trans ⟨hu.os, hu.tape, hu.output, hu.size, fun k hk => hu.block k (by omega) ⟨by omega, by omega⟩⟩
    have hS : ∀ x ∈ L, ∀ u, Kpt (fun k => k ≠ N5 + 1 ∧ k ≠ N5 + 1 + 1) W6.heap.size W6 u → BsV u u.heap.size x.1 x.2 := fun x hx u hu => (HSET.out.each x hx).1 u (Chg.of_below (by rw [← hN5]; exact hKB u hu))
    have HEACH : Hid (∀ x ∈ L, KyB x.2 ∧ hasL L x.2 = true) := Lib.hid fun x hx => ⟨(HSET.out.each x hx).2.1, decide_eq_true (List.mem_map.2 ⟨x, hx, rfl⟩)⟩
    rw [← hW6, ← hN5]
    have CALL := mSetAll_any (fun k => k ≠ N5 + 1 ∧ k ≠ N5 + 1 + 1) (fun k => k = bm ∨ False) C q bm L W6 (HSB.out W6 hb6) (fun k hk => ⟨by omega, by omega⟩) hS
    have HN5 := Lib.hid (Nat.le_of_eq hN5); have HN5e := Lib.hid hN5
    have HB6 := Lib.hid hb6; have HS6 := Lib.hid hs6; have HY0 := Lib.hid hy0; have HY1 := Lib.hid hy1; have HY2 := Lib.hid hy2
    clear hW6 hN5 hs6 hb6 hy0 hy1 hy2 hKB hS
    (with_reducible refine CALL.mono ?_)
    clear CALL
    rintro e u7 ⟨Bc, n₀, zs, rfl, hio, hall, hn0, hb⟩
    have hn7 : n₀ ≤ u7.heap.size := by obtain ⟨_, _, _, _, _, _, h, _⟩ := hall; exact h
    have hKX : ∀ z ∈ zs, KyB z.l ∧ hasL L z.l = true := fun z hz => HEACH.out _ (hio.perm.mem_iff.1 (List.mem_map.2 ⟨z, hz, rfl⟩))
    have hstops := hall.stops (fun l => KyB l ∧ hasL L l = true) hKX 11 (by decide)
    have h07 : RiS N5 u5 q n₀ [] u7 := RiS.call (W := W6) ⟨HB6.out, HY0.out, HY2.out, none, 0, 0, HY1.out, fun x hx => by cases hx⟩ HN5.out hb
    have HN7 := Lib.hid hn7; have HN0 := Lib.hid hn0; have HIO := Lib.hid hio; have H07 := Lib.hid h07; have HZ7 := Lib.hid hb.size
    clear hall hio hb hn7 hn0 h07 hKX
    go_wp2_with fail
    refine (wpIn_wide (n := 12)).1 ?_
    refine wpIn_rangeFunc_HB 15 rfl (by decide) (gf := 57) (lb := #[.pointer (some ⟨Bc, 0, none⟩)]) rfl trivial (enters_of Tryz.func57 (by kernel_rfl) rfl)
      hstops kpY_t (fun W l o o' hl h ho _ => kpY_b o' (Nat.le_trans HN7.out hl) h ho) (Below.refl _ _) (fun _ => rfl)
      (fun (pre : List (List Bd × Value)) (W : World) => RiS N5 u5 q n₀ pre W ∧ n₀ ≤ W.heap.size)
      (fun (c : Code) (pre : List (List Bd × Value)) (_ : World) => c = .ret ∧ ¬ pre.map Prod.fst <+: zs.map Pe.l) ?ownI (fun c => ownFrom_pure _ _) ⟨H07.out, HN7.out⟩
      (fun (x : List Bd × Value) (Bx : Nat) (W : World) => ∃ va vk, n₀ ≤ Bx ∧ x.2 = .slice va x.1.length vk ∧ W.heap[Bx]? = some (.cells #[.slice va x.1.length vk] 38 (0, 0)) ∧ HC (fun l => KyB l ∧ hasL L l = true) n₀ x W)
      ?ownA ?assign ?body ?done ?stop
    case ownI =>
      rintro _ A B row ⟨hs, hz⟩ hg hr
      have hN : N5 ≤ A.heap.size := Nat.le_trans HN5.out hs.base.size
      refine ⟨hs.stays ((Below.refl _ _).grown hg hN (fun k e => ?_)) (fun k cs t fr hk => (hg.block k (Array.getElem?_eq_some_iff.1 hk).1 (fun e => by obtain ⟨_, o, ho, hc⟩ := hr k e.symm; rw [hk] at ho; cases ho; cases hc)).trans hk), Nat.le_trans hz hg.size⟩
      have h1 := (hr k e).1; have h2 := HZ7.out; have h3 := HS6.out; omega
    case ownA =>
      rintro x Bx _ A B row ⟨va, vk, g1, g2, g3, g4⟩ hg hr
      have hno : ∀ (k : Nat) (cs : Array Value) (t : Nat) (fr : Nat × Nat), A.heap[k]? = some (.cells cs t fr) → B.heap[k]? = some (.cells cs t fr) := fun k cs t fr hk =>
        (hg.block k (Array.getElem?_eq_some_iff.1 hk).1 (fun e => by obtain ⟨_, o, ho, hc⟩ := hr k e.symm; rw [hk] at ho; cases ho; cases hc)).trans hk
      exact ⟨va, vk, g1, g2, hno _ _ _ _ g3, g4.1.stays fun k cs t fr _ hk => hno k cs t fr hk, g4.2⟩
    case assign =>
      rintro l' pre ⟨x, v⟩ W K ⟨hi, hz⟩ hc hK
      obtain ⟨va, vk, hv⟩ := hc.1.shape
      simp only at hv
      subst hv
      have hK := Lib.hid hK
      gi_wp2
      have hb : Below W.heap.size W (W.alloc (.cells #[.slice va x.length vk] 38)) := (Below.refl _ _).alloc (Nat.le_refl _) _
      have hk := hK.out W.heap.size _ ((KeepsOthers.alloc _ _).from _) ⟨.of (hb.mono hz), fun k cs fr hk => (hb.block k (Array.getElem?_eq_some_iff.1 hk).1).trans hk⟩ ⟨hi.call HN5.out hb, Nat.le_trans hz hb.size⟩ ⟨va, vk, hz, rfl, heap_alloc_new _ _, hc.1.call hb, hc.2⟩
      clear hK
      simpa [boxAct] using hk
    case body =>
      rintro l' pre ⟨x, v⟩ Bx W hl' hr ⟨hi, hz⟩ ⟨va, vk, hBx, hv, hx, hC⟩ hlen
      simp only at hv hx
      subst hv
      unfold boxAct
      obtain ⟨a1, n1, k1, hla, hlast⟩ := hi.last
      have cN := cells_one0 hi.num; have cS := cells_one0 hi.set; have cL := cells_one0 hla; have cX := cells_one0 hx
      have hbx : BsV W W.heap.size (.slice va x.length vk) x := hC.1.bsv
      have CH : ∀ u, Below W.heap.size W u → Calls Tryz.prog 13 #[.pointer (some ⟨q, 0, none⟩), .agg #[.slice va x.length vk]] u fun e w' => e = .returned (.bool true) ∧ Below u.heap.size u w' := fun u hu => by
        have := mSetHas_any (fun k => k = bm ∨ False) C q bm L W.heap.size va x.length vk x u (HSB.out u (hi.base.trans (hu.mono (Nat.le_trans HN5.out hi.base.size)))) (hbx.below hu (Nat.le_refl _)) hu.size hC.2.1
        rwa [show hasL L x = true from hC.2.2] at this
      have HCH := Lib.hid CH
      have hNW : N5 + 1 + 1 < W.heap.size := (Array.getElem?_eq_some_iff.1 hi.num).1
      have hgo : ∀ W3, Below W.heap.size W W3 → KeepsFrom u7.heap.size W ((W3.setCell ⟨N5 + 1, 0, none⟩ (.slice va x.length vk)).setCell ⟨N5 + 1 + 1, 0, none⟩ (.int .i64 ((pre.length : Int) + 1))) ∧
          KpY (fun k => k ≠ N5 + 1 ∧ k ≠ N5 + 1 + 1) n₀ W ((W3.setCell ⟨N5 + 1, 0, none⟩ (.slice va x.length vk)).setCell ⟨N5 + 1 + 1, 0, none⟩ (.int .i64 ((pre.length : Int) + 1))) ∧
          RiS N5 u5 q n₀ (pre ++ [(x, .slice va x.length vk)]) ((W3.setCell ⟨N5 + 1, 0, none⟩ (.slice va x.length vk)).setCell ⟨N5 + 1 + 1, 0, none⟩ (.int .i64 ((pre.length : Int) + 1))) ∧
          n₀ ≤ ((W3.setCell ⟨N5 + 1, 0, none⟩ (.slice va x.length vk)).setCell ⟨N5 + 1 + 1, 0, none⟩ (.int .i64 ((pre.length : Int) + 1))).heap.size := fun W3 hb => by
        have hkf : KeepsFrom u7.heap.size W W3 := ⟨hb.size, fun k o _ hk _ => (hb.block k (Array.getElem?_eq_some_iff.1 hk).1).trans hk⟩
        refine ⟨(hkf.trans ((KeepsOthers.setCell _ _ _).from _)).trans ((KeepsOthers.setCell _ _ _).from _), ⟨((Kpt.of (hb.mono hz)).setCell (p := ⟨N5 + 1, 0, none⟩) (by simp) _).setCell (p := ⟨N5 + 1 + 1, 0, none⟩) (by simp) _, fun k cs fr hk => ?_⟩, (hi.call HN5.out hb).step (hC.1.call hb), by simp only [World.size_setCell]; exact Nat.le_trans hz hb.size⟩
        rw [Below.heap_setCell _ _ _ _ (fun e => by simp only at e; rw [e, hi.num] at hk; cases hk), Below.heap_setCell _ _ _ _ (fun e => by simp only at e; rw [e, hla] at hk; cases hk)]
        exact (hb.block k (Array.getElem?_eq_some_iff.1 hk).1).trans hk
      have hcell : ∀ W3, Below W.heap.size W W3 → W3.cell? ⟨N5 + 1 + 1, 0, none⟩ = some (.int .i64 (pre.length : Int)) ∧ W3.cell? ⟨N5, 0, none⟩ = some (.pointer (some ⟨q, 0, none⟩)) ∧ W3.cell? ⟨Bx, 0, none⟩ = some (.slice va x.length vk) ∧ W3.cell? ⟨N5 + 1, 0, none⟩ = some (.slice a1 n1 k1) ∧ W3.frozen? ⟨N5 + 1, 0, none⟩ = false ∧ W3.frozen? ⟨N5 + 1 + 1, 0, none⟩ = false ∧ W3.cell? ⟨P + 1 + 1 + 1, 0, none⟩ = some (.bool false) ∧ W3.frozen? ⟨P + 1 + 1 + 1, 0, none⟩ = false := fun W3 hb => by
        have g5 := (HX.out W3 (HB5.out.trans ((hi.base.trans (hb.mono (Nat.le_trans HN5.out hi.base.size))).mono (by have := HN5e.out; have := HZ5.out; omega)))).2.2.2.2.1
        have g1 := (hb.block _ hNW).trans hi.num; have g2 := (hb.block _ (Array.getElem?_eq_some_iff.1 hi.set).1).trans hi.set; have g3 := (hb.block _ (Array.getElem?_eq_some_iff.1 hx).1).trans hx; have g4 := (hb.block _ (Array.getElem?_eq_some_iff.1 hla).1).trans hla
        exact ⟨cells_one0 g1, cells_one0 g2, cells_one0 g3, cells_one0 g4, free1 g4, free1 g1, cells_one0 g5, free1 g5⟩
      have hnot : ∀ y, pre.getLast? = some y → ¬ cmpL y.1 x < 0 → ¬ (pre ++ [(x, Value.slice va x.length vk)]).map Prod.fst <+: zs.map Pe.l := fun y hy h hp => h (rise_next HIO.out.rise hy hp)
      have HGO := Lib.hid hgo; have HCELL := Lib.hid hcell; have HNOT := Lib.hid hnot
      have e1 : IntKind.i64.wrap ((pre.length : Int) + 1) = (pre.length : Int) + 1 := IntWalk.i64_in _ (by have h1 := HIO.out.perm.length_eq; rw [List.length_map] at h1; have h2 := HSET.out.many; omega)
      clear CH hgo hcell hnot hstops
      cases hgl : pre.getLast? with
      | none =>
        have h0 : pre.length = 0 := by rw [List.getLast?_eq_none_iff.1 hgl]; rfl
        have d0 : decide (0 < (pre.length : Int)) = false := decide_eq_false (by omega)
        have d00 : ¬ (0 < (pre.length : Int)) := by omega
        clear hlast hgl h0
        gi_wp2_with (first | (gi_at_call 13; (refine (CallsIn.inRound l' (callsIn_wide.2 (HCH.out _ (Below.refl _ _)))).mono ?_); rintro e W2 ⟨rfl, hb2⟩; clear cN cS cL cX; obtain ⟨cN, cS, cX, cL, fL, fN, c3, f3⟩ := HCELL.out W2 hb2; have HB2 := Lib.hid hb2; clear hb2) | (refine ⟨trivial, ?_⟩))
        exact HGO.out W2 HB2.out
      | some y =>
        have h0 : 0 < (pre.length : Int) := by
          cases pre with
          | nil => cases hgl
          | cons _ _ => simp
        have d0 := decide_eq_true h0
        have hby := (hlast y hgl).bsv
        have CC : Calls Tryz.prog 19 #[.agg #[.slice a1 n1 k1], .agg #[.slice va x.length vk]] W fun e w' => e = .returned (.int .i64 (cmpL y.1 x)) ∧ Below W.heap.size W w' := mCompare_any W.heap.size W.heap.size a1 n1 k1 va _ vk y.1 x W hby hbx (Nat.le_refl _) (Nat.le_refl _)
        have HNO := Lib.hid (HNOT.out y hgl)
        clear hlast hgl hby
        generalize cmpL y.1 x = cv at CC HNO
        have HCC := Lib.hid CC
        clear CC
        by_cases hcv : cv < 0
        · have d1 : decide (0 ≤ cv) = false := decide_eq_false (by omega)
          have d11 : ¬ (0 ≤ cv) := by omega
          gi_wp2_with (first
            | (gi_at_call 19; (refine (CallsIn.inRound l' (callsIn_wide.2 HCC.out)).mono ?_); rintro e W1 ⟨rfl, hb1⟩; clear cN cS cL cX; obtain ⟨cN, cS, cX, cL, fL, fN, c3, f3⟩ := HCELL.out W1 hb1; have HB1 := Lib.hid hb1; clear hb1)
            | (gi_at_call 13; (refine (CallsIn.inRound l' (callsIn_wide.2 (HCH.out _ HB1.out))).mono ?_); rintro e W2 ⟨rfl, hb2⟩; clear cN cS cL cX fL fN c3 f3; have hb3 := HB1.out.trans (hb2.mono HB1.out.size); obtain ⟨cN, cS, cX, cL, fL, fN, c3, f3⟩ := HCELL.out W2 hb3; have HB2 := Lib.hid hb3; clear hb2 hb3)
            | (refine ⟨trivial, ?_⟩))
          exact HGO.out W2 HB2.out
        · have d1 : decide (0 ≤ cv) = true := decide_eq_true (by omega)
          have d11 : 0 ≤ cv := by omega
          gi_wp2_with (first
            | (gi_at_call 19; (refine (CallsIn.inRound l' (callsIn_wide.2 HCC.out)).mono ?_); rintro e W1 ⟨rfl, hb1⟩; clear cN cS cL cX; obtain ⟨cN, cS, cX, cL, fL, fN, c3, f3⟩ := HCELL.out W1 hb1; have HB1 := Lib.hid hb1; clear hb1)
            | (refine ⟨trivial, ?_⟩))
          have hkf : KeepsFrom u7.heap.size W W1 := ⟨HB1.out.size, fun k o _ hk _ => (HB1.out.block k (Array.getElem?_eq_some_iff.1 hk).1).trans hk⟩
          exact ⟨hkf.trans ((KeepsOthers.setCell _ _ _).from _), rfl, HNO.out hcv⟩
    case done =>
      rintro D xs W hD hS ⟨hi, hz⟩ hK
      have hxl : xs.length = L.length := by
        have h1 := congrArg List.length hS
        have h2 := HIO.out.perm.length_eq
        rw [List.length_map, List.length_map] at h1
        rw [List.length_map] at h2
        omega
      have hLl : L.length ≤ ls.length := by
        have h1 := congrArg List.length HLS.out
        have h2 := HSK.out
        rw [List.length_map] at h1
        omega
      have hbW : Below (P + 4) W0 W := HB5.out.trans (hi.base.mono (by have := HN5e.out; have := HZ5.out; omega))
      have hx3 := (HX.out W hbW).2.2.2.2.1
      have cN := cells_one0 hi.num; have cS := cells_one0 hi.set; have c3 := cells_one0 hx3; have f3 := free1 hx3
      rw [hxl] at cN
      have HLEN := Lib.hid (fun (u : World) (hu : Below N5 u5 u) => mSetLen_any (fun k => k = bm ∨ False) C q bm L u (HSB.out u hu))
      have HBW := Lib.hid hi.base
      have hle : (L.length : Int) ≤ (ls.length : Int) := by omega
      have hle2 := decide_eq_true hle
      have n1 : N5 ≠ P + 1 + 1 + 1 := by have := HN5e.out; have := HZ5.out; omega
      have n2 : N5 + 1 + 1 ≠ P + 1 + 1 + 1 := by have := HN5e.out; have := HZ5.out; omega
      have hk1 : ∀ v, (W.setCell ⟨P + 1 + 1 + 1, 0, none⟩ v).drew.cell? ⟨N5 + 1 + 1, 0, none⟩ = some (.int .i64 (L.length : Int)) := fun v => (World.cell?_setCell_other _ _ _ _ (fun e => by simp only [Addr.mk.injEq] at e; omega)).trans cN
      have hk2 : ∀ v, (W.setCell ⟨P + 1 + 1 + 1, 0, none⟩ v).drew.cell? ⟨N5, 0, none⟩ = some (.pointer (some ⟨q, 0, none⟩)) := fun v => (World.cell?_setCell_other _ _ _ _ (fun e => by simp only [Addr.mk.injEq] at e; omega)).trans cS
      clear n1 n2
      clear hS hi hz hstops
      go_wp2_with fail
      go_region_held3 (fun w' => w'.cell? ⟨N5 + 1 + 1, 0, none⟩ = some (.int .i64 (L.length : Int)) ∧ w'.cell? ⟨N5, 0, none⟩ = some (.pointer (some ⟨q, 0, none⟩)))
        (first | exact ⟨cN, cS⟩ | exact ⟨hk1 _, hk2 _⟩ | go_keep)
        (first | (go_at_call 17; (with_reducible refine (HLEN.out _ HBW.out.drew).mono ?_); rintro e w1 ⟨rfl, rfl⟩))
      all_goals go_wp2
      all_goals
        have hx4 := set1 hx3 (.bool true)
        have hPD : P + 1 + 1 + 1 ≠ D := by have h1 := HZ7.out; have h2 := HS6.out; have h3 := HN5e.out; have h4 := HZ5.out; omega
        have hkd : ((W.setCell ⟨P + 1 + 1 + 1, 0, none⟩ (.bool true)).drew).heap[D]? = some (.deferred (some [])) := (Below.heap_setCell W ⟨P + 1 + 1 + 1, 0, none⟩ (.bool true) D (Ne.symm hPD)).trans hK
        refine ⟨by simp, .inl ⟨_, _, rfl, run_takeDeferred hkd, ?_⟩⟩
        have hc := cells_one0 ((World.putObj_heap_other (w := (W.setCell ⟨P + 1 + 1 + 1, 0, none⟩ (.bool true)).drew) (o := .deferred none) hPD).trans hx4)
        refine ⟨.bool true, by simp [results, Tryz.results4, go_sem, hc], rfl, ?_⟩
        have hf : Below P w (W.setCell ⟨P + 1 + 1 + 1, 0, none⟩ (.bool true)).drew := ((HX.out W hbW).1.setCell (p := ⟨P + 1 + 1 + 1, 0, none⟩) (by simp; omega) _).drew
        exact hf.grown (grownBy_putObj' _ D _) (by have h1 := hf.size; have h2 := HP.out; omega) (fun k e => by cases e; have h1 := HZ7.out; have h2 := HS6.out; have h3 := HN5e.out; have h4 := HZ5.out; omega)
    case stop =>
      rintro D c pre W hD hp ⟨rfl, hn⟩ hK
      exact absurd hp hn
end Go.Proofs.YtiinljljbjjaeaaGreatDoor
