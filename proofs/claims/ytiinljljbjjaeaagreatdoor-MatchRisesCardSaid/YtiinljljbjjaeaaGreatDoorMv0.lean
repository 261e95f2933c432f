/- maps.Values of a set's map, as it is ranged over. -/
import Derived.Test.YtiinljljbjjaeaaGreatDoorSe2
import Derived.Test.YtiinljljbjjaeaaGreatDoorRl4
import Derived.RangeFuncBox
import Derived.RangeFuncNested
import Derived.RangeFuncBound
import Derived.RangeFuncCalls
import Derived.RangeFuncLeaves
import Derived.RangeFuncMany
import Derived.Sort.MapsRangeIn
import Derived.Sort.KeysCollected
import Derived.Shelf.Abstract
import Derived.WalkKit
import Derived.OwnWalkIn
import Derived.TacticsInMore
import Derived.RegionIn
import Derived.LoopNIn
import Derived.LoopIn
namespace Go.Proofs.YtiinljljbjjaeaaGreatDoor
open Go Go.RowKit Go.Maps Go.Sort Go.WideMaps Go.Shelf
attribute [local go_sem] Oper.semAt_some

/-- A slice by its three numbers. -/
structure Sl where
  a : Option Addr
  n : Nat
  c : Nat
  deriving Inhabited
def slV (c : Sl) : Value := .slice c.a c.n c.c
theorem slV_inj {c d : Sl} (h : slV c = slV d) : c = d := by
  obtain ⟨a, n, k⟩ := c; obtain ⟨a', n', k'⟩ := d
  unfold slV at h
  simp only [Value.slice.injEq] at h
  obtain ⟨rfl, rfl, rfl⟩ := h
  rfl
theorem heldE_sl {v : Value} {y : DataW Value × List MemPlace} (h : heldE v = some y) : ∃ c : Sl, v = .agg #[slV c] ∧ y = (.held (.agg #[slV c]), []) := by
  obtain ⟨a, n, c, rfl, h2⟩ := heldE_inv h
  exact ⟨⟨a, n, c⟩, rfl, h2⟩

theorem nodup_of_map0 {α β : Type} {f : α → β} {l : List α} (h : (l.map f).Nodup) : l.Nodup := List.Pairwise.of_map f (fun a b hab e => hab (by rw [e])) h
theorem nodup_inj0 {α : Type} {l : List α} (h : l.Nodup) {i j : Nat} (hi : i < l.length) (hj : j < l.length) (he : l[i] = l[j]) : i = j := by
  rcases Nat.lt_trichotomy i j with hl | hl | hl
  · exact absurd he (List.pairwise_iff_getElem.1 h i j hi hj hl)
  · exact hl
  · exact absurd he.symm (List.pairwise_iff_getElem.1 h j i hj hi hl)
/-- What maps.Values goes through: the set's slices, in some order. -/
def AllV (L : List (Value × List Bd)) (xs : List Sl) : Prop := ∃ L' : List (Value × List Bd), L'.Perm L ∧ L'.map Prod.fst = xs.map slV
theorem allV_of {D : DataW Value} {L : List (Value × List Bd)} (h : MapL D L) {ps : List (List UInt8 × Sl)} (hn : (ps.map Prod.fst).Nodup) (hk : ∀ k, k ∈ ps.map Prod.fst ↔ Maps.has D (.string k) = true) (hv : ∀ p ∈ ps, ∀ z, D.atKey (.string p.1) z = .held (.agg #[slV p.2])) : AllV L (ps.map Prod.snd) := by
  have hex : ∀ p ∈ ps, ∃ x ∈ L, keyL x.2 = p.1 ∧ x.1 = slV p.2 := fun p hp => by
    have h1 := (hk p.1).1 (List.mem_map.2 ⟨p, hp, rfl⟩)
    rw [h.has] at h1
    obtain ⟨x, hx, he⟩ := List.mem_map.1 (of_decide_eq_true h1)
    have h2 := h.at' x hx (.held (.agg #[]))
    rw [he, hv p hp] at h2
    simp only [DataW.held.injEq, Value.agg.injEq, Array.mk.injEq, List.cons.injEq, and_true] at h2
    exact ⟨x, hx, he, h2.symm⟩
  obtain ⟨L', hL'⟩ : ∃ L' : List (Value × List Bd), L'.length = ps.length ∧ ∀ i (h1 : i < L'.length) (h2 : i < ps.length), L'[i] ∈ L ∧ keyL L'[i].2 = ps[i].1 ∧ L'[i].1 = slV ps[i].2 := by
    clear hn hk
    induction ps with
    | nil => exact ⟨[], rfl, fun i h1 => by simp at h1⟩
    | cons p r ih =>
      obtain ⟨L', h1, h2⟩ := ih (fun q hq => hv q (List.mem_cons_of_mem _ hq)) (fun q hq => hex q (List.mem_cons_of_mem _ hq))
      obtain ⟨x, hx, hx1, hx2⟩ := hex p (List.mem_cons_self ..)
      refine ⟨x :: L', by simp [h1], fun i hi1 hi2 => ?_⟩
      cases i with
      | zero => exact ⟨hx, hx1, hx2⟩
      | succ i => exact h2 i (by simpa using hi1) (by simpa using hi2)
  obtain ⟨hl, hi⟩ := hL'
  have hkeys : L'.map (fun x => keyL x.2) = ps.map Prod.fst := by
    refine List.ext_getElem (by simp [hl]) fun i h1 h2 => ?_
    simp only [List.getElem_map]
    exact (hi i (by simpa using h1) (by simpa using h2)).2.1
  refine ⟨L', ?_, ?_⟩
  · have hnd : (L'.map fun x => keyL x.2).Nodup := by rw [hkeys]; exact hn
    have hnL' : L'.Nodup := nodup_of_map0 hnd
    have hnL : L.Nodup := nodup_of_map0 h.nodup
    refine (List.perm_ext_iff_of_nodup hnL' hnL).2 fun x => ⟨fun hx => ?_, fun hx => ?_⟩
    · obtain ⟨i, h1, rfl⟩ := List.mem_iff_getElem.1 hx
      exact (hi i h1 (by omega)).1
    · have h1 : keyL x.2 ∈ ps.map Prod.fst := (hk _).2 (by rw [h.has]; exact decide_eq_true (List.mem_map.2 ⟨x, hx, rfl⟩))
      rw [← hkeys] at h1
      obtain ⟨y, hy, he⟩ := List.mem_map.1 h1
      obtain ⟨i, h2, rfl⟩ := List.mem_iff_getElem.1 hy
      have hyL := (hi i h2 (by omega)).1
      have : L'[i] = x := by
        have h3 := h.nodup
        obtain ⟨j, hj, hje⟩ := List.mem_iff_getElem.1 hyL
        obtain ⟨j', hj', hje'⟩ := List.mem_iff_getElem.1 hx
        have h4 : (L.map fun x => keyL x.2)[j]'(by simpa using hj) = (L.map fun x => keyL x.2)[j']'(by simpa using hj') := by simp only [List.getElem_map]; rw [hje, hje']; exact he
        have h5 := nodup_inj0 h3 _ _ h4
        subst h5
        rw [← hje, ← hje']
      rw [← this]; exact hy
  · refine List.ext_getElem (by simp [hl]) fun i h1 h2 => ?_
    simp only [List.getElem_map]
    exact (hi i (by simpa using h1) (by simpa using h2)).2.2

theorem mapValues_in (F : Fence) (n : Nat) (hf : F.fn 32) (hro : F.round = none) (mb : Option Nat) (w : World) :
    CallsIn F n Tryz.prog 32 #[.map mb] w fun e w' => e = .returned (.func (.func 61) #[] #[.pointer (some ⟨w.heap.size, 0, none⟩)]) ∧ w' = w.alloc (.cells #[.map mb] 60) := by
  refine callsIn_of_wp Tryz.func32 rfl hf ?_ hro
  simp only [Tryz.ntmps32, List.size_toArray, List.length_cons, List.length_nil, Nat.reduceAdd, Nat.reduceSub, Array.replicate_succ, Array.replicate_zero, List.push_toArray, List.append_toArray, List.nil_append, List.cons_append]
  gi_wp2
  go_ret
  exact ⟨rfl, rfl⟩
theorem walk_not_cells {o : Obj} (h : o.isWalk = true) : o.isCells = false := by cases o <;> first | rfl | cases h

set_option maxRecDepth 100000 in
set_option maxHeartbeats 2000000 in
theorem mapValues1_in (F : Fence) (n : Nat) (h8 : F.fn 61) (hro : F.round = none) (hn : 1 ≤ n) (l Bm b nn : Nat) (D0 : DataW Value) (J Jx : List Sl → World → Prop)
    (hY : ∀ pre x W, J pre W → pre.length < Maps.size D0 → YieldAt F (n - 1) Tryz.prog l #[.agg #[slV x]] W fun e W' =>
      (e = .returned (.bool true) ∧ J (pre ++ [x]) W' ∧ KeepsWalks W W') ∨ (e = .returned (.bool false) ∧ Jx (pre ++ [x]) W'))
    (W : World) (hJ : OwnFrom W.heap.size J) (hm : W.cell? ⟨Bm, 0, none⟩ = some (.map (some b))) (hown : W.ownsMap Tryz.prog 9 heldE b nn D0) (h0 : J [] W) :
    CallsIn F n Tryz.prog 61 #[.func (.yield l) #[] #[], .pointer (some ⟨Bm, 0, none⟩)] W fun e W' => (∃ v, e = .returned v) ∧
      ((∃ ps : List (List UInt8 × Sl), (ps.map Prod.fst).Nodup ∧ (∀ k, k ∈ ps.map Prod.fst ↔ Maps.has D0 (.string k) = true) ∧ (∀ p ∈ ps, ∀ z, D0.atKey (.string p.1) z = .held (.agg #[slV p.2])) ∧ J (ps.map Prod.snd) W') ∨ (∃ pre, Jx pre W')) := by
  refine callsIn_of_wp Tryz.func61 rfl h8 ?_ hro
  simp only [Tryz.ntmps61, List.size_toArray, List.length_cons, List.length_nil, Nat.reduceAdd, Nat.reduceSub, Array.replicate_succ, Array.replicate_zero, List.push_toArray, List.append_toArray, List.nil_append, List.cons_append]
  gi_wp2_with (first
    | (gi_at_range; refine wpListIn_range_own _ rfl _ 60 rfl 9 38 lawS10 Tryz.underlying60 _ b nn _ rfl hown ?_; intro w0 hrg0 hg0 hs0)
    | gi_in)
  go_frame
  gi_loopw [4] (fun _ wr => ∃ (left : Lit → Bool) (cnt : Nat) (ps : List (List UInt8 × Sl)), wr.ranges Tryz.prog 9 heldE b W.heap.size nn D0 left cnt ∧ ps.length + cnt ≤ Maps.size D0 ∧ Collected D0 left (ps.map Prod.fst) ∧ (∀ p ∈ ps, ∀ z, D0.atKey (.string p.1) z = .held (.agg #[slV p.2])) ∧ J (ps.map Prod.snd) wr)
    (fun _ wr => wr.rangeLeft b W.heap.size)
  case atStart =>
    exact ⟨_, _, [], hrg0, by simp, Collected.start D0, by simp, hJ [] W w0 none h0 hg0 (fun r e => by cases e)⟩
  case round =>
    obtain ⟨left, cnt, ps, hrg, hcs, hC, hV, hJs⟩ := hrel
    gi_wp2_with (first
      | (gi_at_next; refine wpListIn_next_ranges _ rfl _ rfl 9 lawS10 heldE encStr (fun c : Sl => .agg #[slV c]) (fun key kl hk => by obtain ⟨x, hx, _⟩ := Maps.keyOf_str Tryz.underlying9 hk; exact ⟨x, hx⟩) (fun v y hv => by obtain ⟨c, rfl, _⟩ := heldE_sl hv; exact ⟨c, rfl⟩) b W.heap.size nn _ _ _ rfl hrg ?_ ?_)
      | gi_in)
    · intro hc0 hl0
      gi_wp2
      go_end0
      exact ⟨⟨_, rfl⟩, .inl ⟨ps, hC.1, fun k => by rw [hC.2 k, hl0]; simp, hV, hJs⟩⟩
    · intro x c kl yd yp w2 cnt2 hkey hlk hv hat hrg2 hlt hg2 hs2 hen
      obtain ⟨x', ex, rfl, _⟩ := Maps.keyOf_str Tryz.underlying9 hkey
      obtain rfl : x = x' := encStr_inj ex
      obtain ⟨c', ec, ez⟩ := heldE_sl hv
      simp only [Value.agg.injEq, Array.mk.injEq, List.cons.injEq, and_true] at ec
      obtain rfl : c = c' := slV_inj ec
      obtain rfl : yd = .held (.agg #[slV c]) := (Prod.mk.inj ez).1
      have hJ2 : J (ps.map Prod.snd) w2 := hJ _ wr w2 (some W.heap.size) hJs hg2 (fun r e => by cases e; obtain ⟨o, ho, hw⟩ := hrg.iter_walk; exact ⟨Nat.le_refl _, o, ho, walk_not_cells hw⟩)
      have hC2 : Collected D0 (fun z => left z && !z.sameKey (.string x)) ((ps ++ [(x, c)]).map Prod.fst) := by simpa using hC.step hlk hat
      have hV2 : ∀ p ∈ ps ++ [(x, c)], ∀ z, D0.atKey (.string p.1) z = .held (.agg #[slV p.2]) := fun p hp => (List.mem_append.1 hp).elim (hV p) (fun e => by rw [List.mem_singleton.1 e]; exact hat)
      have hyy := hY (ps.map Prod.snd) c _ (hJ.alloc (.cells #[slV c] 38) hJ2) (by simp; omega)
      obtain ⟨a1, n1, k1⟩ := c
      unfold slV at hyy hen ⊢
      obtain ⟨fn, tmps, assign, body, hy, hR⟩ := hyy
      clear hs2
      gi_wp2
      refine hR.mono ?_
      rintro e W3 (⟨rfl, hJ3, hk3⟩ | ⟨rfl, hJx3⟩)
      · gi_wp2
        have hrg3 := hrg2.of_walks (KeepsWalks.trans ⟨by simp, fun k o hk _ => heap_alloc_keeps hk _⟩ hk3)
        go_roundw
        case rel => exact ⟨_, cnt2, ps ++ [(x, ⟨a1, n1, k1⟩)], hrg3, by simp; omega, hC2, hV2, by simpa using hJ3⟩
        case measure => rw [hrg3.left_eq, hrg.left_eq]; exact hlt
      · gi_wp2
        refine bodyPost_ret (results_none rfl _ _ _) rfl ?_
        exact ⟨⟨_, rfl⟩, .inr ⟨_, hJx3⟩⟩
end Go.Proofs.YtiinljljbjjaeaaGreatDoor
