/- Joined: Rl4, Mv0, Rlb. -/
import Derived.RangeFuncNested
import Derived.RangeFuncBound
import Derived.RangeFuncCalls
import Derived.Test.YtcnecokamckfaaaGreatDoorK2
import Derived.Test.YtcnecokamckfaaaGreatDoorK8
import Derived.RangeFuncBox
import Derived.RangeFuncLeaves
import Derived.RangeFuncMany
import Derived.Sort.MapsRangeIn
import Derived.Sort.KeysCollected
import Derived.Shelf.Abstract
import Derived.WalkKit
import Derived.OwnWalkIn
import Derived.TacticsInMore
import Derived.RegionIn
import Derived.LoopNIn
import Derived.LoopIn
set_option linter.unusedVariables false
set_option linter.unusedSimpArgs false
/- A law on a range over a function that hands out memory laid during the walk: what is handed is known to be (H) in the world in which it is handed. -/
namespace Go.Proofs.YtcnecokamckfaaaGreatDoor
open Go Go.RowKit

/-- As the library's contract of an iterator; but a round is asked for only at what is so (H) there, and what the caller holds abides the turn of any later block that is no cells, and the round turns none of those (so that the iterator may range over another one). -/
def SeqStopsH {α : Type} (F : Fence) (n : Nat) (P : Program) (g : Nat) (lb : Array Value) (encs : α → Array Value) (H : α → World → Prop) (Kp : World → World → Prop) (S Sp : List α → Prop) (N : Nat) (w : World) : Prop :=
  ∀ (l : Nat) (J Jx : List α → World → Prop) (W : World), Below w.heap.size w W → OwnFrom W.heap.size J → OwnFrom W.heap.size Jx →
    (∀ pre x W1, J pre W1 → H x W1 → pre.length < N → YieldAt F (n - 1) P l (encs x) W1 fun e W' =>
      (e = .returned (.bool true) ∧ J (pre ++ [x]) W' ∧ Kp W1 W' ∧ KeepsFrom W.heap.size W1 W') ∨ (e = .returned (.bool false) ∧ Jx (pre ++ [x]) W' ∧ KeepsFrom W.heap.size W1 W')) →
    J [] W → CallsIn F n P g (#[.func (.yield l) #[] #[]] ++ lb) W fun e W' => (∃ v, e = .returned v) ∧ ((∃ xs, S xs ∧ J xs W') ∨ (∃ pre, Sp pre ∧ Jx pre W'))

/-- The two blocks of a loop's book-keeping. -/
structure LpAt (B : Nat) (L : Loop) (W : World) : Prop where
  loop : W.heap[B + 1]? = some (.loop L)
  dfr : W.heap[B]? = some (.deferred (some []))
theorem LpAt.lt {B : Nat} {L : Loop} {W : World} (h : LpAt B L W) : B + 1 < W.heap.size := (Array.getElem?_eq_some_iff.1 h.loop).1
theorem LpAt.far {B : Nat} {L : Loop} {W W' : World} {row : Option Nat} (h : LpAt B L W) (hg : W.grownBy W' row) (hr : ∀ r, row = some r → B + 2 ≤ r) : LpAt B L W' :=
  ⟨(hg.block _ h.lt (fun e => by have := hr _ e.symm; omega)).trans h.loop, (hg.block _ (by have := h.lt; omega) (fun e => by have := hr _ e.symm; omega)).trans h.dfr⟩
theorem LpAt.keeps {B : Nat} {L : Loop} {W W' : World} (h : LpAt B L W) (hk : KeepsFrom B W W') : LpAt B L W' := ⟨hk.same _ _ (Nat.le_succ _) h.loop rfl, hk.same _ _ (Nat.le_refl _) h.dfr rfl⟩
theorem LpAt.put {B : Nat} {L : Loop} {W : World} (h : LpAt B L W) (L' : Loop) : LpAt B L' (W.putObj (B + 1) (.loop L')) :=
  ⟨World.putObj_heap_same h.lt, (World.putObj_heap_other (by omega)).trans h.dfr⟩

variable {F : Fence} {n : Nat} {P : Program} {w : World}

theorem wpIn_rangeFunc_H {α : Type} {g : Operand} {ps : Array Tmp} {assign body : Code} {Q : Exit → Act → World → Prop} {a : Act}
    (hro : F.round = none) (h1 : 1 ≤ n) {gf : Nat} {lb : Array Value} (hg : a.eval g = .func (.func gf) #[] lb) (hFg : F.fn gf) (eg : ∀ args w, (callFunc gf args).run P w = .ok (.enter gf args) w)
    {encs : α → Array Value} {H : α → World → Prop} {Kp : World → World → Prop} {S Sp : List α → Prop} {N : Nat} {w0 : World} (hseq : SeqStopsH F (n - 1) P gf lb encs H Kp S Sp N w0)
    (hKt : ∀ {A B C : World}, Kp A B → Kp B C → Kp A C) (hKb : ∀ (W : World) (l : Nat) (o o' : Obj), w.heap.size ≤ l → W.heap[l]? = some o → o.isCells = false → o.isWalk = false → Kp W (W.putObj l o'))
    (hb0 : Below w0.heap.size w0 w) (hps : ∀ x, (encs x).size = ps.size)
    (I : List α → World → Prop) (Ix : Code → List α → World → Prop) (hI : OwnFrom w.heap.size I) (hIx : ∀ c, OwnFrom w.heap.size (Ix c)) (h0 : I [] w)
    (Ax : α → Act → World → Prop) (hAx : ∀ x a', OwnFrom w.heap.size (fun (_ : Unit) W => Ax x a' W))
    (hassign : ∀ (l : Nat) (pre : List α) (x : α) (W : World) (K : Act → World → Prop), I pre W → H x W → (∀ a' W', KeepsFrom w.heap.size W W' → Kp W W' → I pre W' → Ax x a' W' → K a' W') →
      assign.wpIn (F.inRound l) (n - 1 - 1) P (Exit.then K (fun _ _ _ => False)) { tmps := (ps.zip (encs x)).foldl (fun t (p, v) => t.setIfInBounds p v) a.tmps, defers := [] } W)
    (hbody : ∀ (l : Nat) (pre : List α) (x : α) (a' : Act) (W : World), w.heap.size ≤ l → (∃ r, W.heap[l]? = some (.loop r)) → I pre W → Ax x a' W → pre.length < N → body.wpIn (F.inRound l) (n - 1 - 1) P (ownPostG w.heap.size Kp I Ix (pre ++ [x]) W) a' W)
    (hdone : ∀ (D : Nat) (xs : List α) (W : World), w.heap.size ≤ D → S xs → I xs W → W.heap[D]? = some (.deferred (some [])) → Q .normal { a with defers := { target := .collected D, args := #[] } :: a.defers } W)
    (hstop : ∀ (D : Nat) (c : Code) (pre : List α) (W : World), w.heap.size ≤ D → Sp pre → Ix c pre W → W.heap[D]? = some (.deferred (some [])) → c.wpIn F n P Q { a with defers := { target := .collected D, args := #[] } :: a.defers } W) :
    (Code.rangeFunc g ps assign body).wpIn F n P Q a w := by
  refine wpIn_rangeFunc ?_
  intro fn hfn
  rw [hro]
  let L : LoopState → Option Code → Loop := fun st pe => { state := st, pending := pe, fn, tmps := a.tmps, params := ps, assign, body, defers := w.heap.size }
  obtain ⟨W1, hW1⟩ : ∃ W1, W1 = (w.alloc (.deferred (some []))).alloc (.loop (L .ready none)) := ⟨_, rfl⟩
  have hs1 : W1.heap.size = w.heap.size + 2 := by rw [hW1]; simp
  have hL1 : LpAt w.heap.size (L .ready none) W1 := by
    rw [hW1]
    constructor
    · have h := World.alloc_heap_new (w.alloc (.deferred (some []))) (.loop (L .ready none))
      rwa [World.size_alloc] at h
    · exact (Below.heap_alloc _ _ _ (by simp)).trans (World.alloc_heap_new w _)
  have hI1 : I [] W1 := by rw [hW1]; exact hI.alloc _ (hI.alloc _ h0)
  have hb1 : Below w0.heap.size w0 W1 := by
    rw [hW1]; exact (hb0.alloc hb0.size _).alloc (by have := hb0.size; simp; omega) _
  have hlow : ∀ {A : World} {row : Option Nat}, (∀ r, row = some r → W1.heap.size ≤ r ∧ ∃ o : Obj, A.heap[r]? = some o ∧ o.isCells = false) → ∀ r, row = some r → w.heap.size ≤ r ∧ ∃ o : Obj, A.heap[r]? = some o ∧ o.isCells = false := fun hr r e => by
    obtain ⟨h1, o, h2, h3⟩ := hr r e
    exact ⟨by omega, o, h2, h3⟩
  refine ⟨w.heap.size + 1, [{ target := .collected w.heap.size, args := #[] }], W1, { target := .fn (.func gf) lb, args := #[.func (.yield (w.heap.size + 1)) #[] #[]] }, W1, gf,
    #[.func (.yield (w.heap.size + 1)) #[] #[]] ++ lb, W1, ?_, ?_, ?_, ?_, fun _ => h1, ?_⟩
  · rw [hW1]; exact run_enterLoop_outer _ _ _ _ _
  · simp only [resolve, hg]; simp [go_sem]
  · intro f' hf'; simp [Target.leads] at hf'; subst hf'; exact hFg
  · simp [invoke, go_sem, eg]
  · refine (hseq (w.heap.size + 1) (fun pre W => I pre W ∧ LpAt w.heap.size (L .ready none) W) (fun pre W => ∃ c, Ix c pre W ∧ LpAt w.heap.size (L .done (some c)) W) W1 hb1
      (fun s A B row hs hg' hr => ⟨hI s A B row hs.1 hg' (hlow hr), hs.2.far hg' (fun r e => by have := (hr r e).1; omega)⟩)
      (fun s A B row hs hg' hr => by obtain ⟨c, h2, h3⟩ := hs; exact ⟨c, hIx c s A B row h2 hg' (hlow hr), h3.far hg' (fun r e => by have := (hr r e).1; omega)⟩) ?_ ⟨hI1, hL1⟩).mono ?_
    · rintro pre x W ⟨hi, hl⟩ hh hlen
      refine ⟨fn, _, assign, body, run_yield (P := P) (args := encs x) hl.loop (hps x), roundIn_of_wpIn hfn (hassign _ pre x W _ hi hh fun a' Wa hkf hkp hia hax => ?_)⟩
      have hla := hl.keeps hkf
      refine ⟨_, run_beginRound hla.loop rfl, ?_⟩
      have hlb := hla.put (L .busy none)
      refine wpIn_mono (hbody _ pre x a' _ (Nat.le_succ _) ⟨_, hlb.loop⟩ (hI.putObj _ hia (Nat.le_succ _) hla.loop rfl) ((hAx x a').putObj (s := ()) _ hax (Nat.le_succ _) hla.loop rfl) hlen) ?_
      have hup : ∀ {A B : World}, KeepsFrom w.heap.size A B → KeepsFrom W1.heap.size A B := fun h => ⟨h.size, fun k o hk => h.same k o (by omega)⟩
      have hput : ∀ (A : World) (o : Obj), KeepsFrom W1.heap.size A (A.putObj (w.heap.size + 1) o) := fun A o => KeepsFrom.of_grownBy (grownBy_putObj' A _ o) (fun j e => by cases e; omega)
      have keep : ∀ (W3 : World) (o : Obj), KeepsFrom w.heap.size (Wa.putObj (w.heap.size + 1) (.loop (L .busy none))) W3 → KeepsFrom W1.heap.size W (W3.putObj (w.heap.size + 1) o) := fun W3 o h => (((hup hkf).trans (hput _ _)).trans (hup h)).trans (hput _ _)
      have hkb : Kp Wa (Wa.putObj (w.heap.size + 1) (.loop (L .busy none))) := hKb _ _ _ _ (Nat.le_succ _) hla.loop rfl rfl
      have leave : ∀ (c : Code) (W3 : World), KeepsFrom w.heap.size (Wa.putObj (w.heap.size + 1) (.loop (L .busy none))) W3 → Ix c (pre ++ [x]) W3 →
          (Instr.endRound (w.heap.size + 1) (some c)).run P W3 = .ok (.bool false) (W3.putObj (w.heap.size + 1) (.loop (L .done (some c)))) ∧ Ix c (pre ++ [x]) (W3.putObj (w.heap.size + 1) (.loop (L .done (some c)))) ∧ LpAt w.heap.size (L .done (some c)) (W3.putObj (w.heap.size + 1) (.loop (L .done (some c)))) := fun c W3 hk3 hi3 => by
        have hl3 := hlb.keeps hk3
        exact ⟨run_endRound (P := P) (some c) hl3.loop, (hIx c).putObj _ hi3 (Nat.le_succ _) hl3.loop rfl, hl3.put _⟩
      rintro e a3 W3 hp
      cases e with
      | normal =>
        obtain ⟨hk3, hkp3, hi3⟩ := hp
        have hl3 := hlb.keeps hk3
        exact ⟨_, _, run_endRound (P := P) none hl3.loop, .inl ⟨rfl, ⟨hI.putObj _ hi3 (Nat.le_succ _) hl3.loop rfl, hl3.put _⟩, hKt hkp (hKt (hKt hkb hkp3) (hKb _ _ _ _ (Nat.le_succ _) hl3.loop rfl rfl)), keep _ _ hk3⟩⟩
      | ret => obtain ⟨x1, x2, x3⟩ := leave .ret W3 hp.1 hp.2; exact ⟨_, _, x1, .inr ⟨rfl, ⟨.ret, x2, x3⟩, keep _ _ hp.1⟩⟩
      | exit id => obtain ⟨x1, x2, x3⟩ := leave (.exit id) W3 hp.1 hp.2; exact ⟨_, _, x1, .inr ⟨rfl, ⟨.exit id, x2, x3⟩, keep _ _ hp.1⟩⟩
      | goto t => obtain ⟨x1, x2, x3⟩ := leave (.goto t) W3 hp.1 hp.2; exact ⟨_, _, x1, .inr ⟨rfl, ⟨.goto t, x2, x3⟩, keep _ _ hp.1⟩⟩
      | panic ch => exact hp.elim
      | outgrown => exact hp.elim
    · rintro e W2 ⟨⟨v, rfl⟩, ⟨xs, hS, hi, hl⟩ | ⟨pre, hSp, c, hi, hl⟩⟩
      · exact ⟨none, _, run_endLoop (P := P) hl.loop (by simp [L]), hdone _ xs _ (Nat.le_refl _) hS (hI.putObj _ hi (Nat.le_succ _) hl.loop rfl) ((World.putObj_heap_other (by omega)).trans hl.dfr)⟩
      · exact ⟨some c, _, run_endLoop (P := P) hl.loop (by simp [L]), hstop _ c pre _ (Nat.le_refl _) hSp ((hIx c).putObj _ hi (Nat.le_succ _) hl.loop rfl) ((World.putObj_heap_other (by omega)).trans hl.dfr)⟩
end Go.Proofs.YtcnecokamckfaaaGreatDoor

/- maps.Values of a set's map, as it is ranged over. -/
namespace Go.Proofs.YtcnecokamckfaaaGreatDoor
open Go Go.RowKit Go.Maps Go.Sort Go.WideMaps Go.Shelf
attribute [local go_sem] Oper.semAt_some

/-- A slice by its three numbers. -/
structure Sl where
  a : Option Addr
  n : Nat
  c : Nat
  deriving Inhabited
def slV (c : Sl) : Value := .slice c.a c.n c.c
theorem slV_inj {c d : Sl} (h : slV c = slV d) : c = d := by
  obtain ⟨a, n, k⟩ := c; obtain ⟨a', n', k'⟩ := d
  unfold slV at h
  simp only [Value.slice.injEq] at h
  obtain ⟨rfl, rfl, rfl⟩ := h
  rfl
theorem heldE_sl {v : Value} {y : DataW Value × List MemPlace} (h : heldE v = some y) : ∃ c : Sl, v = .agg #[slV c] ∧ y = (.held (.agg #[slV c]), []) := by
  obtain ⟨a, n, c, rfl, h2⟩ := heldE_inv h
  exact ⟨⟨a, n, c⟩, rfl, h2⟩

theorem nodup_of_map0 {α β : Type} {f : α → β} {l : List α} (h : (l.map f).Nodup) : l.Nodup := List.Pairwise.of_map f (fun a b hab e => hab (by rw [e])) h
theorem nodup_inj0 {α : Type} {l : List α} (h : l.Nodup) {i j : Nat} (hi : i < l.length) (hj : j < l.length) (he : l[i] = l[j]) : i = j := by
  rcases Nat.lt_trichotomy i j with hl | hl | hl
  · exact absurd he (List.pairwise_iff_getElem.1 h i j hi hj hl)
  · exact hl
  · exact absurd he.symm (List.pairwise_iff_getElem.1 h j i hj hi hl)
/-- What maps.Values goes through: the set's slices, in some order. -/
def AllV (L : List (Value × List Bd)) (xs : List Sl) : Prop := ∃ L' : List (Value × List Bd), L'.Perm L ∧ L'.map Prod.fst = xs.map slV
theorem allV_of {D : DataW Value} {L : List (Value × List Bd)} (h : MapL D L) {ps : List (List UInt8 × Sl)} (hn : (ps.map Prod.fst).Nodup) (hk : ∀ k, k ∈ ps.map Prod.fst ↔ Maps.has D (.string k) = true) (hv : ∀ p ∈ ps, ∀ z, D.atKey (.string p.1) z = .held (.agg #[slV p.2])) : AllV L (ps.map Prod.snd) := by
  have hex : ∀ p ∈ ps, ∃ x ∈ L, keyL x.2 = p.1 ∧ x.1 = slV p.2 := fun p hp => by
    have h1 := (hk p.1).1 (List.mem_map.2 ⟨p, hp, rfl⟩)
    rw [h.has] at h1
    obtain ⟨x, hx, he⟩ := List.mem_map.1 (of_decide_eq_true h1)
    have h2 := h.at' x hx (.held (.agg #[]))
    rw [he, hv p hp] at h2
    simp only [DataW.held.injEq, Value.agg.injEq, Array.mk.injEq, List.cons.injEq, and_true] at h2
    exact ⟨x, hx, he, h2.symm⟩
  obtain ⟨L', hL'⟩ : ∃ L' : List (Value × List Bd), L'.length = ps.length ∧ ∀ i (h1 : i < L'.length) (h2 : i < ps.length), L'[i] ∈ L ∧ keyL L'[i].2 = ps[i].1 ∧ L'[i].1 = slV ps[i].2 := by
    clear hn hk
    induction ps with
    | nil => exact ⟨[], rfl, fun i h1 => by simp at h1⟩
    | cons p r ih =>
      obtain ⟨L', h1, h2⟩ := ih (fun q hq => hv q (List.mem_cons_of_mem _ hq)) (fun q hq => hex q (List.mem_cons_of_mem _ hq))
      obtain ⟨x, hx, hx1, hx2⟩ := hex p (List.mem_cons_self ..)
      refine ⟨x :: L', by simp [h1], fun i hi1 hi2 => ?_⟩
      cases i with
      | zero => exact ⟨hx, hx1, hx2⟩
      | succ i => exact h2 i (by simpa using hi1) (by simpa using hi2)
  obtain ⟨hl, hi⟩ := hL'
  have hkeys : L'.map (fun x => keyL x.2) = ps.map Prod.fst := by
    refine List.ext_getElem (by simp [hl]) fun i h1 h2 => ?_
    simp only [List.getElem_map]
    exact (hi i (by simpa using h1) (by simpa using h2)).2.1
  refine ⟨L', ?_, ?_⟩
  · have hnd : (L'.map fun x => keyL x.2).Nodup := by rw [hkeys]; exact hn
    have hnL' : L'.Nodup := nodup_of_map0 hnd
    have hnL : L.Nodup := nodup_of_map0 h.nodup
    refine (List.perm_ext_iff_of_nodup hnL' hnL).2 fun x => ⟨fun hx => ?_, fun hx => ?_⟩
    · obtain ⟨i, h1, rfl⟩ := List.mem_iff_getElem.1 hx
      exact (hi i h1 (by omega)).1
    · have h1 : keyL x.2 ∈ ps.map Prod.fst := (hk _).2 (by rw [h.has]; exact decide_eq_true (List.mem_map.2 ⟨x, hx, rfl⟩))
      rw [← hkeys] at h1
      obtain ⟨y, hy, he⟩ := List.mem_map.1 h1
      obtain ⟨i, h2, rfl⟩ := List.mem_iff_getElem.1 hy
      have hyL := (hi i h2 (by omega)).1
      have : L'[i] = x := by
        have h3 := h.nodup
        obtain ⟨j, hj, hje⟩ := List.mem_iff_getElem.1 hyL
        obtain ⟨j', hj', hje'⟩ := List.mem_iff_getElem.1 hx
        have h4 : (L.map fun x => keyL x.2)[j]'(by simpa using hj) = (L.map fun x => keyL x.2)[j']'(by simpa using hj') := by simp only [List.getElem_map]; rw [hje, hje']; exact he
        have h5 := nodup_inj0 h3 _ _ h4
        subst h5
        rw [← hje, ← hje']
      rw [← this]; exact hy
  · refine List.ext_getElem (by simp [hl]) fun i h1 h2 => ?_
    simp only [List.getElem_map]
    exact (hi i (by simpa using h1) (by simpa using h2)).2.2

theorem mapValues_in (F : Fence) (n : Nat) (hf : F.fn 32) (hro : F.round = none) (mb : Option Nat) (w : World) :
    CallsIn F n Tryz.prog 32 #[.map mb] w fun e w' => e = .returned (.func (.func 61) #[] #[.pointer (some ⟨w.heap.size, 0, none⟩)]) ∧ w' = w.alloc (.cells #[.map mb] 60) := by
  refine callsIn_of_wp Tryz.func32 rfl hf ?_ hro
  simp only [Tryz.ntmps32, List.size_toArray, List.length_cons, List.length_nil, Nat.reduceAdd, Nat.reduceSub, Array.replicate_succ, Array.replicate_zero, List.push_toArray, List.append_toArray, List.nil_append, List.cons_append]
  gi_wp2
  go_ret
  exact ⟨rfl, rfl⟩
theorem walk_not_cells {o : Obj} (h : o.isWalk = true) : o.isCells = false := by cases o <;> first | rfl | cases h

set_option maxRecDepth 100000 in
set_option maxHeartbeats 2000000 in
theorem mapValues1_in (F : Fence) (n : Nat) (h8 : F.fn 61) (hro : F.round = none) (hn : 1 ≤ n) (l Bm b nn : Nat) (D0 : DataW Value) (J Jx : List Sl → World → Prop)
    (hY : ∀ pre x W, J pre W → pre.length < Maps.size D0 → YieldAt F (n - 1) Tryz.prog l #[.agg #[slV x]] W fun e W' =>
      (e = .returned (.bool true) ∧ J (pre ++ [x]) W' ∧ KeepsWalks W W') ∨ (e = .returned (.bool false) ∧ Jx (pre ++ [x]) W'))
    (W : World) (hJ : OwnFrom W.heap.size J) (hm : W.cell? ⟨Bm, 0, none⟩ = some (.map (some b))) (hown : W.ownsMap Tryz.prog 9 heldE b nn D0) (h0 : J [] W) :
    CallsIn F n Tryz.prog 61 #[.func (.yield l) #[] #[], .pointer (some ⟨Bm, 0, none⟩)] W fun e W' => (∃ v, e = .returned v) ∧
      ((∃ ps : List (List UInt8 × Sl), (ps.map Prod.fst).Nodup ∧ (∀ k, k ∈ ps.map Prod.fst ↔ Maps.has D0 (.string k) = true) ∧ (∀ p ∈ ps, ∀ z, D0.atKey (.string p.1) z = .held (.agg #[slV p.2])) ∧ J (ps.map Prod.snd) W') ∨ (∃ pre, Jx pre W')) := by
  refine callsIn_of_wp Tryz.func61 rfl h8 ?_ hro
  simp only [Tryz.ntmps61, List.size_toArray, List.length_cons, List.length_nil, Nat.reduceAdd, Nat.reduceSub, Array.replicate_succ, Array.replicate_zero, List.push_toArray, List.append_toArray, List.nil_append, List.cons_append]
  gi_wp2_with (first
    | (gi_at_range; refine wpListIn_range_own _ rfl _ 60 rfl 9 38 lawS10 Tryz.underlying60 _ b nn _ rfl hown ?_; intro w0 hrg0 hg0 hs0)
    | gi_in)
  go_frame
  gi_loopw [4] (fun _ wr => ∃ (left : Lit → Bool) (cnt : Nat) (ps : List (List UInt8 × Sl)), wr.ranges Tryz.prog 9 heldE b W.heap.size nn D0 left cnt ∧ ps.length + cnt ≤ Maps.size D0 ∧ Collected D0 left (ps.map Prod.fst) ∧ (∀ p ∈ ps, ∀ z, D0.atKey (.string p.1) z = .held (.agg #[slV p.2])) ∧ J (ps.map Prod.snd) wr)
    (fun _ wr => wr.rangeLeft b W.heap.size)
  case atStart =>
    exact ⟨_, _, [], hrg0, by simp, Collected.start D0, by simp, hJ [] W w0 none h0 hg0 (fun r e => by cases e)⟩
  case round =>
    obtain ⟨left, cnt, ps, hrg, hcs, hC, hV, hJs⟩ := hrel
    gi_wp2_with (first
      | (gi_at_next; refine wpListIn_next_ranges _ rfl _ rfl 9 lawS10 heldE encStr (fun c : Sl => .agg #[slV c]) (fun key kl hk => by obtain ⟨x, hx, _⟩ := Maps.keyOf_str Tryz.underlying9 hk; exact ⟨x, hx⟩) (fun v y hv => by obtain ⟨c, rfl, _⟩ := heldE_sl hv; exact ⟨c, rfl⟩) b W.heap.size nn _ _ _ rfl hrg ?_ ?_)
      | gi_in)
    · intro hc0 hl0
      gi_wp2
      go_end0
      exact ⟨⟨_, rfl⟩, .inl ⟨ps, hC.1, fun k => by rw [hC.2 k, hl0]; simp, hV, hJs⟩⟩
    · intro x c kl yd yp w2 cnt2 hkey hlk hv hat hrg2 hlt hg2 hs2 hen
      obtain ⟨x', ex, rfl, _⟩ := Maps.keyOf_str Tryz.underlying9 hkey
      obtain rfl : x = x' := encStr_inj ex
      obtain ⟨c', ec, ez⟩ := heldE_sl hv
      simp only [Value.agg.injEq, Array.mk.injEq, List.cons.injEq, and_true] at ec
      obtain rfl : c = c' := slV_inj ec
      obtain rfl : yd = .held (.agg #[slV c]) := (Prod.mk.inj ez).1
      have hJ2 : J (ps.map Prod.snd) w2 := hJ _ wr w2 (some W.heap.size) hJs hg2 (fun r e => by cases e; obtain ⟨o, ho, hw⟩ := hrg.iter_walk; exact ⟨Nat.le_refl _, o, ho, walk_not_cells hw⟩)
      have hC2 : Collected D0 (fun z => left z && !z.sameKey (.string x)) ((ps ++ [(x, c)]).map Prod.fst) := by simpa using hC.step hlk hat
      have hV2 : ∀ p ∈ ps ++ [(x, c)], ∀ z, D0.atKey (.string p.1) z = .held (.agg #[slV p.2]) := fun p hp => (List.mem_append.1 hp).elim (hV p) (fun e => by rw [List.mem_singleton.1 e]; exact hat)
      have hyy := hY (ps.map Prod.snd) c _ (hJ.alloc (.cells #[slV c] 38) hJ2) (by simp; omega)
      obtain ⟨a1, n1, k1⟩ := c
      unfold slV at hyy hen ⊢
      obtain ⟨fn, tmps, assign, body, hy, hR⟩ := hyy
      clear hs2
      gi_wp2
      refine hR.mono ?_
      rintro e W3 (⟨rfl, hJ3, hk3⟩ | ⟨rfl, hJx3⟩)
      · gi_wp2
        have hrg3 := hrg2.of_walks (KeepsWalks.trans ⟨by simp, fun k o hk _ => heap_alloc_keeps hk _⟩ hk3)
        go_roundw
        case rel => exact ⟨_, cnt2, ps ++ [(x, ⟨a1, n1, k1⟩)], hrg3, by simp; omega, hC2, hV2, by simpa using hJ3⟩
        case measure => rw [hrg3.left_eq, hrg.left_eq]; exact hlt
      · gi_wp2
        refine bodyPost_ret (results_none rfl _ _ _) rfl ?_
        exact ⟨⟨_, rfl⟩, .inr ⟨_, hJx3⟩⟩
end Go.Proofs.YtcnecokamckfaaaGreatDoor

/- The law on a range over a function that hands out memory laid during the walk, where the loop's variable lies in a box: its act in terms of the act before the loop. -/
namespace Go.Proofs.YtcnecokamckfaaaGreatDoor
open Go Go.RowKit

variable {F : Fence} {n : Nat} {P : Program} {w : World}

/-- The act of a round: what is handed in its slots, the box's address in slot sl. -/
def boxAct {α : Type} (encs : α → Array Value) (ps : Array Tmp) (a : Act) (sl : Nat) (x : α) (Bx : Nat) : Act :=
  { tmps := ((ps.zip (encs x)).foldl (fun t (p, v) => t.setIfInBounds p v) a.tmps).setIfInBounds sl (.pointer (some ⟨Bx, 0, none⟩)), defers := [] }
theorem wpIn_rangeFunc_HB {α : Type} {g : Operand} {ps : Array Tmp} {assign body : Code} {Q : Exit → Act → World → Prop} {a : Act} (sl : Nat)
    (hro : F.round = none) (h1 : 1 ≤ n) {gf : Nat} {lb : Array Value} (hg : a.eval g = .func (.func gf) #[] lb) (hFg : F.fn gf) (eg : ∀ args w, (callFunc gf args).run P w = .ok (.enter gf args) w)
    {encs : α → Array Value} {H : α → World → Prop} {Kp : World → World → Prop} {S Sp : List α → Prop} {N : Nat} {w0 : World} (hseq : SeqStopsH F (n - 1) P gf lb encs H Kp S Sp N w0)
    (hKt : ∀ {A B C : World}, Kp A B → Kp B C → Kp A C) (hKb : ∀ (W : World) (l : Nat) (o o' : Obj), w.heap.size ≤ l → W.heap[l]? = some o → o.isCells = false → o.isWalk = false → Kp W (W.putObj l o'))
    (hb0 : Below w0.heap.size w0 w) (hps : ∀ x, (encs x).size = ps.size)
    (I : List α → World → Prop) (Ix : Code → List α → World → Prop) (hI : OwnFrom w.heap.size I) (hIx : ∀ c, OwnFrom w.heap.size (Ix c)) (h0 : I [] w)
    (Ax : α → Nat → World → Prop) (hAx : ∀ x Bx, OwnFrom w.heap.size (fun (_ : Unit) W => Ax x Bx W))
    (hassign : ∀ (l : Nat) (pre : List α) (x : α) (W : World) (K : Act → World → Prop), I pre W → H x W → (∀ Bx W', KeepsFrom w.heap.size W W' → Kp W W' → I pre W' → Ax x Bx W' → K (boxAct encs ps a sl x Bx) W') →
      assign.wpIn (F.inRound l) (n - 1 - 1) P (Exit.then K (fun _ _ _ => False)) { tmps := (ps.zip (encs x)).foldl (fun t (p, v) => t.setIfInBounds p v) a.tmps, defers := [] } W)
    (hbody : ∀ (l : Nat) (pre : List α) (x : α) (Bx : Nat) (W : World), w.heap.size ≤ l → (∃ r, W.heap[l]? = some (.loop r)) → I pre W → Ax x Bx W → pre.length < N → body.wpIn (F.inRound l) (n - 1 - 1) P (ownPostG w.heap.size Kp I Ix (pre ++ [x]) W) (boxAct encs ps a sl x Bx) W)
    (hdone : ∀ (D : Nat) (xs : List α) (W : World), w.heap.size ≤ D → S xs → I xs W → W.heap[D]? = some (.deferred (some [])) → Q .normal { a with defers := { target := .collected D, args := #[] } :: a.defers } W)
    (hstop : ∀ (D : Nat) (c : Code) (pre : List α) (W : World), w.heap.size ≤ D → Sp pre → Ix c pre W → W.heap[D]? = some (.deferred (some [])) → c.wpIn F n P Q { a with defers := { target := .collected D, args := #[] } :: a.defers } W) :
    (Code.rangeFunc g ps assign body).wpIn F n P Q a w :=
  wpIn_rangeFunc_H hro h1 hg hFg eg hseq hKt hKb hb0 hps I Ix hI hIx h0 (fun x a' W => ∃ Bx, Ax x Bx W ∧ a' = boxAct encs ps a sl x Bx)
    (fun x _ _ A B row ⟨Bx, h, e⟩ hg hr => ⟨Bx, hAx x Bx () A B row h hg hr, e⟩)
    (fun l pre x W K hi hh hK => hassign l pre x W K hi hh fun Bx W' h1 h2 h3 h4 => hK _ W' h1 h2 h3 ⟨Bx, h4, rfl⟩)
    (fun l pre x _ W hl hr hi ⟨Bx, h, e⟩ hlen => by rw [e]; exact hbody l pre x Bx W hl hr hi h hlen)
    hdone hstop
end Go.Proofs.YtcnecokamckfaaaGreatDoor
