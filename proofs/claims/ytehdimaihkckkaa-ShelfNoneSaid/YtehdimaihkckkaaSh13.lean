/- The program's shelf: All, as it is ranged over; Oldest. -/
import Derived.RangeFuncBox
import Derived.RangeFuncNested
import Derived.RangeFuncBound
import Derived.RangeFuncCalls
import Derived.RangeFuncLeaves
import Derived.Shelf.Abstract
import Derived.Shelf.AbstractIn
import Derived.Shelf.RegionOpen
import Derived.WalkKit
import Derived.OwnWalkIn
import Derived.TacticsInMore
import Derived.LoopNIn
import Derived.LoopIn
import Derived.Test.YtehdimaihkckkaaSg13
import Derived.Test.YtehdimaihkckkaaRl4
import Derived.Test.YtehdimaihkckkaaRnd
namespace Go.Proofs.Ytehdimaihkckkaa
open Go Go.RowKit Go.Shelf
attribute [local go_sem] Oper.semAt_some

/-- As the law, with the frame of a round given by a function of what is handed and of a block. -/
theorem wpIn_rangeFunc_HA {F : Fence} {n : Nat} {P : Program} {w : World} {α : Type} {g : Operand} {ps : Array Tmp} {assign body : Code} {Q : Exit → Act → World → Prop} {a : Act} (ac : α → Nat → Act)
    (hro : F.round = none) (h1 : 1 ≤ n) {gf : Nat} {lb : Array Value} (hg : a.eval g = .func (.func gf) #[] lb) (hFg : F.fn gf) (eg : ∀ args w, (callFunc gf args).run P w = .ok (.enter gf args) w)
    {encs : α → Array Value} {H : α → World → Prop} {Kp : World → World → Prop} {S Sp : List α → Prop} {N : Nat} {w0 : World} (hseq : SeqStopsH F (n - 1) P gf lb encs H Kp S Sp N w0)
    (hKt : ∀ {A B C : World}, Kp A B → Kp B C → Kp A C) (hKb : ∀ (W : World) (l : Nat) (o o' : Obj), w.heap.size ≤ l → W.heap[l]? = some o → o.isCells = false → o.isWalk = false → Kp W (W.putObj l o'))
    (hb0 : Below w0.heap.size w0 w) (hps : ∀ x, (encs x).size = ps.size)
    (I : List α → World → Prop) (Ix : Code → List α → World → Prop) (hI : OwnFrom w.heap.size I) (hIx : ∀ c, OwnFrom w.heap.size (Ix c)) (h0 : I [] w)
    (Ax : α → Nat → World → Prop) (hAx : ∀ x Bx, OwnFrom w.heap.size (fun (_ : Unit) W => Ax x Bx W))
    (hassign : ∀ (l : Nat) (pre : List α) (x : α) (W : World) (K : Act → World → Prop), I pre W → H x W → (∀ Bx W', KeepsFrom w.heap.size W W' → Kp W W' → I pre W' → Ax x Bx W' → K (ac x Bx) W') →
      assign.wpIn (F.inRound l) (n - 1 - 1) P (Exit.then K (fun _ _ _ => False)) { tmps := (ps.zip (encs x)).foldl (fun t (p, v) => t.setIfInBounds p v) a.tmps, defers := [] } W)
    (hbody : ∀ (l : Nat) (pre : List α) (x : α) (Bx : Nat) (W : World), w.heap.size ≤ l → (∃ r, W.heap[l]? = some (.loop r)) → I pre W → Ax x Bx W → pre.length < N → body.wpIn (F.inRound l) (n - 1 - 1) P (ownPostG w.heap.size Kp I Ix (pre ++ [x]) W) (ac x Bx) W)
    (hdone : ∀ (D : Nat) (xs : List α) (W : World), w.heap.size ≤ D → S xs → I xs W → W.heap[D]? = some (.deferred (some [])) → Q .normal { a with defers := { target := .collected D, args := #[] } :: a.defers } W)
    (hstop : ∀ (D : Nat) (c : Code) (pre : List α) (W : World), w.heap.size ≤ D → Sp pre → Ix c pre W → W.heap[D]? = some (.deferred (some [])) → c.wpIn F n P Q { a with defers := { target := .collected D, args := #[] } :: a.defers } W) :
    (Code.rangeFunc g ps assign body).wpIn F n P Q a w :=
  wpIn_rangeFunc_H hro h1 hg hFg eg hseq hKt hKb hb0 hps I Ix hI hIx h0 (fun x a' W => ∃ Bx, Ax x Bx W ∧ a' = ac x Bx)
    (fun x _ _ A B row ⟨Bx, h, e⟩ hg hr => ⟨Bx, hAx x Bx () A B row h hg hr, e⟩)
    (fun l pre x W K hi hh hK => hassign l pre x W K hi hh fun Bx W' h1 h2 h3 h4 => hK _ W' h1 h2 h3 ⟨Bx, h4, rfl⟩)
    (fun l pre x _ W hl hr hi ⟨Bx, h, e⟩ hlen => by rw [e]; exact hbody l pre x Bx W hl hr hi h hlen)
    hdone hstop
theorem yield_deep {F : Fence} (hd : F.depth = none) {m : Nat} (m' : Nat) {P : Program} {l : Nat} {args : Array Value} {W : World} {R : Ending → World → Prop} (h : YieldAt F m P l args W R) : YieldAt F m' P l args W R := by
  obtain ⟨fn, tmps, assign, body, hy, hR⟩ := h
  exact ⟨fn, tmps, assign, body, hy, hR.1, fun c cs _ => hR.2 c cs (fun d h => by rw [hd] at h; cases h)⟩
theorem belowK_b {n₀ : Nat} {w : World} (hn : n₀ ≤ w.heap.size) (W : World) (l : Nat) (o o' : Obj) (hl : w.heap.size ≤ l) (h : W.heap[l]? = some o) (_ : o.isCells = false) (_ : o.isWalk = false) : Below n₀ W (W.putObj l o') :=
  (Below.refl n₀ W).grown (grownBy_putObj' W l o') (by have := (Array.getElem?_eq_some_iff.1 h).1; omega) (fun k e => by cases e; omega)
theorem ownFrom_bel {β : Type} {n₀ B : Nat} {w₀ : World} (hn : n₀ ≤ w₀.heap.size) (hB : n₀ ≤ B) : OwnFrom B (fun (_ : β) W => Below n₀ w₀ W) :=
  fun _ _ _ _ hs hg hr => hs.trans ((Below.refl _ _).grown hg (Nat.le_trans hn hs.size) (fun k e => Nat.le_trans hB (hr k e).1))
/-- The frame of a round: what is handed; a value in slot sl; a box, and a value in slot sl2. -/
def valAct {α : Type} (encs : α → Array Value) (ps : Array Tmp) (a : Act) (sl : Nat) (g : α → Value) (x : α) : Act := { tmps := ((ps.zip (encs x)).foldl (fun t (p, v) => t.setIfInBounds p v) a.tmps).setIfInBounds sl (g x), defers := [] }
def boxValAct {α : Type} (encs : α → Array Value) (ps : Array Tmp) (a : Act) (sl sl2 : Nat) (g : α → Value) (x : α) (Bx : Nat) : Act := { tmps := (((ps.zip (encs x)).foldl (fun t (p, v) => t.setIfInBounds p v) a.tmps).setIfInBounds sl (.pointer (some ⟨Bx, 0, none⟩))).setIfInBounds sl2 (g x), defers := [] }
/-- What All hands to yield of a thing. -/
def encT (t : Tg) : Array Value := #[.agg #[.int .i64 t.beg, .int .i64 t.fin], .string t.txt]

theorem wpIn_rangeFunc_HV {F : Fence} {n : Nat} {P : Program} {w : World} {α : Type} {g : Operand} {ps : Array Tmp} {assign body : Code} {Q : Exit → Act → World → Prop} {a : Act} (sl : Nat) (gv : α → Value)
    (hro : F.round = none) (h1 : 1 ≤ n) {gf : Nat} {lb : Array Value} (hg : a.eval g = .func (.func gf) #[] lb) (hFg : F.fn gf) (eg : ∀ args w, (callFunc gf args).run P w = .ok (.enter gf args) w)
    {encs : α → Array Value} {H : α → World → Prop} {Kp : World → World → Prop} {S Sp : List α → Prop} {N : Nat} {w0 : World} (hseq : SeqStopsH F (n - 1) P gf lb encs H Kp S Sp N w0)
    (hKt : ∀ {A B C : World}, Kp A B → Kp B C → Kp A C) (hKb : ∀ (W : World) (l : Nat) (o o' : Obj), w.heap.size ≤ l → W.heap[l]? = some o → o.isCells = false → o.isWalk = false → Kp W (W.putObj l o'))
    (hb0 : Below w0.heap.size w0 w) (hps : ∀ x, (encs x).size = ps.size)
    (I : List α → World → Prop) (Ix : Code → List α → World → Prop) (hI : OwnFrom w.heap.size I) (hIx : ∀ c, OwnFrom w.heap.size (Ix c)) (h0 : I [] w)
    (Ax : α → Nat → World → Prop) (hAx : ∀ x Bx, OwnFrom w.heap.size (fun (_ : Unit) W => Ax x Bx W))
    (hassign : ∀ (l : Nat) (pre : List α) (x : α) (W : World) (K : Act → World → Prop), I pre W → H x W → (∀ Bx W', KeepsFrom w.heap.size W W' → Kp W W' → I pre W' → Ax x Bx W' → K (valAct encs ps a sl gv x) W') →
      assign.wpIn (F.inRound l) (n - 1 - 1) P (Exit.then K (fun _ _ _ => False)) { tmps := (ps.zip (encs x)).foldl (fun t (p, v) => t.setIfInBounds p v) a.tmps, defers := [] } W)
    (hbody : ∀ (l : Nat) (pre : List α) (x : α) (Bx : Nat) (W : World), w.heap.size ≤ l → (∃ r, W.heap[l]? = some (.loop r)) → I pre W → Ax x Bx W → pre.length < N → body.wpIn (F.inRound l) (n - 1 - 1) P (ownPostG w.heap.size Kp I Ix (pre ++ [x]) W) (valAct encs ps a sl gv x) W)
    (hdone : ∀ (D : Nat) (xs : List α) (W : World), w.heap.size ≤ D → S xs → I xs W → W.heap[D]? = some (.deferred (some [])) → Q .normal { a with defers := { target := .collected D, args := #[] } :: a.defers } W)
    (hstop : ∀ (D : Nat) (c : Code) (pre : List α) (W : World), w.heap.size ≤ D → Sp pre → Ix c pre W → W.heap[D]? = some (.deferred (some [])) → c.wpIn F n P Q { a with defers := { target := .collected D, args := #[] } :: a.defers } W) :
    (Code.rangeFunc g ps assign body).wpIn F n P Q a w :=
  wpIn_rangeFunc_HA (fun x Bx => valAct encs ps a sl gv x) hro h1 hg hFg eg hseq hKt hKb hb0 hps I Ix hI hIx h0 Ax hAx hassign hbody hdone hstop
theorem wpIn_rangeFunc_HD {F : Fence} {n : Nat} {P : Program} {w : World} {α : Type} {g : Operand} {ps : Array Tmp} {assign body : Code} {Q : Exit → Act → World → Prop} {a : Act} (sl sl2 : Nat) (gv : α → Value)
    (hro : F.round = none) (h1 : 1 ≤ n) {gf : Nat} {lb : Array Value} (hg : a.eval g = .func (.func gf) #[] lb) (hFg : F.fn gf) (eg : ∀ args w, (callFunc gf args).run P w = .ok (.enter gf args) w)
    {encs : α → Array Value} {H : α → World → Prop} {Kp : World → World → Prop} {S Sp : List α → Prop} {N : Nat} {w0 : World} (hseq : SeqStopsH F (n - 1) P gf lb encs H Kp S Sp N w0)
    (hKt : ∀ {A B C : World}, Kp A B → Kp B C → Kp A C) (hKb : ∀ (W : World) (l : Nat) (o o' : Obj), w.heap.size ≤ l → W.heap[l]? = some o → o.isCells = false → o.isWalk = false → Kp W (W.putObj l o'))
    (hb0 : Below w0.heap.size w0 w) (hps : ∀ x, (encs x).size = ps.size)
    (I : List α → World → Prop) (Ix : Code → List α → World → Prop) (hI : OwnFrom w.heap.size I) (hIx : ∀ c, OwnFrom w.heap.size (Ix c)) (h0 : I [] w)
    (Ax : α → Nat → World → Prop) (hAx : ∀ x Bx, OwnFrom w.heap.size (fun (_ : Unit) W => Ax x Bx W))
    (hassign : ∀ (l : Nat) (pre : List α) (x : α) (W : World) (K : Act → World → Prop), I pre W → H x W → (∀ Bx W', KeepsFrom w.heap.size W W' → Kp W W' → I pre W' → Ax x Bx W' → K (boxValAct encs ps a sl sl2 gv x Bx) W') →
      assign.wpIn (F.inRound l) (n - 1 - 1) P (Exit.then K (fun _ _ _ => False)) { tmps := (ps.zip (encs x)).foldl (fun t (p, v) => t.setIfInBounds p v) a.tmps, defers := [] } W)
    (hbody : ∀ (l : Nat) (pre : List α) (x : α) (Bx : Nat) (W : World), w.heap.size ≤ l → (∃ r, W.heap[l]? = some (.loop r)) → I pre W → Ax x Bx W → pre.length < N → body.wpIn (F.inRound l) (n - 1 - 1) P (ownPostG w.heap.size Kp I Ix (pre ++ [x]) W) (boxValAct encs ps a sl sl2 gv x Bx) W)
    (hdone : ∀ (D : Nat) (xs : List α) (W : World), w.heap.size ≤ D → S xs → I xs W → W.heap[D]? = some (.deferred (some [])) → Q .normal { a with defers := { target := .collected D, args := #[] } :: a.defers } W)
    (hstop : ∀ (D : Nat) (c : Code) (pre : List α) (W : World), w.heap.size ≤ D → Sp pre → Ix c pre W → W.heap[D]? = some (.deferred (some [])) → c.wpIn F n P Q { a with defers := { target := .collected D, args := #[] } :: a.defers } W) :
    (Code.rangeFunc g ps assign body).wpIn F n P Q a w :=
  wpIn_rangeFunc_HA (fun x Bx => boxValAct encs ps a sl sl2 gv x Bx) hro h1 hg hFg eg hseq hKt hKb hb0 hps I Ix hI hIx h0 Ax hAx hassign hbody hdone hstop
set_option maxRecDepth 100000 in
set_option maxHeartbeats 2000000 in
theorem hAll1_in (F : Fence) (n : Nat) (hf : F.fn 46) (hro : F.round = none) (hn : 1 ≤ n) (l Bs n₀ g cap : Nat) (zs : List Tg) (hmany : zs.length ≤ 16384) (hg : g < n₀) (J Jx : List Tg → World → Prop)
    (W : World) (hJ : OwnFrom W.heap.size J) (hn₀ : n₀ ≤ W.heap.size)
    (hY : ∀ pre x W1, J pre W1 → x ∈ zs → pre.length < zs.length → YieldAt F (n - 1) Try.prog l (encT x) W1 fun e W' =>
      (e = .returned (.bool true) ∧ J (pre ++ [x]) W' ∧ Below n₀ W1 W') ∨ (e = .returned (.bool false) ∧ Jx (pre ++ [x]) W'))
    (hBs : W.cell? ⟨Bs, 0, none⟩ = some (.slice (some ⟨g, 0, none⟩) zs.length cap)) (hc : ∀ j, j < zs.length → W.cell? ⟨g, j * 4, none⟩ = some (.int .i64 zs[j]!.num) ∧ W.cell? ⟨g, j * 4 + 1, none⟩ = some (.int .i64 zs[j]!.beg) ∧ W.cell? ⟨g, j * 4 + 2, none⟩ = some (.int .i64 zs[j]!.fin) ∧ W.cell? ⟨g, j * 4 + 3, none⟩ = some (.string zs[j]!.txt)) (h0 : J [] W) :
    CallsIn F n Try.prog 46 #[.func (.yield l) #[] #[], .pointer (some ⟨Bs, 0, none⟩)] W fun e W' => (∃ v, e = .returned v) ∧
      (J zs W' ∨ (∃ k, k ≤ zs.length ∧ Jx (zs.take k) W')) := by
  refine callsIn_of_wp Try.func46 rfl hf ?_ hro
  simp only [Try.ntmps46, List.size_toArray, List.length_cons, List.length_nil, Nat.reduceAdd, Nat.reduceSub, Array.replicate_succ, Array.replicate_zero, List.push_toArray, List.append_toArray, List.nil_append, List.cons_append]
  gi_wp2
  gi_loopw [7] (fun i wr => ∃ k : Nat, k ≤ zs.length ∧ i = .int .i64 k ∧ J (zs.take k) wr ∧ Below n₀ W wr)
    (fun i _ => zs.length - (intOf i).toNat)
  case atStart => exact ⟨0, Nat.zero_le _, rfl, h0, Below.refl _ _⟩
  case round =>
    obtain ⟨k, hk, rfl, hJs, hnx⟩ := hrel
    by_cases hlt : k < zs.length
    · have hcell : ∀ o, wr.cell? ⟨g, o, none⟩ = W.cell? ⟨g, o, none⟩ := fun o => hnx.cell (p := ⟨g, o, none⟩) hg
      obtain ⟨c0, c1, c2, c3⟩ := hc k hlt
      rw [← hcell] at c0 c1 c2 c3
      have hmem : zs[k]! ∈ zs := by rw [getElem!_pos zs k hlt]; exact List.getElem_mem _
      have hyy := hY _ zs[k]! _ (hJ.alloc (.cells #[.int .i64 zs[k]!.num, .int .i64 zs[k]!.beg, .int .i64 zs[k]!.fin, .string zs[k]!.txt] 81) hJs) hmem (by simp; omega)
      have hT : zs.take (k + 1) = zs.take k ++ [zs[k]!] := take_one hlt
      clear hmem hcell
      generalize zs[k]! = x at c0 c1 c2 c3 hyy hT
      unfold encT at hyy
      obtain ⟨fn, tmps, assign, body, hy, hR⟩ := hyy
      gi_wp2
      refine hR.mono ?_
      rintro e W3 (⟨rfl, hJ3, hk3⟩ | ⟨rfl, hJx3⟩)
      · gi_wp2
        go_roundw
        case rel => exact ⟨k + 1, by omega, by simp, by rw [hT]; exact hJ3, (hnx.alloc (Nat.le_trans hn₀ hnx.size) _).trans hk3⟩
        case measure => simp [intOf]; omega
      · gi_wp2
        refine bodyPost_ret (results_none rfl _ _ _) rfl ?_
        exact ⟨⟨_, rfl⟩, .inr ⟨k + 1, by omega, by rw [hT]; exact hJx3⟩⟩
    · obtain rfl : k = zs.length := by omega
      gi_wp2
      go_end0
      exact ⟨⟨_, rfl⟩, .inl (by rw [List.take_length] at hJs; exact hJs)⟩
set_option maxRecDepth 100000 in
set_option maxHeartbeats 1000000 in
/-- .. of nothing: no round. -/
theorem hAll1_nil_in (F : Fence) (n : Nat) (hf : F.fn 46) (hro : F.round = none) (l Bs : Nat) (ao : Option Addr) (cap : Nat) (J : List Tg → World → Prop) (W : World) (hBs : W.cell? ⟨Bs, 0, none⟩ = some (.slice ao 0 cap)) (h0 : J [] W) :
    CallsIn F n Try.prog 46 #[.func (.yield l) #[] #[], .pointer (some ⟨Bs, 0, none⟩)] W fun e W' => (∃ v, e = .returned v) ∧ J [] W' := by
  refine callsIn_of_wp Try.func46 rfl hf ?_ hro
  simp only [Try.ntmps46, List.size_toArray, List.length_cons, List.length_nil, Nat.reduceAdd, Nat.reduceSub, Array.replicate_succ, Array.replicate_zero, List.push_toArray, List.append_toArray, List.nil_append, List.cons_append]
  gi_wp2
  gi_loopw [7] (fun i wr => i = .int .i64 0 ∧ J [] wr) (fun _ _ => 0)
  case atStart => exact ⟨rfl, h0⟩
  case round =>
    obtain ⟨rfl, hJs⟩ := hrel
    gi_wp2
    go_end0
    exact ⟨⟨_, rfl⟩, hJs⟩
/-- In w the box at Bs holds a row of the things zs, which lies below n₀. -/
structure AllAt (w : World) (n₀ Bs : Nat) (zs : List Tg) : Prop where
  many : zs.length ≤ 16384
  lt : Bs < w.heap.size
  le : n₀ ≤ w.heap.size
  row : ∃ ao cap, w.cell? ⟨Bs, 0, none⟩ = some (.slice ao zs.length cap) ∧ (0 < zs.length → ∃ g, ao = some ⟨g, 0, none⟩ ∧ g < n₀ ∧ ∀ j, j < zs.length → w.cell? ⟨g, j * 4, none⟩ = some (.int .i64 zs[j]!.num) ∧ w.cell? ⟨g, j * 4 + 1, none⟩ = some (.int .i64 zs[j]!.beg) ∧ w.cell? ⟨g, j * 4 + 2, none⟩ = some (.int .i64 zs[j]!.fin) ∧ w.cell? ⟨g, j * 4 + 3, none⟩ = some (.string zs[j]!.txt))
theorem AllAt.below {w w' : World} {n₀ Bs : Nat} {zs : List Tg} (h : AllAt w n₀ Bs zs) (hb : Below w.heap.size w w') : AllAt w' n₀ Bs zs := by
  obtain ⟨ao, cap, h1, h2⟩ := h.row
  refine ⟨h.many, Nat.lt_of_lt_of_le h.lt hb.size, Nat.le_trans h.le hb.size, ao, cap, (hb.cell (p := ⟨Bs, 0, none⟩) h.lt).trans h1, fun h0 => ?_⟩
  obtain ⟨g, e, hg, hc⟩ := h2 h0
  have hk : ∀ o, w'.cell? ⟨g, o, none⟩ = w.cell? ⟨g, o, none⟩ := fun o => hb.cell (p := ⟨g, o, none⟩) (Nat.lt_of_lt_of_le hg h.le)
  refine ⟨g, e, hg, fun j hj => ?_⟩
  rw [hk, hk, hk, hk]; exact hc j hj
theorem hAll1_stops (F : Fence) (n : Nat) (hf : F.fn 46) (hro : F.round = none) (hn : 1 ≤ n) (Bs n₀ : Nat) (zs : List Tg) (w : World) (h : AllAt w n₀ Bs zs) :
    SeqStopsH F n Try.prog 46 #[.pointer (some ⟨Bs, 0, none⟩)] encT (fun x _ => x ∈ zs) (Below n₀) (fun ys => ys = zs) (fun pre => pre <+: zs) zs.length w := fun l J Jx W hW hJ hJx hY h0 => by
  have hA := h.below hW
  obtain ⟨ao, cap, hc', hrow⟩ := hA.row
  have hmany := hA.many
  have hle := hA.le
  cases zs with
  | nil => exact (hAll1_nil_in F n hf hro l Bs ao cap J W hc' h0).mono fun e W' ⟨he, hj⟩ => ⟨he, .inl ⟨_, rfl, hj⟩⟩
  | cons z zs =>
    obtain ⟨g, rfl, hg, hc⟩ := hrow (by simp)
    refine (hAll1_in F n hf hro hn l Bs n₀ g cap (z :: zs) hmany hg J Jx W hJ hle (fun pre x W1 hj hm hl => (hY pre x W1 hj hm hl).mono (fun e W' h => h.imp (fun ⟨a, b, c, _⟩ => ⟨a, b, c⟩) (fun ⟨a, b, _⟩ => ⟨a, b⟩))) hc' hc h0).mono ?_
    rintro e W' ⟨he, hj | ⟨k, hk, hj⟩⟩
    · exact ⟨he, .inl ⟨_, rfl, hj⟩⟩
    · exact ⟨he, .inr ⟨_, List.take_prefix _ _, hj⟩⟩

theorem ShAt.allAt {w w' : World} {F : Nat → Prop} {q most nx : Nat} {ts : List Tg} {va : Option Addr} {vc : Nat} (h : ShAt w F q most nx ts (.slice va ts.length vc)) (hb : Below w.heap.size w w') {Bs : Nat} (h1 : w'.heap[Bs]? = some (.cells #[.slice va ts.length vc] 50 (0, 0))) : AllAt w' w.heap.size Bs ts := by
  refine ⟨Nat.le_trans h.len h.m2, lt_of_block h1, hb.size, va, vc, cells_one0 h1, fun h0 => ?_⟩
  obtain ⟨g, cap, e, hg, hc⟩ := (h.below hb).at h0
  simp only [Value.slice.injEq] at e
  obtain ⟨g', cap', e', hg', _⟩ := h.at h0
  simp only [Value.slice.injEq] at e'
  have hgg : g = g' := by
    have := e.1.symm.trans e'.1
    simpa using this
  exact ⟨g, e.1, by omega, fun j hj => ⟨(hc j hj).1, (hc j hj).2.1, (hc j hj).2.2.2.1, (hc j hj).2.2.2.2⟩⟩
/-- All of a shelf that a call made, as it stood in w0. -/
theorem hAll_any (F : Nat → Prop) (q most nx : Nat) (ts : List Tg) (w0 w : World) (h : ShIs w0 F q most nx ts) (hw : Below w0.heap.size w0 w) :
    Calls Try.prog 15 #[.pointer (some ⟨q, 0, none⟩)] w fun e w' => ∃ Bs, e = .returned (.func (.func 46) #[] #[.pointer (some ⟨Bs, 0, none⟩)]) ∧ AllAt w' w0.heap.size Bs ts ∧ Below w.heap.size w w' := by
  obtain ⟨v, hv⟩ := h
  obtain ⟨va, vc, rfl⟩ := hv.slice
  have HC := Lib.hid (hList_any q va ts.length vc w (cells_three (hv.below hw).blk).2.2.1)
  have HV := Lib.hid hv; have HW := Lib.hid hw
  clear hv hw
  go_enter Try.func15, Try.ntmps15
  go_wp2_with (go_at_call 37; (with_reducible refine (HC.out).mono ?_); rintro e w1 ⟨rfl, rfl⟩)
  go_ret
  have hb : Below w.heap.size w (w.alloc (.cells #[.slice va ts.length vc] 50)) := (Below.refl _ _).alloc (Nat.le_refl _) _
  exact ⟨_, rfl, HV.out.allAt (HW.out.trans (hb.mono HW.out.size)) (heap_alloc_new w _), hb⟩
/-- .. and of one that no call made. -/
theorem hAll_no (p : Value) (w : World) (h : Calls Try.prog 37 #[p] w fun e w' => e = .returned (.slice none 0 0) ∧ w = w') :
    Calls Try.prog 15 #[p] w fun e w' => ∃ Bs, e = .returned (.func (.func 46) #[] #[.pointer (some ⟨Bs, 0, none⟩)]) ∧ AllAt w' w.heap.size Bs [] ∧ Below w.heap.size w w' := by
  have HC := Lib.hid h
  clear h
  go_enter Try.func15, Try.ntmps15
  go_wp2_with (go_at_call 37; (with_reducible refine (HC.out).mono ?_); rintro e w1 ⟨rfl, rfl⟩)
  go_ret
  have hb : Below w.heap.size w (w.alloc (.cells #[.slice none 0 0] 50)) := (Below.refl _ _).alloc (Nat.le_refl _) _
  refine ⟨_, rfl, ⟨Nat.zero_le _, lt_of_block (heap_alloc_new w _), hb.size, none, 0, cells_one0 (heap_alloc_new w _), fun h0 => absurd h0 (by simp)⟩, hb⟩
end Go.Proofs.Ytehdimaihkckkaa
