/- A law on a range over a function that hands out memory laid during the walk: what is handed is known to be (H) in the world in which it is handed. -/
import Derived.RangeFuncNested
import Derived.RangeFuncBound
import Derived.RangeFuncCalls
import Derived.Test.YtehdimaihkckkaaLaw
namespace Go.Proofs.Ytehdimaihkckkaa
open Go Go.RowKit

/-- As the library's contract of an iterator; but a round is asked for only at what is so (H) there, and what the caller holds abides the turn of any later block that is no cells, and the round turns none of those (so that the iterator may range over another one). -/
def SeqStopsH {α : Type} (F : Fence) (n : Nat) (P : Program) (g : Nat) (lb : Array Value) (encs : α → Array Value) (H : α → World → Prop) (Kp : World → World → Prop) (S Sp : List α → Prop) (N : Nat) (w : World) : Prop :=
  ∀ (l : Nat) (J Jx : List α → World → Prop) (W : World), Below w.heap.size w W → OwnFrom W.heap.size J → OwnFrom W.heap.size Jx →
    (∀ pre x W1, J pre W1 → H x W1 → pre.length < N → YieldAt F (n - 1) P l (encs x) W1 fun e W' =>
      (e = .returned (.bool true) ∧ J (pre ++ [x]) W' ∧ Kp W1 W' ∧ KeepsFrom W.heap.size W1 W') ∨ (e = .returned (.bool false) ∧ Jx (pre ++ [x]) W' ∧ KeepsFrom W.heap.size W1 W')) →
    J [] W → CallsIn F n P g (#[.func (.yield l) #[] #[]] ++ lb) W fun e W' => (∃ v, e = .returned v) ∧ ((∃ xs, S xs ∧ J xs W') ∨ (∃ pre, Sp pre ∧ Jx pre W'))

/-- The two blocks of a loop's book-keeping. -/
structure LpAt (B : Nat) (L : Loop) (W : World) : Prop where
  loop : W.heap[B + 1]? = some (.loop L)
  dfr : W.heap[B]? = some (.deferred (some []))
theorem LpAt.lt {B : Nat} {L : Loop} {W : World} (h : LpAt B L W) : B + 1 < W.heap.size := (Array.getElem?_eq_some_iff.1 h.loop).1
theorem LpAt.far {B : Nat} {L : Loop} {W W' : World} {row : Option Nat} (h : LpAt B L W) (hg : W.grownBy W' row) (hr : ∀ r, row = some r → B + 2 ≤ r) : LpAt B L W' :=
  ⟨(hg.block _ h.lt (fun e => by have := hr _ e.symm; omega)).trans h.loop, (hg.block _ (by have := h.lt; omega) (fun e => by have := hr _ e.symm; omega)).trans h.dfr⟩
theorem LpAt.keeps {B : Nat} {L : Loop} {W W' : World} (h : LpAt B L W) (hk : KeepsFrom B W W') : LpAt B L W' := ⟨hk.same _ _ (Nat.le_succ _) h.loop rfl, hk.same _ _ (Nat.le_refl _) h.dfr rfl⟩
theorem LpAt.put {B : Nat} {L : Loop} {W : World} (h : LpAt B L W) (L' : Loop) : LpAt B L' (W.putObj (B + 1) (.loop L')) :=
  ⟨World.putObj_heap_same h.lt, (World.putObj_heap_other (by omega)).trans h.dfr⟩

variable {F : Fence} {n : Nat} {P : Program} {w : World}

theorem wpIn_rangeFunc_H {α : Type} {g : Operand} {ps : Array Tmp} {assign body : Code} {Q : Exit → Act → World → Prop} {a : Act}
    (hro : F.round = none) (h1 : 1 ≤ n) {gf : Nat} {lb : Array Value} (hg : a.eval g = .func (.func gf) #[] lb) (hFg : F.fn gf) (eg : ∀ args w, (callFunc gf args).run P w = .ok (.enter gf args) w)
    {encs : α → Array Value} {H : α → World → Prop} {Kp : World → World → Prop} {S Sp : List α → Prop} {N : Nat} {w0 : World} (hseq : SeqStopsH F (n - 1) P gf lb encs H Kp S Sp N w0)
    (hKt : ∀ {A B C : World}, Kp A B → Kp B C → Kp A C) (hKb : ∀ (W : World) (l : Nat) (o o' : Obj), w.heap.size ≤ l → W.heap[l]? = some o → o.isCells = false → o.isWalk = false → Kp W (W.putObj l o'))
    (hb0 : Below w0.heap.size w0 w) (hps : ∀ x, (encs x).size = ps.size)
    (I : List α → World → Prop) (Ix : Code → List α → World → Prop) (hI : OwnFrom w.heap.size I) (hIx : ∀ c, OwnFrom w.heap.size (Ix c)) (h0 : I [] w)
    (Ax : α → Act → World → Prop) (hAx : ∀ x a', OwnFrom w.heap.size (fun (_ : Unit) W => Ax x a' W))
    (hassign : ∀ (l : Nat) (pre : List α) (x : α) (W : World) (K : Act → World → Prop), I pre W → H x W → (∀ a' W', KeepsFrom w.heap.size W W' → Kp W W' → I pre W' → Ax x a' W' → K a' W') →
      assign.wpIn (F.inRound l) (n - 1 - 1) P (Exit.then K (fun _ _ _ => False)) { tmps := (ps.zip (encs x)).foldl (fun t (p, v) => t.setIfInBounds p v) a.tmps, defers := [] } W)
    (hbody : ∀ (l : Nat) (pre : List α) (x : α) (a' : Act) (W : World), w.heap.size ≤ l → (∃ r, W.heap[l]? = some (.loop r)) → I pre W → Ax x a' W → pre.length < N → body.wpIn (F.inRound l) (n - 1 - 1) P (ownPostG w.heap.size Kp I Ix (pre ++ [x]) W) a' W)
    (hdone : ∀ (D : Nat) (xs : List α) (W : World), w.heap.size ≤ D → S xs → I xs W → W.heap[D]? = some (.deferred (some [])) → Q .normal { a with defers := { target := .collected D, args := #[] } :: a.defers } W)
    (hstop : ∀ (D : Nat) (c : Code) (pre : List α) (W : World), w.heap.size ≤ D → Sp pre → Ix c pre W → W.heap[D]? = some (.deferred (some [])) → c.wpIn F n P Q { a with defers := { target := .collected D, args := #[] } :: a.defers } W) :
    (Code.rangeFunc g ps assign body).wpIn F n P Q a w := by
  refine wpIn_rangeFunc ?_
  intro fn hfn
  rw [hro]
  let L : LoopState → Option Code → Loop := fun st pe => { state := st, pending := pe, fn, tmps := a.tmps, params := ps, assign, body, defers := w.heap.size }
  obtain ⟨W1, hW1⟩ : ∃ W1, W1 = (w.alloc (.deferred (some []))).alloc (.loop (L .ready none)) := ⟨_, rfl⟩
  have hs1 : W1.heap.size = w.heap.size + 2 := by rw [hW1]; simp
  have hL1 : LpAt w.heap.size (L .ready none) W1 := by
    rw [hW1]
    constructor
    · have h := World.alloc_heap_new (w.alloc (.deferred (some []))) (.loop (L .ready none))
      rwa [World.size_alloc] at h
    · exact (Below.heap_alloc _ _ _ (by simp)).trans (World.alloc_heap_new w _)
  have hI1 : I [] W1 := by rw [hW1]; exact hI.alloc _ (hI.alloc _ h0)
  have hb1 : Below w0.heap.size w0 W1 := by
    rw [hW1]; exact (hb0.alloc hb0.size _).alloc (by have := hb0.size; simp; omega) _
  have hlow : ∀ {A : World} {row : Option Nat}, (∀ r, row = some r → W1.heap.size ≤ r ∧ ∃ o : Obj, A.heap[r]? = some o ∧ o.isCells = false) → ∀ r, row = some r → w.heap.size ≤ r ∧ ∃ o : Obj, A.heap[r]? = some o ∧ o.isCells = false := fun hr r e => by
    obtain ⟨h1, o, h2, h3⟩ := hr r e
    exact ⟨by omega, o, h2, h3⟩
  refine ⟨w.heap.size + 1, [{ target := .collected w.heap.size, args := #[] }], W1, { target := .fn (.func gf) lb, args := #[.func (.yield (w.heap.size + 1)) #[] #[]] }, W1, gf,
    #[.func (.yield (w.heap.size + 1)) #[] #[]] ++ lb, W1, ?_, ?_, ?_, ?_, fun _ => h1, ?_⟩
  · rw [hW1]; exact run_enterLoop_outer _ _ _ _ _
  · simp only [resolve, hg]; simp [go_sem]
  · intro f' hf'; simp [Target.leads] at hf'; subst hf'; exact hFg
  · simp [invoke, go_sem, eg]
  · refine (hseq (w.heap.size + 1) (fun pre W => I pre W ∧ LpAt w.heap.size (L .ready none) W) (fun pre W => ∃ c, Ix c pre W ∧ LpAt w.heap.size (L .done (some c)) W) W1 hb1
      (fun s A B row hs hg' hr => ⟨hI s A B row hs.1 hg' (hlow hr), hs.2.far hg' (fun r e => by have := (hr r e).1; omega)⟩)
      (fun s A B row hs hg' hr => by obtain ⟨c, h2, h3⟩ := hs; exact ⟨c, hIx c s A B row h2 hg' (hlow hr), h3.far hg' (fun r e => by have := (hr r e).1; omega)⟩) ?_ ⟨hI1, hL1⟩).mono ?_
    · rintro pre x W ⟨hi, hl⟩ hh hlen
      refine ⟨fn, _, assign, body, run_yield (P := P) (args := encs x) hl.loop (hps x), roundIn_of_wpIn hfn (hassign _ pre x W _ hi hh fun a' Wa hkf hkp hia hax => ?_)⟩
      have hla := hl.keeps hkf
      refine ⟨_, run_beginRound hla.loop rfl, ?_⟩
      have hlb := hla.put (L .busy none)
      refine wpIn_mono (hbody _ pre x a' _ (Nat.le_succ _) ⟨_, hlb.loop⟩ (hI.putObj _ hia (Nat.le_succ _) hla.loop rfl) ((hAx x a').putObj (s := ()) _ hax (Nat.le_succ _) hla.loop rfl) hlen) ?_
      have hup : ∀ {A B : World}, KeepsFrom w.heap.size A B → KeepsFrom W1.heap.size A B := fun h => ⟨h.size, fun k o hk => h.same k o (by omega)⟩
      have hput : ∀ (A : World) (o : Obj), KeepsFrom W1.heap.size A (A.putObj (w.heap.size + 1) o) := fun A o => KeepsFrom.of_grownBy (grownBy_putObj' A _ o) (fun j e => by cases e; omega)
      have keep : ∀ (W3 : World) (o : Obj), KeepsFrom w.heap.size (Wa.putObj (w.heap.size + 1) (.loop (L .busy none))) W3 → KeepsFrom W1.heap.size W (W3.putObj (w.heap.size + 1) o) := fun W3 o h => (((hup hkf).trans (hput _ _)).trans (hup h)).trans (hput _ _)
      have hkb : Kp Wa (Wa.putObj (w.heap.size + 1) (.loop (L .busy none))) := hKb _ _ _ _ (Nat.le_succ _) hla.loop rfl rfl
      have leave : ∀ (c : Code) (W3 : World), KeepsFrom w.heap.size (Wa.putObj (w.heap.size + 1) (.loop (L .busy none))) W3 → Ix c (pre ++ [x]) W3 →
          (Instr.endRound (w.heap.size + 1) (some c)).run P W3 = .ok (.bool false) (W3.putObj (w.heap.size + 1) (.loop (L .done (some c)))) ∧ Ix c (pre ++ [x]) (W3.putObj (w.heap.size + 1) (.loop (L .done (some c)))) ∧ LpAt w.heap.size (L .done (some c)) (W3.putObj (w.heap.size + 1) (.loop (L .done (some c)))) := fun c W3 hk3 hi3 => by
        have hl3 := hlb.keeps hk3
        exact ⟨run_endRound (P := P) (some c) hl3.loop, (hIx c).putObj _ hi3 (Nat.le_succ _) hl3.loop rfl, hl3.put _⟩
      rintro e a3 W3 hp
      cases e with
      | normal =>
        obtain ⟨hk3, hkp3, hi3⟩ := hp
        have hl3 := hlb.keeps hk3
        exact ⟨_, _, run_endRound (P := P) none hl3.loop, .inl ⟨rfl, ⟨hI.putObj _ hi3 (Nat.le_succ _) hl3.loop rfl, hl3.put _⟩, hKt hkp (hKt (hKt hkb hkp3) (hKb _ _ _ _ (Nat.le_succ _) hl3.loop rfl rfl)), keep _ _ hk3⟩⟩
      | ret => obtain ⟨x1, x2, x3⟩ := leave .ret W3 hp.1 hp.2; exact ⟨_, _, x1, .inr ⟨rfl, ⟨.ret, x2, x3⟩, keep _ _ hp.1⟩⟩
      | exit id => obtain ⟨x1, x2, x3⟩ := leave (.exit id) W3 hp.1 hp.2; exact ⟨_, _, x1, .inr ⟨rfl, ⟨.exit id, x2, x3⟩, keep _ _ hp.1⟩⟩
      | goto t => obtain ⟨x1, x2, x3⟩ := leave (.goto t) W3 hp.1 hp.2; exact ⟨_, _, x1, .inr ⟨rfl, ⟨.goto t, x2, x3⟩, keep _ _ hp.1⟩⟩
      | panic ch => exact hp.elim
      | outgrown => exact hp.elim
    · rintro e W2 ⟨⟨v, rfl⟩, ⟨xs, hS, hi, hl⟩ | ⟨pre, hSp, c, hi, hl⟩⟩
      · exact ⟨none, _, run_endLoop (P := P) hl.loop (by simp [L]), hdone _ xs _ (Nat.le_refl _) hS (hI.putObj _ hi (Nat.le_succ _) hl.loop rfl) ((World.putObj_heap_other (by omega)).trans hl.dfr)⟩
      · exact ⟨some c, _, run_endLoop (P := P) hl.loop (by simp [L]), hstop _ c pre _ (Nat.le_refl _) hSp ((hIx c).putObj _ hi (Nat.le_succ _) hl.loop rfl) ((World.putObj_heap_other (by omega)).trans hl.dfr)⟩
end Go.Proofs.Ytehdimaihkckkaa
