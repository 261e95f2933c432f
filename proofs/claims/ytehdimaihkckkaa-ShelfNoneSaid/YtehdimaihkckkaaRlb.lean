/- The law on a range over a function that hands out memory laid during the walk, where the loop's variable lies in a box: its act in terms of the act before the loop. -/
import Derived.Test.YtehdimaihkckkaaRl4
namespace Go.Proofs.Ytehdimaihkckkaa
open Go Go.RowKit

variable {F : Fence} {n : Nat} {P : Program} {w : World}

/-- The act of a round: what is handed in its slots, the box's address in slot sl. -/
def boxAct {α : Type} (encs : α → Array Value) (ps : Array Tmp) (a : Act) (sl : Nat) (x : α) (Bx : Nat) : Act :=
  { tmps := ((ps.zip (encs x)).foldl (fun t (p, v) => t.setIfInBounds p v) a.tmps).setIfInBounds sl (.pointer (some ⟨Bx, 0, none⟩)), defers := [] }
theorem wpIn_rangeFunc_HB {α : Type} {g : Operand} {ps : Array Tmp} {assign body : Code} {Q : Exit → Act → World → Prop} {a : Act} (sl : Nat)
    (hro : F.round = none) (h1 : 1 ≤ n) {gf : Nat} {lb : Array Value} (hg : a.eval g = .func (.func gf) #[] lb) (hFg : F.fn gf) (eg : ∀ args w, (callFunc gf args).run P w = .ok (.enter gf args) w)
    {encs : α → Array Value} {H : α → World → Prop} {Kp : World → World → Prop} {S Sp : List α → Prop} {N : Nat} {w0 : World} (hseq : SeqStopsH F (n - 1) P gf lb encs H Kp S Sp N w0)
    (hKt : ∀ {A B C : World}, Kp A B → Kp B C → Kp A C) (hKb : ∀ (W : World) (l : Nat) (o o' : Obj), w.heap.size ≤ l → W.heap[l]? = some o → o.isCells = false → o.isWalk = false → Kp W (W.putObj l o'))
    (hb0 : Below w0.heap.size w0 w) (hps : ∀ x, (encs x).size = ps.size)
    (I : List α → World → Prop) (Ix : Code → List α → World → Prop) (hI : OwnFrom w.heap.size I) (hIx : ∀ c, OwnFrom w.heap.size (Ix c)) (h0 : I [] w)
    (Ax : α → Nat → World → Prop) (hAx : ∀ x Bx, OwnFrom w.heap.size (fun (_ : Unit) W => Ax x Bx W))
    (hassign : ∀ (l : Nat) (pre : List α) (x : α) (W : World) (K : Act → World → Prop), I pre W → H x W → (∀ Bx W', KeepsFrom w.heap.size W W' → Kp W W' → I pre W' → Ax x Bx W' → K (boxAct encs ps a sl x Bx) W') →
      assign.wpIn (F.inRound l) (n - 1 - 1) P (Exit.then K (fun _ _ _ => False)) { tmps := (ps.zip (encs x)).foldl (fun t (p, v) => t.setIfInBounds p v) a.tmps, defers := [] } W)
    (hbody : ∀ (l : Nat) (pre : List α) (x : α) (Bx : Nat) (W : World), w.heap.size ≤ l → (∃ r, W.heap[l]? = some (.loop r)) → I pre W → Ax x Bx W → pre.length < N → body.wpIn (F.inRound l) (n - 1 - 1) P (ownPostG w.heap.size Kp I Ix (pre ++ [x]) W) (boxAct encs ps a sl x Bx) W)
    (hdone : ∀ (D : Nat) (xs : List α) (W : World), w.heap.size ≤ D → S xs → I xs W → W.heap[D]? = some (.deferred (some [])) → Q .normal { a with defers := { target := .collected D, args := #[] } :: a.defers } W)
    (hstop : ∀ (D : Nat) (c : Code) (pre : List α) (W : World), w.heap.size ≤ D → Sp pre → Ix c pre W → W.heap[D]? = some (.deferred (some [])) → c.wpIn F n P Q { a with defers := { target := .collected D, args := #[] } :: a.defers } W) :
    (Code.rangeFunc g ps assign body).wpIn F n P Q a w :=
  wpIn_rangeFunc_H hro h1 hg hFg eg hseq hKt hKb hb0 hps I Ix hI hIx h0 (fun x a' W => ∃ Bx, Ax x Bx W ∧ a' = boxAct encs ps a sl x Bx)
    (fun x _ _ A B row ⟨Bx, h, e⟩ hg hr => ⟨Bx, hAx x Bx () A B row h hg hr, e⟩)
    (fun l pre x W K hi hh hK => hassign l pre x W K hi hh fun Bx W' h1 h2 h3 h4 => hK _ W' h1 h2 h3 ⟨Bx, h4, rfl⟩)
    (fun l pre x _ W hl hr hi ⟨Bx, h, e⟩ hlen => by rw [e]; exact hbody l pre x Bx W hl hr hi h hlen)
    hdone hstop
end Go.Proofs.Ytehdimaihkckkaa
