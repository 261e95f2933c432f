/- A region that draws its order: operations taken one at a time, and two calls of either order brought to one state. -/
import Derived.Test.YtiinljljbjjaeaaGreatDoorProg
import Derived.WalkKit
import Derived.Deep.RegionHeld3
namespace Go.Proofs.YtiinljljbjjaeaaGreatDoor
open Go Go.RowKit
def nthO {α : Type} : List α → Nat → Option α
  | [], _ => none
  | x :: _, 0 => some x
  | _ :: t, n + 1 => nthO t n
theorem nthO_eq {α : Type} : ∀ (l : List α) (n : Nat), nthO l n = l[n]?
  | [], _ => rfl
  | _ :: _, 0 => rfl
  | _ :: t, n + 1 => (nthO_eq t n).trans (by simp)
section
variable {P : Program} {ops : Array Oper} {Q : Exit → Act → World → Prop} {md : Region.Mode} {S : World → Prop}
theorem at_of_nth {i : Nat} {o : Oper} (h : nthO ops.toList i = some o) : ops[i]? = some o := by
  rw [nthO_eq] at h; simpa using h
theorem takeR {i : Nat} {oi : Oper} {v : Value} {fuel : Nat} {listed : Array Bool} {a : Act} {w : World} (hi : nthO ops.toList i = some oi)
    (hs : Region.noSelect ops = true) (hf : Region.free md ops listed i = true) (hr : (Region.ready md ops listed).contains i = true)
    (hQ : ∀ c a w, Q (.panic c) (a.put oi.dst v) w → Q (.panic c) a w) (hw : Region.wanted oi (yielded ops a.tmps) = true) (hy : ∀ w, S w → (execOp a.eval oi).run P w = .ok (.value v) w) (hS : S w)
    (h : wpAnyH P md ops Q S fuel (listed.setIfInBounds i true) (a.put oi.dst v) w) : wpAnyH P md ops Q S (fuel + 1) listed a w :=
  wpAnyH_take (at_of_nth hi) hs hf hr hQ (.inl ⟨hw, hy⟩) hS h
theorem oneR {i : Nat} {oi : Oper} {fuel : Nat} {listed : Array Bool} {a : Act} {w : World} (hi : nthO ops.toList i = some oi) (hr : Region.ready md ops listed = [i])
    (h : ∀ K' : Act → World → Prop, Shut (∀ a w, S w → (S w → wpAnyH P md ops Q S fuel (listed.setIfInBounds i true) a w) → K' a w) → if Region.wanted oi (yielded ops a.tmps) = true then Oper.wp P oi a w K' Q else K' (a.put oi.dst undef) w) :
    wpAnyH P md ops Q S (fuel + 1) listed a w :=
  wpAnyH_ready hr (by simp) (AllReadyH.cons (at_of_nth hi) h AllReadyH.nil)
theorem twoR {i j : Nat} {oi oj : Oper} {fuel : Nat} {listed : Array Bool} {a : Act} {w : World} (hi : nthO ops.toList i = some oi) (hj : nthO ops.toList j = some oj) (hr : Region.ready md ops listed = [i, j])
    (h : ∀ K' : Act → World → Prop, Shut (∀ a w, S w → (S w → wpAnyH P md ops Q S fuel (listed.setIfInBounds i true) a w) → K' a w) → if Region.wanted oi (yielded ops a.tmps) = true then Oper.wp P oi a w K' Q else K' (a.put oi.dst undef) w)
    (h2 : ∀ K' : Act → World → Prop, Shut (∀ a w, S w → (S w → wpAnyH P md ops Q S fuel (listed.setIfInBounds j true) a w) → K' a w) → if Region.wanted oj (yielded ops a.tmps) = true then Oper.wp P oj a w K' Q else K' (a.put oj.dst undef) w) :
    wpAnyH P md ops Q S (fuel + 1) listed a w :=
  wpAnyH_ready hr (by simp) (AllReadyH.cons (at_of_nth hi) h (AllReadyH.cons (at_of_nth hj) h2 AllReadyH.nil))
/-- Operation o, run in state a, yields v in any world of F, and leaves a world of F. -/
def StepR (P : Program) (ops : Array Oper) (Q : Exit → Act → World → Prop) (F : World → Prop) (o : Oper) (v : Value) (a : Act) : Prop :=
  ∀ (u : World) (K : Act → World → Prop), F u → Shut (∀ u', F u' → K (a.put o.dst v) u') → if Region.wanted o (yielded ops a.tmps) = true then Oper.wp P o a u K Q else K (a.put o.dst undef) u
theorem pairR {i j : Nat} {oi oj : Oper} {fuel : Nat} {listed : Array Bool} {a : Act} {w : World} (F : World → Prop) (vi vj : Value) (hi : nthO ops.toList i = some oi) (hj : nthO ops.toList j = some oj)
    (hr : Region.ready md ops listed = [i, j]) (hri : Region.ready md ops (listed.setIfInBounds i true) = [j]) (hrj : Region.ready md ops (listed.setIfInBounds j true) = [i])
    (hij : i ≠ j) (hd : ∀ d, oi.dst = some d → oj.dst ≠ some d) (hF : F w) (hFS : ∀ u, F u → S u)
    (si : StepR P ops Q F oi vi a) (sj : StepR P ops Q F oj vj a) (si2 : StepR P ops Q F oi vi (a.put oj.dst vj)) (sj2 : StepR P ops Q F oj vj (a.put oi.dst vi))
    (h : ∀ u, F u → wpAnyH P md ops Q S fuel ((listed.setIfInBounds i true).setIfInBounds j true) ((a.put oi.dst vi).put oj.dst vj) u) :
    wpAnyH P md ops Q S (fuel + 2) listed a w := by
  refine twoR hi hj hr (fun K hK => si w K hF (fun u hu => hK.out _ _ (hFS u hu) (fun _ => ?_))) (fun K hK => sj w K hF (fun u hu => hK.out _ _ (hFS u hu) (fun _ => ?_)))
  · exact oneR hj hri (fun K hK => sj2 u K hu (fun u2 hu2 => hK.out _ _ (hFS u2 hu2) (fun _ => h u2 hu2)))
  · refine oneR hi hrj (fun K hK => si2 u K hu (fun u2 hu2 => hK.out _ _ (hFS u2 hu2) (fun _ => ?_)))
    have := h u2 hu2
    rwa [Act.put_comm _ _ _ hd, Array.setIfInBounds_comm _ _ hij] at this
end
end Go.Proofs.YtiinljljbjjaeaaGreatDoor
