/- The index's maps: keys that are a place and a name, elements that are two values. -/
import Derived.Test.YtpbloplbpkedcaaRq9
import Derived.DeepKeys5
namespace Go.Proofs.Ytpbloplbpkedcaa
open Go Go.RowKit Go.Sort Go.Maps Go.WideMaps

theorem laid9 : laidOutB Try.prog = true := by kernel_rfl
theorem spotType : Try.prog.keyType 125 = true := by kernel_rfl
theorem spotLaw : Keyed Try.prog 125 := Keyed.of_law (deep_law_gate laid9 (of_decide_eq_true (by kernel_rfl)) (of_decide_eq_true (by kernel_rfl)) spotType (by kernel_rfl))
theorem types_big : ∃ m, Try.prog.types.size + 1 = m + 2 := ⟨Try.prog.types.size - 1, by have : (2 : Nat) ≤ Try.prog.types.size := of_decide_eq_true (by kernel_rfl); omega⟩
theorem spot_key {i : Int} {nm : ByteArray} (hi : (Lit.int .i64 i).wf = true) (hn : nm.size ≤ maxLen) : keyOf Try.prog 125 (.agg #[.int .i64 i, .string nm]) = some (.string (keyBytes [.int .i64 i, .string (nb nm)])) := by
  have hC : Try.prog.cellsOf 125 = 2 := by kernel_rfl
  have e3 : Try.prog.cellsOf 3 = 1 := by kernel_rfl
  have e9 : Try.prog.cellsOf 9 = 1 := by kernel_rfl
  obtain ⟨m, hm⟩ := types_big
  unfold keyOf
  rw [Try.underlying125, spotType, hm]
  simp only [Bool.true_and]
  rw [if_pos (by simp [Value.formed, Try.underlying125, hC])]
  rw [show m + 2 = (m + 1) + 1 from rfl]
  unfold Program.keyLits
  simp only [Try.underlying125, Value.cells, hC]
  rw [if_pos (by simp)]
  simp [Program.keyLits, e3, e9, Try.underlying3, Try.underlying9, hi, hn, nb]
/-- What the index holds of an attribute, as a value. -/
def fndV (x y : Vl) : Value := .agg #[.int .i64 x.k, .int .i64 x.n, .string x.s, .int .i64 y.k, .int .i64 y.n, .string y.s]
def fndD (x y : Vl) : DataW Unit := .agg [.lit (.int .i64 x.k), .lit (.int .i64 x.n), .lit (.string (nb x.s)), .lit (.int .i64 y.k), .lit (.int .i64 y.n), .lit (.string (nb y.s))]
open Classical in
noncomputable def fndE (v : Value) : Option (DataW Unit × List MemPlace) := if h : ∃ p : Vl × Vl, v = fndV p.1 p.2 then some (fndD (Classical.choose h).1 (Classical.choose h).2, []) else none
theorem fndV_inj {x y x' y' : Vl} (h : fndV x y = fndV x' y') : x = x' ∧ y = y' := by
  cases x; cases y; cases x'; cases y'
  simp only [fndV, Value.agg.injEq, Array.mk.injEq, List.cons.injEq, Value.int.injEq, Value.string.injEq, true_and, and_true] at h
  obtain ⟨rfl, rfl, rfl, rfl, rfl, rfl⟩ := h
  exact ⟨rfl, rfl⟩
theorem nb_inj9 {x y : ByteArray} (h : nb x = nb y) : x = y := by rw [← ba_nb x, ← ba_nb y, h]
theorem fndD_inj {x y x' y' : Vl} (h : fndD x y = fndD x' y') : x = x' ∧ y = y' := by
  cases x; cases y; cases x'; cases y'
  simp only [fndD, DataW.agg.injEq, List.cons.injEq, DataW.lit.injEq, Lit.int.injEq, Lit.string.injEq, true_and, and_true] at h
  obtain ⟨h1, h2, h3, h4, h5, h6⟩ := h
  have e1 := nb_inj9 h3; have e2 := nb_inj9 h6
  subst h1 h2 h4 h5 e1 e2
  exact ⟨rfl, rfl⟩
theorem fndE_mk (x y : Vl) : fndE (fndV x y) = some (fndD x y, []) := by
  have h : ∃ p : Vl × Vl, fndV x y = fndV p.1 p.2 := ⟨(x, y), rfl⟩
  unfold fndE
  rw [dif_pos h]
  obtain ⟨e1, e2⟩ := fndV_inj (Classical.choose_spec h)
  rw [← e1, ← e2]
theorem fndE_inv {v : Value} {x y : Vl} {ps : List MemPlace} (h : fndE v = some (fndD x y, ps)) : v = fndV x y := by
  unfold fndE at h
  split at h
  · rename_i h2
    simp only [Option.some.injEq, Prod.mk.injEq] at h
    obtain ⟨e1, e2⟩ := fndD_inj h.1
    have := Classical.choose_spec h2
    rw [e1, e2] at this
    exact this
  · cases h
theorem zeroF (w : World) : (zeroValue 127).run Try.prog w = .ok (fndV zeroL zeroL) w := by kernel_rfl
def spotK (i : Nat) (nm : ByteArray) : Lit := .string (keyBytes [.int .i64 (i : Int), .string (nb nm)])
theorem spotK_inj {i j : Nat} {a b : ByteArray} (hi : i ≤ 140737488355328) (hj : j ≤ 140737488355328) (ha : a.size ≤ maxLen) (hb : b.size ≤ maxLen) (h : spotK i a = spotK j b) : i = j ∧ a = b := by
  have h1 := spot_key (wf_small hi) ha
  have h2 := spot_key (wf_small hj) hb
  have e : (Lit.string (keyBytes [.int .i64 (i : Int), .string (nb a)])) = .string (keyBytes [.int .i64 (j : Int), .string (nb b)]) := h
  rw [← e] at h2
  have := spotLaw.inj h1 h2
  simp only [Value.agg.injEq, Array.mk.injEq, List.cons.injEq, Value.int.injEq, Value.string.injEq, true_and, and_true] at this
  exact ⟨by omega, this.2⟩

/-- A map of texts tells of a function. -/
def MapF (D : DataW Unit) (F : Nm → Option Nat) : Prop := IsMap D ∧ ∀ v, Maps.has D (.string v) = (F v).isSome ∧ ∀ i, F v = some i → D.atKey (.string v) (.lit (.int .i64 0)) = .lit (.int .i64 (i : Int))
def updF (F : Nm → Option Nat) (x : Nm) (i : Nat) : Nm → Option Nat := fun v => if v = x then some i else F v
theorem MapF.nil : MapF (.map []) (fun _ => none) := ⟨⟨[], rfl⟩, fun v => ⟨by simp [Maps.has], fun i h => by cases h⟩⟩
theorem MapF.put {D : DataW Unit} {F : Nm → Option Nat} {x : Nm} {i : Nat} (h : MapF D F) (hm : IsMap (D.put (.string x) (.lit (.int .i64 (i : Int))))) : MapF (D.put (.string x) (.lit (.int .i64 (i : Int)))) (updF F x i) := by
  refine ⟨hm, fun v => ?_⟩
  by_cases e : v = x
  · subst e
    refine ⟨?_, fun j hj => ?_⟩
    · rw [Maps.has_put_same h.1 (by first | exact trivial | simp [WideAt.IsKeyLit])]; simp [updF]
    · simp only [updF, if_true, Option.some.injEq] at hj
      subst hj
      exact atKey_put_same h.1 (by first | exact trivial | simp [WideAt.IsKeyLit]) _ _
  · have hne : (Lit.string v) ≠ .string x := fun e2 => e (by injection e2)
    refine ⟨?_, fun j hj => ?_⟩
    · rw [Maps.has_put_other hne, (h.2 v).1]; simp [updF, e]
    · simp only [updF, if_neg e] at hj
      rw [atKey_put_other hne]; exact (h.2 v).2 j hj
/-- A map of places tells of a function. -/
def MapG (D : DataW Unit) (G : Nat → ByteArray → Option (Vl × Vl)) : Prop :=
  IsMap D ∧ ∀ i nm, i ≤ 140737488355328 → nm.size ≤ maxLen → Maps.has D (spotK i nm) = (G i nm).isSome ∧ D.atKey (spotK i nm) (fndD zeroL zeroL) = fndD ((G i nm).getD (zeroL, zeroL)).1 ((G i nm).getD (zeroL, zeroL)).2
def updG (G : Nat → ByteArray → Option (Vl × Vl)) (i : Nat) (a : ByteArray) (p : Vl × Vl) : Nat → ByteArray → Option (Vl × Vl) := fun j b => if j = i ∧ b = a then some p else G j b
theorem MapG.nil : MapG (.map []) (fun _ _ => none) := ⟨⟨[], rfl⟩, fun i nm _ _ => ⟨by simp [Maps.has], rfl⟩⟩
theorem MapG.put {D : DataW Unit} {G : Nat → ByteArray → Option (Vl × Vl)} {i : Nat} {a : ByteArray} {x y : Vl} (h : MapG D G) (hi : i ≤ 140737488355328) (ha : a.size ≤ maxLen) (hm : IsMap (D.put (spotK i a) (fndD x y))) : MapG (D.put (spotK i a) (fndD x y)) (updG G i a (x, y)) := by
  refine ⟨hm, fun j b hj hb => ?_⟩
  by_cases e : j = i ∧ b = a
  · obtain ⟨rfl, rfl⟩ := e
    refine ⟨?_, ?_⟩
    · rw [Maps.has_put_same h.1 (by first | exact trivial | simp [WideAt.IsKeyLit, spotK])]; simp [updG]
    · rw [atKey_put_same h.1 (by first | exact trivial | simp [WideAt.IsKeyLit, spotK])]; simp [updG]
  · have hne : spotK j b ≠ spotK i a := fun e2 => e (spotK_inj hj hi hb ha e2)
    refine ⟨?_, ?_⟩
    · rw [Maps.has_put_other hne, (h.2 j b hj hb).1]; simp [updG, e]
    · rw [atKey_put_other hne, (h.2 j b hj hb).2]; simp [updG, e]
/-- How the index is built. -/
def stepA (rk : Nm → Nat) (i : Nat) (G : Nat → ByteArray → Option (Vl × Vl)) (y : At) : Nat → ByteArray → Option (Vl × Vl) :=
  if (G i y.name).isSome then G else updG G i y.name (⟨y.k, y.n, y.s⟩, briefL rk ⟨y.k, y.n, y.s⟩)
def procA (rk : Nm → Nat) (i : Nat) (G : Nat → ByteArray → Option (Vl × Vl)) (xs : List At) : Nat → ByteArray → Option (Vl × Vl) := xs.foldl (stepA rk i) G
def procB (rk : Nm → Nat) : List Bd → (Nm → Option Nat) × (Nat → ByteArray → Option (Vl × Vl)) → Nat → (Nm → Option Nat) × (Nat → ByteArray → Option (Vl × Vl))
  | [], S, _ => S
  | x :: r, S, i => procB rk r (if (S.1 (nb x.var)).isSome then S else (updF S.1 (nb x.var) i, procA rk i S.2 x.ats)) (i + 1)
def stepB (rk : Nm → Nat) (S : (Nm → Option Nat) × (Nat → ByteArray → Option (Vl × Vl))) (x : Bd) (i : Nat) : (Nm → Option Nat) × (Nat → ByteArray → Option (Vl × Vl)) :=
  if (S.1 (nb x.var)).isSome then S else (updF S.1 (nb x.var) i, procA rk i S.2 x.ats)
theorem procB_snoc (rk : Nm → Nat) : ∀ (l : List Bd) (x : Bd) (S : (Nm → Option Nat) × (Nat → ByteArray → Option (Vl × Vl))) (i : Nat), procB rk (l ++ [x]) S i = stepB rk (procB rk l S i) x (i + l.length)
  | [], x, S, i => rfl
  | y :: r, x, S, i => by
    simp only [List.cons_append, procB]
    rw [procB_snoc rk r x _ (i + 1), List.length_cons, show i + 1 + r.length = i + (r.length + 1) by omega]
theorem procA_snoc (rk : Nm → Nat) (i : Nat) (G : Nat → ByteArray → Option (Vl × Vl)) (l : List At) (y : At) : procA rk i G (l ++ [y]) = stepA rk i (procA rk i G l) y := by
  unfold procA; rw [List.foldl_append]; rfl
end Go.Proofs.Ytpbloplbpkedcaa
