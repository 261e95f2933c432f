/- What the arguments are in memory, as the statements of layer 13 hand them over: operations. -/
import Derived.Test.YtehdimaihkckkaaSp13
import Derived.OpenShut
import Derived.ProofKit
import Derived.ShutString
import Derived.SizedLaws
import Derived.Deep.Slices
import Derived.Deep.Fields
namespace Go.Proofs.Ytehdimaihkckkaa
open Go Go.ChangeShapes Go.WideShapes Go.ChangeAt Go.RowKit Go.Deep
set_option linter.unusedVariables false

/-- An operation; its cells. -/
structure Op13 where
  d : Int
  b : Int
  e : Int
  x : ByteArray
  t : Int
  deriving Inhabited
def encO (o : Op13) : List Value := [.int .i64 o.d, .int .i64 o.b, .int .i64 o.e, .string o.x, .int .i64 o.t]
/-- In w the value v is a slice of operations below block B. -/
structure Ov (w : World) (B : Nat) (v : Value) (xs : List Op13) : Prop where
  len : xs.length ≤ 140737488355328
  row : ∃ ao cap, v = .slice ao xs.length cap ∧ xs.length ≤ cap ∧ cap ≤ 9223372036854775807 ∧ (0 < xs.length → ∃ b o, ao = some ⟨b, o, none⟩ ∧ b < B ∧ ∀ j, j < xs.length → ∀ i u, (encO xs[j]!)[i]? = some u → w.cell? ⟨b, o + j * 5 + i, none⟩ = some u)

set_option maxRecDepth 100000 in
theorem open_op13 {H : Type} {enc : TypeId × Value → H} {W : World} {fuel : Nat} {cs : List Value} {d : DataW H} {p : List MemPlace} (h : DataW.trod enc Try.prog W 0 (fun _ => true) true fuel 34 cs = some (d, p)) :
    ∃ x : Op13, cs = encO x := by
  obtain ⟨xs, n, _, hx, hcl, hlen, hg⟩ := DataW.trod_struct Try.underlying34 h
  have hC : Try.prog.cellsOf 34 = 5 := by kernel_rfl
  have e3 : Try.prog.cellsOf 3 = 1 := by kernel_rfl
  have e2 : Try.prog.cellsOf 2 = 1 := by kernel_rfl
  have e4 : Try.prog.cellsOf 9 = 1 := by kernel_rfl
  have e5 : Try.prog.cellsOf 32 = 2 := by kernel_rfl
  rw [hC] at hcl
  match cs, hcl, xs, hlen with
  | [c0, c1, c2, c3, c4], _, [y0, y1, y2, y3], _ =>
    have g0 : DataW.trod enc Try.prog W 0 (fun _ => true) true n 3 [c0] = some y0 := by have := hg 0 _ rfl; simpa [e3, e2, e4, e5] using this
    have g1 : DataW.trod enc Try.prog W 0 (fun _ => true) true n 32 [c1, c2] = some y1 := by have := hg 1 _ rfl; simpa [e3, e2, e4, e5] using this
    have g2 : DataW.trod enc Try.prog W 0 (fun _ => true) true n 9 [c3] = some y2 := by have := hg 2 _ rfl; simpa [e3, e2, e4, e5] using this
    have g3 : DataW.trod enc Try.prog W 0 (fun _ => true) true n 2 [c4] = some y3 := by have := hg 3 _ rfl; simpa [e3, e2, e4, e5] using this
    obtain ⟨a, k0, _, _⟩ := DataW.trod_int Try.underlying3 g0
    obtain ⟨s, k2, _, _⟩ := DataW.trod_string Try.underlying9 g2
    obtain ⟨t, k3, _, _⟩ := DataW.trod_int Try.underlying2 g3
    obtain ⟨zs, m, _, hzz, _, hzl, hf2⟩ := DataW.trod_struct Try.underlying32 g1
    match zs, hzl with
    | [z0, z1], _ =>
      have f0 : DataW.trod enc Try.prog W 0 (fun _ => true) true m 2 [c1] = some z0 := by have := hf2 0 _ rfl; simpa [e2] using this
      have f1 : DataW.trod enc Try.prog W 0 (fun _ => true) true m 2 [c2] = some z1 := by have := hf2 1 _ rfl; simpa [e2] using this
      obtain ⟨b, k4, _, _⟩ := DataW.trod_int Try.underlying2 f0
      obtain ⟨e, k5, _, _⟩ := DataW.trod_int Try.underlying2 f1
      simp only [List.cons.injEq, and_true] at k0 k2 k3 k4 k5
      exact ⟨⟨a, b, e, s, t⟩, by rw [k0, k2, k3, k4, k5]; rfl⟩
theorem encO_len (x : Op13) : (encO x).length = 5 := rfl

set_option maxRecDepth 100000 in
theorem open_ops13 {H : Type} {enc : TypeId × Value → H} {W : World} {base : Nat} {v : Value} {d : DataW H} {p : List MemPlace} (hv : Value.okWide Try.prog W .any base 22 v)
    (h : DataW.Trod enc Try.prog W 0 (fun _ => true) true 22 v d p) (hz : ∀ n ∈ d.weights Try.prog 22, n ≤ reachBytes) :
    ∃ xs : List Op13, Ov W W.heap.size v xs := by
  obtain ⟨ao, n, cap, rfl⟩ := okWide_slice Try.underlying22 hv
  obtain ⟨fuel, hf⟩ := h
  have hC : Try.prog.cellsOf 34 = 5 := by kernel_rfl
  have hb : Try.prog.bytesOf 34 = 48 := by kernel_rfl
  rcases open_slice Try.underlying22 hf with ⟨hcs, _⟩ | ⟨a, len, cp, m, fl, D, Pl, hcs, _, hl, hm, hmm, hx, hi⟩
  · simp only [Value.cells, List.cons.injEq, and_true] at hcs
    rw [hcs]
    exact ⟨[], by simp, ⟨none, 0, rfl, by simp, by simp, fun h => by simp at h⟩⟩
  · simp only [Value.cells, List.cons.injEq, and_true] at hcs
    rw [hcs]
    clear hcs
    simp only [if_true] at hmm
    subst hmm
    rw [hC] at hi
    simp only [Prod.mk.injEq] at hx
    have hws : len * 48 ≤ 140737488355328 := by
      have h1 : (((List.range len).map D).length + ((List.range (m - len)).map fun j => D (len + j)).length) * Try.prog.bytesOf 34 ∈ d.weights Try.prog 22 := by
        rw [hx.1]; simp [DataW.weights, Try.underlying22]
      have h2 := hz _ h1
      rw [hb] at h2
      simp only [List.length_map, List.length_range] at h2
      have := reachBytes_lt
      omega
    have hall : ∀ i, i < len → ∃ x : Op13, (∀ c u, (encO x)[c]? = some u → W.cell? (a.add (i * 5 + c)) = some u) := fun i him => by
      obtain ⟨cs', hc, ht⟩ := hi i (by omega)
      obtain ⟨x, rfl⟩ := open_op13 ht
      obtain ⟨_, hcl, hat⟩ := World.cells?_some hc
      refine ⟨x, fun c u hu => ?_⟩
      have hc7 : c < 5 := by have := (List.getElem?_eq_some_iff.1 hu).1; simpa [encO_len] using this
      rw [← Go.Deep.add_add, hat c hc7, hu]
    obtain ⟨xs, hxl, hxs⟩ : ∃ xs : List Op13, xs.length = len ∧ ∀ i, i < len → (∀ c u, (encO xs[i]!)[c]? = some u → W.cell? (a.add (i * 5 + c)) = some u) := by
      refine ⟨(List.range len).map fun i => if h : i < len then (hall i h).choose else default, by simp, fun i hi => ?_⟩
      have e : ((List.range len).map fun i => if h : i < len then (hall i h).choose else default)[i]! = (hall i hi).choose := by
        simp [hi]
      rw [e]; exact (hall i hi).choose_spec
    refine ⟨xs, by omega, ⟨some a, m, by rw [hxl], by omega, by unfold maxLen at hm; omega, fun h0 => ?_⟩⟩
    have h00 := (hxs 0 (by omega)) 0 _ rfl
    obtain ⟨b, o, sp⟩ := a
    obtain rfl : sp = none := by simpa [Addr.add] using World.cell?_spot h00
    have hblk : b < W.heap.size := by simpa [Addr.add] using World.block_lt_of_cell? _ _ h00
    refine ⟨b, o, rfl, hblk, fun j hj i u hu => ?_⟩
    have := (hxs j (by omega)) i u hu
    have e : (⟨b, o, none⟩ : Addr).add (j * 5 + i) = ⟨b, o + (j * 5 + i), none⟩ := by unfold Addr.add; split <;> simp_all
    rw [e, ← Nat.add_assoc] at this
    exact this

end Go.Proofs.Ytehdimaihkckkaa
