/- What the arguments are in memory, as the statements of layer 12 hand them over: a script's marks, and a row of numbers. -/
import Derived.Test.YtclbfmjmamcjjaaWa
import Derived.OpenShut
import Derived.ProofKit
import Derived.ShutString
import Derived.SizedLaws
import Derived.Deep.Slices
import Derived.Deep.Fields
namespace Go.Proofs.Ytclbfmjmamcjjaa
open Go Go.ChangeShapes Go.WideShapes Go.ChangeAt Go.RowKit Go.Deep
set_option linter.unusedVariables false

/-- A mark of a script; its cells. -/
structure Op12 where
  inp : Int
  t : Int
  cl : Bool
  deriving Inhabited
def encP (o : Op12) : List Value := [.int .i64 o.inp, .int .i64 o.t, .bool o.cl]
/-- In w the value v is a slice of marks below block B. -/
structure Pv (w : World) (B : Nat) (v : Value) (xs : List Op12) : Prop where
  len : xs.length ≤ 140737488355328
  row : ∃ ao cap, v = .slice ao xs.length cap ∧ xs.length ≤ cap ∧ cap ≤ 9223372036854775807 ∧ (0 < xs.length → ∃ b o, ao = some ⟨b, o, none⟩ ∧ b < B ∧ ∀ j, j < xs.length → ∀ i u, (encP xs[j]!)[i]? = some u → w.cell? ⟨b, o + j * 3 + i, none⟩ = some u)
/-- In w the value v is a slice of numbers below block B. -/
structure Nv (w : World) (B : Nat) (v : Value) (xs : List Int) : Prop where
  len : xs.length * 8 ≤ 140737488355328
  wf : ∀ x ∈ xs, -9223372036854775808 ≤ x ∧ x ≤ 9223372036854775807
  row : ∃ ao cap, v = .slice ao xs.length cap ∧ xs.length ≤ cap ∧ cap ≤ 9223372036854775807 ∧ (0 < xs.length → ∃ b o, ao = some ⟨b, o, none⟩ ∧ b < B ∧ ∀ j, j < xs.length → w.cell? ⟨b, o + j, none⟩ = some (.int .i64 xs[j]!))

theorem u8_of {n : Int} (h : (Lit.int .u8 n).wf = true) : 0 ≤ n ∧ n < 256 := by
  have h' : 0 ≤ n ∧ n ≤ 255 := by simpa [Lit.wf, IntKind.signed, IntKind.bits, IntKind.min, IntKind.max] using h
  omega
theorem i64_of {n : Int} (h : (Lit.int .i64 n).wf = true) : -9223372036854775808 ≤ n ∧ n ≤ 9223372036854775807 := by
  simpa [Lit.wf, IntKind.signed, IntKind.bits, IntKind.min, IntKind.max] using h

set_option maxRecDepth 100000 in
theorem open_op12 {H : Type} {enc : TypeId × Value → H} {W : World} {fuel : Nat} {cs : List Value} {d : DataW H} {p : List MemPlace} (h : DataW.trod enc Try.prog W 0 (fun _ => true) true fuel 35 cs = some (d, p)) :
    ∃ x : Op12, cs = encP x := by
  obtain ⟨xs, n, _, hx, hcl, hlen, hg⟩ := DataW.trod_struct Try.underlying35 h
  have hC : Try.prog.cellsOf 35 = 3 := by kernel_rfl
  have e3 : Try.prog.cellsOf 3 = 1 := by kernel_rfl
  have e2 : Try.prog.cellsOf 2 = 1 := by kernel_rfl
  have e4 : Try.prog.cellsOf 4 = 1 := by kernel_rfl
  rw [hC] at hcl
  match cs, hcl, xs, hlen with
  | [c0, c1, c2], _, [y0, y1, y2], _ =>
    have g0 : DataW.trod enc Try.prog W 0 (fun _ => true) true n 3 [c0] = some y0 := by have := hg 0 _ rfl; simpa [e3, e2, e4] using this
    have g1 : DataW.trod enc Try.prog W 0 (fun _ => true) true n 2 [c1] = some y1 := by have := hg 1 _ rfl; simpa [e3, e2, e4] using this
    have g2 : DataW.trod enc Try.prog W 0 (fun _ => true) true n 4 [c2] = some y2 := by have := hg 2 _ rfl; simpa [e3, e2, e4] using this
    obtain ⟨a, k0, _, _⟩ := DataW.trod_int Try.underlying3 g0
    obtain ⟨b, k1, _, _⟩ := DataW.trod_int Try.underlying2 g1
    obtain ⟨c, k2, _⟩ := DataW.trod_bool Try.underlying4 g2
    simp only [List.cons.injEq, and_true] at k0 k1 k2
    exact ⟨⟨a, b, c⟩, by rw [k0, k1, k2]; rfl⟩
theorem encP_len (x : Op12) : (encP x).length = 3 := rfl

set_option maxRecDepth 100000 in
theorem open_ops12 {H : Type} {enc : TypeId × Value → H} {W : World} {base : Nat} {v : Value} {d : DataW H} {p : List MemPlace} (hv : Value.okWide Try.prog W .any base 23 v)
    (h : DataW.Trod enc Try.prog W 0 (fun _ => true) true 23 v d p) (hz : ∀ n ∈ d.weights Try.prog 23, n ≤ reachBytes) :
    ∃ xs : List Op12, Pv W W.heap.size v xs := by
  obtain ⟨ao, n, cap, rfl⟩ := okWide_slice Try.underlying23 hv
  obtain ⟨fuel, hf⟩ := h
  have hC : Try.prog.cellsOf 35 = 3 := by kernel_rfl
  have hb : Try.prog.bytesOf 35 = 24 := by kernel_rfl
  rcases open_slice Try.underlying23 hf with ⟨hcs, _⟩ | ⟨a, len, cp, m, fl, D, Pl, hcs, _, hl, hm, hmm, hx, hi⟩
  · simp only [Value.cells, List.cons.injEq, and_true] at hcs
    rw [hcs]
    exact ⟨[], by simp, ⟨none, 0, rfl, by simp, by simp, fun h => by simp at h⟩⟩
  · simp only [Value.cells, List.cons.injEq, and_true] at hcs
    rw [hcs]
    clear hcs
    simp only [if_true] at hmm
    subst hmm
    rw [hC] at hi
    simp only [Prod.mk.injEq] at hx
    have hws : len * 24 ≤ 140737488355328 := by
      have h1 : (((List.range len).map D).length + ((List.range (m - len)).map fun j => D (len + j)).length) * Try.prog.bytesOf 35 ∈ d.weights Try.prog 23 := by
        rw [hx.1]; simp [DataW.weights, Try.underlying23]
      have h2 := hz _ h1
      rw [hb] at h2
      simp only [List.length_map, List.length_range] at h2
      have := reachBytes_lt
      omega
    have hall : ∀ i, i < len → ∃ x : Op12, (∀ c u, (encP x)[c]? = some u → W.cell? (a.add (i * 3 + c)) = some u) := fun i him => by
      obtain ⟨cs', hc, ht⟩ := hi i (by omega)
      obtain ⟨x, rfl⟩ := open_op12 ht
      obtain ⟨_, hcl, hat⟩ := World.cells?_some hc
      refine ⟨x, fun c u hu => ?_⟩
      have hc7 : c < 3 := by have := (List.getElem?_eq_some_iff.1 hu).1; simpa [encP_len] using this
      rw [← Go.Deep.add_add, hat c hc7, hu]
    obtain ⟨xs, hxl, hxs⟩ : ∃ xs : List Op12, xs.length = len ∧ ∀ i, i < len → (∀ c u, (encP xs[i]!)[c]? = some u → W.cell? (a.add (i * 3 + c)) = some u) := by
      refine ⟨(List.range len).map fun i => if h : i < len then (hall i h).choose else default, by simp, fun i hi => ?_⟩
      have e : ((List.range len).map fun i => if h : i < len then (hall i h).choose else default)[i]! = (hall i hi).choose := by
        simp [hi]
      rw [e]; exact (hall i hi).choose_spec
    refine ⟨xs, by omega, ⟨some a, m, by rw [hxl], by omega, by unfold maxLen at hm; omega, fun h0 => ?_⟩⟩
    have h00 := (hxs 0 (by omega)) 0 _ rfl
    obtain ⟨b, o, sp⟩ := a
    obtain rfl : sp = none := by simpa [Addr.add] using World.cell?_spot h00
    have hblk : b < W.heap.size := by simpa [Addr.add] using World.block_lt_of_cell? _ _ h00
    refine ⟨b, o, rfl, hblk, fun j hj i u hu => ?_⟩
    have := (hxs j (by omega)) i u hu
    have e : (⟨b, o, none⟩ : Addr).add (j * 3 + i) = ⟨b, o + (j * 3 + i), none⟩ := by unfold Addr.add; split <;> simp_all
    rw [e, ← Nat.add_assoc] at this
    exact this

set_option maxRecDepth 100000 in
theorem open_nums12 {H : Type} {enc : TypeId × Value → H} {W : World} {base : Nat} {v : Value} {d : DataW H} {p : List MemPlace} (hv : Value.okWide Try.prog W .any base 22 v)
    (h : DataW.Trod enc Try.prog W 0 (fun _ => true) true 22 v d p) (hz : ∀ n ∈ d.weights Try.prog 22, n ≤ reachBytes) :
    ∃ xs : List Int, Nv W W.heap.size v xs := by
  obtain ⟨ao, n, cap, rfl⟩ := okWide_slice Try.underlying22 hv
  obtain ⟨fuel, hf⟩ := h
  have hC : Try.prog.cellsOf 2 = 1 := by kernel_rfl
  have hb : Try.prog.bytesOf 2 = 8 := by kernel_rfl
  rcases open_slice Try.underlying22 hf with ⟨hcs, _⟩ | ⟨a, len, cp, m, fl, D, Pl, hcs, _, hl, hm, hmm, hx, hi⟩
  · simp only [Value.cells, List.cons.injEq, and_true] at hcs
    rw [hcs]
    exact ⟨[], by simp, (fun x hx => by cases hx), ⟨none, 0, rfl, by simp, by simp, fun h => by simp at h⟩⟩
  · simp only [Value.cells, List.cons.injEq, and_true] at hcs
    rw [hcs]
    clear hcs
    simp only [if_true] at hmm
    subst hmm
    rw [hC] at hi
    simp only [Prod.mk.injEq] at hx
    have hws : len * 8 ≤ 140737488355328 := by
      have h1 : (((List.range len).map D).length + ((List.range (m - len)).map fun j => D (len + j)).length) * Try.prog.bytesOf 2 ∈ d.weights Try.prog 22 := by
        rw [hx.1]; simp [DataW.weights, Try.underlying22]
      have h2 := hz _ h1
      rw [hb] at h2
      simp only [List.length_map, List.length_range] at h2
      have := reachBytes_lt
      omega
    have hall : ∀ i, i < len → ∃ x : Int, (-9223372036854775808 ≤ x ∧ x ≤ 9223372036854775807) ∧ W.cell? (a.add i) = some (.int .i64 x) := fun i him => by
      obtain ⟨cs', hc, ht⟩ := hi i (by omega)
      obtain ⟨x, rfl, _, hwf⟩ := DataW.trod_int Try.underlying2 ht
      obtain ⟨_, hcl, hat⟩ := World.cells?_some hc
      refine ⟨x, ?_, ?_⟩
      · simpa [Lit.wf, IntKind.signed, IntKind.bits, IntKind.min, IntKind.max] using hwf
      · rw [show i = i * 1 + 0 by omega, ← Go.Deep.add_add, hat 0 (by decide)]; rfl
    obtain ⟨xs, hxl, hxs⟩ : ∃ xs : List Int, xs.length = len ∧ ∀ i, i < len → (-9223372036854775808 ≤ xs[i]! ∧ xs[i]! ≤ 9223372036854775807) ∧ W.cell? (a.add i) = some (.int .i64 xs[i]!) := by
      refine ⟨(List.range len).map fun i => if h : i < len then (hall i h).choose else default, by simp, fun i hi => ?_⟩
      have e : ((List.range len).map fun i => if h : i < len then (hall i h).choose else default)[i]! = (hall i hi).choose := by
        simp [hi]
      rw [e]; exact (hall i hi).choose_spec
    refine ⟨xs, by omega, fun x hx => ?_, ⟨some a, m, by rw [hxl], by omega, by unfold maxLen at hm; omega, fun h0 => ?_⟩⟩
    · obtain ⟨j, hj, rfl⟩ := List.mem_iff_getElem.1 hx
      have := (hxs j (by omega)).1
      rwa [getElem!_pos xs j hj] at this
    · have h00 := (hxs 0 (by omega)).2
      obtain ⟨b, o, sp⟩ := a
      obtain rfl : sp = none := by simpa [Addr.add] using World.cell?_spot h00
      have hblk : b < W.heap.size := by simpa [Addr.add] using World.block_lt_of_cell? _ _ h00
      refine ⟨b, o, rfl, hblk, fun j hj => ?_⟩
      have := (hxs j (by omega)).2
      have e : (⟨b, o, none⟩ : Addr).add j = ⟨b, o + j, none⟩ := by unfold Addr.add; split <;> simp_all
      rw [e] at this
      exact this
end Go.Proofs.Ytclbfmjmamcjjaa
