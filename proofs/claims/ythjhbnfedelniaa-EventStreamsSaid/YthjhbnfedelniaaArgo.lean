/- What the arguments are in memory, as the statements hand them over: a script's operations. -/
import Derived.Test.YthjhbnfedelniaaArg4
import Derived.Test.YthjhbnfedelniaaCls
namespace Go.Proofs.Ythjhbnfedelniaa
open Go Go.ChangeShapes Go.WideShapes Go.ChangeAt Go.RowKit Go.Deep
set_option linter.unusedVariables false

/-- An operation of a script; its cells. -/
structure Op4 where
  do_ : Int
  ev : Ev
  v : Value
  src : Int
  deriving Inhabited
def encO (o : Op4) : List Value := [.int .i64 o.do_, .int .i64 o.ev.src, .int .i64 o.ev.seq, .int .i64 o.ev.time, .string o.ev.ty, o.v, .int .i64 o.src]
/-- In w the value v is a slice of operations below block B; each event's attributes lie below B, too. -/
structure Ov (w : World) (B : Nat) (v : Value) (xs : List Op4) : Prop where
  len : xs.length ≤ 140737488355328
  row : ∃ ao cap, v = .slice ao xs.length cap ∧ xs.length ≤ cap ∧ cap ≤ 9223372036854775807 ∧ (0 < xs.length → ∃ b o, ao = some ⟨b, o, none⟩ ∧ b < B ∧ ∀ j, j < xs.length → ∀ i u, (encO xs[j]!)[i]? = some u → w.cell? ⟨b, o + j * 7 + i, none⟩ = some u)
  each : ∀ x ∈ xs, x.ev.ty.size ≤ maxLen ∧ (∃ ao n cap, x.v = .slice ao n cap ∧ Av w B (.slice ao n cap) x.ev.ats ∧ (ao = none → cap = 0)) ∧ ∀ y ∈ x.ev.ats, (Lit.int .i64 y.n).wf = true

set_option maxRecDepth 100000 in
theorem open_event_trod {H : Type} {enc : TypeId × Value → H} {W : World} {fuel : Nat} {c0 c1 c2 c3 c4 : Value} {d : DataW H} {p : List MemPlace} (hf : DataW.trod enc Try.prog W 0 (fun _ => true) true fuel 35 [c0, c1, c2, c3, c4] = some (d, p)) (hz : ∀ n ∈ d.weights Try.prog 35, n ≤ reachBytes) :
    ∃ (ev : Ev) (ao : Option Addr) (n cap : Nat), [c0, c1, c2, c3, c4] = evCells ev (.slice ao n cap) ∧ Av W W.heap.size (.slice ao n cap) ev.ats ∧ ev.ty.size ≤ maxLen ∧ (ao = none → cap = 0) ∧ ∀ x ∈ ev.ats, (Lit.int .i64 x.n).wf = true := by
  obtain ⟨xs, n, _, hx, _, hlen, hg⟩ := DataW.trod_struct Try.underlying35 hf
  match xs, hlen with
  | [y0, y1, y2, y3], _ =>
    have e23 : Try.prog.cellsOf 32 = 2 := by kernel_rfl
    have e3 : Try.prog.cellsOf 3 = 1 := by kernel_rfl
    have e2 : Try.prog.cellsOf 2 = 1 := by kernel_rfl
    have e9 : Try.prog.cellsOf 9 = 1 := by kernel_rfl
    have e24 : Try.prog.cellsOf 33 = 1 := by kernel_rfl
    have g0 : DataW.trod enc Try.prog W 0 (fun _ => true) true n 32 [c0, c1] = some y0 := by have := hg 0 _ rfl; simpa [Value.cells, e23, e3, e2, e9, e24] using this
    have g1 : DataW.trod enc Try.prog W 0 (fun _ => true) true n 2 [c2] = some y1 := by have := hg 1 _ rfl; simpa [Value.cells, e23, e3, e2, e9, e24] using this
    have g2 : DataW.trod enc Try.prog W 0 (fun _ => true) true n 9 [c3] = some y2 := by have := hg 2 _ rfl; simpa [Value.cells, e23, e3, e2, e9, e24] using this
    have g3 : DataW.trod enc Try.prog W 0 (fun _ => true) true n 33 [c4] = some y3 := by have := hg 3 _ rfl; simpa [Value.cells, e23, e3, e2, e9, e24] using this
    obtain ⟨zs, m, _, hzz, _, hzl, hf2⟩ := DataW.trod_struct Try.underlying32 g0
    match zs, hzl with
    | [z0, z1], _ =>
      have f0 : DataW.trod enc Try.prog W 0 (fun _ => true) true m 3 [c0] = some z0 := by have := hf2 0 _ rfl; simpa [e3, e2] using this
      have f1 : DataW.trod enc Try.prog W 0 (fun _ => true) true m 2 [c1] = some z1 := by have := hf2 1 _ rfl; simpa [e3, e2] using this
      obtain ⟨a, k0, _, _⟩ := DataW.trod_int Try.underlying3 f0
      obtain ⟨b, k1, _, _⟩ := DataW.trod_int Try.underlying2 f1
      obtain ⟨t, k2, _, _⟩ := DataW.trod_int Try.underlying2 g1
      obtain ⟨s, k3, _, hs⟩ := DataW.trod_string Try.underlying9 g2
      simp only [List.cons.injEq, and_true] at k0 k1 k2 k3
      subst k0 k1 k2 k3
      simp only [Prod.mk.injEq] at hx
      obtain ⟨d3, p3⟩ := y3
      have hw : ∀ n ∈ d3.weights Try.prog 33, n ≤ reachBytes := by
        intro n hn
        refine hz n ?_
        rw [hx.1]
        simp only [DataW.weights, Try.underlying35]
        exact DataW.weights_mem_each (j := 3) (t := 33) rfl rfl n hn
      obtain ⟨xs, hav, hnil, hwf⟩ := open_attrs_trod g3 hw
      obtain ⟨ao, cap, rfl⟩ := hav.shape
      exact ⟨⟨a, b, t, s, xs⟩, ao, xs.length, cap, rfl, hav, hs, (fun e => by subst e; exact hnil _ _ rfl), hwf⟩

set_option maxRecDepth 100000 in
theorem open_op {H : Type} {enc : TypeId × Value → H} {W : World} {fuel : Nat} {cs : List Value} {d : DataW H} {p : List MemPlace} (h : DataW.trod enc Try.prog W 0 (fun _ => true) true fuel 37 cs = some (d, p)) (hz : ∀ n ∈ d.weights Try.prog 37, n ≤ reachBytes) :
    ∃ x : Op4, cs = encO x ∧ x.ev.ty.size ≤ maxLen ∧ (∃ ao n cap, x.v = .slice ao n cap ∧ Av W W.heap.size (.slice ao n cap) x.ev.ats ∧ (ao = none → cap = 0)) ∧ ∀ y ∈ x.ev.ats, (Lit.int .i64 y.n).wf = true := by
  obtain ⟨xs, n, _, hx, hcl, hlen, hg⟩ := DataW.trod_struct Try.underlying37 h
  have hC : Try.prog.cellsOf 37 = 7 := by kernel_rfl
  have e3 : Try.prog.cellsOf 3 = 1 := by kernel_rfl
  have e26 : Try.prog.cellsOf 35 = 5 := by kernel_rfl
  rw [hC] at hcl
  match cs, hcl, xs, hlen with
  | [c0, c1, c2, c3, c4, c5, c6], _, [y0, y1, y2], _ =>
    have g0 : DataW.trod enc Try.prog W 0 (fun _ => true) true n 3 [c0] = some y0 := by have := hg 0 _ rfl; simpa [e3, e26] using this
    have g1 : DataW.trod enc Try.prog W 0 (fun _ => true) true n 35 [c1, c2, c3, c4, c5] = some y1 := by have := hg 1 _ rfl; simpa [e3, e26] using this
    have g2 : DataW.trod enc Try.prog W 0 (fun _ => true) true n 3 [c6] = some y2 := by have := hg 2 _ rfl; simpa [e3, e26] using this
    obtain ⟨a, k0, _, _⟩ := DataW.trod_int Try.underlying3 g0
    obtain ⟨b, k2, _, _⟩ := DataW.trod_int Try.underlying3 g2
    simp only [List.cons.injEq, and_true] at k0 k2
    simp only [Prod.mk.injEq] at hx
    obtain ⟨d1, p1⟩ := y1
    have hw : ∀ n ∈ d1.weights Try.prog 35, n ≤ reachBytes := by
      intro n hn
      refine hz n ?_
      rw [hx.1]
      simp only [DataW.weights, Try.underlying37]
      exact DataW.weights_mem_each (j := 1) (t := 35) rfl rfl n hn
    obtain ⟨ev, ao, m, cap, hcs, hav, hty, hnil, hwf⟩ := open_event_trod g1 hw
    subst k0 k2
    refine ⟨⟨a, ev, .slice ao m cap, b⟩, ?_, hty, ⟨ao, m, cap, rfl, hav, hnil⟩, hwf⟩
    simp only [evCells, List.cons.injEq, and_true] at hcs
    obtain ⟨rfl, rfl, rfl, rfl, rfl⟩ := hcs
    rfl

theorem encO_len (x : Op4) : (encO x).length = 7 := rfl
theorem weights_all_mem {H : Type} {P : Program} {e : TypeId} : ∀ {l : List (DataW H)} {d : DataW H}, d ∈ l → ∀ n ∈ d.weights P e, n ∈ DataW.weightsAll P e l
  | [], d, hd, n, _ => by cases hd
  | a :: r, d, hd, n, hn => by
    simp only [DataW.weightsAll, List.mem_append]
    rcases List.mem_cons.1 hd with rfl | hd
    · exact .inl hn
    · exact .inr (weights_all_mem hd n hn)
set_option maxRecDepth 100000 in
theorem open_ops {H : Type} {enc : TypeId × Value → H} {W : World} {base : Nat} {v : Value} {d : DataW H} {p : List MemPlace} (hv : Value.okWide Try.prog W .any base 22 v)
    (h : DataW.Trod enc Try.prog W 0 (fun _ => true) true 22 v d p) (hz : ∀ n ∈ d.weights Try.prog 22, n ≤ reachBytes) :
    ∃ xs : List Op4, Ov W W.heap.size v xs := by
  obtain ⟨ao, n, cap, rfl⟩ := okWide_slice Try.underlying22 hv
  obtain ⟨fuel, hf⟩ := h
  have hC : Try.prog.cellsOf 37 = 7 := by kernel_rfl
  have hb : Try.prog.bytesOf 37 = 80 := by kernel_rfl
  rcases open_slice Try.underlying22 hf with ⟨hcs, _⟩ | ⟨a, len, cp, m, fl, D, Pl, hcs, _, hl, hm, hmm, hx, hi⟩
  · simp only [Value.cells, List.cons.injEq, and_true] at hcs
    rw [hcs]
    exact ⟨[], by simp, ⟨none, 0, rfl, by simp, by simp, fun h => by simp at h⟩, fun x hx => by cases hx⟩
  · simp only [Value.cells, List.cons.injEq, and_true] at hcs
    rw [hcs]
    clear hcs
    simp only [if_true] at hmm
    subst hmm
    rw [hC] at hi
    simp only [Prod.mk.injEq] at hx
    have hws : len * 80 ≤ 140737488355328 := by
      have h1 : (((List.range len).map D).length + ((List.range (m - len)).map fun j => D (len + j)).length) * Try.prog.bytesOf 37 ∈ d.weights Try.prog 22 := by
        rw [hx.1]; simp [DataW.weights, Try.underlying22]
      have h2 := hz _ h1
      rw [hb] at h2
      simp only [List.length_map, List.length_range] at h2
      have := reachBytes_lt
      omega
    have hall : ∀ i, i < len → ∃ x : Op4, (∀ c u, (encO x)[c]? = some u → W.cell? (a.add (i * 7 + c)) = some u) ∧ x.ev.ty.size ≤ maxLen ∧ (∃ ao n cap, x.v = .slice ao n cap ∧ Av W W.heap.size (.slice ao n cap) x.ev.ats ∧ (ao = none → cap = 0)) ∧ ∀ y ∈ x.ev.ats, (Lit.int .i64 y.n).wf = true := fun i him => by
      obtain ⟨cs', hc, ht⟩ := hi i (by omega)
      obtain ⟨x, rfl, h1, h2, h3⟩ := open_op ht (fun n hn => hz n (by
        rw [hx.1]
        simp only [DataW.weights, Try.underlying22]
        exact List.mem_cons_of_mem _ (List.mem_append.2 (.inl (weights_all_mem (List.mem_map.2 ⟨i, List.mem_range.2 him, rfl⟩) n hn)))))
      obtain ⟨_, hcl, hat⟩ := World.cells?_some hc
      refine ⟨x, fun c u hu => ?_, h1, h2, h3⟩
      have hc7 : c < 7 := by have := (List.getElem?_eq_some_iff.1 hu).1; simpa [encO_len] using this
      rw [← Go.Deep.add_add, hat c hc7, hu]
    obtain ⟨xs, hxl, hxs⟩ : ∃ xs : List Op4, xs.length = len ∧ ∀ i, i < len → (∀ c u, (encO xs[i]!)[c]? = some u → W.cell? (a.add (i * 7 + c)) = some u) ∧ xs[i]!.ev.ty.size ≤ maxLen ∧ (∃ ao n cap, xs[i]!.v = .slice ao n cap ∧ Av W W.heap.size (.slice ao n cap) xs[i]!.ev.ats ∧ (ao = none → cap = 0)) ∧ ∀ y ∈ xs[i]!.ev.ats, (Lit.int .i64 y.n).wf = true := by
      refine ⟨(List.range len).map fun i => if h : i < len then (hall i h).choose else default, by simp, fun i hi => ?_⟩
      have e : ((List.range len).map fun i => if h : i < len then (hall i h).choose else default)[i]! = (hall i hi).choose := by
        simp [hi]
      rw [e]; exact (hall i hi).choose_spec
    refine ⟨xs, by omega, ⟨some a, m, by rw [hxl], by omega, by unfold maxLen at hm; omega, fun h0 => ?_⟩, fun x hx => ?_⟩
    · have h00 := (hxs 0 (by omega)).1 0 _ rfl
      obtain ⟨b, o, sp⟩ := a
      obtain rfl : sp = none := by simpa [Addr.add] using World.cell?_spot h00
      have hblk : b < W.heap.size := by simpa [Addr.add] using World.block_lt_of_cell? _ _ h00
      refine ⟨b, o, rfl, hblk, fun j hj i u hu => ?_⟩
      have := (hxs j (by omega)).1 i u hu
      have e : (⟨b, o, none⟩ : Addr).add (j * 7 + i) = ⟨b, o + (j * 7 + i), none⟩ := by unfold Addr.add; split <;> simp_all
      rw [e, ← Nat.add_assoc] at this
      exact this
    · obtain ⟨i, hi, rfl⟩ := List.mem_iff_getElem.1 hx
      have := (hxs i (by omega)).2
      rwa [getElem!_pos xs i hi] at this
end Go.Proofs.Ythjhbnfedelniaa
