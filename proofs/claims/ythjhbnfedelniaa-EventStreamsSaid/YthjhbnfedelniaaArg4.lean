/- What the arguments are in memory, as the statements hand them over: events. -/
import Derived.Test.YthjhbnfedelniaaEc
import Derived.ProofKit
import Derived.OpenShut
import Derived.ChangeMaps5
import Derived.ShutString
import Derived.Deep.Slices
import Derived.Deep.Fields
import Derived.ChangeSame
import Derived.JoinedCond
import Derived.SizedLaws
namespace Go.Proofs.Ythjhbnfedelniaa
open Go Go.ChangeShapes Go.WideShapes Go.ChangeAt Go.RowKit Go.Deep
set_option linter.unusedVariables false

set_option maxRecDepth 100000 in
theorem open_attr {H : Type} {enc : TypeId × Value → H} {W : World} {fuel : Nat} {cs : List Value} {y : DataW H × List MemPlace} (h : DataW.trod enc Try.prog W 0 (fun _ => true) true fuel 57 cs = some y) :
    ∃ x : At, cs = enc4 x ∧ x.name.size ≤ maxLen ∧ x.s.size ≤ maxLen ∧ (Lit.int .i64 x.n).wf = true := by
  obtain ⟨xs, n, _, hx, hcl, hlen, hg⟩ := DataW.trod_struct Try.underlying57 h
  have hC : Try.prog.cellsOf 57 = 4 := by kernel_rfl
  have e3 : Try.prog.cellsOf 3 = 1 := by kernel_rfl
  have e2 : Try.prog.cellsOf 2 = 1 := by kernel_rfl
  have e9 : Try.prog.cellsOf 9 = 1 := by kernel_rfl
  have e23 : Try.prog.cellsOf 55 = 3 := by kernel_rfl
  rw [hC] at hcl
  match cs, hcl, xs, hlen with
  | [c0, c1, c2, c3], _, [y0, y1], _ =>
    have g0 : DataW.trod enc Try.prog W 0 (fun _ => true) true n 9 [c0] = some y0 := by have := hg 0 _ rfl; simpa [e9] using this
    have g1 : DataW.trod enc Try.prog W 0 (fun _ => true) true n 55 [c1, c2, c3] = some y1 := by have := hg 1 _ rfl; simpa [e23] using this
    obtain ⟨zs, m, _, hz, _, hzl, hf⟩ := DataW.trod_struct Try.underlying55 g1
    match zs, hzl with
    | [z0, z1, z2], _ =>
      have f0 : DataW.trod enc Try.prog W 0 (fun _ => true) true m 3 [c1] = some z0 := by have := hf 0 _ rfl; simpa [e3, e2, e9] using this
      have f1 : DataW.trod enc Try.prog W 0 (fun _ => true) true m 2 [c2] = some z1 := by have := hf 1 _ rfl; simpa [e3, e2, e9] using this
      have f2 : DataW.trod enc Try.prog W 0 (fun _ => true) true m 9 [c3] = some z2 := by have := hf 2 _ rfl; simpa [e3, e2, e9] using this
      obtain ⟨nm, k0, _, hn⟩ := DataW.trod_string Try.underlying9 g0
      obtain ⟨k, k1, _, _⟩ := DataW.trod_int Try.underlying3 f0
      obtain ⟨q, k2, _, hq⟩ := DataW.trod_int Try.underlying2 f1
      obtain ⟨s, k3, _, hs⟩ := DataW.trod_string Try.underlying9 f2
      simp only [List.cons.injEq, and_true] at k0 k1 k2 k3
      subst k0 k1 k2 k3
      exact ⟨⟨nm, k, q, s⟩, rfl, hn, hs, hq⟩

set_option maxRecDepth 100000 in
theorem open_attrs_trod {H : Type} {enc : TypeId × Value → H} {W : World} {v : Value} {d : DataW H} {p : List MemPlace} {fuel : Nat}
    (hf : DataW.trod enc Try.prog W 0 (fun _ => true) true fuel 33 [v] = some (d, p)) (hz : ∀ n ∈ d.weights Try.prog 33, n ≤ reachBytes) :
    ∃ xs : List At, Av W W.heap.size v xs ∧ (∀ c n, v = .slice none n c → c = 0) ∧ ∀ x ∈ xs, (Lit.int .i64 x.n).wf = true := by
  have hC : Try.prog.cellsOf 57 = 4 := by kernel_rfl
  have hb : Try.prog.bytesOf 57 = 48 := by kernel_rfl
  rcases open_slice Try.underlying33 hf with ⟨hcs, _⟩ | ⟨a, len, cp, m, fl, D, Pl, hcs, _, hl, hm, hmm, hx, hi⟩
  · simp only [List.cons.injEq, and_true] at hcs
    rw [hcs]
    exact ⟨[], Av.nil _ _, fun c n e => by simp only [Value.slice.injEq] at e; exact e.2.2.symm, fun x hx => by cases hx⟩
  · simp only [List.cons.injEq, and_true] at hcs
    rw [hcs]
    clear hcs
    simp only [if_true] at hmm
    subst hmm
    rw [hC] at hi
    have hall : ∀ i, i < m → ∃ x : At, (∀ c u, (enc4 x)[c]? = some u → W.cell? (a.add (i * 4 + c)) = some u) ∧ x.name.size ≤ maxLen ∧ x.s.size ≤ maxLen ∧ (Lit.int .i64 x.n).wf = true := fun i him => by
      obtain ⟨cs', hc, ht⟩ := hi i him
      obtain ⟨x, rfl, h1, h2, h3⟩ := open_attr ht
      obtain ⟨_, hcl, hat⟩ := World.cells?_some hc
      refine ⟨x, fun c u hu => ?_, h1, h2, h3⟩
      have hc4 : c < 4 := by have := (List.getElem?_eq_some_iff.1 hu).1; simpa [enc4_len] using this
      rw [← Go.Deep.add_add, hat c hc4, hu]
    have hws : len * 48 ≤ 140737488355328 := by
      simp only [Prod.mk.injEq] at hx
      have h1 : (((List.range len).map D).length + ((List.range (m - len)).map fun j => D (len + j)).length) * Try.prog.bytesOf 57 ∈ d.weights Try.prog 33 := by
        rw [hx.1]; simp [DataW.weights, Try.underlying33]
      have h2 := hz _ h1
      rw [hb] at h2
      simp only [List.length_map, List.length_range] at h2
      have := reachBytes_lt
      omega
    obtain ⟨xs, hxl, hxs⟩ : ∃ xs : List At, xs.length = len ∧ ∀ i, i < len → (∀ c u, (enc4 xs[i]!)[c]? = some u → W.cell? (a.add (i * 4 + c)) = some u) ∧ xs[i]!.name.size ≤ maxLen ∧ xs[i]!.s.size ≤ maxLen ∧ (Lit.int .i64 xs[i]!.n).wf = true := by
      refine ⟨(List.range len).map fun i => if h : i < m then (hall i h).choose else default, by simp, fun i hi => ?_⟩
      have e : ((List.range len).map fun i => if h : i < m then (hall i h).choose else default)[i]! = (hall i (by omega)).choose := by
        simp [hi, show i < m by omega]
      rw [e]; exact (hall i (by omega)).choose_spec
    refine ⟨xs, ⟨fun x hx => ?_, by omega, some a, m, by rw [hxl], by omega, by unfold maxLen at hm; omega, fun h0 => ?_⟩, (fun c n e => by simp at e), fun x hx => by
      obtain ⟨i, hi, rfl⟩ := List.mem_iff_getElem.1 hx
      have := (hxs i (by omega)).2.2.2
      rwa [getElem!_pos xs i hi] at this⟩
    · obtain ⟨i, hi, rfl⟩ := List.mem_iff_getElem.1 hx
      have := (hxs i (by omega)).2
      rw [getElem!_pos xs i hi] at this
      exact ⟨this.1, this.2.1⟩
    · have h00 := (hxs 0 (by omega)).1 0 _ rfl
      obtain ⟨b, o, sp⟩ := a
      obtain rfl : sp = none := by simpa [Addr.add] using World.cell?_spot h00
      have hblk : b < W.heap.size := by simpa [Addr.add] using World.block_lt_of_cell? _ _ h00
      refine ⟨b, o, rfl, hblk, fun j hj i u hu => ?_⟩
      have := (hxs j (by omega)).1 i u hu
      have e : (⟨b, o, none⟩ : Addr).add (j * 4 + i) = ⟨b, o + (j * 4 + i), none⟩ := by unfold Addr.add; split <;> simp_all
      rw [e, ← Nat.add_assoc] at this
      exact this

set_option maxRecDepth 100000 in
/-- An event, field by field. -/
theorem open_event {H : Type} {enc : TypeId × Value → H} {W : World} {base : Nat} {v : Value} {d : DataW H} {p : List MemPlace} (hv : Value.okWide Try.prog W .any base 35 v)
    (h : DataW.Trod enc Try.prog W 0 (fun _ => true) true 35 v d p) (hz : ∀ n ∈ d.weights Try.prog 35, n ≤ reachBytes) :
    ∃ (ev : Ev) (ao : Option Addr) (n cap : Nat), v = evV ev (.slice ao n cap) ∧ Av W W.heap.size (.slice ao n cap) ev.ats ∧ ev.ty.size ≤ maxLen ∧ (ao = none → cap = 0) ∧ ∀ x ∈ ev.ats, (Lit.int .i64 x.n).wf = true := by
  obtain ⟨cs, rfl, hsz⟩ := okWide_struct Try.underlying35 hv
  have hC : Try.prog.cellsOf 35 = 5 := by kernel_rfl
  obtain ⟨l⟩ := cs
  match l, hsz.trans hC with
  | [c0, c1, c2, c3, c4], _ =>
    obtain ⟨fuel, hf⟩ := h
    obtain ⟨xs, n, _, hx, _, hlen, hg⟩ := DataW.trod_struct Try.underlying35 hf
    match xs, hlen with
    | [y0, y1, y2, y3], _ =>
      have e23 : Try.prog.cellsOf 32 = 2 := by kernel_rfl
      have e3 : Try.prog.cellsOf 3 = 1 := by kernel_rfl
      have e2 : Try.prog.cellsOf 2 = 1 := by kernel_rfl
      have e9 : Try.prog.cellsOf 9 = 1 := by kernel_rfl
      have e24 : Try.prog.cellsOf 33 = 1 := by kernel_rfl
      have g0 : DataW.trod enc Try.prog W 0 (fun _ => true) true n 32 [c0, c1] = some y0 := by have := hg 0 _ rfl; simpa [Value.cells, e23, e3, e2, e9, e24] using this
      have g1 : DataW.trod enc Try.prog W 0 (fun _ => true) true n 2 [c2] = some y1 := by have := hg 1 _ rfl; simpa [Value.cells, e23, e3, e2, e9, e24] using this
      have g2 : DataW.trod enc Try.prog W 0 (fun _ => true) true n 9 [c3] = some y2 := by have := hg 2 _ rfl; simpa [Value.cells, e23, e3, e2, e9, e24] using this
      have g3 : DataW.trod enc Try.prog W 0 (fun _ => true) true n 33 [c4] = some y3 := by have := hg 3 _ rfl; simpa [Value.cells, e23, e3, e2, e9, e24] using this
      obtain ⟨zs, m, _, hzz, _, hzl, hf2⟩ := DataW.trod_struct Try.underlying32 g0
      match zs, hzl with
      | [z0, z1], _ =>
        have f0 : DataW.trod enc Try.prog W 0 (fun _ => true) true m 3 [c0] = some z0 := by have := hf2 0 _ rfl; simpa [e3, e2] using this
        have f1 : DataW.trod enc Try.prog W 0 (fun _ => true) true m 2 [c1] = some z1 := by have := hf2 1 _ rfl; simpa [e3, e2] using this
        obtain ⟨a, k0, _, _⟩ := DataW.trod_int Try.underlying3 f0
        obtain ⟨b, k1, _, _⟩ := DataW.trod_int Try.underlying2 f1
        obtain ⟨t, k2, _, _⟩ := DataW.trod_int Try.underlying2 g1
        obtain ⟨s, k3, _, hs⟩ := DataW.trod_string Try.underlying9 g2
        simp only [List.cons.injEq, and_true] at k0 k1 k2 k3
        subst k0 k1 k2 k3
        simp only [Prod.mk.injEq] at hx
        obtain ⟨d3, p3⟩ := y3
        have hw : ∀ n ∈ d3.weights Try.prog 33, n ≤ reachBytes := by
          intro n hn
          refine hz n ?_
          rw [hx.1]
          simp only [DataW.weights, Try.underlying35]
          exact DataW.weights_mem_each (j := 3) (t := 33) rfl rfl n hn
        obtain ⟨xs, hav, hnil, hwf⟩ := open_attrs_trod g3 hw
        obtain ⟨ao, cap, rfl⟩ := hav.shape
        exact ⟨⟨a, b, t, s, xs⟩, ao, xs.length, cap, rfl, hav, hs, (fun e => by subst e; exact hnil _ _ rfl), hwf⟩
end Go.Proofs.Ythjhbnfedelniaa
