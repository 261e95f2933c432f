/- What a pattern is in memory, as the statements hand it over. -/
import Derived.Test.YtnfjodkpapmfkaaArg7
import Derived.Test.YtnfjodkpapmfkaaPt7
namespace Go.Proofs.Ytnfjodkpapmfkaa
open Go Go.ChangeShapes Go.WideShapes Go.ChangeAt Go.RowKit Go.Deep
set_option linter.unusedVariables false

set_option maxRecDepth 100000 in
theorem open_pattern7 {H : Type} {enc : TypeId × Value → H} {W : World} {base : Nat} {v : Value} {d : DataW H} {p : List MemPlace} (hv : Value.okWide Try.prog W .any base 27 v)
    (h : DataW.Trod enc Try.prog W 0 (fun _ => true) true 27 v d p) : ∃ x : Pt, PtV W (fun x => x < W.heap.size) x v ∧ szP x ≤ Rows.uptoBulk d := by
  obtain ⟨⟨cs⟩, rfl, hsz⟩ := okWide_struct Try.underlying27 hv
  have hC : Try.prog.cellsOf 27 = 8 := by kernel_rfl
  have e3 : Try.prog.cellsOf 3 = 1 := by kernel_rfl
  have e2 : Try.prog.cellsOf 2 = 1 := by kernel_rfl
  have e9 : Try.prog.cellsOf 9 = 1 := by kernel_rfl
  have e7 : Try.prog.cellsOf 22 = 1 := by kernel_rfl
  have e5 : Try.prog.cellsOf 25 = 5 := by kernel_rfl
  obtain ⟨fuel, hf⟩ := h
  obtain ⟨xs, n, hn, hx, _, hlen, hg⟩ := DataW.trod_struct Try.underlying27 hf
  match cs, hsz.trans hC, xs, hlen with
  | [c0, c1, c2, c3, c4, c5, c6, c7], _, [y0, y1, y2, y3], _ =>
    have g0 : DataW.trod enc Try.prog W 0 (fun _ => true) true n 9 [c0] = some y0 := by have := hg 0 _ rfl; simpa [Value.cells, e9] using this
    have g1 := hg 1 _ rfl
    have g2 : DataW.trod enc Try.prog W 0 (fun _ => true) true n 25 [c2, c3, c4, c5, c6] = some y2 := by have := hg 2 _ rfl; simpa [Value.cells, e5] using this
    have g3 : DataW.trod enc Try.prog W 0 (fun _ => true) true n 22 [c7] = some y3 := by have := hg 3 _ rfl; simpa [Value.cells, e7] using this
    simp [Value.cells, e2, e3] at g1
    obtain ⟨nm, k0, hy0, _⟩ := DataW.trod_string Try.underlying9 g0
    obtain ⟨wn, k1, _, _⟩ := DataW.trod_int (by first | exact Try.underlying2 | exact Try.underlying3) g1
    obtain ⟨x, k, tv, kv, he, h1, h2, h3⟩ := open_node_trod _ _ _ g2
    obtain ⟨wh, hw, hs, _⟩ := open_conds g3
    simp only [List.cons.injEq, and_true] at k0 k1 he
    obtain ⟨rfl, rfl, rfl, rfl, rfl⟩ := he
    subst k0 k1
    obtain ⟨ta, tc, rfl, ht⟩ := h1
    obtain ⟨ka, kc, rfl, hk⟩ := h2
    obtain ⟨wa, wc, rfl, hw⟩ := hw
    refine ⟨⟨nm, wn, x, k, wh⟩, ⟨ta, tc, ka, kc, wa, wc, rfl, ⟨_, _, rfl, ht⟩, ⟨_, _, rfl, hk⟩, ⟨_, _, rfl, hw⟩⟩, ?_⟩
    simp only [Prod.mk.injEq] at hx
    rw [hx.1]
    subst hy0
    have s1 : nm.data.toList.length = nm.size := rfl
    simp only [List.map_cons, List.map_nil, Rows.uptoBulk, Rows.uptoBulkAll, szP]
    omega

end Go.Proofs.Ytnfjodkpapmfkaa
