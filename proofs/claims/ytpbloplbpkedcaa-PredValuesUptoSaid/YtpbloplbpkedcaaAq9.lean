/- What the arguments are in memory, as the statements hand them over: a node's own tests, an event. -/
import Derived.Test.YtpbloplbpkedcaaAp9
namespace Go.Proofs.Ytpbloplbpkedcaa
open Go Go.ChangeShapes Go.WideShapes Go.ChangeAt Go.RowKit Go.Deep
set_option linter.unusedVariables false

set_option maxRecDepth 100000 in
theorem open_conds_trod9 {H : Type} {enc : TypeId × Value → H} {W : World} {fuel : Nat} {v : Value} {y : DataW H × List MemPlace} (h : DataW.trod enc Try.prog W 0 (fun _ => true) true fuel 28 [v] = some y) :
    ∃ (l : List Cnd) (ao : Option Addr) (cap : Nat), v = .slice ao l.length cap ∧ CdV W (fun x => x < W.heap.size) (.slice ao l.length cap) l ∧ (∀ c ∈ l, wdC c) ∧ l.length ≤ Rows.uptoBulk y.1 := by
  have hC : Try.prog.cellsOf 27 = 11 := by kernel_rfl
  obtain ⟨ao, len, cap, elems, n, rfl, hlen, hl, hm, hn, hd, hh⟩ := open_row9 Try.underlying28 (by rw [hC]; omega) h
  by_cases he : elems = []
  · subst he
    obtain rfl : len = 0 := hlen.symm
    exact ⟨[], ao, cap, rfl, ⟨ao, cap, rfl, fun h => absurd rfl h⟩, (fun c h => by cases h), Nat.zero_le _⟩
  · obtain ⟨b, o, rfl, hbl, hel⟩ := hh he
    rw [hC] at hel
    rcases hd with hd | ⟨sp, hd⟩
    · exact absurd hd he
    · obtain ⟨l, h1, h2, _, h3⟩ := row_conds elems o hel
      refine ⟨l, _, cap, by rw [h1, hlen], ⟨_, cap, rfl, fun _ => ⟨b, o, rfl, hbl, h2⟩⟩, h3, ?_⟩
      rw [hd]
      simp only [Rows.uptoBulk]
      have := bulk_len (elems.map (·.1))
      rw [List.length_map] at this
      omega
set_option maxRecDepth 100000 in
theorem open_node9 {H : Type} {enc : TypeId × Value → H} {W : World} {base : Nat} {v : Value} {d : DataW H} {p : List MemPlace} (hv : Value.okWide Try.prog W .any base 31 v)
    (h : DataW.Trod enc Try.prog W 0 (fun _ => true) true 31 v d p) :
    ∃ (x : Nt) (ta : Option Addr) (tc : Nat) (kv : Value), v = .agg #[.int .i64 x.kind, .string x.var, .string x.ty, .slice ta x.tests.length tc, kv] ∧ CdV W (fun x => x < W.heap.size) (.slice ta x.tests.length tc) x.tests ∧ (∀ c ∈ x.tests, wdC c) ∧ x.tests.length ≤ Rows.uptoBulk d := by
  obtain ⟨cs, rfl, hsz⟩ := okWide_struct Try.underlying31 hv
  have hC : Try.prog.cellsOf 31 = 5 := by kernel_rfl
  have e3 : Try.prog.cellsOf 3 = 1 := by kernel_rfl
  have e9 : Try.prog.cellsOf 9 = 1 := by kernel_rfl
  have e7 : Try.prog.cellsOf 28 = 1 := by kernel_rfl
  have e8 : Try.prog.cellsOf 29 = 1 := by kernel_rfl
  obtain ⟨l⟩ := cs
  match l, hsz.trans hC with
  | [c0, c1, c2, c3, c4], _ =>
    obtain ⟨fuel, hf⟩ := h
    obtain ⟨xs, n, _, hx, _, hlen, hg⟩ := DataW.trod_struct Try.underlying31 hf
    match xs, hlen with
    | [y0, y1, y2, y3, y4], _ =>
      have g0 : DataW.trod enc Try.prog W 0 (fun _ => true) true n 3 [c0] = some y0 := by have := hg 0 _ rfl; simpa [Value.cells, e3] using this
      have g1 : DataW.trod enc Try.prog W 0 (fun _ => true) true n 9 [c1] = some y1 := by have := hg 1 _ rfl; simpa [Value.cells, e9, e3] using this
      have g2 : DataW.trod enc Try.prog W 0 (fun _ => true) true n 9 [c2] = some y2 := by have := hg 2 _ rfl; simpa [Value.cells, e9, e3] using this
      have g3 : DataW.trod enc Try.prog W 0 (fun _ => true) true n 28 [c3] = some y3 := by have := hg 3 _ rfl; simpa [Value.cells, e7, e9, e3] using this
      obtain ⟨kd, k0, _, _⟩ := DataW.trod_int Try.underlying3 g0
      obtain ⟨va, k1, _, _⟩ := DataW.trod_string Try.underlying9 g1
      obtain ⟨ty, k2, _, _⟩ := DataW.trod_string Try.underlying9 g2
      obtain ⟨l, ao, cap, rfl, hc, hw, hb⟩ := open_conds_trod9 g3
      simp only [List.cons.injEq, and_true] at k0 k1 k2
      subst k0 k1 k2
      refine ⟨⟨kd, va, ty, l⟩, ao, cap, c4, rfl, hc, hw, ?_⟩
      simp only [Prod.mk.injEq] at hx
      rw [hx.1]
      simp only [List.map_cons, List.map_nil, Rows.uptoBulk, Rows.uptoBulkAll]
      omega
set_option maxRecDepth 100000 in
theorem open_event_arg9 {H : Type} {enc : TypeId × Value → H} {W : World} {base : Nat} {v : Value} {d : DataW H} {p : List MemPlace} (hv : Value.okWide Try.prog W .any base 36 v)
    (h : DataW.Trod enc Try.prog W 0 (fun _ => true) true 36 v d p) (hs : Sml 36 d) :
    ∃ (src seq time : Int) (ty : ByteArray) (xs : List At) (aa : Option Addr) (ac : Nat), v = .agg #[.int .i64 src, .int .i64 seq, .int .i64 time, .string ty, .slice aa xs.length ac] ∧ Av W W.heap.size (.slice aa xs.length ac) xs ∧ xs.length + 1 ≤ Rows.uptoBulk d := by
  obtain ⟨⟨l⟩, rfl, hsz⟩ := okWide_struct Try.underlying36 hv
  obtain ⟨fuel, hf⟩ := h
  simp only [Value.cells] at hf
  obtain ⟨src, seq, time, ty, xs, aa, ac, he, h1, h2⟩ := open_event9 hf hs
  obtain rfl : l = _ := he
  exact ⟨src, seq, time, ty, xs, aa, ac, rfl, h1, h2⟩
end Go.Proofs.Ytpbloplbpkedcaa
