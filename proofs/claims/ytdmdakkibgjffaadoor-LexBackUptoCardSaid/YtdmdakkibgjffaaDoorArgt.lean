/- What a list of words is in memory, as the statement hands it over, where its bulk is bounded. -/
import Derived.Test.YtdmdakkibgjffaaDoorArg5
import Derived.Test.YtdmdakkibgjffaaDoorLjo
namespace Go.Proofs.YtdmdakkibgjffaaDoor
open Go Go.ChangeShapes Go.WideShapes Go.ChangeAt Go.RowKit Go.Deep

def bl (ts : List Tok) : Nat := (ts.map fun t => t.text.data.toList.length + 1).sum
theorem jn_len : ∀ ts : List Tok, (jn ts).length ≤ bl ts
  | [] => Nat.le_refl _
  | [t] => by simp [jn, bl]
  | t :: u :: r => by
    have ih := jn_len (u :: r)
    have e : (jn (t :: u :: r)).length = t.text.data.toList.length + (1 + (jn (u :: r)).length) := by
      show (t.text.data.toList ++ 32 :: jn (u :: r)).length = _
      rw [List.length_append, List.length_cons]; omega
    rw [e]
    unfold bl at ih ⊢
    rw [List.map_cons, List.sum_cons]
    omega
theorem bl_mem {ts : List Tok} {x : Tok} (h : x ∈ ts) : x.text.data.toList.length + 1 ≤ bl ts := by
  induction ts with
  | nil => cases h
  | cons t r ih =>
    unfold bl at ih ⊢
    rw [List.map_cons, List.sum_cons]
    rcases List.mem_cons.1 h with rfl | h
    · omega
    · have := ih h; omega
theorem bl_count (ts : List Tok) : ts.length ≤ bl ts := by
  induction ts with
  | nil => exact Nat.le_refl _
  | cons t r ih =>
    unfold bl at ih ⊢
    rw [List.map_cons, List.sum_cons, List.length_cons]; omega
theorem bl_bulk {H : Type} : ∀ (ts : List Tok) (D : Nat → DataW H), (∀ i (hi : i < ts.length), ts[i].text.data.toList.length + 1 ≤ Rows.uptoBulk (D i)) → bl ts ≤ Rows.uptoBulkAll ((List.range ts.length).map D)
  | [], _, _ => Nat.zero_le _
  | t :: r, D, h => by
    have ih := bl_bulk r (fun i => D (i + 1)) (fun i hi => h (i + 1) (by simpa using hi))
    have h0 := h 0 (by simp)
    rw [List.length_cons, List.range_succ_eq_map, List.map_cons, List.map_map]
    unfold bl at ih ⊢
    rw [List.map_cons, List.sum_cons]
    simp only [Rows.uptoBulkAll]
    have e : (List.range r.length).map (D ∘ Nat.succ) = (List.range r.length).map fun i => D (i + 1) := rfl
    rw [e]
    simp only [List.getElem_cons_zero] at h0
    omega

set_option maxRecDepth 100000 in
theorem open_token {H : Type} {enc : TypeId × Value → H} {W : World} {fuel : Nat} {cs : List Value} {y : DataW H × List MemPlace} (h : DataW.trod enc Tryd.prog W 0 (fun _ => true) true fuel 42 cs = some y) :
    ∃ x : Tok, cs = encT x ∧ x.text.data.toList.length + 1 ≤ Rows.uptoBulk y.1 := by
  obtain ⟨xs, n, _, hx, hcl, hlen, hg⟩ := DataW.trod_struct Tryd.underlying42 h
  have hC : Tryd.prog.cellsOf 42 = 6 := by kernel_rfl
  have e3 : Tryd.prog.cellsOf 3 = 1 := by kernel_rfl
  have e2 : Tryd.prog.cellsOf 2 = 1 := by kernel_rfl
  have e9 : Tryd.prog.cellsOf 9 = 1 := by kernel_rfl
  have e23 : Tryd.prog.cellsOf 40 = 3 := by kernel_rfl
  rw [hC] at hcl
  match cs, hcl, xs, hlen with
  | [c0, c1, c2, c3, c4, c5], _, [y0, y1, y2, y3], _ =>
    have g0 : DataW.trod enc Tryd.prog W 0 (fun _ => true) true n 3 [c0] = some y0 := by have := hg 0 _ rfl; simpa [e3] using this
    have g1 : DataW.trod enc Tryd.prog W 0 (fun _ => true) true n 9 [c1] = some y1 := by have := hg 1 _ rfl; simpa [e9] using this
    have g2 : DataW.trod enc Tryd.prog W 0 (fun _ => true) true n 40 [c2, c3, c4] = some y2 := by have := hg 2 _ rfl; simpa [e23] using this
    have g3 : DataW.trod enc Tryd.prog W 0 (fun _ => true) true n 3 [c5] = some y3 := by have := hg 3 _ rfl; simpa [e3] using this
    obtain ⟨zs, m, _, hz, _, hzl, hf⟩ := DataW.trod_struct Tryd.underlying40 g2
    match zs, hzl with
    | [z0, z1, z2], _ =>
      have f0 : DataW.trod enc Tryd.prog W 0 (fun _ => true) true m 3 [c2] = some z0 := by have := hf 0 _ rfl; simpa [e3, e2, e9] using this
      have f1 : DataW.trod enc Tryd.prog W 0 (fun _ => true) true m 2 [c3] = some z1 := by have := hf 1 _ rfl; simpa [e3, e2, e9] using this
      have f2 : DataW.trod enc Tryd.prog W 0 (fun _ => true) true m 9 [c4] = some z2 := by have := hf 2 _ rfl; simpa [e3, e2, e9] using this
      obtain ⟨kd, k0, _, _⟩ := DataW.trod_int Tryd.underlying3 g0
      obtain ⟨tx, k1, hy1, _⟩ := DataW.trod_string Tryd.underlying9 g1
      obtain ⟨vk, k2, _, _⟩ := DataW.trod_int Tryd.underlying3 f0
      obtain ⟨vn, k3, _, _⟩ := DataW.trod_int Tryd.underlying2 f1
      obtain ⟨vs, k4, _, _⟩ := DataW.trod_string Tryd.underlying9 f2
      obtain ⟨pl, k5, _, _⟩ := DataW.trod_int Tryd.underlying3 g3
      simp only [List.cons.injEq, and_true] at k0 k1 k2 k3 k4 k5
      subst k0 k1 k2 k3 k4 k5
      refine ⟨⟨kd, tx, vk, vn, vs, pl⟩, rfl, ?_⟩
      subst hy1
      rw [hx]
      simp only [List.map_cons, List.map_nil, Rows.uptoBulk, Rows.uptoBulkAll]
      omega

set_option maxRecDepth 100000 in
theorem open_tokens {H : Type} {enc : TypeId × Value → H} {W : World} {base : Nat} {v : Value} {d : DataW H} {p : List MemPlace} (hv : Value.okWide Tryd.prog W .any base 22 v)
    (h : DataW.Trod enc Tryd.prog W 0 (fun _ => true) true 22 v d p) :
    ∃ ts : List Tok, Tv W W.heap.size v ts ∧ bl ts ≤ Rows.uptoBulk d := by
  obtain ⟨ao, n, cap, rfl⟩ := okWide_slice Tryd.underlying22 hv
  obtain ⟨fuel, hf⟩ := h
  have hC : Tryd.prog.cellsOf 42 = 6 := by kernel_rfl
  rcases open_slice Tryd.underlying22 hf with ⟨hcs, _⟩ | ⟨a, len, cp, m, fl, D, Pl, hcs, _, hl, hm, hmm, hx, hi⟩
  · simp only [Value.cells, List.cons.injEq, and_true] at hcs
    rw [hcs]
    exact ⟨[], ⟨none, 0, rfl, fun h => absurd h (by simp)⟩, Nat.zero_le _⟩
  · simp only [Value.cells, List.cons.injEq, and_true] at hcs
    rw [hcs]
    clear hcs
    simp only [if_true] at hmm
    subst hmm
    rw [hC] at hi
    have hall : ∀ i, i < m → ∃ x : Tok, (∀ c u, (encT x)[c]? = some u → W.cell? (a.add (i * 6 + c)) = some u) ∧ x.text.data.toList.length + 1 ≤ Rows.uptoBulk (D i) := fun i him => by
      obtain ⟨cs', hc, ht⟩ := hi i him
      obtain ⟨x, rfl, h1⟩ := open_token ht
      obtain ⟨_, hcl, hat⟩ := World.cells?_some hc
      refine ⟨x, fun c u hu => ?_, h1⟩
      have hc6 : c < 6 := by have := (List.getElem?_eq_some_iff.1 hu).1; rwa [encT_len] at this
      rw [← Go.Deep.add_add, hat c hc6, hu]
    obtain ⟨ts, htl, hts⟩ : ∃ ts : List Tok, ts.length = len ∧ ∀ i (hi : i < ts.length), (∀ c u, (encT ts[i])[c]? = some u → W.cell? (a.add (i * 6 + c)) = some u) ∧ ts[i].text.data.toList.length + 1 ≤ Rows.uptoBulk (D i) := by
      refine ⟨List.ofFn (fun i : Fin len => (hall i.1 (by have := i.2; omega)).choose), by simp, fun i hi => ?_⟩
      rw [List.getElem_ofFn]
      exact (hall i (by have : i < len := by simpa using hi
                        omega)).choose_spec
    refine ⟨ts, ⟨some a, m, by rw [htl], fun h0 => ?_⟩, ?_⟩
    · have h00 := (hts 0 h0).1 0 _ rfl
      obtain ⟨b, o, sp⟩ := a
      obtain rfl : sp = none := by simpa [Addr.add] using World.cell?_spot h00
      have hblk : b < W.heap.size := by simpa [Addr.add] using World.block_lt_of_cell? _ _ h00
      refine ⟨b, o, rfl, hblk, fun j u hu => ?_⟩
      have hjl : j < ts.length * 6 := by rw [← flatT_len]; exact (List.getElem?_eq_some_iff.1 hu).1
      have hq : j / 6 < ts.length := by omega
      have hr : j % 6 < (encT ts[j / 6]).length := by rw [encT_len]; omega
      have hf6 := flat_six hq (j % 6) _ (List.getElem?_eq_getElem hr)
      rw [show j / 6 * 6 + j % 6 = j by omega, hu] at hf6
      have := (hts (j / 6) hq).1 (j % 6) u (by rw [List.getElem?_eq_getElem hr]; exact hf6.symm)
      rw [show j / 6 * 6 + j % 6 = j by omega] at this
      have e : (⟨b, o, none⟩ : Addr).add j = ⟨b, o + j, none⟩ := by unfold Addr.add; split <;> simp_all
      rwa [e] at this
    · have h1 := bl_bulk ts D (fun i hi => (hts i hi).2)
      simp only [Prod.mk.injEq] at hx
      rw [hx.1, htl] at *
      simp only [Rows.uptoBulk]
      omega
theorem Tv.shape {w : World} {B : Nat} {v : Value} {ts : List Tok} (h : Tv w B v ts) : ∃ ao cap, v = .slice ao ts.length cap := by
  obtain ⟨ao, cap, rfl, _⟩ := h; exact ⟨ao, cap, rfl⟩
end Go.Proofs.YtdmdakkibgjffaaDoor
