/- What the arguments are in memory, as the statements hand them over: conditions, trees of conditions, names. -/
import Derived.Test.YtpbloplbpkedcaaCo7
import Derived.OpenShut
import Derived.ProofKit
import Derived.ShutString
import Derived.Deep.Slices
import Derived.Deep.Fields
namespace Go.Proofs.Ytpbloplbpkedcaa
open Go Go.ChangeShapes Go.WideShapes Go.ChangeAt Go.RowKit Go.Deep
set_option linter.unusedVariables false

theorem add_none7 (b o i : Nat) : (⟨b, o, none⟩ : Addr).add i = ⟨b, o + i, none⟩ := by unfold Addr.add; split <;> simp_all
theorem bulk_slice {H : Type} (es sp : List (DataW H)) : Rows.uptoBulkAll es ≤ Rows.uptoBulk (.slice es sp) := by simp only [Rows.uptoBulk]; omega

/-- A row, opened: each of its elements reads by less fuel. -/
theorem open_row {H : Type} {enc : TypeId × Value → H} {W : World} {t e : TypeId} {fuel : Nat} {v : Value} {x : DataW H × List MemPlace} (ht : Try.prog.underlying t = some (.slice e)) (hc : 0 < Try.prog.cellsOf e)
    (h : DataW.trod enc Try.prog W 0 (fun _ => true) true fuel t [v] = some x) :
    ∃ (ao : Option Addr) (len cap : Nat) (elems : List (DataW H × List MemPlace)) (n : Nat), v = .slice ao len cap ∧ elems.length = len ∧ len ≤ maxLen ∧ n < fuel ∧ (elems = [] ∨ ∃ sp, x.1 = .slice (elems.map (·.1)) sp) ∧
      (elems ≠ [] → ∃ b o, ao = some ⟨b, o, none⟩ ∧ b < W.heap.size ∧ ∀ i y, elems[i]? = some y → ∃ cs, cs.length = Try.prog.cellsOf e ∧ (∀ c, c < Try.prog.cellsOf e → W.cell? ⟨b, o + i * Try.prog.cellsOf e + c, none⟩ = cs[c]?) ∧ DataW.trod enc Try.prog W 0 (fun _ => true) true n e cs = some y) := by
  rcases DataW.trod_slice ht h with ⟨hcs, _⟩ | ⟨a, len, cap, elems, rest, n, hf, hcs, hx, _, hl, hm, hlen, hel, _, _⟩
  · simp only [List.cons.injEq, and_true] at hcs
    have hpos : 0 < fuel := by cases fuel with
      | zero => simp [DataW.trod] at h
      | succ n => omega
    exact ⟨none, 0, 0, [], 0, hcs, rfl, Nat.zero_le _, hpos, .inl rfl, fun h => absurd rfl h⟩
  · simp only [List.cons.injEq, and_true] at hcs
    refine ⟨some a, len, cap, elems, n, hcs, hlen, by omega, by omega, .inr ⟨rest.map (·.1), by rw [hx]⟩, fun hne => ?_⟩
    have hopen : ∀ i y, elems[i]? = some y → ∃ cs, cs.length = Try.prog.cellsOf e ∧ (∀ c, c < Try.prog.cellsOf e → W.cell? (a.add (i * Try.prog.cellsOf e + c)) = cs[c]?) ∧ DataW.trod enc Try.prog W 0 (fun _ => true) true n e cs = some y := fun i y hy => by
      have hi : i < len := by rw [← hlen]; exact (List.getElem?_eq_some_iff.1 hy).1
      have := hel i hi
      rw [hy] at this
      obtain ⟨cs, h1, h2⟩ := Option.bind_eq_some_iff.1 this
      obtain ⟨_, hcl, hat⟩ := World.cells?_some h1
      exact ⟨cs, hcl, fun c hc => by rw [← Go.Deep.add_add, hat c (by omega)], h2⟩
    obtain ⟨y0, hy0⟩ : ∃ y, elems[0]? = some y := by
      cases elems with
      | nil => exact absurd rfl hne
      | cons y r => exact ⟨y, rfl⟩
    obtain ⟨cs0, hl0, ha0, _⟩ := hopen 0 y0 hy0
    have h00 := ha0 0 hc
    rw [List.getElem?_eq_getElem (by omega)] at h00
    obtain ⟨b, o, sp⟩ := a
    obtain rfl : sp = none := by simpa [Addr.add] using World.cell?_spot h00
    have hblk : b < W.heap.size := by simpa [Addr.add] using World.block_lt_of_cell? _ _ h00
    refine ⟨b, o, rfl, hblk, fun i y hy => ?_⟩
    obtain ⟨cs, h1, h2, h3⟩ := hopen i y hy
    exact ⟨cs, h1, fun c hc => by rw [Nat.add_assoc, ← add_none7]; exact h2 c hc, h3⟩

theorem bulk_row {H : Type} {d : DataW H} {elems : List (DataW H × List MemPlace)} (h : elems = [] ∨ ∃ sp, d = .slice (elems.map (·.1)) sp) : Rows.uptoBulkAll (elems.map (·.1)) ≤ Rows.uptoBulk d := by
  rcases h with rfl | ⟨sp, rfl⟩
  · exact Nat.zero_le _
  · exact bulk_slice _ _

set_option maxRecDepth 100000 in
theorem open_opd {H : Type} {enc : TypeId × Value → H} {W : World} {fuel : Nat} {cs : List Value} {y : DataW H × List MemPlace} (h : DataW.trod enc Try.prog W 0 (fun _ => true) true fuel 25 cs = some y) :
    ∃ x : Opd, cs = [.string x.var, .string x.attr, .int .i64 x.vk, .int .i64 x.vn, .string x.vs] ∧ wdO x ∧ szO x ≤ Rows.uptoBulk y.1 := by
  obtain ⟨xs, n, _, hx, hcl, hlen, hg⟩ := DataW.trod_struct Try.underlying25 h
  have hC : Try.prog.cellsOf 25 = 5 := by kernel_rfl
  have e3 : Try.prog.cellsOf 3 = 1 := by kernel_rfl
  have e2 : Try.prog.cellsOf 2 = 1 := by kernel_rfl
  have e9 : Try.prog.cellsOf 9 = 1 := by kernel_rfl
  have e23 : Try.prog.cellsOf 23 = 3 := by kernel_rfl
  rw [hC] at hcl
  match cs, hcl, xs, hlen with
  | [c0, c1, c2, c3, c4], _, [y0, y1, y2], _ =>
    have g0 : DataW.trod enc Try.prog W 0 (fun _ => true) true n 9 [c0] = some y0 := by have := hg 0 _ rfl; simpa [e9] using this
    have g1 : DataW.trod enc Try.prog W 0 (fun _ => true) true n 9 [c1] = some y1 := by have := hg 1 _ rfl; simpa [e9] using this
    have g2 : DataW.trod enc Try.prog W 0 (fun _ => true) true n 23 [c2, c3, c4] = some y2 := by have := hg 2 _ rfl; simpa [e23] using this
    obtain ⟨zs, m, _, hz, _, hzl, hf⟩ := DataW.trod_struct Try.underlying23 g2
    match zs, hzl with
    | [z0, z1, z2], _ =>
      have f0 : DataW.trod enc Try.prog W 0 (fun _ => true) true m 3 [c2] = some z0 := by have := hf 0 _ rfl; simpa [e3, e2, e9] using this
      have f1 : DataW.trod enc Try.prog W 0 (fun _ => true) true m 2 [c3] = some z1 := by have := hf 1 _ rfl; simpa [e3, e2, e9] using this
      have f2 : DataW.trod enc Try.prog W 0 (fun _ => true) true m 9 [c4] = some z2 := by have := hf 2 _ rfl; simpa [e3, e2, e9] using this
      obtain ⟨va, k0, hy0, w0⟩ := DataW.trod_string Try.underlying9 g0
      obtain ⟨at1, k1, hy1, w1⟩ := DataW.trod_string Try.underlying9 g1
      obtain ⟨vk, k2, _, _⟩ := DataW.trod_int Try.underlying3 f0
      obtain ⟨vn, k3, _, _⟩ := DataW.trod_int Try.underlying2 f1
      obtain ⟨vs, k4, hy4, w4⟩ := DataW.trod_string Try.underlying9 f2
      simp only [List.cons.injEq, and_true] at k0 k1 k2 k3 k4
      subst k0 k1 k2 k3 k4
      refine ⟨⟨va, at1, vk, vn, vs⟩, rfl, ⟨w0, w1, w4⟩, ?_⟩
      subst hy0 hy1 hy4
      rw [hx]
      simp only [List.map_cons, List.map_nil, Rows.uptoBulk, Rows.uptoBulkAll, hz, szO]
      have s0 : va.data.toList.length = va.size := rfl
      have s1 : at1.data.toList.length = at1.size := rfl
      have s4 : vs.data.toList.length = vs.size := rfl
      omega

set_option maxRecDepth 100000 in
theorem open_cond7 {H : Type} {enc : TypeId × Value → H} {W : World} {fuel : Nat} {cs : List Value} {y : DataW H × List MemPlace} (h : DataW.trod enc Try.prog W 0 (fun _ => true) true fuel 27 cs = some y) :
    ∃ x : Cnd, cs = encC x ∧ wdC x ∧ szC x ≤ Rows.uptoBulk y.1 := by
  obtain ⟨xs, n, _, hx, hcl, hlen, hg⟩ := DataW.trod_struct Try.underlying27 h
  have hC : Try.prog.cellsOf 27 = 11 := by kernel_rfl
  have e5 : Try.prog.cellsOf 25 = 5 := by kernel_rfl
  have e3 : Try.prog.cellsOf 3 = 1 := by kernel_rfl
  rw [hC] at hcl
  match cs, hcl, xs, hlen with
  | [c0, c1, c2, c3, c4, c5, c6, c7, c8, c9, c10], _, [y0, y1, y2], _ =>
    have g0 : DataW.trod enc Try.prog W 0 (fun _ => true) true n 25 [c0, c1, c2, c3, c4] = some y0 := by have := hg 0 _ rfl; simpa [e5] using this
    have g1 : DataW.trod enc Try.prog W 0 (fun _ => true) true n 3 [c5] = some y1 := by have := hg 1 _ rfl; simpa [e3] using this
    have g2 : DataW.trod enc Try.prog W 0 (fun _ => true) true n 25 [c6, c7, c8, c9, c10] = some y2 := by have := hg 2 _ rfl; simpa [e5] using this
    obtain ⟨l, k0, w0, s0⟩ := open_opd g0
    obtain ⟨r, k1, _, _⟩ := DataW.trod_int Try.underlying3 g1
    obtain ⟨q, k2, w2, s2⟩ := open_opd g2
    simp only [List.cons.injEq, and_true] at k0 k1 k2
    obtain ⟨rfl, rfl, rfl, rfl, rfl⟩ := k0
    subst k1
    obtain ⟨rfl, rfl, rfl, rfl, rfl⟩ := k2
    refine ⟨⟨l, r, q⟩, rfl, ⟨w0, w2⟩, ?_⟩
    rw [hx]
    simp only [List.map_cons, List.map_nil, Rows.uptoBulk, Rows.uptoBulkAll, szC]
    omega

theorem row_conds {H : Type} {enc : TypeId × Value → H} {W : World} {n b : Nat} : ∀ (elems : List (DataW H × List MemPlace)) (o : Nat),
    (∀ i y, elems[i]? = some y → ∃ cs, cs.length = 11 ∧ (∀ c, c < 11 → W.cell? ⟨b, o + i * 11 + c, none⟩ = cs[c]?) ∧ DataW.trod enc Try.prog W 0 (fun _ => true) true n 27 cs = some y) →
    ∃ l : List Cnd, l.length = elems.length ∧ CdAt W l b o ∧ szT l ≤ Rows.uptoBulkAll (elems.map (·.1)) ∧ ∀ c ∈ l, wdC c
  | [], _, _ => ⟨[], rfl, trivial, Nat.zero_le _, fun c h => by cases h⟩
  | y :: r, o, h => by
    obtain ⟨l, h1, h2, h3, h4⟩ := row_conds r (o + 11) (fun i z hz => by
      obtain ⟨cs, k1, k2, k3⟩ := h (i + 1) z (by simpa using hz)
      exact ⟨cs, k1, fun c hc => by rw [← k2 c hc]; congr 2; omega, k3⟩)
    obtain ⟨cs, k1, k2, k3⟩ := h 0 y rfl
    obtain ⟨x, rfl, k4, k5⟩ := open_cond7 k3
    refine ⟨x :: l, by simp [h1], ⟨fun j u hu => ?_, h2⟩, ?_, fun c hc => ?_⟩
    · have hj : j < 11 := by have := (List.getElem?_eq_some_iff.1 hu).1; rwa [encC_len] at this
      have := k2 j hj
      rw [Nat.zero_mul, Nat.add_zero] at this
      rw [this, hu]
    · simp only [szT, List.map_cons, Rows.uptoBulkAll]; omega
    · rcases List.mem_cons.1 hc with rfl | hc
      · exact k4
      · exact h4 c hc
set_option maxRecDepth 100000 in
theorem open_conds {H : Type} {enc : TypeId × Value → H} {W : World} {fuel : Nat} {v : Value} {y : DataW H × List MemPlace} (h : DataW.trod enc Try.prog W 0 (fun _ => true) true fuel 28 [v] = some y) :
    ∃ l : List Cnd, CdV W (fun x => x < W.heap.size) v l ∧ szT l ≤ Rows.uptoBulk y.1 ∧ ∀ c ∈ l, wdC c := by
  have hC : Try.prog.cellsOf 27 = 11 := by kernel_rfl
  obtain ⟨ao, len, cap, elems, n, rfl, hlen, _, _, hd, hh⟩ := open_row Try.underlying28 (by rw [hC]; omega) h
  have hb := bulk_row hd
  cases elems with
  | nil =>
    obtain rfl : len = 0 := hlen.symm
    exact ⟨[], ⟨ao, cap, rfl, fun h => absurd rfl h⟩, Nat.zero_le _, fun c h => by cases h⟩
  | cons e r =>
    obtain ⟨b, o, rfl, hbl, hel⟩ := hh (List.cons_ne_nil _ _)
    rw [hC] at hel
    obtain ⟨l, h1, h2, h3, h4⟩ := row_conds _ o hel
    exact ⟨l, ⟨_, cap, by rw [h1, hlen], fun _ => ⟨b, o, rfl, hbl, h2⟩⟩, Nat.le_trans h3 hb, h4⟩

theorem row_nodes {H : Type} {enc : TypeId × Value → H} {W : World} {n b : Nat} (ih : ∀ cs y, DataW.trod enc Try.prog W 0 (fun _ => true) true n 31 cs = some y → ∃ (d : Nt) (k : Fo) (tv kv : Value), cs = [.int .i64 d.kind, .string d.var, .string d.ty, tv, kv] ∧ CdV W (fun x => x < W.heap.size) tv d.tests ∧ KdV W (fun x => x < W.heap.size) kv k ∧ szD d + szF k ≤ Rows.uptoBulk y.1) :
    ∀ (elems : List (DataW H × List MemPlace)) (o : Nat),
    (∀ i y, elems[i]? = some y → ∃ cs, cs.length = 5 ∧ (∀ c, c < 5 → W.cell? ⟨b, o + i * 5 + c, none⟩ = cs[c]?) ∧ DataW.trod enc Try.prog W 0 (fun _ => true) true n 31 cs = some y) →
    ∃ k : Fo, k.len = elems.length ∧ FoAt W (fun x => x < W.heap.size) k b o ∧ szF k ≤ Rows.uptoBulkAll (elems.map (·.1))
  | [], _, _ => ⟨.nil, rfl, trivial, Nat.zero_le _⟩
  | y :: r, o, h => by
    obtain ⟨l, h1, h2, h3⟩ := row_nodes ih r (o + 5) (fun i z hz => by
      obtain ⟨cs, k1, k2, k3⟩ := h (i + 1) z (by simpa using hz)
      exact ⟨cs, k1, fun c hc => by rw [← k2 c hc]; congr 2; omega, k3⟩)
    obtain ⟨cs, k1, k2, k3⟩ := h 0 y rfl
    obtain ⟨d, k, tv, kv, rfl, ⟨ta, tc, rfl, ht⟩, ⟨ka, kc, rfl, hk⟩, hs⟩ := ih _ _ k3
    rw [Nat.zero_mul, Nat.add_zero] at k2
    refine ⟨.cons d k l, by simp [Fo.len, h1], ⟨⟨ta, tc, ka, kc, k2 0 (by omega), k2 1 (by omega), k2 2 (by omega), k2 3 (by omega), k2 4 (by omega), ⟨_, _, rfl, ht⟩, hk⟩, h2⟩, ?_⟩
    simp only [szF, List.map_cons, Rows.uptoBulkAll]
    omega
set_option maxRecDepth 100000 in
theorem open_node_trod {H : Type} {enc : TypeId × Value → H} {W : World} : ∀ (fuel : Nat) (cs : List Value) (y : DataW H × List MemPlace), DataW.trod enc Try.prog W 0 (fun _ => true) true fuel 31 cs = some y →
    ∃ (d : Nt) (k : Fo) (tv kv : Value), cs = [.int .i64 d.kind, .string d.var, .string d.ty, tv, kv] ∧ CdV W (fun x => x < W.heap.size) tv d.tests ∧ KdV W (fun x => x < W.heap.size) kv k ∧ szD d + szF k ≤ Rows.uptoBulk y.1 := by
  intro fuel
  induction fuel using Nat.strongRecOn with
  | ind fuel IH =>
  intro cs y h
  obtain ⟨xs, n, hn, hx, hcl, hlen, hg⟩ := DataW.trod_struct Try.underlying31 h
  have hC : Try.prog.cellsOf 31 = 5 := by kernel_rfl
  have e3 : Try.prog.cellsOf 3 = 1 := by kernel_rfl
  have e9 : Try.prog.cellsOf 9 = 1 := by kernel_rfl
  have e7 : Try.prog.cellsOf 28 = 1 := by kernel_rfl
  have e8 : Try.prog.cellsOf 29 = 1 := by kernel_rfl
  rw [hC] at hcl
  match cs, hcl, xs, hlen with
  | [c0, c1, c2, c3, c4], _, [y0, y1, y2, y3, y4], _ =>
    have g0 : DataW.trod enc Try.prog W 0 (fun _ => true) true n 3 [c0] = some y0 := by have := hg 0 _ rfl; simpa [e3] using this
    have g1 : DataW.trod enc Try.prog W 0 (fun _ => true) true n 9 [c1] = some y1 := by have := hg 1 _ rfl; simpa [e9] using this
    have g2 : DataW.trod enc Try.prog W 0 (fun _ => true) true n 9 [c2] = some y2 := by have := hg 2 _ rfl; simpa [e9] using this
    have g3 : DataW.trod enc Try.prog W 0 (fun _ => true) true n 28 [c3] = some y3 := by have := hg 3 _ rfl; simpa [e7] using this
    have g4 : DataW.trod enc Try.prog W 0 (fun _ => true) true n 29 [c4] = some y4 := by have := hg 4 _ rfl; simpa [e8] using this
    obtain ⟨kd, k0, hy0, _⟩ := DataW.trod_int Try.underlying3 g0
    obtain ⟨va, k1, hy1, _⟩ := DataW.trod_string Try.underlying9 g1
    obtain ⟨ty, k2, hy2, _⟩ := DataW.trod_string Try.underlying9 g2
    obtain ⟨l, ht, hs, _⟩ := open_conds g3
    obtain ⟨ao, len, cap, elems, m, rfl, hel, _, hm, hd, hh⟩ := open_row Try.underlying29 (by rw [hC]; omega) g4
    have hb := bulk_row hd
    simp only [List.cons.injEq, and_true] at k0 k1 k2
    subst k0 k1 k2
    obtain ⟨k, hk, hks⟩ : ∃ k : Fo, KdV W (fun x => x < W.heap.size) (.slice ao len cap) k ∧ szF k ≤ Rows.uptoBulk y4.1 := by
      cases elems with
      | nil =>
        obtain rfl : len = 0 := hel.symm
        exact ⟨.nil, ⟨ao, cap, rfl, fun h => by cases h⟩, Nat.zero_le _⟩
      | cons e r =>
        obtain ⟨b, o, rfl, hbl, hell⟩ := hh (List.cons_ne_nil _ _)
        rw [hC] at hell
        obtain ⟨k, h1, h2, h3⟩ := row_nodes (IH m (by omega)) _ o hell
        exact ⟨k, ⟨_, cap, by rw [h1, hel], fun _ => ⟨b, o, rfl, hbl, h2⟩⟩, Nat.le_trans h3 hb⟩
    refine ⟨⟨kd, va, ty, l⟩, k, c3, _, rfl, ht, hk, ?_⟩
    rw [hx]
    subst hy0 hy1 hy2
    have s1 : va.data.toList.length = va.size := rfl
    have s2 : ty.data.toList.length = ty.size := rfl
    simp only [List.map_cons, List.map_nil, Rows.uptoBulk, Rows.uptoBulkAll, szD]
    omega
set_option maxRecDepth 100000 in
theorem open_node7 {H : Type} {enc : TypeId × Value → H} {W : World} {base : Nat} {v : Value} {d : DataW H} {p : List MemPlace} (hv : Value.okWide Try.prog W .any base 31 v)
    (h : DataW.Trod enc Try.prog W 0 (fun _ => true) true 31 v d p) : ∃ (x : Nt) (k : Fo), NdV W (fun x => x < W.heap.size) x k v ∧ szD x + szF k ≤ Rows.uptoBulk d := by
  obtain ⟨⟨l⟩, rfl, hsz⟩ := okWide_struct Try.underlying31 hv
  obtain ⟨fuel, hf⟩ := h
  obtain ⟨x, k, tv, kv, he, h1, h2, h3⟩ := open_node_trod fuel _ _ hf
  obtain rfl : l = _ := by simpa [Value.cells] using he
  exact ⟨x, k, ⟨tv, kv, rfl, h1, h2⟩, h3⟩
set_option maxRecDepth 100000 in
theorem open_cond_arg {H : Type} {enc : TypeId × Value → H} {W : World} {base : Nat} {v : Value} {d : DataW H} {p : List MemPlace} (hv : Value.okWide Try.prog W .any base 27 v)
    (h : DataW.Trod enc Try.prog W 0 (fun _ => true) true 27 v d p) : ∃ x : Cnd, v = cdV x ∧ wdC x := by
  obtain ⟨⟨l⟩, rfl, hsz⟩ := okWide_struct Try.underlying27 hv
  obtain ⟨fuel, hf⟩ := h
  obtain ⟨x, he, h1, _⟩ := open_cond7 hf
  obtain rfl : l = _ := by simpa [Value.cells] using he
  exact ⟨x, rfl, h1⟩
theorem row_strs {H : Type} {enc : TypeId × Value → H} {W : World} {n b : Nat} : ∀ (elems : List (DataW H × List MemPlace)) (o : Nat),
    (∀ i y, elems[i]? = some y → ∃ cs, cs.length = 1 ∧ (∀ c, c < 1 → W.cell? ⟨b, o + i * 1 + c, none⟩ = cs[c]?) ∧ DataW.trod enc Try.prog W 0 (fun _ => true) true n 9 cs = some y) →
    ∃ l : List Nm, l.length = elems.length ∧ (∀ j x, l[j]? = some x → W.cell? ⟨b, o + j, none⟩ = some (.string (ba x))) ∧ (∀ x ∈ l, x.length ≤ maxLen) ∧ (∀ x ∈ l, x.length + 1 ≤ Rows.uptoBulkAll (elems.map (·.1))) ∧ l.length ≤ Rows.uptoBulkAll (elems.map (·.1))
  | [], _, _ => ⟨[], rfl, fun j x h => (by simp at h), fun c h => (by cases h), fun c h => (by cases h), Nat.zero_le _⟩
  | y :: r, o, h => by
    obtain ⟨l, h1, h2, h3, h4, h5⟩ := row_strs r (o + 1) (fun i z hz => by
      obtain ⟨cs, k1, k2, k3⟩ := h (i + 1) z (by simpa using hz)
      exact ⟨cs, k1, fun c hc => by rw [← k2 c hc]; congr 2; omega, k3⟩)
    obtain ⟨cs, k1, k2, k3⟩ := h 0 y rfl
    match cs, k1 with
    | [c0], _ =>
      obtain ⟨s, k0, hy, hs⟩ := DataW.trod_string Try.underlying9 k3
      simp only [List.cons.injEq, and_true] at k0
      subst k0
      have sl : (nb s).length = s.size := rfl
      have hyb : Rows.uptoBulk y.1 = s.size + 1 := by rw [hy]; simp only [Rows.uptoBulk]; rw [← sl]; rfl
      refine ⟨nb s :: l, by simp [h1], fun j x hj => ?_, fun x hx => ?_, fun x hx => ?_, ?_⟩
      · cases j with
        | zero =>
          simp only [List.getElem?_cons_zero, Option.some.injEq] at hj
          subst hj
          rw [ba_nb]
          exact k2 0 (by omega)
        | succ j => rw [show o + (j + 1) = o + 1 + j by omega]; exact h2 j x (by simpa using hj)
      · rcases List.mem_cons.1 hx with rfl | hx
        · rw [sl]; exact hs
        · exact h3 x hx
      · simp only [List.map_cons, Rows.uptoBulkAll]
        rcases List.mem_cons.1 hx with rfl | hx
        · omega
        · have := h4 x hx; omega
      · simp only [List.map_cons, Rows.uptoBulkAll, List.length_cons]; omega
set_option maxRecDepth 100000 in
/-- A slice of texts: as the statements hand it over. -/
theorem open_names {H : Type} {enc : TypeId × Value → H} {W : World} {base : Nat} {v : Value} {d : DataW H} {p : List MemPlace} (hv : Value.okWide Try.prog W .any base 49 v)
    (h : DataW.Trod enc Try.prog W 0 (fun _ => true) true 49 v d p) :
    ∃ l : List Nm, SsV W (fun x => x < W.heap.size) v l ∧ (∀ x ∈ l, x.length ≤ maxLen) ∧ l.length ≤ Rows.uptoBulk d ∧ (∀ x ∈ l, x.length + 1 ≤ Rows.uptoBulk d) ∧ ((∀ n ∈ d.weights Try.prog 49, n ≤ reachBytes) → l.length ≤ 140737488355328) := by
  obtain ⟨ao, n, cap, rfl⟩ := okWide_slice Try.underlying49 hv
  obtain ⟨fuel, hf⟩ := h
  have hC : Try.prog.cellsOf 9 = 1 := by kernel_rfl
  have hb : Try.prog.bytesOf 9 = 16 := by kernel_rfl
  simp only [Value.cells] at hf
  obtain ⟨ao', len', cap', elems, m, he, hel, _, _, hd, hh⟩ := open_row Try.underlying49 (by rw [hC]; omega) hf
  cases he
  have hbk := bulk_row hd
  cases elems with
  | nil =>
    obtain rfl : n = 0 := hel.symm
    exact ⟨[], ⟨ao, cap, rfl, fun h => absurd rfl h⟩, fun c h => (by cases h), Nat.zero_le _, fun c h => (by cases h), fun _ => Nat.zero_le _⟩
  | cons e r =>
    obtain ⟨b, o, rfl, hbl, hell⟩ := hh (List.cons_ne_nil _ _)
    rw [hC] at hell
    obtain ⟨l, h1, h2, h3, h4, h5⟩ := row_strs _ o hell
    refine ⟨l, ⟨_, cap, by rw [h1, hel], fun _ => ⟨b, o, rfl, hbl, h2⟩⟩, h3, Nat.le_trans h5 hbk, fun x hx => Nat.le_trans (h4 x hx) hbk, fun hz => ?_⟩
    rcases hd with hd | ⟨sp, hd⟩
    · cases hd
    · simp only at hd
      have k1 : (((e :: r).map (·.1)).length + sp.length) * Try.prog.bytesOf 9 ∈ d.weights Try.prog 49 := by
        rw [hd]; simp [DataW.weights, Try.underlying49]
      have k2 := hz _ k1
      rw [hb, List.length_map] at k2
      have := reachBytes_lt
      omega
end Go.Proofs.Ytpbloplbpkedcaa
