/- What the arguments are in memory, as the statements hand them over: bytes; a slice of parts; and that the bound on their bulk bounds their lengths. -/
import Derived.Test.YtlibfbfhleijlaaTakes
import Derived.ProofKit
import Derived.Deep.Slices
import Derived.JoinedCond
namespace Go.Proofs.Ytlibfbfhleijlaa
open Go Go.ChangeShapes Go.WideShapes Go.ChangeAt Go.RowKit Go.Deep
set_option linter.unusedVariables false

theorem bulk_pos {H : Type} (d : DataW H) : 1 ≤ Rows.uptoBulk d := by
  cases d with
  | lit l => cases l <;> simp [Rows.uptoBulk]
  | _ => simp [Rows.uptoBulk]
theorem bulk_count {H : Type} : ∀ l : List (DataW H), l.length ≤ Rows.uptoBulkAll l
  | [] => by simp [Rows.uptoBulkAll]
  | d :: r => by
    have h1 := bulk_pos d
    have h2 := bulk_count r
    simp only [Rows.uptoBulkAll, List.length_cons]
    omega
theorem bulk_mem {H : Type} : ∀ (l : List (DataW H)) (d : DataW H), d ∈ l → Rows.uptoBulk d ≤ Rows.uptoBulkAll l
  | [], d, h => by cases h
  | e :: r, d, h => by
    simp only [Rows.uptoBulkAll]
    rcases List.mem_cons.1 h with h1 | h1
    · subst h1; omega
    · have := bulk_mem r d h1; omega

theorem open_bytes {H : Type} {enc : TypeId × Value → H} {W : World} {base : Nat} {v : Value} {d : DataW H} {p : List MemPlace} (hw : Value.okWide Try.prog W .any base 35 v)
    (h : DataW.Trod enc Try.prog W 0 (fun _ => true) true 35 v d p) :
    ∃ ao bytes cap, v = .slice ao bytes.length cap ∧ BytesAt W ao bytes ∧ (∀ c ∈ bytes, c < 256) ∧ bytes.length ≤ Rows.uptoBulk d := by
  obtain ⟨a0, len, cap, rfl⟩ := okWide_slice Try.underlying35 hw
  obtain ⟨fuel, hf⟩ := h
  rcases open_ints Try.underlying35 Try.underlying5 (by kernel_rfl) hf with ⟨hcs, hx⟩ | ⟨a, len', cap', zs, hcs, _, hl, hm, hz, hx, hcell, hwz⟩
  · simp only [Value.cells, List.cons.injEq, Value.slice.injEq, and_true] at hcs
    obtain ⟨rfl, rfl, rfl⟩ := hcs
    exact ⟨none, [], 0, rfl, ⟨fun _ => rfl, fun a ha => by cases ha⟩, by simp, by simp⟩
  · simp only [Value.cells, List.cons.injEq, Value.slice.injEq, and_true] at hcs
    obtain ⟨ha0, hl0, hc0⟩ := hcs
    subst ha0 hl0 hc0
    simp only [if_true] at hz
    have hlen : ((zs.take len).map Int.toNat).length = len := by simp; omega
    have hb : ∀ z ∈ zs, 0 ≤ z ∧ z ≤ 255 := fun z hzz => by
      have := hwz z hzz
      simpa [Lit.wf, IntKind.min, IntKind.max, IntKind.signed, IntKind.bits] using this
    refine ⟨some a, (zs.take len).map Int.toNat, cap, by rw [hlen], ⟨(fun h => by cases h), fun a' ha j hj => ?_⟩, ?_, ?_⟩
    · simp only [Option.some.injEq] at ha
      subst ha
      rw [hlen] at hj
      have hjz : j < zs.length := by omega
      rw [hcell j hjz]
      have h1 := hb zs[j] (List.getElem_mem _)
      simp [List.getD, hj, hjz]
      omega
    · intro c hc
      simp only [List.mem_map] at hc
      obtain ⟨z, hz1, rfl⟩ := hc
      have := hb z (List.mem_of_mem_take hz1)
      omega
    · rw [hlen]
      simp only [Prod.mk.injEq] at hx
      rw [hx.1]
      simp only [Rows.uptoBulk]
      have := bulk_count (lits (H := H) .u8 (zs.take len))
      simp only [lits, List.length_map, List.length_take] at this ⊢
      omega

/-- A part, cell by cell, its string no longer than S. -/
theorem open_parts {H : Type} {enc : TypeId × Value → H} {W : World} {base : Nat} {v : Value} {d : DataW H} {p : List MemPlace} (hw : Value.okWide Try.prog W .any base 22 v)
    (h : DataW.Trod enc Try.prog W 0 (fun _ => true) true 22 v d p) (hk : Rows.uptoBulk d ≤ 1048576) :
    ∃ ao N cap, v = .slice ao N cap ∧ N ≤ 1048576 ∧ PartsAt W ao N := by
  obtain ⟨a0, len, cap, rfl⟩ := okWide_slice Try.underlying22 hw
  obtain ⟨fuel, hf⟩ := h
  rcases open_slice Try.underlying22 hf with ⟨hcs, hx⟩ | ⟨a, len', cap', m, n, D, Pl, hcs, _, hl, hm, hmm, hx, hi⟩
  · simp only [Value.cells, List.cons.injEq, Value.slice.injEq, and_true] at hcs
    obtain ⟨rfl, rfl, rfl⟩ := hcs
    exact ⟨none, 0, 0, rfl, by omega, fun h => by omega⟩
  · simp only [Value.cells, List.cons.injEq, Value.slice.injEq, and_true] at hcs
    obtain ⟨ha0, hl0, hc0⟩ := hcs
    subst ha0 hl0 hc0
    simp only [if_true] at hmm
    rw [hmm] at hi hx
    clear hmm
    simp only [Prod.mk.injEq] at hx
    have hbulk : Rows.uptoBulkAll ((List.range len).map D) ≤ 1048576 := by
      rw [hx.1] at hk
      simp only [Rows.uptoBulk] at hk
      omega
    have hN : len ≤ 1048576 := by
      have := bulk_count ((List.range len).map D)
      simp at this
      omega
    have hC : Try.prog.cellsOf 29 = 4 := by kernel_rfl
    rw [hC] at hi
    refine ⟨some a, len, cap, rfl, hN, fun hpos => ?_⟩
    have e3 : Try.prog.cellsOf 3 = 1 := by kernel_rfl
    have e27 : Try.prog.cellsOf 27 = 1 := by kernel_rfl
    have e9 : Try.prog.cellsOf 9 = 1 := by kernel_rfl
    -- each element
    have el : ∀ i, i < len → ∃ (kind u n : Int) (s : ByteArray), W.cell? ((a.add (i * 4)).add 0) = some (.int .i64 kind) ∧ W.cell? ((a.add (i * 4)).add 1) = some (.int .u64 u) ∧
        W.cell? ((a.add (i * 4)).add 2) = some (.int .i64 n) ∧ W.cell? ((a.add (i * 4)).add 3) = some (.string s) ∧ (Lit.int .i64 n).wf = true ∧ (Lit.int .u64 u).wf = true ∧ (Lit.int .i64 kind).wf = true ∧ s.size ≤ 1048576 := by
      intro i hilt
      obtain ⟨cs', hc, ht⟩ := hi i (by omega)
      obtain ⟨_, hcl, hat⟩ := World.cells?_some hc
      obtain ⟨xs, n', hn', hx', hlen', hxl, hfld⟩ := DataW.trod_struct Try.underlying29 ht
      match cs', hcl with
      | [c0, c1, c2, c3], _ =>
        match xs, hxl with
        | [x0, x1, x2, x3], _ =>
          have f0 : DataW.trod enc Try.prog W 0 (fun _ => true) true n' 3 [c0] = some x0 := by have := hfld 0 _ rfl; simpa [e3] using this
          have f1 : DataW.trod enc Try.prog W 0 (fun _ => true) true n' 27 [c1] = some x1 := by have := hfld 1 _ rfl; simpa [e27] using this
          have f2 : DataW.trod enc Try.prog W 0 (fun _ => true) true n' 3 [c2] = some x2 := by have := hfld 2 _ rfl; simpa [e3] using this
          have f3 : DataW.trod enc Try.prog W 0 (fun _ => true) true n' 9 [c3] = some x3 := by have := hfld 3 _ rfl; simpa [e9] using this
          obtain ⟨kind, k0, rfl, w0⟩ := DataW.trod_int Try.underlying3 f0
          obtain ⟨u, k1, rfl, w1⟩ := DataW.trod_int Try.underlying27 f1
          obtain ⟨n2, k2, rfl, w2⟩ := DataW.trod_int Try.underlying3 f2
          obtain ⟨s, k3, rfl, w3⟩ := DataW.trod_string Try.underlying9 f3
          have g0 := hat 0 (by omega)
          have g1 := hat 1 (by omega)
          have g2 := hat 2 (by omega)
          have g3 := hat 3 (by omega)
          simp only [List.cons.injEq, and_true] at k0 k1 k2 k3
          subst k0 k1 k2 k3
          refine ⟨kind, u, n2, s, by simpa using g0, by simpa using g1, by simpa using g2, by simpa using g3, w2, w1, w0, ?_⟩
          have hmem := bulk_mem _ (D i) (List.mem_map.2 ⟨i, List.mem_range.2 hilt, rfl⟩ : D i ∈ (List.range len).map D)
          simp only [Prod.mk.injEq] at hx'
          rw [hx'.1] at hmem
          simp only [List.map_cons, List.map_nil, Rows.uptoBulk, Rows.uptoBulkAll] at hmem
          have : s.data.toList.length = s.size := Array.length_toList
          omega
    obtain ⟨b, o, sp⟩ := a
    obtain ⟨_, _, _, _, h0, _⟩ := el 0 hpos
    rw [add_add] at h0
    simp only [Nat.zero_mul, Nat.add_zero] at h0
    obtain rfl : sp = none := by simpa [Addr.add] using World.cell?_spot h0
    rw [add_plain] at h0
    refine ⟨b, o, rfl, World.block_lt_of_cell? _ _ h0, fun i hilt => ?_⟩
    obtain ⟨kind, u, n2, s, g0, g1, g2, g3, w2, w1, w0, hs⟩ := el i hilt
    rw [add_add, add_plain] at g0 g1 g2 g3
    exact ⟨kind, u, n2, s, by simpa using g0, by simpa [Nat.add_assoc] using g1, by simpa [Nat.add_assoc] using g2, by simpa [Nat.add_assoc] using g3, w2, w1, w0, hs⟩
end Go.Proofs.Ytlibfbfhleijlaa
