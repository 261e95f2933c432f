/- Opening: rows of partial matches of little bulk, and how long their keys are. -/
import Derived.Test.YtiinljljbjjaeaaGreatDoorAp0
import Derived.Test.YtiinljljbjjaeaaGreatDoorSe2
import Derived.Lib.ItoaLen
namespace Go.Proofs.YtiinljljbjjaeaaGreatDoor
open Go Go.ChangeShapes Go.WideShapes Go.ChangeAt Go.RowKit Go.Deep
set_option linter.unusedVariables false

def keyN (bs : List Bd) : Nat := (bs.map fun x => x.var.size + 1).sum
def IdB (bs : List Bd) : Prop := ∀ x ∈ bs, (-9223372036854775808 ≤ x.ev.src ∧ x.ev.src ≤ 9223372036854775807) ∧ (-9223372036854775808 ≤ x.ev.seq ∧ x.ev.seq ≤ 9223372036854775807)
theorem keyL_len1 : ∀ {bs : List Bd}, IdB bs → keyN bs ≤ 1048576 → (keyL bs).length ≤ 67 * keyN bs
  | [], _, _ => by simp [keyL]
  | x :: r, h, hn => by
    have hc : keyN (x :: r) = x.var.size + 1 + keyN r := by simp [keyN]
    have ih := keyL_len1 (bs := r) (fun y hy => h y (List.mem_cons_of_mem _ hy)) (by omega)
    obtain ⟨⟨h1, h2⟩, h3, h4⟩ := h x (List.mem_cons_self ..)
    have k1 := Lib.itoa_length_le x.ev.src h1 h2
    have k2 := Lib.itoa_length_le x.ev.seq h3 h4
    have hv : x.var.data.toList.length = x.var.size := (Lib.size_eq _).symm
    have k3 := Lib.itoa_length_le (x.var.data.toList.length : Int) (by omega) (by omega)
    rw [keyL, keyB]
    simp only [List.length_append, List.length_cons, List.length_nil]
    omega
theorem kyB_of {bs : List Bd} (h : IdB bs) (hn : keyN bs ≤ 1048576) : KyB bs := ⟨by have := keyL_len1 h hn; omega, h⟩

theorem int_wf {k : Int} (h : (Lit.int .i64 k).wf = true) : -9223372036854775808 ≤ k ∧ k ≤ 9223372036854775807 := by
  simpa [Lit.wf, IntKind.min, IntKind.max, IntKind.signed, IntKind.bits] using h
set_option maxRecDepth 100000 in
theorem ids_bound1 {H : Type} {enc : TypeId × Value → H} {W : World} {fuel : Nat} {x : Bd} {v : Value} {y : DataW H × List MemPlace} (h : DataW.trod enc Tryz.prog W 0 (fun _ => true) true fuel 54 (encB x v) = some y) :
    (x.var.size + 1 ≤ Rows.uptoBulk y.1) ∧ (-9223372036854775808 ≤ x.ev.src ∧ x.ev.src ≤ 9223372036854775807) ∧ (-9223372036854775808 ≤ x.ev.seq ∧ x.ev.seq ≤ 9223372036854775807) := by
  unfold encB at h
  obtain ⟨xs, n, _, hx, _, hlen, hg⟩ := DataW.trod_struct Tryz.underlying54 h
  have e5 : Tryz.prog.cellsOf 52 = 5 := by kernel_rfl
  have e9 : Tryz.prog.cellsOf 9 = 1 := by kernel_rfl
  have e23 : Tryz.prog.cellsOf 49 = 2 := by kernel_rfl
  have e3 : Tryz.prog.cellsOf 3 = 1 := by kernel_rfl
  have e2 : Tryz.prog.cellsOf 2 = 1 := by kernel_rfl
  match xs, hlen with
  | [y0, y1], _ =>
    have g0 : DataW.trod enc Tryz.prog W 0 (fun _ => true) true n 9 [.string x.var] = some y0 := by have := hg 0 _ rfl; simpa [e9, e5] using this
    have g1 : DataW.trod enc Tryz.prog W 0 (fun _ => true) true n 52 [.int .i64 x.ev.src, .int .i64 x.ev.seq, .int .i64 x.ev.time, .string x.ev.ty, v] = some y1 := by have := hg 1 _ rfl; simpa [e9, e5] using this
    obtain ⟨nm, k0, hd0, _⟩ := DataW.trod_string Tryz.underlying9 g0
    simp only [List.cons.injEq, and_true, Value.string.injEq] at k0
    subst k0
    obtain ⟨zs, m, _, _, _, hzl, hf⟩ := DataW.trod_struct Tryz.underlying52 g1
    match zs, hzl with
    | [z0, z1, z2, z3], _ =>
      have g2 : DataW.trod enc Tryz.prog W 0 (fun _ => true) true m 49 [.int .i64 x.ev.src, .int .i64 x.ev.seq] = some z0 := by have := hf 0 _ rfl; simpa [e23, e3, e2, e9] using this
      obtain ⟨us, l, _, _, _, hul, hq⟩ := DataW.trod_struct Tryz.underlying49 g2
      match us, hul with
      | [u0, u1], _ =>
        have f0 : DataW.trod enc Tryz.prog W 0 (fun _ => true) true l 3 [.int .i64 x.ev.src] = some u0 := by have := hq 0 _ rfl; simpa [e3, e2] using this
        have f1 : DataW.trod enc Tryz.prog W 0 (fun _ => true) true l 2 [.int .i64 x.ev.seq] = some u1 := by have := hq 1 _ rfl; simpa [e3, e2] using this
        obtain ⟨a, ka, _, wa⟩ := DataW.trod_int Tryz.underlying3 f0
        obtain ⟨b, kb, _, wb⟩ := DataW.trod_int Tryz.underlying2 f1
        simp only [List.cons.injEq, and_true, Value.int.injEq, true_and] at ka kb
        subst ka kb
        refine ⟨?_, int_wf wa, int_wf wb⟩
        rw [hx, hd0]
        simp only [List.map_cons, Rows.uptoBulk, Rows.uptoBulkAll]
        have := Lib.size_eq x.var
        omega
/-- A row of bounds, opened: its ids, its variables' sizes. -/
theorem ids_row1 {H : Type} {enc : TypeId × Value → H} {W : World} {B n b : Nat} : ∀ (elems : List (DataW H × List MemPlace)) (l : List Bd) (o : Nat), l.length = elems.length → BdAt W B l b o →
    (∀ i y, elems[i]? = some y → ∃ cs, cs.length = 6 ∧ (∀ c, c < 6 → W.cell? ⟨b, o + i * 6 + c, none⟩ = cs[c]?) ∧ DataW.trod enc Tryz.prog W 0 (fun _ => true) true n 54 cs = some y) →
    IdB l ∧ keyN l ≤ Rows.uptoBulkAll (elems.map (·.1))
  | [], [], _, _, _, _ => ⟨(fun x hx => by cases hx), by simp [keyN]⟩
  | [], _ :: _, _, h, _, _ => by cases h
  | _ :: _, [], _, h, _, _ => by cases h
  | y :: r, x :: l, o, hlen, hat, h => by
    obtain ⟨⟨aa, ac, hc, _, _⟩, hat2⟩ := hat
    obtain ⟨h1, h2⟩ := ids_row1 r l (o + 6) (by simpa using hlen) hat2 (fun i z hz => by
      obtain ⟨cs, k1, k2, k3⟩ := h (i + 1) z (by simpa using hz)
      exact ⟨cs, k1, fun c hc => by rw [← k2 c hc]; congr 2; omega, k3⟩)
    obtain ⟨cs, k1, k2, k3⟩ := h 0 y rfl
    have hcs : cs = encB x (.slice aa x.ev.ats.length ac) := by
      apply List.ext_getElem?
      intro j
      by_cases hj : j < 6
      · have e1 := k2 j hj
        rw [Nat.zero_mul, Nat.add_zero] at e1
        have hj2 : j < (encB x (.slice aa x.ev.ats.length ac)).length := by rw [encB_len]; exact hj
        have e2 := hc j _ (List.getElem?_eq_getElem hj2)
        rw [← e1, e2, List.getElem?_eq_getElem hj2]
      · rw [List.getElem?_eq_none (by omega), List.getElem?_eq_none (by rw [encB_len]; omega)]
    subst hcs
    obtain ⟨e1, e2⟩ := ids_bound1 k3
    have hk : keyN (x :: l) = x.var.size + 1 + keyN l := by simp [keyN]
    refine ⟨fun z hz => ?_, ?_⟩
    · rcases List.mem_cons.1 hz with rfl | hz
      · exact e2
      · exact h1 z hz
    · rw [hk, List.map_cons, Rows.uptoBulkAll]; omega
theorem open_bounds1 {H : Type} {enc : TypeId × Value → H} {W : World} {fuel : Nat} {v : Value} {y : DataW H × List MemPlace} (h : DataW.trod enc Tryz.prog W 0 (fun _ => true) true fuel 36 [v] = some y) (hs : Rows.uptoBulk y.1 ≤ 1048576) :
    ∃ (bs : List Bd) (ao : Option Addr) (n cap : Nat), v = .slice ao n cap ∧ BsV W W.heap.size v bs ∧ KyB bs := by
  have hC : Tryz.prog.cellsOf 54 = 6 := by kernel_rfl
  have hb : Tryz.prog.bytesOf 54 = 80 := by kernel_rfl
  have hs' : Sml 36 y.1 := .inr hs
  obtain ⟨ao, len, cap, elems, n, rfl, hlen, hl, hm, hn, hd, hh⟩ := open_row9 Tryz.underlying36 (by rw [hC]; omega) h
  by_cases he : elems = []
  · subst he
    obtain rfl : len = 0 := hlen.symm
    exact ⟨[], ao, 0, cap, rfl, ⟨(fun x h => by cases h), by simp, ao, cap, rfl, hl, hm, hn, fun h => absurd rfl h⟩, kyB_of (fun x hx => by cases hx) (by simp [keyN])⟩
  · obtain ⟨b, o, rfl, hbl, hel⟩ := hh he
    rw [hC] at hel
    rcases hd with hd | ⟨sp, hd⟩
    · exact absurd hd he
    · rw [hd] at hs hs'
      have h4 := hs'.len Tryz.underlying36 (by rw [hb]; omega) (by rw [hb]; omega)
      rw [hb, List.length_map] at h4
      obtain ⟨l, h1, h2, h3, h5⟩ := row_bounds0 elems o (fun z hz => hs'.elem Tryz.underlying36 (List.mem_map_of_mem hz)) hel
      obtain ⟨k1, k2⟩ := ids_row1 elems l o h1 h2 hel
      refine ⟨l, _, len, cap, rfl, ⟨h3, by rw [h1]; exact h4, _, cap, by rw [h1, hlen], by rw [h1, hlen]; exact hl, hm, hn, fun _ => ⟨b, o, rfl, hbl, h2⟩⟩, kyB_of k1 ?_⟩
      simp only [Rows.uptoBulk] at hs
      omega
set_option maxRecDepth 100000 in
theorem open_part1 {H : Type} {enc : TypeId × Value → H} {W : World} {fuel : Nat} {cs : List Value} {y : DataW H × List MemPlace} (h : DataW.trod enc Tryz.prog W 0 (fun _ => true) true fuel 38 cs = some y) (hs : Rows.uptoBulk y.1 ≤ 1048576) :
    ∃ (bs : List Bd) (ao : Option Addr) (n cap : Nat), cs = [.slice ao n cap] ∧ BsV W W.heap.size (.slice ao n cap) bs ∧ KyB bs := by
  obtain ⟨xs, n, _, hx, hcl, hlen, hg⟩ := DataW.trod_struct Tryz.underlying38 h
  have hC : Tryz.prog.cellsOf 38 = 1 := by kernel_rfl
  have e1 : Tryz.prog.cellsOf 36 = 1 := by kernel_rfl
  rw [hC] at hcl
  match cs, hcl, xs, hlen with
  | [c0], _, [y0], _ =>
    have g0 : DataW.trod enc Tryz.prog W 0 (fun _ => true) true n 36 [c0] = some y0 := by have := hg 0 _ rfl; simpa [e1] using this
    rw [hx] at hs
    obtain ⟨bs, ao, m, cap, rfl, h1, h2⟩ := open_bounds1 g0 (by simp only [List.map_cons, Rows.uptoBulk, Rows.uptoBulkAll] at hs; omega)
    exact ⟨bs, ao, m, cap, rfl, h1, h2⟩
set_option maxRecDepth 100000 in
/-- A list of partial matches, as the statements hand it over. -/
theorem open_parts1 {H : Type} {enc : TypeId × Value → H} {W : World} {base : Nat} {v : Value} {d : DataW H} {p : List MemPlace} (hv : Value.okWide Tryz.prog W .any base 22 v)
    (h : DataW.Trod enc Tryz.prog W 0 (fun _ => true) true 22 v d p) (hs : Rows.uptoBulk d ≤ 1048576) :
    ∃ (ls : List (List Bd)), LpV W W.heap.size v ls := by
  have hC : Tryz.prog.cellsOf 38 = 1 := by kernel_rfl
  obtain ⟨ao0, n0, cap0, rfl⟩ := okWide_slice Tryz.underlying22 hv
  obtain ⟨fuel, hf⟩ := h
  simp only [Value.cells] at hf
  obtain ⟨ao, len, cap, elems, n, hvv, hlen, hl, hm, hn, hd, hh⟩ := open_row9 Tryz.underlying22 (by rw [hC]; omega) hf
  rw [hvv]
  by_cases he : elems = []
  · subst he
    obtain rfl : len = 0 := hlen.symm
    exact ⟨[], by simp, (fun bs h => by cases h), ao, cap, rfl, hl, hm, fun h => absurd h (by simp)⟩
  · obtain ⟨b, o, rfl, hbl, hel⟩ := hh he
    rw [hC] at hel
    rcases hd with hd | ⟨sp, hd⟩
    · exact absurd hd he
    · simp only at hd
      rw [hd] at hs
      simp only [Rows.uptoBulk] at hs
      have hall : ∀ i y, elems[i]? = some y → ∃ bs a n c, W.cell? ⟨b, o + i, none⟩ = some (.slice a n c) ∧ BsV W W.heap.size (.slice a n c) bs ∧ KyB bs := fun i y hy => by
        obtain ⟨cs, k1, k2, k3⟩ := hel i y hy
        have hmem := bulk_all_mem (List.mem_map.2 ⟨y, List.mem_of_getElem? hy, rfl⟩ : y.1 ∈ elems.map (·.1))
        obtain ⟨bs, a, m, c, rfl, h1, h2⟩ := open_part1 k3 (by omega)
        have := k2 0 (by omega)
        rw [Nat.mul_one, Nat.add_zero] at this
        exact ⟨bs, a, m, c, this, h1, h2⟩
      have hmk : ∀ (k : Nat), k ≤ elems.length → ∃ ls : List (List Bd), ls.length = k ∧ (∀ bs ∈ ls, KyB bs) ∧ ∀ j, j < k → ∃ a n c, W.cell? ⟨b, o + j, none⟩ = some (.slice a n c) ∧ BsV W W.heap.size (.slice a n c) ls[j]! := fun k => by
        induction k with
        | zero => exact fun _ => ⟨[], rfl, (fun bs h => by cases h), fun j hj => absurd hj (by omega)⟩
        | succ k ih =>
          intro hk
          obtain ⟨ls, g1, g2, g3⟩ := ih (by omega)
          obtain ⟨bs, a, m, c, e1, e2, e3⟩ := hall k elems[k] (List.getElem?_eq_getElem (by omega))
          refine ⟨ls ++ [bs], by simp [g1], fun x hx => ?_, fun j hj => ?_⟩
          · rcases List.mem_append.1 hx with hx | hx
            · exact g2 x hx
            · rw [List.mem_singleton.1 hx]; exact e3
          · by_cases hjk : j < k
            · obtain ⟨a', m', c', f1, f2⟩ := g3 j hjk
              refine ⟨a', m', c', f1, ?_⟩
              have : (ls ++ [bs])[j]! = ls[j]! := by rw [getElem!_pos _ j (by simp; omega), getElem!_pos ls j (by omega), List.getElem_append_left]
              rw [this]; exact f2
            · obtain rfl : j = k := by omega
              refine ⟨a, m, c, e1, ?_⟩
              have : (ls ++ [bs])[j]! = bs := by rw [getElem!_pos _ j (by simp; omega), List.getElem_append_right (by omega)]; simp [g1]
              rw [this]; exact e2
      obtain ⟨ls, g1, g2, g3⟩ := hmk elems.length (Nat.le_refl _)
      have hlb := bulk_len (elems.map (·.1))
      rw [List.length_map] at hlb
      exact ⟨ls, by rw [g1]; omega, g2, _, cap, by rw [g1, hlen], by rw [g1, hlen]; exact hl, hm, fun _ => ⟨b, o, rfl, hbl, fun j hj => g3 j (by rw [← g1]; exact hj)⟩⟩
end Go.Proofs.YtiinljljbjjaeaaGreatDoor
