/- What the arguments are in memory, as the statements hand them over: attributes, events, bounds, partial matches. -/
import Derived.Test.YtpbloplbpkedcaaPm9
import Derived.Test.YtpbloplbpkedcaaArg7
import Derived.SizedLaws
import Derived.ProofKit
import Derived.OpenShut
import Derived.ShutString
import Derived.Deep.Slices
import Derived.Deep.Fields
namespace Go.Proofs.Ytpbloplbpkedcaa
open Go Go.ChangeShapes Go.WideShapes Go.ChangeAt Go.RowKit Go.Deep
set_option linter.unusedVariables false

/-- Data that no machine is too small for: each row's weight within reach, or all of it of little bulk. -/
def Sml {H : Type} (t : TypeId) (d : DataW H) : Prop := (∀ n ∈ d.weights Try.prog t, n ≤ reachBytes) ∨ Rows.uptoBulk d ≤ 1048576
theorem bulk_all_mem {H : Type} : ∀ {l : List (DataW H)} {x : DataW H}, x ∈ l → Rows.uptoBulk x ≤ Rows.uptoBulkAll l
  | y :: r, x, h => by
    simp only [Rows.uptoBulkAll]
    rcases List.mem_cons.1 h with rfl | h
    · omega
    · have := bulk_all_mem h; omega
theorem weights_all_mem {H : Type} {e : TypeId} : ∀ {l : List (DataW H)} {x : DataW H}, x ∈ l → ∀ n ∈ x.weights Try.prog e, n ∈ DataW.weightsAll Try.prog e l
  | y :: r, x, h, n, hn => by
    simp only [DataW.weightsAll, List.mem_append]
    rcases List.mem_cons.1 h with rfl | h
    · exact .inl hn
    · exact .inr (weights_all_mem h n hn)
theorem Sml.elem {H : Type} {t e : TypeId} (ht : Try.prog.underlying t = some (.slice e)) {elems sp : List (DataW H)} (h : Sml t (.slice elems sp)) {x : DataW H} (hx : x ∈ elems) : Sml e x := by
  rcases h with h | h
  · refine .inl fun n hn => h n ?_
    simp only [DataW.weights, ht, List.mem_cons, List.mem_append]
    exact .inr (.inl (weights_all_mem hx n hn))
  · refine .inr (Nat.le_trans (bulk_all_mem hx) ?_)
    simp only [Rows.uptoBulk] at h
    omega
theorem bulk_pos {H : Type} : ∀ d : DataW H, 1 ≤ Rows.uptoBulk d
  | .lit l => by cases l <;> simp [Rows.uptoBulk]
  | .nil => by simp [Rows.uptoBulk]
  | .ptr _ => by simp [Rows.uptoBulk]
  | .slice _ _ => by simp [Rows.uptoBulk]
  | .agg _ => by simp [Rows.uptoBulk]
  | .iface _ _ => by simp [Rows.uptoBulk]
  | .map _ => by simp [Rows.uptoBulk]
  | .held _ => by simp [Rows.uptoBulk]
theorem bulk_len {H : Type} : ∀ l : List (DataW H), l.length ≤ Rows.uptoBulkAll l
  | [] => Nat.zero_le _
  | d :: r => by
    have := bulk_len r
    have h1 := bulk_pos d
    simp only [Rows.uptoBulkAll, List.length_cons]; omega
theorem Sml.len {H : Type} {t e : TypeId} (ht : Try.prog.underlying t = some (.slice e)) {elems sp : List (DataW H)} (h : Sml t (.slice elems sp)) (hb : 0 < Try.prog.bytesOf e) (hb2 : Try.prog.bytesOf e ≤ 1024) : elems.length * Try.prog.bytesOf e ≤ 140737488355328 := by
  rcases h with h | h
  · have := h ((elems.length + sp.length) * Try.prog.bytesOf e) (by simp [DataW.weights, ht])
    have h2 := reachBytes_lt
    have : elems.length * Try.prog.bytesOf e ≤ (elems.length + sp.length) * Try.prog.bytesOf e := Nat.mul_le_mul_right _ (by omega)
    omega
  · simp only [Rows.uptoBulk] at h
    have := bulk_len elems
    have h3 : elems.length * Try.prog.bytesOf e ≤ 1048576 * 1024 := Nat.mul_le_mul (by omega) hb2
    omega
theorem Sml.field {H : Type} {t s : TypeId} {fs : Array Field} (ht : Try.prog.underlying t = some (.struct fs)) {parts : List (DataW H)} (h : Sml t (.agg parts)) {j : Nat} {x : DataW H} (hj : (fs.toList.map (·.type))[j]? = some s) (hx : parts[j]? = some x) : Sml s x := by
  rcases h with h | h
  · refine .inl fun n hn => h n ?_
    simp only [DataW.weights, ht]
    exact DataW.weights_mem_each hj hx n hn
  · refine .inr (Nat.le_trans (bulk_all_mem (List.mem_of_getElem? hx)) ?_)
    simp only [Rows.uptoBulk] at h
    omega

/-- A row, opened, with its capacity. -/
theorem open_row9 {H : Type} {enc : TypeId × Value → H} {W : World} {t e : TypeId} {fuel : Nat} {v : Value} {x : DataW H × List MemPlace} (ht : Try.prog.underlying t = some (.slice e)) (hc : 0 < Try.prog.cellsOf e)
    (h : DataW.trod enc Try.prog W 0 (fun _ => true) true fuel t [v] = some x) :
    ∃ (ao : Option Addr) (len cap : Nat) (elems : List (DataW H × List MemPlace)) (n : Nat), v = .slice ao len cap ∧ elems.length = len ∧ len ≤ cap ∧ cap ≤ 9223372036854775807 ∧ (ao = none → cap = 0) ∧ (elems = [] ∨ ∃ sp, x.1 = .slice (elems.map (·.1)) sp) ∧
      (elems ≠ [] → ∃ b o, ao = some ⟨b, o, none⟩ ∧ b < W.heap.size ∧ ∀ i y, elems[i]? = some y → ∃ cs, cs.length = Try.prog.cellsOf e ∧ (∀ c, c < Try.prog.cellsOf e → W.cell? ⟨b, o + i * Try.prog.cellsOf e + c, none⟩ = cs[c]?) ∧ DataW.trod enc Try.prog W 0 (fun _ => true) true n e cs = some y) := by
  rcases DataW.trod_slice ht h with ⟨hcs, _⟩ | ⟨a, len, cap, elems, rest, n, hf, hcs, hx, _, hl, hm, hlen, hel, _, _⟩
  · simp only [List.cons.injEq, and_true] at hcs
    exact ⟨none, 0, 0, [], 0, hcs, rfl, Nat.zero_le _, by omega, fun _ => rfl, .inl rfl, fun h => absurd rfl h⟩
  · simp only [List.cons.injEq, and_true] at hcs
    refine ⟨some a, len, cap, elems, n, hcs, hlen, hl, by unfold maxLen at hm; omega, (fun e => by cases e), .inr ⟨rest.map (·.1), by rw [hx]⟩, fun hne => ?_⟩
    have hopen : ∀ i y, elems[i]? = some y → ∃ cs, cs.length = Try.prog.cellsOf e ∧ (∀ c, c < Try.prog.cellsOf e → W.cell? (a.add (i * Try.prog.cellsOf e + c)) = cs[c]?) ∧ DataW.trod enc Try.prog W 0 (fun _ => true) true n e cs = some y := fun i y hy => by
      have hi : i < len := by rw [← hlen]; exact (List.getElem?_eq_some_iff.1 hy).1
      have := hel i hi
      rw [hy] at this
      obtain ⟨cs, h1, h2⟩ := Option.bind_eq_some_iff.1 this
      obtain ⟨_, hcl, hat⟩ := World.cells?_some h1
      exact ⟨cs, hcl, fun c hc => by rw [← Go.Deep.add_add, hat c (by omega)], h2⟩
    obtain ⟨y0, hy0⟩ : ∃ y, elems[0]? = some y := by
      cases elems with
      | nil => exact absurd rfl hne
      | cons y r => exact ⟨y, rfl⟩
    obtain ⟨cs0, hl0, ha0, _⟩ := hopen 0 y0 hy0
    have h00 := ha0 0 hc
    rw [List.getElem?_eq_getElem (by omega)] at h00
    obtain ⟨b, o, sp⟩ := a
    obtain rfl : sp = none := by simpa [Addr.add] using World.cell?_spot h00
    have hblk : b < W.heap.size := by simpa [Addr.add] using World.block_lt_of_cell? _ _ h00
    refine ⟨b, o, rfl, hblk, fun i y hy => ?_⟩
    obtain ⟨cs, h1, h2, h3⟩ := hopen i y hy
    exact ⟨cs, h1, fun c hc => by rw [Nat.add_assoc, ← add_none7]; exact h2 c hc, h3⟩

set_option maxRecDepth 100000 in
theorem open_attr9 {H : Type} {enc : TypeId × Value → H} {W : World} {fuel : Nat} {cs : List Value} {y : DataW H × List MemPlace} (h : DataW.trod enc Try.prog W 0 (fun _ => true) true fuel 78 cs = some y) :
    ∃ x : At, cs = enc4 x ∧ x.name.size ≤ maxLen ∧ x.s.size ≤ maxLen ∧ 1 ≤ Rows.uptoBulk y.1 := by
  obtain ⟨xs, n, _, hx, hcl, hlen, hg⟩ := DataW.trod_struct Try.underlying78 h
  have hC : Try.prog.cellsOf 78 = 4 := by kernel_rfl
  have e3 : Try.prog.cellsOf 3 = 1 := by kernel_rfl
  have e2 : Try.prog.cellsOf 2 = 1 := by kernel_rfl
  have e9 : Try.prog.cellsOf 9 = 1 := by kernel_rfl
  have e23 : Try.prog.cellsOf 23 = 3 := by kernel_rfl
  rw [hC] at hcl
  match cs, hcl, xs, hlen with
  | [c0, c1, c2, c3], _, [y0, y1], _ =>
    have g0 : DataW.trod enc Try.prog W 0 (fun _ => true) true n 9 [c0] = some y0 := by have := hg 0 _ rfl; simpa [e9] using this
    have g1 : DataW.trod enc Try.prog W 0 (fun _ => true) true n 23 [c1, c2, c3] = some y1 := by have := hg 1 _ rfl; simpa [e23] using this
    obtain ⟨zs, m, _, hz, _, hzl, hf⟩ := DataW.trod_struct Try.underlying23 g1
    match zs, hzl with
    | [z0, z1, z2], _ =>
      have f0 : DataW.trod enc Try.prog W 0 (fun _ => true) true m 3 [c1] = some z0 := by have := hf 0 _ rfl; simpa [e3, e2, e9] using this
      have f1 : DataW.trod enc Try.prog W 0 (fun _ => true) true m 2 [c2] = some z1 := by have := hf 1 _ rfl; simpa [e3, e2, e9] using this
      have f2 : DataW.trod enc Try.prog W 0 (fun _ => true) true m 9 [c3] = some z2 := by have := hf 2 _ rfl; simpa [e3, e2, e9] using this
      obtain ⟨nm, k0, _, hn⟩ := DataW.trod_string Try.underlying9 g0
      obtain ⟨k, k1, _, _⟩ := DataW.trod_int Try.underlying3 f0
      obtain ⟨q, k2, _, _⟩ := DataW.trod_int Try.underlying2 f1
      obtain ⟨s, k3, _, hs⟩ := DataW.trod_string Try.underlying9 f2
      simp only [List.cons.injEq, and_true] at k0 k1 k2 k3
      subst k0 k1 k2 k3
      exact ⟨⟨nm, k, q, s⟩, rfl, hn, hs, by rw [hx]; simp only [Rows.uptoBulk]; omega⟩
theorem row_attrs9 {H : Type} {enc : TypeId × Value → H} {W : World} {n b : Nat} : ∀ (elems : List (DataW H × List MemPlace)) (o : Nat),
    (∀ i y, elems[i]? = some y → ∃ cs, cs.length = 4 ∧ (∀ c, c < 4 → W.cell? ⟨b, o + i * 4 + c, none⟩ = cs[c]?) ∧ DataW.trod enc Try.prog W 0 (fun _ => true) true n 78 cs = some y) →
    ∃ l : List At, l.length = elems.length ∧ (∀ j, j < l.length → ∀ i u, (enc4 l[j]!)[i]? = some u → W.cell? ⟨b, o + j * 4 + i, none⟩ = some u) ∧ ∀ x ∈ l, x.name.size ≤ maxLen ∧ x.s.size ≤ maxLen
  | [], _, _ => ⟨[], rfl, fun j h => absurd h (Nat.not_lt_zero _), fun c h => by cases h⟩
  | y :: r, o, h => by
    obtain ⟨l, h1, h2, h3⟩ := row_attrs9 r (o + 4) (fun i z hz => by
      obtain ⟨cs, k1, k2, k3⟩ := h (i + 1) z (by simpa using hz)
      exact ⟨cs, k1, fun c hc => by rw [← k2 c hc]; congr 2; omega, k3⟩)
    obtain ⟨cs, k1, k2, k3⟩ := h 0 y rfl
    obtain ⟨x, rfl, k4, k5, _⟩ := open_attr9 k3
    refine ⟨x :: l, by simp [h1], fun j hj i u hu => ?_, fun c hc => ?_⟩
    · cases j with
      | zero =>
        have hi : i < 4 := by have := (List.getElem?_eq_some_iff.1 hu).1; simpa [enc4_len] using this
        have := k2 i hi
        rw [this, ← hu]; rfl
      | succ j =>
        have hj' : j < l.length := by simpa using hj
        have := h2 j hj' i u (by simpa using hu)
        rwa [show o + 4 + j * 4 + i = o + (j + 1) * 4 + i by omega] at this
    · rcases List.mem_cons.1 hc with rfl | hc
      · exact ⟨k4, k5⟩
      · exact h3 c hc
theorem open_attrs9 {H : Type} {enc : TypeId × Value → H} {W : World} {fuel : Nat} {v : Value} {y : DataW H × List MemPlace} (h : DataW.trod enc Try.prog W 0 (fun _ => true) true fuel 34 [v] = some y) (hs : Sml 34 y.1) :
    ∃ xs : List At, Av W W.heap.size v xs ∧ xs.length ≤ Rows.uptoBulk y.1 := by
  have hC : Try.prog.cellsOf 78 = 4 := by kernel_rfl
  have hb : Try.prog.bytesOf 78 = 48 := by kernel_rfl
  obtain ⟨ao, len, cap, elems, n, rfl, hlen, hl, hm, hn, hd, hh⟩ := open_row9 Try.underlying34 (by rw [hC]; omega) h
  by_cases he : elems = []
  · subst he
    obtain rfl : len = 0 := hlen.symm
    exact ⟨[], ⟨(fun x hx => by cases hx), by simp, ao, cap, rfl, hl, hm, fun h => absurd h (Nat.lt_irrefl _)⟩, Nat.zero_le _⟩
  · obtain ⟨b, o, rfl, hbl, hel⟩ := hh he
    rw [hC] at hel
    obtain ⟨l, h1, h2, h3⟩ := row_attrs9 elems o hel
    rcases hd with hd | ⟨sp, hd⟩
    · exact absurd hd he
    · rw [hd] at hs
      have h4 := hs.len Try.underlying34 (by rw [hb]; omega) (by rw [hb]; omega)
      rw [hb, List.length_map] at h4
      refine ⟨l, ⟨h3, by rw [h1]; exact h4, _, cap, by rw [h1, hlen], by rw [h1, hlen]; exact hl, hm, fun _ => ⟨b, o, rfl, hbl, h2⟩⟩, ?_⟩
      rw [hd, h1]
      simp only [Rows.uptoBulk]
      have := bulk_len (elems.map (·.1))
      rw [List.length_map] at this
      omega
def attrsB : List Bd → Nat
  | [] => 0
  | x :: r => x.ats.length + 1 + attrsB r
set_option maxRecDepth 100000 in
theorem open_event9 {H : Type} {enc : TypeId × Value → H} {W : World} {fuel : Nat} {cs : List Value} {y : DataW H × List MemPlace} (h : DataW.trod enc Try.prog W 0 (fun _ => true) true fuel 36 cs = some y) (hs : Sml 36 y.1) :
    ∃ (src seq time : Int) (ty : ByteArray) (xs : List At) (aa : Option Addr) (ac : Nat), cs = [.int .i64 src, .int .i64 seq, .int .i64 time, .string ty, .slice aa xs.length ac] ∧ Av W W.heap.size (.slice aa xs.length ac) xs ∧ xs.length + 1 ≤ Rows.uptoBulk y.1 := by
  obtain ⟨xs, n, _, hx, hcl, hlen, hg⟩ := DataW.trod_struct Try.underlying36 h
  have hC : Try.prog.cellsOf 36 = 5 := by kernel_rfl
  have e23 : Try.prog.cellsOf 33 = 2 := by kernel_rfl
  have e3 : Try.prog.cellsOf 3 = 1 := by kernel_rfl
  have e2 : Try.prog.cellsOf 2 = 1 := by kernel_rfl
  have e9 : Try.prog.cellsOf 9 = 1 := by kernel_rfl
  have e24 : Try.prog.cellsOf 34 = 1 := by kernel_rfl
  rw [hC] at hcl
  match cs, hcl, xs, hlen with
  | [c0, c1, c2, c3, c4], _, [y0, y1, y2, y3], _ =>
    have g0 : DataW.trod enc Try.prog W 0 (fun _ => true) true n 33 [c0, c1] = some y0 := by have := hg 0 _ rfl; simpa [e23, e3, e2, e9, e24] using this
    have g1 : DataW.trod enc Try.prog W 0 (fun _ => true) true n 2 [c2] = some y1 := by have := hg 1 _ rfl; simpa [e23, e3, e2, e9, e24] using this
    have g2 : DataW.trod enc Try.prog W 0 (fun _ => true) true n 9 [c3] = some y2 := by have := hg 2 _ rfl; simpa [e23, e3, e2, e9, e24] using this
    have g3 : DataW.trod enc Try.prog W 0 (fun _ => true) true n 34 [c4] = some y3 := by have := hg 3 _ rfl; simpa [e23, e3, e2, e9, e24] using this
    obtain ⟨zs, m, _, hzz, _, hzl, hf2⟩ := DataW.trod_struct Try.underlying33 g0
    match zs, hzl with
    | [z0, z1], _ =>
      have f0 : DataW.trod enc Try.prog W 0 (fun _ => true) true m 3 [c0] = some z0 := by have := hf2 0 _ rfl; simpa [e3, e2] using this
      have f1 : DataW.trod enc Try.prog W 0 (fun _ => true) true m 2 [c1] = some z1 := by have := hf2 1 _ rfl; simpa [e3, e2] using this
      obtain ⟨a, k0, _, _⟩ := DataW.trod_int Try.underlying3 f0
      obtain ⟨b, k1, _, _⟩ := DataW.trod_int Try.underlying2 f1
      obtain ⟨t, k2, _, _⟩ := DataW.trod_int Try.underlying2 g1
      obtain ⟨s, k3, _, _⟩ := DataW.trod_string Try.underlying9 g2
      simp only [List.cons.injEq, and_true] at k0 k1 k2 k3
      subst k0 k1 k2 k3
      rw [hx] at hs
      obtain ⟨xs, hav, hb⟩ := open_attrs9 g3 (hs.field Try.underlying36 (j := 3) rfl rfl)
      obtain ⟨aa, ac, rfl⟩ := hav.shape
      refine ⟨a, b, t, s, xs, aa, ac, rfl, hav, ?_⟩
      rw [hx]
      simp only [List.map_cons, List.map_nil, Rows.uptoBulk, Rows.uptoBulkAll]
      omega
set_option maxRecDepth 100000 in
theorem open_bound9 {H : Type} {enc : TypeId × Value → H} {W : World} {fuel : Nat} {cs : List Value} {y : DataW H × List MemPlace} (h : DataW.trod enc Try.prog W 0 (fun _ => true) true fuel 91 cs = some y) (hs : Sml 91 y.1) :
    ∃ (x : Bd) (aa : Option Addr) (ac : Nat), cs = encB x (.slice aa x.ats.length ac) ∧ Av W W.heap.size (.slice aa x.ats.length ac) x.ats ∧ x.ats.length + 1 ≤ Rows.uptoBulk y.1 ∧ x.var.size ≤ maxLen := by
  obtain ⟨xs, n, _, hx, hcl, hlen, hg⟩ := DataW.trod_struct Try.underlying91 h
  have hC : Try.prog.cellsOf 91 = 6 := by kernel_rfl
  have e5 : Try.prog.cellsOf 36 = 5 := by kernel_rfl
  have e9 : Try.prog.cellsOf 9 = 1 := by kernel_rfl
  rw [hC] at hcl
  match cs, hcl, xs, hlen with
  | [c0, c1, c2, c3, c4, c5], _, [y0, y1], _ =>
    have g0 : DataW.trod enc Try.prog W 0 (fun _ => true) true n 9 [c0] = some y0 := by have := hg 0 _ rfl; simpa [e9, e5] using this
    have g1 : DataW.trod enc Try.prog W 0 (fun _ => true) true n 36 [c1, c2, c3, c4, c5] = some y1 := by have := hg 1 _ rfl; simpa [e9, e5] using this
    obtain ⟨nm, k0, _, hnm⟩ := DataW.trod_string Try.underlying9 g0
    simp only [List.cons.injEq, and_true] at k0
    subst k0
    rw [hx] at hs
    obtain ⟨src, seq, time, ty, xs, aa, ac, he, hav, hb⟩ := open_event9 g1 (hs.field Try.underlying91 (j := 1) rfl rfl)
    simp only [List.cons.injEq, and_true] at he
    obtain ⟨rfl, rfl, rfl, rfl, rfl⟩ := he
    refine ⟨⟨nm, src, seq, time, ty, xs⟩, aa, ac, rfl, hav, ?_, hnm⟩
    rw [hx]
    simp only [List.map_cons, List.map_nil, Rows.uptoBulk, Rows.uptoBulkAll]
    omega
theorem row_bounds9 {H : Type} {enc : TypeId × Value → H} {W : World} {n b : Nat} : ∀ (elems : List (DataW H × List MemPlace)) (o : Nat), (∀ y ∈ elems, Sml 91 y.1) →
    (∀ i y, elems[i]? = some y → ∃ cs, cs.length = 6 ∧ (∀ c, c < 6 → W.cell? ⟨b, o + i * 6 + c, none⟩ = cs[c]?) ∧ DataW.trod enc Try.prog W 0 (fun _ => true) true n 91 cs = some y) →
    ∃ l : List Bd, l.length = elems.length ∧ BdAt W W.heap.size l b o ∧ attrsB l ≤ Rows.uptoBulkAll (elems.map (·.1)) ∧ ∀ x ∈ l, x.var.size ≤ maxLen
  | [], _, _, _ => ⟨[], rfl, trivial, Nat.zero_le _, fun x h => by cases h⟩
  | y :: r, o, hs, h => by
    obtain ⟨l, h1, h2, h3, h9⟩ := row_bounds9 r (o + 6) (fun z hz => hs z (List.mem_cons_of_mem _ hz)) (fun i z hz => by
      obtain ⟨cs, k1, k2, k3⟩ := h (i + 1) z (by simpa using hz)
      exact ⟨cs, k1, fun c hc => by rw [← k2 c hc]; congr 2; omega, k3⟩)
    obtain ⟨cs, k1, k2, k3⟩ := h 0 y rfl
    obtain ⟨x, aa, ac, rfl, hav, hb, hvx⟩ := open_bound9 k3 (hs y (List.mem_cons_self))
    refine ⟨x :: l, by simp [h1], ⟨⟨aa, ac, fun j u hu => ?_, hav⟩, h2⟩, ?_, fun z hz => (List.mem_cons.1 hz).elim (fun e => by rw [e]; exact hvx) (h9 z)⟩
    · have hj : j < 6 := by have := (List.getElem?_eq_some_iff.1 hu).1; rwa [encB_len] at this
      have := k2 j hj
      rw [Nat.zero_mul, Nat.add_zero] at this
      rw [this, hu]
    · simp only [attrsB, List.map_cons, Rows.uptoBulkAll]; omega
theorem open_bounds9 {H : Type} {enc : TypeId × Value → H} {W : World} {fuel : Nat} {v : Value} {y : DataW H × List MemPlace} (h : DataW.trod enc Try.prog W 0 (fun _ => true) true fuel 41 [v] = some y) (hs : Sml 41 y.1) :
    ∃ (bs : List Bd) (ao : Option Addr) (cap : Nat), v = .slice ao bs.length cap ∧ BsV W W.heap.size v bs ∧ bs.length * 80 ≤ 140737488355328 ∧ attrsB bs ≤ Rows.uptoBulk y.1 ∧ ∀ b ∈ bs, b.var.size ≤ maxLen := by
  have hC : Try.prog.cellsOf 91 = 6 := by kernel_rfl
  have hb : Try.prog.bytesOf 91 = 80 := by kernel_rfl
  obtain ⟨ao, len, cap, elems, n, rfl, hlen, hl, hm, hn, hd, hh⟩ := open_row9 Try.underlying41 (by rw [hC]; omega) h
  by_cases he : elems = []
  · subst he
    obtain rfl : len = 0 := hlen.symm
    exact ⟨[], ao, cap, rfl, ⟨ao, cap, rfl, hl, ⟨hm, hn⟩, fun h => absurd rfl h⟩, by simp, Nat.zero_le _, fun b h => by cases h⟩
  · obtain ⟨b, o, rfl, hbl, hel⟩ := hh he
    rw [hC] at hel
    rcases hd with hd | ⟨sp, hd⟩
    · exact absurd hd he
    · rw [hd] at hs
      have h4 := hs.len Try.underlying41 (by rw [hb]; omega) (by rw [hb]; omega)
      rw [hb, List.length_map] at h4
      obtain ⟨l, h1, h2, h3, h9⟩ := row_bounds9 elems o (fun z hz => hs.elem Try.underlying41 (List.mem_map_of_mem hz)) hel
      refine ⟨l, _, cap, by rw [h1, hlen], ⟨_, cap, by rw [h1, hlen], by rw [h1, hlen]; exact hl, ⟨hm, hn⟩, fun _ => ⟨b, o, rfl, hbl, h2⟩⟩, by rw [h1]; exact h4, ?_, h9⟩
      rw [hd]
      simp only [Rows.uptoBulk]
      omega
set_option maxRecDepth 100000 in
theorem open_partial9 {H : Type} {enc : TypeId × Value → H} {W : World} {base : Nat} {v : Value} {d : DataW H} {p : List MemPlace} (hv : Value.okWide Try.prog W .any base 43 v)
    (h : DataW.Trod enc Try.prog W 0 (fun _ => true) true 43 v d p) (hs : Sml 43 d) :
    ∃ (bs : List Bd) (ao : Option Addr) (cap : Nat), v = .agg #[.slice ao bs.length cap] ∧ BsV W W.heap.size (.slice ao bs.length cap) bs ∧ bs.length * 80 ≤ 140737488355328 ∧ attrsB bs ≤ Rows.uptoBulk d ∧ ∀ b ∈ bs, b.var.size ≤ maxLen := by
  obtain ⟨cs, rfl, hsz⟩ := okWide_struct Try.underlying43 hv
  have hC : Try.prog.cellsOf 43 = 1 := by kernel_rfl
  have e1 : Try.prog.cellsOf 41 = 1 := by kernel_rfl
  obtain ⟨l⟩ := cs
  match l, hsz.trans hC with
  | [c0], _ =>
    obtain ⟨fuel, hf⟩ := h
    obtain ⟨xs, n, _, hx, _, hlen, hg⟩ := DataW.trod_struct Try.underlying43 hf
    match xs, hlen with
    | [y0], _ =>
      have g0 : DataW.trod enc Try.prog W 0 (fun _ => true) true n 41 [c0] = some y0 := by have := hg 0 _ rfl; simpa [Value.cells, e1] using this
      simp only [Prod.mk.injEq] at hx
      have hs0 := hs
      rw [hx.1] at hs
      obtain ⟨bs, ao, cap, rfl, h1, h2, h3, h9⟩ := open_bounds9 g0 (hs.field Try.underlying43 (j := 0) rfl rfl)
      refine ⟨bs, ao, cap, rfl, h1, h2, ?_, h9⟩
      rw [hx.1]
      simp only [List.map_cons, List.map_nil, Rows.uptoBulk, Rows.uptoBulkAll]
      omega
set_option maxRecDepth 100000 in
theorem open_conds9 {H : Type} {enc : TypeId × Value → H} {W : World} {base : Nat} {v : Value} {d : DataW H} {p : List MemPlace} (hv : Value.okWide Try.prog W .any base 28 v)
    (h : DataW.Trod enc Try.prog W 0 (fun _ => true) true 28 v d p) (hs : Sml 28 d) :
    ∃ (l : List Cnd) (ao : Option Addr) (cap : Nat), v = .slice ao l.length cap ∧ CdV W (fun x => x < W.heap.size) (.slice ao l.length cap) l ∧ l.length * 136 ≤ 140737488355328 ∧ (∀ c ∈ l, wdC c) ∧ l.length ≤ Rows.uptoBulk d := by
  have hC : Try.prog.cellsOf 27 = 11 := by kernel_rfl
  have hb : Try.prog.bytesOf 27 = 136 := by kernel_rfl
  obtain ⟨ao0, n0, cap0, rfl⟩ := okWide_slice Try.underlying28 hv
  obtain ⟨fuel, hf⟩ := h
  simp only [Value.cells] at hf
  obtain ⟨ao, len, cap, elems, n, he0, hlen, hl, hm, hn, hd, hh⟩ := open_row9 Try.underlying28 (by rw [hC]; omega) hf
  simp only [Value.slice.injEq] at he0
  obtain ⟨rfl, rfl, rfl⟩ := he0
  by_cases he : elems = []
  · subst he
    obtain rfl : n0 = 0 := hlen.symm
    exact ⟨[], ao0, cap0, rfl, ⟨ao0, cap0, rfl, fun h => absurd rfl h⟩, by simp, (fun c h => by cases h), Nat.zero_le _⟩
  · obtain ⟨b, o, rfl, hbl, hel⟩ := hh he
    rw [hC] at hel
    rcases hd with hd | ⟨sp, hd⟩
    · exact absurd hd he
    · simp only at hd
      rw [hd] at hs
      have h4 := hs.len Try.underlying28 (by rw [hb]; omega) (by rw [hb]; omega)
      rw [hb, List.length_map] at h4
      obtain ⟨l, h1, h2, _, h3⟩ := row_conds elems o hel
      refine ⟨l, _, cap0, by rw [h1, hlen], ⟨_, cap0, rfl, fun _ => ⟨b, o, rfl, hbl, h2⟩⟩, by rw [h1]; exact h4, h3, ?_⟩
      rw [hd]
      simp only [Rows.uptoBulk]
      have := bulk_len (elems.map (·.1))
      rw [List.length_map] at this
      omega
end Go.Proofs.Ytpbloplbpkedcaa
