/- Joined: Ap0, Ap1, Ap3. -/
import Derived.Test.YtcnecokamckfaaaGreatDoorK3
import Derived.Test.YtcnecokamckfaaaGreatDoorK4
import Derived.SizedLaws
import Derived.ProofKit
import Derived.OpenShut
import Derived.ShutString
import Derived.Deep.Slices
import Derived.Deep.Fields
import Derived.Test.YtcnecokamckfaaaGreatDoorK8
import Derived.Lib.ItoaLen
set_option linter.unusedVariables false
set_option linter.unusedSimpArgs false
/- What the arguments are in memory, as the statements hand them over: attributes, events, bounds, partial matches. -/
namespace Go.Proofs.YtcnecokamckfaaaGreatDoor
open Go Go.ChangeShapes Go.WideShapes Go.ChangeAt Go.RowKit Go.Deep
set_option linter.unusedVariables false

/-- Data that no machine is too small for: each row's weight within reach, or all of it of little bulk. -/
def Sml {H : Type} (t : TypeId) (d : DataW H) : Prop := (∀ n ∈ d.weights Tryz.prog t, n ≤ reachBytes) ∨ Rows.uptoBulk d ≤ 1048576
theorem bulk_all_mem {H : Type} : ∀ {l : List (DataW H)} {x : DataW H}, x ∈ l → Rows.uptoBulk x ≤ Rows.uptoBulkAll l
  | y :: r, x, h => by
    simp only [Rows.uptoBulkAll]
    rcases List.mem_cons.1 h with rfl | h
    · omega
    · have := bulk_all_mem h; omega
theorem weights_all_mem {H : Type} {e : TypeId} : ∀ {l : List (DataW H)} {x : DataW H}, x ∈ l → ∀ n ∈ x.weights Tryz.prog e, n ∈ DataW.weightsAll Tryz.prog e l
  | y :: r, x, h, n, hn => by
    simp only [DataW.weightsAll, List.mem_append]
    rcases List.mem_cons.1 h with rfl | h
    · exact .inl hn
    · exact .inr (weights_all_mem h n hn)
theorem Sml.elem {H : Type} {t e : TypeId} (ht : Tryz.prog.underlying t = some (.slice e)) {elems sp : List (DataW H)} (h : Sml t (.slice elems sp)) {x : DataW H} (hx : x ∈ elems) : Sml e x := by
  rcases h with h | h
  · refine .inl fun n hn => h n ?_
    simp only [DataW.weights, ht, List.mem_cons, List.mem_append]
    exact .inr (.inl (weights_all_mem hx n hn))
  · refine .inr (Nat.le_trans (bulk_all_mem hx) ?_)
    simp only [Rows.uptoBulk] at h
    omega
theorem bulk_pos {H : Type} : ∀ d : DataW H, 1 ≤ Rows.uptoBulk d
  | .lit l => by cases l <;> simp [Rows.uptoBulk]
  | .nil => by simp [Rows.uptoBulk]
  | .ptr _ => by simp [Rows.uptoBulk]
  | .slice _ _ => by simp [Rows.uptoBulk]
  | .agg _ => by simp [Rows.uptoBulk]
  | .iface _ _ => by simp [Rows.uptoBulk]
  | .map _ => by simp [Rows.uptoBulk]
  | .held _ => by simp [Rows.uptoBulk]
theorem bulk_len {H : Type} : ∀ l : List (DataW H), l.length ≤ Rows.uptoBulkAll l
  | [] => Nat.zero_le _
  | d :: r => by
    have := bulk_len r
    have h1 := bulk_pos d
    simp only [Rows.uptoBulkAll, List.length_cons]; omega
theorem Sml.len {H : Type} {t e : TypeId} (ht : Tryz.prog.underlying t = some (.slice e)) {elems sp : List (DataW H)} (h : Sml t (.slice elems sp)) (hb : 0 < Tryz.prog.bytesOf e) (hb2 : Tryz.prog.bytesOf e ≤ 1024) : elems.length * Tryz.prog.bytesOf e ≤ 140737488355328 := by
  rcases h with h | h
  · have := h ((elems.length + sp.length) * Tryz.prog.bytesOf e) (by simp [DataW.weights, ht])
    have h2 := reachBytes_lt
    have : elems.length * Tryz.prog.bytesOf e ≤ (elems.length + sp.length) * Tryz.prog.bytesOf e := Nat.mul_le_mul_right _ (by omega)
    omega
  · simp only [Rows.uptoBulk] at h
    have := bulk_len elems
    have h3 : elems.length * Tryz.prog.bytesOf e ≤ 1048576 * 1024 := Nat.mul_le_mul (by omega) hb2
    omega
theorem Sml.field {H : Type} {t s : TypeId} {fs : Array Field} (ht : Tryz.prog.underlying t = some (.struct fs)) {parts : List (DataW H)} (h : Sml t (.agg parts)) {j : Nat} {x : DataW H} (hj : (fs.toList.map (·.type))[j]? = some s) (hx : parts[j]? = some x) : Sml s x := by
  rcases h with h | h
  · refine .inl fun n hn => h n ?_
    simp only [DataW.weights, ht]
    exact DataW.weights_mem_each hj hx n hn
  · refine .inr (Nat.le_trans (bulk_all_mem (List.mem_of_getElem? hx)) ?_)
    simp only [Rows.uptoBulk] at h
    omega

/-- A row, opened, with its capacity. -/
theorem open_row9 {H : Type} {enc : TypeId × Value → H} {W : World} {t e : TypeId} {fuel : Nat} {v : Value} {x : DataW H × List MemPlace} (ht : Tryz.prog.underlying t = some (.slice e)) (hc : 0 < Tryz.prog.cellsOf e)
    (h : DataW.trod enc Tryz.prog W 0 (fun _ => true) true fuel t [v] = some x) :
    ∃ (ao : Option Addr) (len cap : Nat) (elems : List (DataW H × List MemPlace)) (n : Nat), v = .slice ao len cap ∧ elems.length = len ∧ len ≤ cap ∧ cap ≤ 9223372036854775807 ∧ (ao = none → cap = 0) ∧ (elems = [] ∨ ∃ sp, x.1 = .slice (elems.map (·.1)) sp) ∧
      (elems ≠ [] → ∃ b o, ao = some ⟨b, o, none⟩ ∧ b < W.heap.size ∧ ∀ i y, elems[i]? = some y → ∃ cs, cs.length = Tryz.prog.cellsOf e ∧ (∀ c, c < Tryz.prog.cellsOf e → W.cell? ⟨b, o + i * Tryz.prog.cellsOf e + c, none⟩ = cs[c]?) ∧ DataW.trod enc Tryz.prog W 0 (fun _ => true) true n e cs = some y) := by
  rcases DataW.trod_slice ht h with ⟨hcs, _⟩ | ⟨a, len, cap, elems, rest, n, hf, hcs, hx, _, hl, hm, hlen, hel, _, _⟩
  · simp only [List.cons.injEq, and_true] at hcs
    exact ⟨none, 0, 0, [], 0, hcs, rfl, Nat.zero_le _, by omega, fun _ => rfl, .inl rfl, fun h => absurd rfl h⟩
  · simp only [List.cons.injEq, and_true] at hcs
    refine ⟨some a, len, cap, elems, n, hcs, hlen, hl, by unfold maxLen at hm; omega, (fun e => by cases e), .inr ⟨rest.map (·.1), by rw [hx]⟩, fun hne => ?_⟩
    have hopen : ∀ i y, elems[i]? = some y → ∃ cs, cs.length = Tryz.prog.cellsOf e ∧ (∀ c, c < Tryz.prog.cellsOf e → W.cell? (a.add (i * Tryz.prog.cellsOf e + c)) = cs[c]?) ∧ DataW.trod enc Tryz.prog W 0 (fun _ => true) true n e cs = some y := fun i y hy => by
      have hi : i < len := by rw [← hlen]; exact (List.getElem?_eq_some_iff.1 hy).1
      have := hel i hi
      rw [hy] at this
      obtain ⟨cs, h1, h2⟩ := Option.bind_eq_some_iff.1 this
      obtain ⟨_, hcl, hat⟩ := World.cells?_some h1
      exact ⟨cs, hcl, fun c hc => by rw [← Go.Deep.add_add, hat c (by omega)], h2⟩
    obtain ⟨y0, hy0⟩ : ∃ y, elems[0]? = some y := by
      cases elems with
      | nil => exact absurd rfl hne
      | cons y r => exact ⟨y, rfl⟩
    obtain ⟨cs0, hl0, ha0, _⟩ := hopen 0 y0 hy0
    have h00 := ha0 0 hc
    rw [List.getElem?_eq_getElem (by omega)] at h00
    obtain ⟨b, o, sp⟩ := a
    obtain rfl : sp = none := by simpa [Addr.add] using World.cell?_spot h00
    have hblk : b < W.heap.size := by simpa [Addr.add] using World.block_lt_of_cell? _ _ h00
    refine ⟨b, o, rfl, hblk, fun i y hy => ?_⟩
    obtain ⟨cs, h1, h2, h3⟩ := hopen i y hy
    exact ⟨cs, h1, fun c hc => by rw [Nat.add_assoc, ← add_off0]; exact h2 c hc, h3⟩

set_option maxRecDepth 100000 in
theorem open_attr0 {H : Type} {enc : TypeId × Value → H} {W : World} {fuel : Nat} {cs : List Value} {y : DataW H × List MemPlace} (h : DataW.trod enc Tryz.prog W 0 (fun _ => true) true fuel 58 cs = some y) :
    ∃ x : At, cs = enc4 x ∧ x.name.size ≤ maxLen ∧ x.s.size ≤ maxLen ∧ (Lit.int .i64 x.n).wf = true := by
  obtain ⟨xs, n, _, hx, hcl, hlen, hg⟩ := DataW.trod_struct Tryz.underlying58 h
  have hC : Tryz.prog.cellsOf 58 = 4 := by kernel_rfl
  have e3 : Tryz.prog.cellsOf 3 = 1 := by kernel_rfl
  have e2 : Tryz.prog.cellsOf 2 = 1 := by kernel_rfl
  have e9 : Tryz.prog.cellsOf 9 = 1 := by kernel_rfl
  have e23 : Tryz.prog.cellsOf 56 = 3 := by kernel_rfl
  rw [hC] at hcl
  match cs, hcl, xs, hlen with
  | [c0, c1, c2, c3], _, [y0, y1], _ =>
    have g0 : DataW.trod enc Tryz.prog W 0 (fun _ => true) true n 9 [c0] = some y0 := by have := hg 0 _ rfl; simpa [e9] using this
    have g1 : DataW.trod enc Tryz.prog W 0 (fun _ => true) true n 56 [c1, c2, c3] = some y1 := by have := hg 1 _ rfl; simpa [e23] using this
    obtain ⟨zs, m, _, hz, _, hzl, hf⟩ := DataW.trod_struct Tryz.underlying56 g1
    match zs, hzl with
    | [z0, z1, z2], _ =>
      have f0 : DataW.trod enc Tryz.prog W 0 (fun _ => true) true m 3 [c1] = some z0 := by have := hf 0 _ rfl; simpa [e3, e2, e9] using this
      have f1 : DataW.trod enc Tryz.prog W 0 (fun _ => true) true m 2 [c2] = some z1 := by have := hf 1 _ rfl; simpa [e3, e2, e9] using this
      have f2 : DataW.trod enc Tryz.prog W 0 (fun _ => true) true m 9 [c3] = some z2 := by have := hf 2 _ rfl; simpa [e3, e2, e9] using this
      obtain ⟨nm, k0, _, hn⟩ := DataW.trod_string Tryz.underlying9 g0
      obtain ⟨k, k1, _, _⟩ := DataW.trod_int Tryz.underlying3 f0
      obtain ⟨q, k2, _, hq⟩ := DataW.trod_int Tryz.underlying2 f1
      obtain ⟨s, k3, _, hs⟩ := DataW.trod_string Tryz.underlying9 f2
      simp only [List.cons.injEq, and_true] at k0 k1 k2 k3
      subst k0 k1 k2 k3
      exact ⟨⟨nm, k, q, s⟩, rfl, hn, hs, hq⟩
theorem row_attrs0 {H : Type} {enc : TypeId × Value → H} {W : World} {n b : Nat} : ∀ (elems : List (DataW H × List MemPlace)) (o : Nat),
    (∀ i y, elems[i]? = some y → ∃ cs, cs.length = 4 ∧ (∀ c, c < 4 → W.cell? ⟨b, o + i * 4 + c, none⟩ = cs[c]?) ∧ DataW.trod enc Tryz.prog W 0 (fun _ => true) true n 58 cs = some y) →
    ∃ l : List At, l.length = elems.length ∧ (∀ j, j < l.length → ∀ i u, (enc4 l[j]!)[i]? = some u → W.cell? ⟨b, o + j * 4 + i, none⟩ = some u) ∧ ∀ x ∈ l, (x.name.size ≤ maxLen ∧ x.s.size ≤ maxLen) ∧ (Lit.int .i64 x.n).wf = true
  | [], _, _ => ⟨[], rfl, fun j h => absurd h (Nat.not_lt_zero _), fun c h => by cases h⟩
  | y :: r, o, h => by
    obtain ⟨l, h1, h2, h3⟩ := row_attrs0 r (o + 4) (fun i z hz => by
      obtain ⟨cs, k1, k2, k3⟩ := h (i + 1) z (by simpa using hz)
      exact ⟨cs, k1, fun c hc => by rw [← k2 c hc]; congr 2; omega, k3⟩)
    obtain ⟨cs, k1, k2, k3⟩ := h 0 y rfl
    obtain ⟨x, rfl, k4, k5, k6⟩ := open_attr0 k3
    refine ⟨x :: l, by simp [h1], fun j hj i u hu => ?_, fun c hc => ?_⟩
    · cases j with
      | zero =>
        have hi : i < 4 := by have := (List.getElem?_eq_some_iff.1 hu).1; simpa [enc4_len] using this
        have := k2 i hi
        rw [this, ← hu]; rfl
      | succ j =>
        have hj' : j < l.length := by simpa using hj
        have := h2 j hj' i u (by simpa using hu)
        rwa [show o + 4 + j * 4 + i = o + (j + 1) * 4 + i by omega] at this
    · rcases List.mem_cons.1 hc with rfl | hc
      · exact ⟨⟨k4, k5⟩, k6⟩
      · exact h3 c hc
theorem open_attrs0 {H : Type} {enc : TypeId × Value → H} {W : World} {fuel : Nat} {v : Value} {y : DataW H × List MemPlace} (h : DataW.trod enc Tryz.prog W 0 (fun _ => true) true fuel 50 [v] = some y) (hs : Sml 50 y.1) :
    ∃ xs : List At, AvN W W.heap.size v xs ∧ ∀ x ∈ xs, (Lit.int .i64 x.n).wf = true := by
  have hC : Tryz.prog.cellsOf 58 = 4 := by kernel_rfl
  have hb : Tryz.prog.bytesOf 58 = 48 := by kernel_rfl
  obtain ⟨ao, len, cap, elems, n, rfl, hlen, hl, hm, hn, hd, hh⟩ := open_row9 Tryz.underlying50 (by rw [hC]; omega) h
  have hnil : ∀ n c, Value.slice ao len cap = .slice none n c → c = 0 := fun n c e => by
    simp only [Value.slice.injEq] at e
    rw [← e.2.2]; exact hn e.1
  by_cases he : elems = []
  · subst he
    obtain rfl : len = 0 := hlen.symm
    exact ⟨[], ⟨⟨(fun x hx => by cases hx), by simp, ao, cap, rfl, hl, hm, fun h => absurd h (Nat.lt_irrefl _)⟩, hnil⟩, fun x hx => by cases hx⟩
  · obtain ⟨b, o, rfl, hbl, hel⟩ := hh he
    rw [hC] at hel
    obtain ⟨l, h1, h2, h3⟩ := row_attrs0 elems o hel
    rcases hd with hd | ⟨sp, hd⟩
    · exact absurd hd he
    · rw [hd] at hs
      have h4 := hs.len Tryz.underlying50 (by rw [hb]; omega) (by rw [hb]; omega)
      rw [hb, List.length_map] at h4
      exact ⟨l, ⟨⟨fun x hx => (h3 x hx).1, by rw [h1]; exact h4, _, cap, by rw [h1, hlen], by rw [h1, hlen]; exact hl, hm, fun _ => ⟨b, o, rfl, hbl, h2⟩⟩, hnil⟩, fun x hx => (h3 x hx).2⟩
set_option maxRecDepth 100000 in
theorem open_event0 {H : Type} {enc : TypeId × Value → H} {W : World} {fuel : Nat} {cs : List Value} {y : DataW H × List MemPlace} (h : DataW.trod enc Tryz.prog W 0 (fun _ => true) true fuel 52 cs = some y) (hs : Sml 52 y.1) :
    ∃ (e : Ev) (v : Value), cs = [.int .i64 e.src, .int .i64 e.seq, .int .i64 e.time, .string e.ty, v] ∧ AvN W W.heap.size v e.ats ∧ e.ty.size ≤ maxLen ∧ ∀ x ∈ e.ats, (Lit.int .i64 x.n).wf = true := by
  obtain ⟨xs, n, _, hx, hcl, hlen, hg⟩ := DataW.trod_struct Tryz.underlying52 h
  have hC : Tryz.prog.cellsOf 52 = 5 := by kernel_rfl
  have e23 : Tryz.prog.cellsOf 49 = 2 := by kernel_rfl
  have e3 : Tryz.prog.cellsOf 3 = 1 := by kernel_rfl
  have e2 : Tryz.prog.cellsOf 2 = 1 := by kernel_rfl
  have e9 : Tryz.prog.cellsOf 9 = 1 := by kernel_rfl
  have e24 : Tryz.prog.cellsOf 50 = 1 := by kernel_rfl
  rw [hC] at hcl
  match cs, hcl, xs, hlen with
  | [c0, c1, c2, c3, c4], _, [y0, y1, y2, y3], _ =>
    have g0 : DataW.trod enc Tryz.prog W 0 (fun _ => true) true n 49 [c0, c1] = some y0 := by have := hg 0 _ rfl; simpa [e23, e3, e2, e9, e24] using this
    have g1 : DataW.trod enc Tryz.prog W 0 (fun _ => true) true n 2 [c2] = some y1 := by have := hg 1 _ rfl; simpa [e23, e3, e2, e9, e24] using this
    have g2 : DataW.trod enc Tryz.prog W 0 (fun _ => true) true n 9 [c3] = some y2 := by have := hg 2 _ rfl; simpa [e23, e3, e2, e9, e24] using this
    have g3 : DataW.trod enc Tryz.prog W 0 (fun _ => true) true n 50 [c4] = some y3 := by have := hg 3 _ rfl; simpa [e23, e3, e2, e9, e24] using this
    obtain ⟨zs, m, _, hzz, _, hzl, hf2⟩ := DataW.trod_struct Tryz.underlying49 g0
    match zs, hzl with
    | [z0, z1], _ =>
      have f0 : DataW.trod enc Tryz.prog W 0 (fun _ => true) true m 3 [c0] = some z0 := by have := hf2 0 _ rfl; simpa [e3, e2] using this
      have f1 : DataW.trod enc Tryz.prog W 0 (fun _ => true) true m 2 [c1] = some z1 := by have := hf2 1 _ rfl; simpa [e3, e2] using this
      obtain ⟨a, k0, _, _⟩ := DataW.trod_int Tryz.underlying3 f0
      obtain ⟨b, k1, _, _⟩ := DataW.trod_int Tryz.underlying2 f1
      obtain ⟨t, k2, _, _⟩ := DataW.trod_int Tryz.underlying2 g1
      obtain ⟨s, k3, _, hs3⟩ := DataW.trod_string Tryz.underlying9 g2
      simp only [List.cons.injEq, and_true] at k0 k1 k2 k3
      subst k0 k1 k2 k3
      rw [hx] at hs
      obtain ⟨xs, hav, hb⟩ := open_attrs0 g3 (hs.field Tryz.underlying52 (j := 3) rfl rfl)
      exact ⟨⟨a, b, t, s, xs⟩, c4, rfl, hav, hs3, hb⟩
set_option maxRecDepth 100000 in
theorem open_bound0 {H : Type} {enc : TypeId × Value → H} {W : World} {fuel : Nat} {cs : List Value} {y : DataW H × List MemPlace} (h : DataW.trod enc Tryz.prog W 0 (fun _ => true) true fuel 54 cs = some y) (hs : Sml 54 y.1) :
    ∃ (x : Bd) (v : Value), cs = encB x v ∧ AvN W W.heap.size v x.ev.ats ∧ (x.var.size ≤ maxLen ∧ x.ev.ty.size ≤ maxLen) ∧ ∀ a ∈ x.ev.ats, (Lit.int .i64 a.n).wf = true := by
  obtain ⟨xs, n, _, hx, hcl, hlen, hg⟩ := DataW.trod_struct Tryz.underlying54 h
  have hC : Tryz.prog.cellsOf 54 = 6 := by kernel_rfl
  have e5 : Tryz.prog.cellsOf 52 = 5 := by kernel_rfl
  have e9 : Tryz.prog.cellsOf 9 = 1 := by kernel_rfl
  rw [hC] at hcl
  match cs, hcl, xs, hlen with
  | [c0, c1, c2, c3, c4, c5], _, [y0, y1], _ =>
    have g0 : DataW.trod enc Tryz.prog W 0 (fun _ => true) true n 9 [c0] = some y0 := by have := hg 0 _ rfl; simpa [e9, e5] using this
    have g1 : DataW.trod enc Tryz.prog W 0 (fun _ => true) true n 52 [c1, c2, c3, c4, c5] = some y1 := by have := hg 1 _ rfl; simpa [e9, e5] using this
    obtain ⟨nm, k0, _, hv⟩ := DataW.trod_string Tryz.underlying9 g0
    simp only [List.cons.injEq, and_true] at k0
    subst k0
    rw [hx] at hs
    obtain ⟨e, v, he, hav, ht, hb⟩ := open_event0 g1 (hs.field Tryz.underlying54 (j := 1) rfl rfl)
    simp only [List.cons.injEq, and_true] at he
    obtain ⟨rfl, rfl, rfl, rfl, rfl⟩ := he
    exact ⟨⟨nm, e⟩, c5, rfl, hav, ⟨hv, ht⟩, hb⟩
def WfB (bs : List Bd) : Prop := ∀ b ∈ bs, ∀ a ∈ b.ev.ats, (Lit.int .i64 a.n).wf = true
theorem row_bounds0 {H : Type} {enc : TypeId × Value → H} {W : World} {n b : Nat} : ∀ (elems : List (DataW H × List MemPlace)) (o : Nat), (∀ y ∈ elems, Sml 54 y.1) →
    (∀ i y, elems[i]? = some y → ∃ cs, cs.length = 6 ∧ (∀ c, c < 6 → W.cell? ⟨b, o + i * 6 + c, none⟩ = cs[c]?) ∧ DataW.trod enc Tryz.prog W 0 (fun _ => true) true n 54 cs = some y) →
    ∃ l : List Bd, l.length = elems.length ∧ BdAt W W.heap.size l b o ∧ (∀ x ∈ l, x.var.size ≤ maxLen ∧ x.ev.ty.size ≤ maxLen) ∧ WfB l
  | [], _, _, _ => ⟨[], rfl, trivial, (fun x h => by cases h), fun x h => by cases h⟩
  | y :: r, o, hs, h => by
    obtain ⟨l, h1, h2, h3, h4⟩ := row_bounds0 r (o + 6) (fun z hz => hs z (List.mem_cons_of_mem _ hz)) (fun i z hz => by
      obtain ⟨cs, k1, k2, k3⟩ := h (i + 1) z (by simpa using hz)
      exact ⟨cs, k1, fun c hc => by rw [← k2 c hc]; congr 2; omega, k3⟩)
    obtain ⟨cs, k1, k2, k3⟩ := h 0 y rfl
    obtain ⟨x, v, rfl, hav, hw, hb⟩ := open_bound0 k3 (hs y (List.mem_cons_self))
    obtain ⟨aa, ac, rfl⟩ := hav.1.shape
    refine ⟨x :: l, by simp [h1], ⟨⟨aa, ac, fun j u hu => ?_, hav.1, fun hn => hav.2 _ _ (by rw [hn])⟩, h2⟩, fun c hc => ?_, fun c hc => ?_⟩
    · have hj : j < 6 := by have := (List.getElem?_eq_some_iff.1 hu).1; rwa [encB_len] at this
      have := k2 j hj
      rw [Nat.zero_mul, Nat.add_zero] at this
      rw [this, hu]
    · rcases List.mem_cons.1 hc with rfl | hc
      · exact hw
      · exact h3 c hc
    · rcases List.mem_cons.1 hc with rfl | hc
      · exact hb
      · exact h4 c hc
theorem open_bounds0 {H : Type} {enc : TypeId × Value → H} {W : World} {fuel : Nat} {v : Value} {y : DataW H × List MemPlace} (h : DataW.trod enc Tryz.prog W 0 (fun _ => true) true fuel 36 [v] = some y) (hs : Sml 36 y.1) :
    ∃ (bs : List Bd) (ao : Option Addr) (n cap : Nat), v = .slice ao n cap ∧ BsV W W.heap.size v bs ∧ WfB bs := by
  have hC : Tryz.prog.cellsOf 54 = 6 := by kernel_rfl
  have hb : Tryz.prog.bytesOf 54 = 80 := by kernel_rfl
  obtain ⟨ao, len, cap, elems, n, rfl, hlen, hl, hm, hn, hd, hh⟩ := open_row9 Tryz.underlying36 (by rw [hC]; omega) h
  by_cases he : elems = []
  · subst he
    obtain rfl : len = 0 := hlen.symm
    exact ⟨[], ao, 0, cap, rfl, ⟨(fun x h => by cases h), by simp, ao, cap, rfl, hl, hm, hn, fun h => absurd rfl h⟩, fun x h => by cases h⟩
  · obtain ⟨b, o, rfl, hbl, hel⟩ := hh he
    rw [hC] at hel
    rcases hd with hd | ⟨sp, hd⟩
    · exact absurd hd he
    · rw [hd] at hs
      have h4 := hs.len Tryz.underlying36 (by rw [hb]; omega) (by rw [hb]; omega)
      rw [hb, List.length_map] at h4
      obtain ⟨l, h1, h2, h3, h5⟩ := row_bounds0 elems o (fun z hz => hs.elem Tryz.underlying36 (List.mem_map_of_mem hz)) hel
      exact ⟨l, _, len, cap, rfl, ⟨h3, by rw [h1]; exact h4, _, cap, by rw [h1, hlen], by rw [h1, hlen]; exact hl, hm, hn, fun _ => ⟨b, o, rfl, hbl, h2⟩⟩, h5⟩
set_option maxRecDepth 100000 in
theorem open_partial0 {H : Type} {enc : TypeId × Value → H} {W : World} {base : Nat} {v : Value} {d : DataW H} {p : List MemPlace} (hv : Value.okWide Tryz.prog W .any base 38 v)
    (h : DataW.Trod enc Tryz.prog W 0 (fun _ => true) true 38 v d p) (hs : Sml 38 d) :
    ∃ (bs : List Bd) (ao : Option Addr) (n cap : Nat), v = .agg #[.slice ao n cap] ∧ BsV W W.heap.size (.slice ao n cap) bs ∧ WfB bs := by
  obtain ⟨cs, rfl, hsz⟩ := okWide_struct Tryz.underlying38 hv
  have hC : Tryz.prog.cellsOf 38 = 1 := by kernel_rfl
  have e1 : Tryz.prog.cellsOf 36 = 1 := by kernel_rfl
  obtain ⟨l⟩ := cs
  match l, hsz.trans hC with
  | [c0], _ =>
    obtain ⟨fuel, hf⟩ := h
    obtain ⟨xs, n, _, hx, _, hlen, hg⟩ := DataW.trod_struct Tryz.underlying38 hf
    match xs, hlen with
    | [y0], _ =>
      have g0 : DataW.trod enc Tryz.prog W 0 (fun _ => true) true n 36 [c0] = some y0 := by have := hg 0 _ rfl; simpa [Value.cells, e1] using this
      simp only [Prod.mk.injEq] at hx
      rw [hx.1] at hs
      obtain ⟨bs, ao, m, cap, rfl, h1, h2⟩ := open_bounds0 g0 (hs.field Tryz.underlying38 (j := 0) rfl rfl)
      exact ⟨bs, ao, m, cap, rfl, h1, h2⟩
end Go.Proofs.YtcnecokamckfaaaGreatDoor

/- Opening: rows of partial matches of little bulk, and how long their keys are. -/
namespace Go.Proofs.YtcnecokamckfaaaGreatDoor
open Go Go.ChangeShapes Go.WideShapes Go.ChangeAt Go.RowKit Go.Deep
set_option linter.unusedVariables false

def keyN (bs : List Bd) : Nat := (bs.map fun x => x.var.size + 1).sum
def IdB (bs : List Bd) : Prop := ∀ x ∈ bs, (-9223372036854775808 ≤ x.ev.src ∧ x.ev.src ≤ 9223372036854775807) ∧ (-9223372036854775808 ≤ x.ev.seq ∧ x.ev.seq ≤ 9223372036854775807)
theorem keyL_len1 : ∀ {bs : List Bd}, IdB bs → keyN bs ≤ 1048576 → (keyL bs).length ≤ 67 * keyN bs
  | [], _, _ => by simp [keyL]
  | x :: r, h, hn => by
    have hc : keyN (x :: r) = x.var.size + 1 + keyN r := by simp [keyN]
    have ih := keyL_len1 (bs := r) (fun y hy => h y (List.mem_cons_of_mem _ hy)) (by omega)
    obtain ⟨⟨h1, h2⟩, h3, h4⟩ := h x (List.mem_cons_self ..)
    have k1 := Lib.itoa_length_le x.ev.src h1 h2
    have k2 := Lib.itoa_length_le x.ev.seq h3 h4
    have hv : x.var.data.toList.length = x.var.size := (Lib.size_eq _).symm
    have k3 := Lib.itoa_length_le (x.var.data.toList.length : Int) (by omega) (by omega)
    rw [keyL, keyB]
    simp only [List.length_append, List.length_cons, List.length_nil]
    omega
theorem kyB_of {bs : List Bd} (h : IdB bs) (hn : keyN bs ≤ 1048576) : KyB bs := ⟨by have := keyL_len1 h hn; omega, h⟩

theorem int_wf {k : Int} (h : (Lit.int .i64 k).wf = true) : -9223372036854775808 ≤ k ∧ k ≤ 9223372036854775807 := by
  simpa [Lit.wf, IntKind.min, IntKind.max, IntKind.signed, IntKind.bits] using h
set_option maxRecDepth 100000 in
theorem ids_bound1 {H : Type} {enc : TypeId × Value → H} {W : World} {fuel : Nat} {x : Bd} {v : Value} {y : DataW H × List MemPlace} (h : DataW.trod enc Tryz.prog W 0 (fun _ => true) true fuel 54 (encB x v) = some y) :
    (x.var.size + 1 ≤ Rows.uptoBulk y.1) ∧ (-9223372036854775808 ≤ x.ev.src ∧ x.ev.src ≤ 9223372036854775807) ∧ (-9223372036854775808 ≤ x.ev.seq ∧ x.ev.seq ≤ 9223372036854775807) := by
  unfold encB at h
  obtain ⟨xs, n, _, hx, _, hlen, hg⟩ := DataW.trod_struct Tryz.underlying54 h
  have e5 : Tryz.prog.cellsOf 52 = 5 := by kernel_rfl
  have e9 : Tryz.prog.cellsOf 9 = 1 := by kernel_rfl
  have e23 : Tryz.prog.cellsOf 49 = 2 := by kernel_rfl
  have e3 : Tryz.prog.cellsOf 3 = 1 := by kernel_rfl
  have e2 : Tryz.prog.cellsOf 2 = 1 := by kernel_rfl
  match xs, hlen with
  | [y0, y1], _ =>
    have g0 : DataW.trod enc Tryz.prog W 0 (fun _ => true) true n 9 [.string x.var] = some y0 := by have := hg 0 _ rfl; simpa [e9, e5] using this
    have g1 : DataW.trod enc Tryz.prog W 0 (fun _ => true) true n 52 [.int .i64 x.ev.src, .int .i64 x.ev.seq, .int .i64 x.ev.time, .string x.ev.ty, v] = some y1 := by have := hg 1 _ rfl; simpa [e9, e5] using this
    obtain ⟨nm, k0, hd0, _⟩ := DataW.trod_string Tryz.underlying9 g0
    simp only [List.cons.injEq, and_true, Value.string.injEq] at k0
    subst k0
    obtain ⟨zs, m, _, _, _, hzl, hf⟩ := DataW.trod_struct Tryz.underlying52 g1
    match zs, hzl with
    | [z0, z1, z2, z3], _ =>
      have g2 : DataW.trod enc Tryz.prog W 0 (fun _ => true) true m 49 [.int .i64 x.ev.src, .int .i64 x.ev.seq] = some z0 := by have := hf 0 _ rfl; simpa [e23, e3, e2, e9] using this
      obtain ⟨us, l, _, _, _, hul, hq⟩ := DataW.trod_struct Tryz.underlying49 g2
      match us, hul with
      | [u0, u1], _ =>
        have f0 : DataW.trod enc Tryz.prog W 0 (fun _ => true) true l 3 [.int .i64 x.ev.src] = some u0 := by have := hq 0 _ rfl; simpa [e3, e2] using this
        have f1 : DataW.trod enc Tryz.prog W 0 (fun _ => true) true l 2 [.int .i64 x.ev.seq] = some u1 := by have := hq 1 _ rfl; simpa [e3, e2] using this
        obtain ⟨a, ka, _, wa⟩ := DataW.trod_int Tryz.underlying3 f0
        obtain ⟨b, kb, _, wb⟩ := DataW.trod_int Tryz.underlying2 f1
        simp only [List.cons.injEq, and_true, Value.int.injEq, true_and] at ka kb
        subst ka kb
        refine ⟨?_, int_wf wa, int_wf wb⟩
        rw [hx, hd0]
        simp only [List.map_cons, Rows.uptoBulk, Rows.uptoBulkAll]
        have := Lib.size_eq x.var
        omega
/-- A row of bounds, opened: its ids, its variables' sizes. -/
theorem ids_row1 {H : Type} {enc : TypeId × Value → H} {W : World} {B n b : Nat} : ∀ (elems : List (DataW H × List MemPlace)) (l : List Bd) (o : Nat), l.length = elems.length → BdAt W B l b o →
    (∀ i y, elems[i]? = some y → ∃ cs, cs.length = 6 ∧ (∀ c, c < 6 → W.cell? ⟨b, o + i * 6 + c, none⟩ = cs[c]?) ∧ DataW.trod enc Tryz.prog W 0 (fun _ => true) true n 54 cs = some y) →
    IdB l ∧ keyN l ≤ Rows.uptoBulkAll (elems.map (·.1))
  | [], [], _, _, _, _ => ⟨(fun x hx => by cases hx), by simp [keyN]⟩
  | [], _ :: _, _, h, _, _ => by cases h
  | _ :: _, [], _, h, _, _ => by cases h
  | y :: r, x :: l, o, hlen, hat, h => by
    obtain ⟨⟨aa, ac, hc, _, _⟩, hat2⟩ := hat
    obtain ⟨h1, h2⟩ := ids_row1 r l (o + 6) (by simpa using hlen) hat2 (fun i z hz => by
      obtain ⟨cs, k1, k2, k3⟩ := h (i + 1) z (by simpa using hz)
      exact ⟨cs, k1, fun c hc => by rw [← k2 c hc]; congr 2; omega, k3⟩)
    obtain ⟨cs, k1, k2, k3⟩ := h 0 y rfl
    have hcs : cs = encB x (.slice aa x.ev.ats.length ac) := by
      apply List.ext_getElem?
      intro j
      by_cases hj : j < 6
      · have e1 := k2 j hj
        rw [Nat.zero_mul, Nat.add_zero] at e1
        have hj2 : j < (encB x (.slice aa x.ev.ats.length ac)).length := by rw [encB_len]; exact hj
        have e2 := hc j _ (List.getElem?_eq_getElem hj2)
        rw [← e1, e2, List.getElem?_eq_getElem hj2]
      · rw [List.getElem?_eq_none (by omega), List.getElem?_eq_none (by rw [encB_len]; omega)]
    subst hcs
    obtain ⟨e1, e2⟩ := ids_bound1 k3
    have hk : keyN (x :: l) = x.var.size + 1 + keyN l := by simp [keyN]
    refine ⟨fun z hz => ?_, ?_⟩
    · rcases List.mem_cons.1 hz with rfl | hz
      · exact e2
      · exact h1 z hz
    · rw [hk, List.map_cons, Rows.uptoBulkAll]; omega
theorem open_bounds1 {H : Type} {enc : TypeId × Value → H} {W : World} {fuel : Nat} {v : Value} {y : DataW H × List MemPlace} (h : DataW.trod enc Tryz.prog W 0 (fun _ => true) true fuel 36 [v] = some y) (hs : Rows.uptoBulk y.1 ≤ 1048576) :
    ∃ (bs : List Bd) (ao : Option Addr) (n cap : Nat), v = .slice ao n cap ∧ BsV W W.heap.size v bs ∧ KyB bs := by
  have hC : Tryz.prog.cellsOf 54 = 6 := by kernel_rfl
  have hb : Tryz.prog.bytesOf 54 = 80 := by kernel_rfl
  have hs' : Sml 36 y.1 := .inr hs
  obtain ⟨ao, len, cap, elems, n, rfl, hlen, hl, hm, hn, hd, hh⟩ := open_row9 Tryz.underlying36 (by rw [hC]; omega) h
  by_cases he : elems = []
  · subst he
    obtain rfl : len = 0 := hlen.symm
    exact ⟨[], ao, 0, cap, rfl, ⟨(fun x h => by cases h), by simp, ao, cap, rfl, hl, hm, hn, fun h => absurd rfl h⟩, kyB_of (fun x hx => by cases hx) (by simp [keyN])⟩
  · obtain ⟨b, o, rfl, hbl, hel⟩ := hh he
    rw [hC] at hel
    rcases hd with hd | ⟨sp, hd⟩
    · exact absurd hd he
    · rw [hd] at hs hs'
      have h4 := hs'.len Tryz.underlying36 (by rw [hb]; omega) (by rw [hb]; omega)
      rw [hb, List.length_map] at h4
      obtain ⟨l, h1, h2, h3, h5⟩ := row_bounds0 elems o (fun z hz => hs'.elem Tryz.underlying36 (List.mem_map_of_mem hz)) hel
      obtain ⟨k1, k2⟩ := ids_row1 elems l o h1 h2 hel
      refine ⟨l, _, len, cap, rfl, ⟨h3, by rw [h1]; exact h4, _, cap, by rw [h1, hlen], by rw [h1, hlen]; exact hl, hm, hn, fun _ => ⟨b, o, rfl, hbl, h2⟩⟩, kyB_of k1 ?_⟩
      simp only [Rows.uptoBulk] at hs
      omega
set_option maxRecDepth 100000 in
theorem open_part1 {H : Type} {enc : TypeId × Value → H} {W : World} {fuel : Nat} {cs : List Value} {y : DataW H × List MemPlace} (h : DataW.trod enc Tryz.prog W 0 (fun _ => true) true fuel 38 cs = some y) (hs : Rows.uptoBulk y.1 ≤ 1048576) :
    ∃ (bs : List Bd) (ao : Option Addr) (n cap : Nat), cs = [.slice ao n cap] ∧ BsV W W.heap.size (.slice ao n cap) bs ∧ KyB bs := by
  obtain ⟨xs, n, _, hx, hcl, hlen, hg⟩ := DataW.trod_struct Tryz.underlying38 h
  have hC : Tryz.prog.cellsOf 38 = 1 := by kernel_rfl
  have e1 : Tryz.prog.cellsOf 36 = 1 := by kernel_rfl
  rw [hC] at hcl
  match cs, hcl, xs, hlen with
  | [c0], _, [y0], _ =>
    have g0 : DataW.trod enc Tryz.prog W 0 (fun _ => true) true n 36 [c0] = some y0 := by have := hg 0 _ rfl; simpa [e1] using this
    rw [hx] at hs
    obtain ⟨bs, ao, m, cap, rfl, h1, h2⟩ := open_bounds1 g0 (by simp only [List.map_cons, Rows.uptoBulk, Rows.uptoBulkAll] at hs; omega)
    exact ⟨bs, ao, m, cap, rfl, h1, h2⟩
set_option maxRecDepth 100000 in
/-- A list of partial matches, as the statements hand it over. -/
theorem open_parts1 {H : Type} {enc : TypeId × Value → H} {W : World} {base : Nat} {v : Value} {d : DataW H} {p : List MemPlace} (hv : Value.okWide Tryz.prog W .any base 22 v)
    (h : DataW.Trod enc Tryz.prog W 0 (fun _ => true) true 22 v d p) (hs : Rows.uptoBulk d ≤ 1048576) :
    ∃ (ls : List (List Bd)), LpV W W.heap.size v ls := by
  have hC : Tryz.prog.cellsOf 38 = 1 := by kernel_rfl
  obtain ⟨ao0, n0, cap0, rfl⟩ := okWide_slice Tryz.underlying22 hv
  obtain ⟨fuel, hf⟩ := h
  simp only [Value.cells] at hf
  obtain ⟨ao, len, cap, elems, n, hvv, hlen, hl, hm, hn, hd, hh⟩ := open_row9 Tryz.underlying22 (by rw [hC]; omega) hf
  rw [hvv]
  by_cases he : elems = []
  · subst he
    obtain rfl : len = 0 := hlen.symm
    exact ⟨[], by simp, (fun bs h => by cases h), ao, cap, rfl, hl, hm, fun h => absurd h (by simp)⟩
  · obtain ⟨b, o, rfl, hbl, hel⟩ := hh he
    rw [hC] at hel
    rcases hd with hd | ⟨sp, hd⟩
    · exact absurd hd he
    · simp only at hd
      rw [hd] at hs
      simp only [Rows.uptoBulk] at hs
      have hall : ∀ i y, elems[i]? = some y → ∃ bs a n c, W.cell? ⟨b, o + i, none⟩ = some (.slice a n c) ∧ BsV W W.heap.size (.slice a n c) bs ∧ KyB bs := fun i y hy => by
        obtain ⟨cs, k1, k2, k3⟩ := hel i y hy
        have hmem := bulk_all_mem (List.mem_map.2 ⟨y, List.mem_of_getElem? hy, rfl⟩ : y.1 ∈ elems.map (·.1))
        obtain ⟨bs, a, m, c, rfl, h1, h2⟩ := open_part1 k3 (by omega)
        have := k2 0 (by omega)
        rw [Nat.mul_one, Nat.add_zero] at this
        exact ⟨bs, a, m, c, this, h1, h2⟩
      have hmk : ∀ (k : Nat), k ≤ elems.length → ∃ ls : List (List Bd), ls.length = k ∧ (∀ bs ∈ ls, KyB bs) ∧ ∀ j, j < k → ∃ a n c, W.cell? ⟨b, o + j, none⟩ = some (.slice a n c) ∧ BsV W W.heap.size (.slice a n c) ls[j]! := fun k => by
        induction k with
        | zero => exact fun _ => ⟨[], rfl, (fun bs h => by cases h), fun j hj => absurd hj (by omega)⟩
        | succ k ih =>
          intro hk
          obtain ⟨ls, g1, g2, g3⟩ := ih (by omega)
          obtain ⟨bs, a, m, c, e1, e2, e3⟩ := hall k elems[k] (List.getElem?_eq_getElem (by omega))
          refine ⟨ls ++ [bs], by simp [g1], fun x hx => ?_, fun j hj => ?_⟩
          · rcases List.mem_append.1 hx with hx | hx
            · exact g2 x hx
            · rw [List.mem_singleton.1 hx]; exact e3
          · by_cases hjk : j < k
            · obtain ⟨a', m', c', f1, f2⟩ := g3 j hjk
              refine ⟨a', m', c', f1, ?_⟩
              have : (ls ++ [bs])[j]! = ls[j]! := by rw [getElem!_pos _ j (by simp; omega), getElem!_pos ls j (by omega), List.getElem_append_left]
              rw [this]; exact f2
            · obtain rfl : j = k := by omega
              refine ⟨a, m, c, e1, ?_⟩
              have : (ls ++ [bs])[j]! = bs := by rw [getElem!_pos _ j (by simp; omega), List.getElem_append_right (by omega)]; simp [g1]
              rw [this]; exact e2
      obtain ⟨ls, g1, g2, g3⟩ := hmk elems.length (Nat.le_refl _)
      have hlb := bulk_len (elems.map (·.1))
      rw [List.length_map] at hlb
      exact ⟨ls, by rw [g1]; omega, fun bs hb _ => g2 bs hb, _, cap, by rw [g1, hlen], by rw [g1, hlen]; exact hl, hm, fun _ => ⟨b, o, rfl, hbl, fun j hj => g3 j (by rw [← g1]; exact hj)⟩⟩
end Go.Proofs.YtcnecokamckfaaaGreatDoor

/- A list of partial matches whose bulk is at most 1048576: each with a short key, and how many they are. -/
namespace Go.Proofs.YtcnecokamckfaaaGreatDoor
open Go Go.ChangeShapes Go.WideShapes Go.ChangeAt Go.RowKit Go.Deep
set_option linter.unusedVariables false

set_option maxRecDepth 100000 in
theorem open_parts1k {H : Type} {enc : TypeId × Value → H} {W : World} {base : Nat} {v : Value} {d : DataW H} {p : List MemPlace} (hv : Value.okWide Tryz.prog W .any base 22 v)
    (h : DataW.Trod enc Tryz.prog W 0 (fun _ => true) true 22 v d p) (hs : Rows.uptoBulk d ≤ 1048576) :
    ∃ (ls : List (List Bd)), LpV W W.heap.size v ls ∧ (∀ bs ∈ ls, KyB bs) ∧ ls.length ≤ 1048576 := by
  have hC : Tryz.prog.cellsOf 38 = 1 := by kernel_rfl
  obtain ⟨ao0, n0, cap0, rfl⟩ := okWide_slice Tryz.underlying22 hv
  obtain ⟨fuel, hf⟩ := h
  simp only [Value.cells] at hf
  obtain ⟨ao, len, cap, elems, n, hvv, hlen, hl, hm, hn, hd, hh⟩ := open_row9 Tryz.underlying22 (by rw [hC]; omega) hf
  rw [hvv]
  by_cases he : elems = []
  · subst he
    obtain rfl : len = 0 := hlen.symm
    exact ⟨[], ⟨by simp, (fun bs h => by cases h), ao, cap, rfl, hl, hm, fun h => absurd h (by simp)⟩, (fun bs h => by cases h), by simp⟩
  · obtain ⟨b, o, rfl, hbl, hel⟩ := hh he
    rw [hC] at hel
    rcases hd with hd | ⟨sp, hd⟩
    · exact absurd hd he
    · simp only at hd
      rw [hd] at hs
      simp only [Rows.uptoBulk] at hs
      have hall : ∀ i y, elems[i]? = some y → ∃ bs a n c, W.cell? ⟨b, o + i, none⟩ = some (.slice a n c) ∧ BsV W W.heap.size (.slice a n c) bs ∧ KyB bs := fun i y hy => by
        obtain ⟨cs, k1, k2, k3⟩ := hel i y hy
        have hmem := bulk_all_mem (List.mem_map.2 ⟨y, List.mem_of_getElem? hy, rfl⟩ : y.1 ∈ elems.map (·.1))
        obtain ⟨bs, a, m, c, rfl, h1, h2⟩ := open_part1 k3 (by omega)
        have := k2 0 (by omega)
        rw [Nat.mul_one, Nat.add_zero] at this
        exact ⟨bs, a, m, c, this, h1, h2⟩
      have hmk : ∀ (k : Nat), k ≤ elems.length → ∃ ls : List (List Bd), ls.length = k ∧ (∀ bs ∈ ls, KyB bs) ∧ ∀ j, j < k → ∃ a n c, W.cell? ⟨b, o + j, none⟩ = some (.slice a n c) ∧ BsV W W.heap.size (.slice a n c) ls[j]! := fun k => by
        induction k with
        | zero => exact fun _ => ⟨[], rfl, (fun bs h => by cases h), fun j hj => absurd hj (by omega)⟩
        | succ k ih =>
          intro hk
          obtain ⟨ls, g1, g2, g3⟩ := ih (by omega)
          obtain ⟨bs, a, m, c, e1, e2, e3⟩ := hall k elems[k] (List.getElem?_eq_getElem (by omega))
          refine ⟨ls ++ [bs], by simp [g1], fun x hx => ?_, fun j hj => ?_⟩
          · rcases List.mem_append.1 hx with hx | hx
            · exact g2 x hx
            · rw [List.mem_singleton.1 hx]; exact e3
          · by_cases hjk : j < k
            · obtain ⟨a', m', c', f1, f2⟩ := g3 j hjk
              refine ⟨a', m', c', f1, ?_⟩
              have : (ls ++ [bs])[j]! = ls[j]! := by rw [getElem!_pos _ j (by simp; omega), getElem!_pos ls j (by omega), List.getElem_append_left]
              rw [this]; exact f2
            · obtain rfl : j = k := by omega
              refine ⟨a, m, c, e1, ?_⟩
              have : (ls ++ [bs])[j]! = bs := by rw [getElem!_pos _ j (by simp; omega), List.getElem_append_right (by omega)]; simp [g1]
              rw [this]; exact e2
      obtain ⟨ls, g1, g2, g3⟩ := hmk elems.length (Nat.le_refl _)
      have hlb := bulk_len (elems.map (·.1))
      rw [List.length_map] at hlb
      exact ⟨ls, ⟨by rw [g1]; omega, fun bs hb _ => g2 bs hb, _, cap, by rw [g1, hlen], by rw [g1, hlen]; exact hl, hm, fun _ => ⟨b, o, rfl, hbl, fun j hj => g3 j (by rw [← g1]; exact hj)⟩⟩, g2, by rw [g1]; omega⟩
end Go.Proofs.YtcnecokamckfaaaGreatDoor
