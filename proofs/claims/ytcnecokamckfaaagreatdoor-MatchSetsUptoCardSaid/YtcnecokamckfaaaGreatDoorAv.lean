/- A value that reads as attributes: a slice, nil or not, below some block. -/
import Derived.Test.YtcnecokamckfaaaGreatDoorK1
import Derived.Test.YtcnecokamckfaaaGreatDoorK2
namespace Go.Proofs.YtcnecokamckfaaaGreatDoor
open Go Go.RowKit

/-- In w the value v is a slice of the attributes, which lie below block B. -/
structure Av (w : World) (B : Nat) (v : Value) (xs : List At) : Prop where
  wide : ∀ x ∈ xs, x.name.size ≤ maxLen ∧ x.s.size ≤ maxLen
  len : xs.length * 48 ≤ 140737488355328
  row : ∃ ao cap, v = .slice ao xs.length cap ∧ xs.length ≤ cap ∧ cap ≤ 9223372036854775807 ∧ (0 < xs.length → ∃ b o, ao = some ⟨b, o, none⟩ ∧ b < B ∧ ∀ j, j < xs.length → ∀ i u, (enc4 xs[j]!)[i]? = some u → w.cell? ⟨b, o + j * 4 + i, none⟩ = some u)
theorem Av.keep {w w' : World} {B : Nat} {v : Value} {xs : List At} (h : Av w B v xs) (hk : ∀ b o, b < B → w'.cell? ⟨b, o, none⟩ = w.cell? ⟨b, o, none⟩) : Av w' B v xs := by
  obtain ⟨ao, cap, h1, h2, h2', h3⟩ := h.row
  refine ⟨h.wide, h.len, ao, cap, h1, h2, h2', fun hn => ?_⟩
  obtain ⟨b, o, h4, h5, h6⟩ := h3 hn
  exact ⟨b, o, h4, h5, fun j hj i u hu => (hk _ _ h5).trans (h6 j hj i u hu)⟩
theorem Av.below {w w' : World} {B B' : Nat} {v : Value} {xs : List At} (h : Av w B v xs) (hb : Below B' w w') (hB : B ≤ B') : Av w' B v xs :=
  h.keep fun _ _ hlt => hb.cell (Nat.lt_of_lt_of_le hlt hB)
theorem Av.mono {w : World} {B B' : Nat} {v : Value} {xs : List At} (h : Av w B v xs) (hB : B ≤ B') : Av w B' v xs := by
  obtain ⟨ao, cap, h1, h2, h2', h3⟩ := h.row
  refine ⟨h.wide, h.len, ao, cap, h1, h2, h2', fun hn => ?_⟩
  obtain ⟨b, o, h4, h5, h6⟩ := h3 hn
  exact ⟨b, o, h4, Nat.lt_of_lt_of_le h5 hB, h6⟩
theorem Av.shape {w : World} {B : Nat} {v : Value} {xs : List At} (h : Av w B v xs) : ∃ ao cap, v = .slice ao xs.length cap := by
  obtain ⟨ao, cap, h1, _⟩ := h.row
  exact ⟨ao, cap, h1⟩
theorem Av.nil (w : World) (B : Nat) : Av w B (.slice none 0 0) [] := ⟨by simp, by simp, none, 0, rfl, by simp, by simp, fun h => by simp at h⟩
/-- Where it lies, if it holds something. -/
theorem Av.at {w : World} {B : Nat} {ao : Option Addr} {n cap : Nat} {xs : List At} (h : Av w B (.slice ao n cap) xs) (h0 : 0 < n) :
    ∃ b o, ao = some ⟨b, o, none⟩ ∧ b < B ∧ n = xs.length ∧ n ≤ cap ∧ cap ≤ 9223372036854775807 ∧ ∀ j, j < xs.length → ∀ i u, (enc4 xs[j]!)[i]? = some u → w.cell? ⟨b, o + j * 4 + i, none⟩ = some u := by
  obtain ⟨ao', cap', h1, h2, h2', h3⟩ := h.row
  simp only [Value.slice.injEq] at h1
  obtain ⟨rfl, rfl, rfl⟩ := h1
  obtain ⟨b, o, h4, h5, h6⟩ := h3 h0
  exact ⟨b, o, h4, h5, rfl, h2, h2', h6⟩
theorem Av.num {w : World} {B : Nat} {ao : Option Addr} {n cap : Nat} {xs : List At} (h : Av w B (.slice ao n cap) xs) : n = xs.length ∧ n ≤ 9223372036854775807 := by
  obtain ⟨ao', cap', h1, _, _, _⟩ := h.row
  simp only [Value.slice.injEq] at h1
  have := h.len
  exact ⟨h1.2.1, by omega⟩
/-- An element's cells, as a walk reckons them. -/
theorem four_cells {w : World} {b a : Nat} {x : At} (h : ∀ i u, (enc4 x)[i]? = some u → w.cell? ⟨b, a + i, none⟩ = some u) :
    w.cell? ⟨b, a, none⟩ = some (.string x.name) ∧ w.cell? ⟨b, a + 1, none⟩ = some (.int .i64 x.k) ∧ w.cell? ⟨b, a + 2, none⟩ = some (.int .i64 x.n) ∧ w.cell? ⟨b, a + 3, none⟩ = some (.string x.s) :=
  ⟨h 0 _ rfl, h 1 _ rfl, h 2 _ rfl, h 3 _ rfl⟩
theorem enc4_len (x : At) : (enc4 x).length = 4 := rfl
theorem enc4_one (x : At) : ∀ v ∈ enc4 x, v.oneCell' = true := by
  intro v hv; simp [enc4] at hv; rcases hv with rfl | rfl | rfl | rfl <;> rfl
theorem flat_at (xs : List At) (j i : Nat) (hj : j < xs.length) (u : Value) (h : (enc4 xs[j]!)[i]? = some u) : (xs.flatMap enc4)[j * 4 + i]? = some u := by
  induction xs generalizing j with
  | nil => simp at hj
  | cons x r ih =>
    cases j with
    | zero =>
      have hi : i < 4 := by have := (List.getElem?_eq_some_iff.1 h).1; simpa [enc4_len] using this
      rw [List.flatMap_cons, List.getElem?_append_left (by rw [enc4_len]; omega)]
      simpa using h
    | succ j =>
      rw [List.flatMap_cons, List.getElem?_append_right (by rw [enc4_len]; omega), enc4_len, show (j + 1) * 4 + i - 4 = j * 4 + i by omega]
      exact ih j (by simpa using hj) (by simpa using h)
theorem flat4_len (xs : List At) : (xs.flatMap enc4).length = xs.length * 4 := by
  induction xs with
  | nil => rfl
  | cons x r ih => rw [List.flatMap_cons, List.length_append, ih, enc4_len, List.length_cons]; omega
theorem flat4_one (xs : List At) : ∀ u ∈ xs.flatMap enc4, u.oneCell' = true := by
  intro u hu
  obtain ⟨x, _, hx⟩ := List.mem_flatMap.1 hu
  exact enc4_one x u hx
/-- Attributes of the call's own. -/
theorem Av.of_own {w : World} {B : Nat} {v : Value} {xs : List At} (h : w.ownsRow B 58 4 v xs.length (xs.flatMap enc4)) (hw : ∀ x ∈ xs, x.name.size ≤ maxLen ∧ x.s.size ≤ maxLen) (hl : xs.length * 48 ≤ 140737488355328) : Av w w.heap.size v xs := by
  rcases h.2 with ⟨hv, hn0⟩ | ⟨g, cap, cur, hv, hg, hgg, hgn, hcapm, hcsz, htake⟩
  · exact ⟨hw, hl, none, 0, by rw [hv, hn0], by omega, by omega, fun hn => by omega⟩
  · have hc : xs.length ≤ cap ∧ cap ≤ 9223372036854775807 := by
      refine ⟨?_, ?_⟩ <;> first | assumption | (unfold maxLen at *; omega)
    refine ⟨hw, hl, some ⟨g, 0, none⟩, cap, hv, hc.1, hc.2, fun hn => ⟨g, 0, rfl, lt_of_block hgg, fun j hj i u hu => ?_⟩⟩
    subst hv
    have := h.cells (g := g) rfl (j * 4 + i) u (flat_at xs j i hj u hu)
    have e : (⟨g, 0, none⟩ : Addr).add (j * 4 + i) = ⟨g, j * 4 + i, none⟩ := by unfold Addr.add; split <;> simp_all
    rw [e] at this
    rw [Nat.zero_add]; exact this
end Go.Proofs.YtcnecokamckfaaaGreatDoor
