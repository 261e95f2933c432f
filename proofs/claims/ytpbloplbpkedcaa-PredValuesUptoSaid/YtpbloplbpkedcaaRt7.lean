/- Contracts: the document's Terms and Deep. -/
import Derived.Test.YtpbloplbpkedcaaSs7
import Derived.WalkKit
namespace Go.Proofs.Ytpbloplbpkedcaa
open Go Go.RowKit

theorem meas7t {k n : Nat} (h : k < n) : n - ((k : Int) + 1).toNat < n - ((k : Nat) : Int).toNat := by omega
theorem wr7t {k n : Nat} (h : k < n) (hN : n ≤ 1048576) : wrap64 ((k : Int) + 1) = (k : Int) + 1 := by unfold wrap64; omega
/-- A kid, as it is loaded. -/
theorem kid_val {W u : World} {K : Fo} {b o : Nat} (hf : FoAt W (fun x => x < W.heap.size) K b o) (hb : b < W.heap.size) (hu : Below W.heap.size W u) {i : Nat} {d2 : Nt} {k2 n2 : Fo} (hi : K.drop i = .cons d2 k2 n2) :
    ∃ ta tc ka kc, u.cell? ⟨b, o + i * 5, none⟩ = some (.int .i64 d2.kind) ∧ u.cell? ⟨b, o + i * 5 + 1, none⟩ = some (.string d2.var) ∧ u.cell? ⟨b, o + i * 5 + 2, none⟩ = some (.string d2.ty) ∧
      u.cell? ⟨b, o + i * 5 + 3, none⟩ = some (.slice ta d2.tests.length tc) ∧ u.cell? ⟨b, o + i * 5 + 4, none⟩ = some (.slice ka k2.len kc) ∧ NdV u (fun x => x < u.heap.size) d2 k2 (.agg #[.int .i64 d2.kind, .string d2.var, .string d2.ty, .slice ta d2.tests.length tc, .slice ka k2.len kc]) := by
  have h1 := FoAt.drop i (FoAt.keep (Keep.of_below hu) hb hf)
  rw [hi] at h1
  obtain ⟨ta, tc, ka, kc, c0, c1, c2, c3, c4, hv⟩ := h1.cons.1.val
  exact ⟨ta, tc, ka, kc, c0, c1, c2, c3, c4, hv.mono (fun x hx => Nat.lt_of_lt_of_le hx hu.size)⟩
theorem termsF_drop {K : Fo} {i : Nat} {d : Nt} {k : Fo} (h : K.drop i = .cons d k (K.drop (i + 1))) : termsF (K.drop i) = termsN k + termsF (K.drop (i + 1)) := by rw [h]; rfl
theorem deepF_drop7 {K : Fo} {i : Nat} {d : Nt} {k : Fo} (h : K.drop i = .cons d k (K.drop (i + 1))) : deepF (K.drop i) = max (deepF k + 1) (deepF (K.drop (i + 1))) := by rw [h]; rfl
theorem nil_of_len {K : Fo} {i : Nat} (h : i < K.len) : K.isNil = false := by cases K with
  | nil => exact absurd h (Nat.not_lt_zero _)
  | cons => rfl
theorem nil_or_len (K : Fo) : K = .nil ∨ 1 ≤ K.len := by cases K with
  | nil => exact .inl rfl
  | cons => exact .inr (by simp [Fo.len])
end Go.Proofs.Ytpbloplbpkedcaa
