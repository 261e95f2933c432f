/- The mathematics of numerals, digit by digit. No program in this text. -/
import Derived.Test.YthmdnlcinlmjkaaDoorPi
namespace Go.Proofs.YthmdnlcinlmjkaaDoor
open Go

/-- The number of digits. -/
def valD (l : List UInt8) : Nat := l.foldl (fun a c => 10 * a + (c.toNat - 48)) 0
theorem valD_snoc (l : List UInt8) (c : UInt8) : valD (l ++ [c]) = 10 * valD l + (c.toNat - 48) := by simp [valD, List.foldl_append]
theorem valD_nil : valD [] = 0 := rfl
theorem snocInd' {P : List UInt8 → Prop} (h0 : P []) (h1 : ∀ l c, P l → P (l ++ [c])) (l : List UInt8) : P l := by
  have key : ∀ n (l : List UInt8), l.length = n → P l := by
    intro n
    induction n with
    | zero => intro l hl; rw [List.length_eq_zero_iff.1 hl]; exact h0
    | succ n ih =>
      intro l hl
      have hne : l ≠ [] := by intro e; rw [e] at hl; cases hl
      rw [← List.dropLast_concat_getLast hne]
      exact h1 _ _ (ih _ (by rw [List.length_dropLast]; omega))
  exact key _ l rfl
theorem valD_take (l : List UInt8) : ∀ j, valD (l.take j) ≤ valD l := by
  refine snocInd' (P := fun l => ∀ j, valD (l.take j) ≤ valD l) (fun j => by simp) (fun l c ih j => ?_) l
  by_cases h : j ≤ l.length
  · rw [List.take_append_of_le_length h, valD_snoc]
    have := ih j
    omega
  · rw [List.take_of_length_le (by simp; omega)]; exact Nat.le_refl _
theorem dec_all (u : Nat) : ∀ c ∈ Lib.decDigits u, 48 ≤ c.toNat ∧ c.toNat ≤ 57 := by
  induction u using Nat.strongRecOn with
  | _ u ih =>
    intro c hc
    rw [Lib.decDigits] at hc
    by_cases h : u < 10
    · rw [dif_pos h] at hc
      simp only [List.mem_singleton] at hc
      rw [hc, byteN _ (by omega)]; omega
    · rw [dif_neg h] at hc
      rcases List.mem_append.1 hc with hc | hc
      · exact ih (u / 10) (by omega) c hc
      · simp only [List.mem_singleton] at hc
        rw [hc, byteN _ (by omega)]; omega
theorem valD_dec (u : Nat) : valD (Lib.decDigits u) = u := by
  induction u using Nat.strongRecOn with
  | _ u ih =>
    rw [Lib.decDigits]
    by_cases h : u < 10
    · rw [dif_pos h]
      show 10 * 0 + ((UInt8.ofNat (48 + u)).toNat - 48) = u
      rw [byteN _ (by omega)]; omega
    · rw [dif_neg h, valD_snoc, ih (u / 10) (by omega), byteN _ (by omega)]; omega
theorem dec_ne (u : Nat) : Lib.decDigits u ≠ [] := by
  obtain ⟨c, r, h, _⟩ := dec_head u
  rw [h]; simp
/-- How a reading of digits from place i on stands at place k: what it has is that number, below 0. -/
def NumP (l : List UInt8) (i k : Nat) (n : Int) : Prop := ∀ u, l.drop i = Lib.decDigits u → n = -((valD ((Lib.decDigits u).take (k - i)) : Nat) : Int)
theorem NumP.start (l : List UInt8) (i : Nat) : NumP l i i 0 := fun u _ => by rw [Nat.sub_self]; rfl
theorem numP_at {l : List UInt8} {i k u : Nat} (hi : i ≤ k) (hk : k < l.length) (hu : l.drop i = Lib.decDigits u) : (Lib.decDigits u).take (k + 1 - i) = (Lib.decDigits u).take (k - i) ++ [l[k]] ∧ 48 ≤ l[k].toNat ∧ l[k].toNat ≤ 57 := by
  have hl : k - i < (Lib.decDigits u).length := by rw [← hu, List.length_drop]; omega
  have he : (Lib.decDigits u)[k - i] = l[k] := by
    have : (l.drop i)[k - i]'(by rw [List.length_drop]; omega) = l[k] := by
      rw [List.getElem_drop]; congr 1; omega
    rw [← this]; congr 1; exact hu.symm
  refine ⟨?_, ?_⟩
  · rw [show k + 1 - i = (k - i) + 1 by omega, List.take_succ_eq_append_getElem hl, he]
  · rw [← he]; exact dec_all u _ (List.getElem_mem _)
theorem NumP.step {l : List UInt8} {i k : Nat} {n : Int} (h : NumP l i k n) (hi : i ≤ k) (hk : k < l.length) (h48 : 48 ≤ l[k].toNat) : NumP l i (k + 1) (10 * n - ((l[k].toNat : Int) - 48)) := fun u hu => by
  rw [(numP_at hi hk hu).1, valD_snoc, h u hu]; omega
/-- What stands in a reading's way is none of the numerals that have place. -/
theorem numP_digit {l : List UInt8} {i k u : Nat} (hi : i ≤ k) (hk : k < l.length) (hd : ¬ (48 ≤ l[k].toNat ∧ l[k].toNat ≤ 57)) (hu : l.drop i = Lib.decDigits u) : False := hd (numP_at hi hk hu).2
theorem NumP.fits {l : List UInt8} {i k : Nat} {n : Int} (h : NumP l i k n) (hi : i ≤ k) (hk : k < l.length) {u : Nat} (hu : l.drop i = Lib.decDigits u) : -(u : Int) ≤ 10 * n - ((l[k].toNat : Int) - 48) := by
  have h1 := (numP_at hi hk hu)
  have h2 := valD_take (Lib.decDigits u) (k + 1 - i)
  rw [valD_dec, h1.1, valD_snoc] at h2
  rw [h u hu]
  have := h1.2
  omega
theorem NumP.done {l : List UInt8} {i : Nat} {n : Int} (h : NumP l i l.length n) {u : Nat} (hu : l.drop i = Lib.decDigits u) : n = -(u : Int) := by
  rw [h u hu, List.take_of_length_le (by rw [← hu, List.length_drop]; omega), valD_dec]
/-- A number's text: a sign, or none, and digits. -/
theorem itoa_neg {n : Int} (h : n < 0) : Lib.itoa n = 45 :: Lib.decDigits n.natAbs := by
  unfold Lib.itoa; rw [if_pos h]
theorem itoa_pos {n : Int} (h : ¬ n < 0) : Lib.itoa n = Lib.decDigits n.toNat := by
  unfold Lib.itoa; rw [if_neg h]
theorem dec_lt {u : Nat} (h : u < 10) : Lib.decDigits u = [UInt8.ofNat (48 + u)] := by rw [Lib.decDigits, dif_pos h]
theorem dec_ge {u : Nat} (h : ¬ u < 10) : Lib.decDigits u = Lib.decDigits (u / 10) ++ [UInt8.ofNat (48 + u % 10)] := by conv => lhs; rw [Lib.decDigits, dif_neg h]
/-- A numeral as it is built from its last digit on. -/
def DigP (U u : Nat) (s : List UInt8) : Prop := (s = [] ∧ u = U) ∨ (s ≠ [] ∧ ((u = 0 ∧ s = Lib.decDigits U) ∨ (0 < u ∧ Lib.decDigits U = Lib.decDigits u ++ s)))
theorem DigP.start (U : Nat) : DigP U U [] := .inl ⟨rfl, rfl⟩
theorem DigP.step {U u : Nat} {s : List UInt8} (h : DigP U u s) (hg : 0 < u ∨ s = []) : DigP U (u / 10) (UInt8.ofNat (48 + u % 10) :: s) := by
  have key : Lib.decDigits U = Lib.decDigits u ++ s := by
    rcases h with ⟨h1, h2⟩ | ⟨h1, ⟨h2, _⟩ | ⟨_, h3⟩⟩
    · rw [h1, h2, List.append_nil]
    · rcases hg with hg | hg
      · omega
      · exact absurd hg h1
    · exact h3
  refine .inr ⟨by simp, ?_⟩
  by_cases h : u < 10
  · rw [dec_lt h] at key
    exact .inl ⟨by omega, by rw [key, show u % 10 = u by omega]; rfl⟩
  · rw [dec_ge h] at key
    exact .inr ⟨by omega, by rw [key, List.append_assoc]; rfl⟩
theorem DigP.done {U u : Nat} {s : List UInt8} (h : DigP U u s) (hu : u = 0) (hs : s ≠ []) : s = Lib.decDigits U := by
  rcases h with ⟨h1, _⟩ | ⟨_, ⟨_, h2⟩ | ⟨h2, _⟩⟩
  · exact absurd h1 hs
  · exact h2
  · omega
theorem DigP.le {U u : Nat} {s : List UInt8} (h : DigP U u s) : s.length ≤ (Lib.decDigits U).length := by
  rcases h with ⟨h1, _⟩ | ⟨_, ⟨_, h2⟩ | ⟨_, h2⟩⟩
  · rw [h1]; simp
  · rw [h2]; exact Nat.le_refl _
  · rw [h2, List.length_append]; omega
end Go.Proofs.YthmdnlcinlmjkaaDoor
