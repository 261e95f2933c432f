/- Contracts of the document's own reading of quotes: hex; how a text's bytes are taken. -/
import Derived.Test.YthmdnlcinlmjkaaDoorFi
namespace Go.Proofs.YthmdnlcinlmjkaaDoor
open Go Go.RowKit

/-- The document's value of a digit; 16 for none. -/
def hexR (c : UInt8) : Nat := if 48 ≤ c.toNat ∧ c.toNat ≤ 57 then c.toNat - 48 else if 97 ≤ c.toNat ∧ c.toNat ≤ 102 then c.toNat - 87 else 16
theorem hexR_le (c : UInt8) : hexR c ≤ 16 := by
  unfold hexR; split
  · omega
  · split <;> omega
theorem hexR_hx : ∀ i : Fin 16, hexR (hxD i.val) = i.val := by decide
theorem r3hex_any (c : UInt8) (w : World) : Calls Tryd.prog 24 #[.int .u8 (c.toNat : Int)] w fun e w' => e = .returned (.int .u8 (hexR c : Int)) ∧ w = w' := by
  have hd : hexR c = if 48 ≤ c.toNat ∧ c.toNat ≤ 57 then c.toNat - 48 else if 97 ≤ c.toNat ∧ c.toNat ≤ 102 then c.toNat - 87 else 16 := rfl
  have hc := c.toNat_lt
  generalize c.toNat = n at hd hc ⊢
  by_cases h1 : 48 ≤ n ∧ n ≤ 57
  · rw [if_pos h1] at hd
    obtain ⟨a, b⟩ := h1
    have e : (hexR c : Int) = (n : Int) - 48 := by omega
    rw [e]
    clear hd e
    go_enter Tryd.func24, Tryd.ntmps24
    go_wp2
    go_ret
    exact ⟨rfl, rfl⟩
  · rw [if_neg h1] at hd
    by_cases h2 : 97 ≤ n ∧ n ≤ 102
    · rw [if_pos h2] at hd
      obtain ⟨a, b⟩ := h2
      have e : (hexR c : Int) = (n : Int) - 97 + 10 := by omega
      rw [e]
      clear hd e h1
      go_enter Tryd.func24, Tryd.ntmps24
      go_wp2
      go_ret
      exact ⟨rfl, rfl⟩
    · rw [if_neg h2] at hd
      rw [hd]
      clear hd
      go_enter Tryd.func24, Tryd.ntmps24
      go_wp2
      all_goals go_ret
      all_goals exact ⟨rfl, rfl⟩

/-- What the document's reading takes first of what is left, the last quote among it: the byte, and how many bytes it passes. -/
def quoStep : List UInt8 → UInt8 × Nat
  | [] => (0, 1)
  | c :: r => if c.toNat = 92 then (match r with
      | [] => (c, 1)
      | d :: r2 => if (d.toNat = 34 ∨ d.toNat = 92) ∧ r2 ≠ [] then (d, 2) else if d.toNat = 120 then (match r2 with | x :: y :: _ :: _ => (UInt8.ofNat (16 * hexR x + hexR y), 4) | _ => (c, 1)) else (c, 1)) else (c, 1)
theorem quoStep_esc (c : UInt8) (rest : List UInt8) : quoStep (escL c ++ (rest ++ [34])) = (c, (escL c).length) := by
  have h1 := hexR_hx ⟨c.toNat / 16, by have := c.toNat_lt; omega⟩
  have h2 := hexR_hx ⟨c.toNat % 16, by omega⟩
  simp only at h1 h2
  have hu : UInt8.ofNat (16 * (c.toNat / 16) + c.toNat % 16) = c := by
    rw [show 16 * (c.toNat / 16) + c.toNat % 16 = c.toNat by omega]; simp
  have e92 : (92 : UInt8).toNat = 92 := rfl
  have e120 : (120 : UInt8).toNat = 120 := rfl
  have hr : rest ++ [34] ≠ [] := by simp
  rcases byte_ways c with ⟨hc, he⟩ | ⟨hc, he⟩ | ⟨b1, b2, h3, he⟩ | ⟨b1, b2, h3, h4, he⟩ | ⟨b1, b2, h3, h4, he⟩
  · have : c = 34 := UInt8.toNat_inj.1 hc
    rw [he, this]; simp only [List.cons_append, List.nil_append, quoStep, e92, if_true]
    rw [if_pos ⟨by simp, hr⟩]; rfl
  · have : c = 92 := UInt8.toNat_inj.1 hc
    rw [he, this]; simp only [List.cons_append, List.nil_append, quoStep, e92, if_true]
    rw [if_pos ⟨by simp, hr⟩]; rfl
  · rw [he]
    obtain ⟨z, zs, hz⟩ : ∃ z zs, rest ++ [34] = z :: zs := List.exists_cons_of_ne_nil hr
    rw [hz]
    simp only [List.cons_append, List.nil_append, quoStep, e92, e120, if_true, h1, h2, hu, List.length_cons, List.length_nil]
    rfl
  · rw [he]
    obtain ⟨z, zs, hz⟩ : ∃ z zs, rest ++ [34] = z :: zs := List.exists_cons_of_ne_nil hr
    rw [hz]
    simp only [List.cons_append, List.nil_append, quoStep, e92, e120, if_true, h1, h2, hu, List.length_cons, List.length_nil]
    rfl
  · rw [he]
    have : ¬ c.toNat = 92 := by have h := of_decide_eq_false b2; omega
    simp only [List.cons_append, List.nil_append, quoStep, if_neg this, List.length_cons, List.length_nil]
theorem quoStep_pos (l : List UInt8) : 1 ≤ (quoStep l).2 ∧ (quoStep l).2 ≤ 4 := by
  unfold quoStep
  repeat' split
  all_goals simp
end Go.Proofs.YthmdnlcinlmjkaaDoor
