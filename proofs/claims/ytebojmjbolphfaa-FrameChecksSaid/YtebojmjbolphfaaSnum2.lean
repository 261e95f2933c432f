/- Contracts of Num, Flag, End, of the program's source and of the document's own. -/
import Derived.Test.YtebojmjbolphfaaSnum
namespace Go.Proofs.Ytebojmjbolphfaa
open Go Go.RowKit

theorem rem_two (u : Nat) : (((u : Int) % 2) == 1) = decide (u % 2 ≠ 0) := by
  have e : ((u : Int)) % 2 = ((u % 2 : Nat) : Int) := by push_cast; rfl
  rw [e]
  rcases Nat.mod_two_eq_zero_or_one u with h | h <;> simp [h]

/-- A flag: the next bit. -/
def flagVal (l : List Bool) : Bool := (bitsVal l 1 : Int) == 1

theorem any_take_false (l : List Bool) (k : Nat) (h : ∀ i, i < k → l.getD i false = false) : (l.take k).any id = false := by
  rw [List.any_eq_false]
  intro x hx
  obtain ⟨i, hi, rfl⟩ := List.getElem_of_mem hx
  simp at hi
  have hik : i < k := by omega
  have hil : i < l.length := by omega
  have := h i hik
  simp [List.getD, hil] at this
  rw [List.getElem_take]
  simp [this]
theorem any_of (l : List Bool) (k : Nat) (hk : k < l.length) (h : l.getD k false = true) : l.any id = true := by
  rw [List.any_eq_true]
  refine ⟨l[k], List.getElem_mem _, ?_⟩
  simpa [List.getD, hk] using h

set_option maxRecDepth 100000 in
theorem rsEnd_any (B q : Nat) (l : List Bool) (w : World) (hs : RefIs w B q l) :
    Calls Try.prog 40 #[.pointer (some ⟨q, 0, none⟩)] w fun e w' => e = .returned (.int .i64 ((endErrL l : Nat) : Int)) ∧ w = w' := by
  rcases hs.open with ⟨rfl, ao, cap, h0, _⟩ | ⟨b, o, cap, h0, hcap, hpos, hc⟩
  · clear hs
    go_enter Try.func40, Try.ntmps40
    go_wp2
    refine wp_loop_rounds 1 ?_
    rw [rounds_succ]
    go_wp2
    go_ret
    exact ⟨rfl, rfl⟩
  · have hlen := hs.len
    clear hs
    obtain ⟨N, hN⟩ : ∃ N, N = l.length := ⟨_, rfl⟩
    rw [← hN] at h0 hcap hpos hlen
    have HN := hide hN; clear hN
    have HC := hide hc; clear hc
    by_cases h8 : 7 < N
    · have he : endErrL l = 12 := by unfold endErrL; rw [if_pos (by rw [← HN.out]; omega)]
      rw [he]
      clear he
      go_enter Try.func40, Try.ntmps40
      go_wp2
      go_ret
      exact ⟨rfl, rfl⟩
    · have he : endErrL l = if l.any id then 12 else 0 := by unfold endErrL; rw [if_neg (by rw [← HN.out]; omega)]
      have HE := hide he; clear he
      go_enter Try.func40, Try.ntmps40
      go_wp2
      go_loop [3] (fun i => ∃ k : Nat, k ≤ N ∧ i = .int .i64 k ∧ ∀ i, i < k → l.getD i false = false) (fun i => N - (intOf i).toNat)
      case atStart => exact ⟨0, Nat.zero_le _, rfl, by intro i hi; omega⟩
      case round =>
        obtain ⟨k, hk, rfl, hz⟩ := hrel
        have HZ := hide hz; clear hz
        by_cases hlt : k < N
        · have hcell := HC.out k (by rw [← HN.out]; exact hlt)
          cases hb : l.getD k false with
          | true =>
            rw [hb] at hcell
            have HB := hide hb; clear hb
            go_wp2
            go_ret
            rw [HE.out, any_of l k (by rw [← HN.out]; exact hlt) HB.out]
            exact ⟨rfl, rfl⟩
          | false =>
            rw [hb] at hcell
            have HB := hide hb; clear hb
            go_wp2
            go_round
            case rel =>
              refine ⟨k + 1, by omega, by go_num, fun i hi => ?_⟩
              by_cases hik : i = k
              · rw [hik]; exact HB.out
              · exact HZ.out i (by omega)
            case measure => simp [intOf]; omega
        · go_wp2
          go_ret
          have ht := any_take_false l k HZ.out
          rw [List.take_of_length_le (by rw [← HN.out]; omega)] at ht
          rw [HE.out, ht]
          exact ⟨rfl, rfl⟩
end Go.Proofs.Ytebojmjbolphfaa
