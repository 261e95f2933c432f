/- Contracts of Num, Flag, End, of the program's source and of the document's own. -/
import Derived.Test.YtiljekpfkkocnaaRsnat
namespace Go.Proofs.Ytiljekpfkkocnaa
open Go Go.RowKit

/-- The number for which a natural number stands. -/
def numOf (u : Nat) : Int := if u % 2 = 0 then ((u / 2 : Nat) : Int) else -((u / 2 : Nat) : Int) - 1
def numValL (l : List Bool) : Int := if natErrL l = 0 then numOf (natValL l) else 0

theorem natErrL_num (l : List Bool) : natErrL l = 0 ∨ natErrL l = 10 ∨ natErrL l = 11 := by
  unfold natErrL
  by_cases h1 : 64 < zerosL l
  · rw [if_pos h1]; omega
  rw [if_neg h1]
  by_cases h2 : l.length < 2 * zerosL l + 1
  · rw [if_pos h2]; omega
  rw [if_neg h2]
  by_cases h3 : zerosL l = 64 ∧ valBits ((l.drop (zerosL l + 1)).take (zerosL l)) ≠ 0
  · rw [if_pos h3]; omega
  · rw [if_neg h3]; omega
theorem natValL_lt (l : List Bool) : natValL l < 2 ^ 64 := by
  unfold natValL
  by_cases h : natErrL l = 0
  · rw [if_pos h]
    unfold natErrL at h
    have hv := valBits_lt ((l.drop (zerosL l + 1)).take (zerosL l))
    have hvl : ((l.drop (zerosL l + 1)).take (zerosL l)).length ≤ zerosL l := by simp; omega
    have hv2 := Nat.pow_le_pow_right (n := 2) (by omega) hvl
    by_cases h1 : 64 < zerosL l
    · rw [if_pos h1] at h; cases h
    rw [if_neg h1] at h
    by_cases h2 : l.length < 2 * zerosL l + 1
    · rw [if_pos h2] at h; cases h
    rw [if_neg h2] at h
    by_cases h3 : zerosL l = 64 ∧ valBits ((l.drop (zerosL l + 1)).take (zerosL l)) ≠ 0
    · rw [if_pos h3] at h; cases h
    by_cases h4 : zerosL l = 64
    · have h5 : valBits ((l.drop (zerosL l + 1)).take (zerosL l)) = 0 := by
        by_cases h6 : valBits ((l.drop (zerosL l + 1)).take (zerosL l)) = 0
        · exact h6
        · exact absurd ⟨h4, h6⟩ h3
      rw [h5, h4]; decide
    · have h7 : 2 ^ zerosL l ≤ 2 ^ 63 := Nat.pow_le_pow_right (by omega) (by omega)
      omega
  · rw [if_neg h]; decide

theorem rsNat_any (B q : Nat) (l : List Bool) (w : World) (hs : RefIs w B q l) :
    Calls Try.prog 113 #[.pointer (some ⟨q, 0, none⟩)] w fun e w' => e = .returned (.tuple #[.int .u64 ((natValL l : Nat) : Int), .int .i64 ((natErrL l : Nat) : Int)]) ∧ RefIs w' B q (natRestL l) ∧ KeptR B q w w' := by
  rcases hs.open with ⟨rfl, _⟩ | ⟨b, o, cap, h0, hcap, hpos, hc⟩
  · exact rsNat_nil B q w hs
  · exact rsNat_cons B q b o cap l w hs h0 hcap hpos hc

/-- The same of the program's source, in the words of the bits that are left. -/
theorem sNat_left (B q : Nat) (bytes : List Nat) (p : Nat) (w : World) (hs : SrcIs w B q bytes p) :
    Calls Try.prog 129 #[.pointer (some ⟨q, 0, none⟩)] w fun e w' => e = .returned (.tuple #[.int .u64 ((natValL (leftL bytes p) : Nat) : Int), .int .i64 ((natErrL (leftL bytes p) : Nat) : Int)]) ∧
      (∃ p', SrcIs w' B q bytes p' ∧ leftL bytes p' = natRestL (leftL bytes p)) ∧ Kept B srcT w w' :=
  (sNat_any B q bytes p w hs).mono fun e w' ⟨he, h1, h2⟩ => ⟨by rw [he, natErr_left, natVal_left], ⟨_, h1, natRest_left bytes p⟩, h2⟩
theorem sEnd_left (B q : Nat) (bytes : List Nat) (p : Nat) (w : World) (hs : SrcIs w B q bytes p) :
    Calls Try.prog 78 #[.pointer (some ⟨q, 0, none⟩)] w fun e w' => e = .returned (.int .i64 ((endErrL (leftL bytes p) : Nat) : Int)) ∧ SrcIs w' B q bytes p ∧ Kept B srcT w w' :=
  (sEnd_any B q bytes p w hs).mono fun e w' ⟨he, h1, h2⟩ => ⟨by rw [he, ← endErr_left bytes p hs.at_]; rfl, h1, h2⟩

theorem and_one_bool (u : Nat) (hu : u < 2 ^ 64) : (bits BinOp.and IntKind.u64 (u : Int) 1 == 0) = decide (u % 2 = 0) := by
  rw [Go.and_one_u64 _ (by omega) (by omega)]
  have e : ((u : Int)) % 2 = ((u % 2 : Nat) : Int) := by push_cast; rfl
  rw [e]
  rcases Nat.mod_two_eq_zero_or_one u with h | h <;> simp [h]

set_option maxRecDepth 100000 in
theorem unfold_any (u : Nat) (hu : u < 2 ^ 64) (w : World) :
    Calls Try.prog 134 #[.int .u64 (u : Int)] w fun e w' => e = .returned (.int .i64 (numOf u)) ∧ w = w' := by
  have hb := and_one_bool u hu
  have hu' : (u : Int) ≤ 18446744073709551615 := by omega
  by_cases hp : u % 2 = 0
  · rw [show decide (u % 2 = 0) = true by simp [hp]] at hb
    have hv : numOf u = (u : Int) / 2 := by unfold numOf; rw [if_pos hp]; omega
    have HV := hide hv; clear hv hp hu
    go_enter Try.func134, Try.ntmps134
    go_wp2
    go_ret
    refine ⟨?_, rfl⟩
    rw [HV.out]
    rfl
  · rw [show decide (u % 2 = 0) = false by simp [hp]] at hb
    have hv : numOf u = -((u : Int) / 2) - 1 := by unfold numOf; rw [if_neg hp]; omega
    have HV := hide hv; clear hv hp hu
    go_enter Try.func134, Try.ntmps134
    go_wp2
    go_ret
    refine ⟨?_, rfl⟩
    rw [HV.out]
    rfl
end Go.Proofs.Ytiljekpfkkocnaa
namespace Go.Proofs.Ytiljekpfkkocnaa
open Go Go.RowKit

set_option maxRecDepth 100000 in
theorem sNum_any (B q : Nat) (bytes : List Nat) (p : Nat) (w : World) (hs : SrcIs w B q bytes p) :
    Calls Try.prog 133 #[.pointer (some ⟨q, 0, none⟩)] w fun e w' => e = .returned (.tuple #[.int .i64 (numValL (leftL bytes p)), .int .i64 ((natErrL (leftL bytes p) : Nat) : Int)]) ∧
      (∃ p', SrcIs w' B q bytes p' ∧ leftL bytes p' = natRestL (leftL bytes p)) ∧ Kept B srcT w w' := by
  have C := sNat_left B q bytes p w hs
  have hlt := natValL_lt (leftL bytes p)
  obtain ⟨E, hE⟩ : ∃ E, E = natErrL (leftL bytes p) := ⟨_, rfl⟩
  obtain ⟨V, hV⟩ : ∃ V, V = natValL (leftL bytes p) := ⟨_, rfl⟩
  have hn : numValL (leftL bytes p) = if E = 0 then numOf V else 0 := by unfold numValL; rw [hE, hV]
  rw [← hE, ← hV] at C
  rw [← hV] at hlt
  rw [hn, ← hE]
  clear hE hV hn hs
  have U := fun w => unfold_any V hlt w
  by_cases h0 : E = 0
  · subst h0
    rw [if_pos rfl]
    go_enter Try.func133, Try.ntmps133
    go_wp2_with fail
    refine C.mono ?_
    clear C
    rintro e w1 ⟨rfl, h1, h2⟩
    have H1 := hide h1; have H2 := hide h2; clear h1 h2
    go_wp2_with fail
    refine (U _).mono ?_
    rintro e w' ⟨rfl, rfl⟩
    go_wp2
    go_ret2
    exact ⟨rfl, H1.out, H2.out⟩
  · rw [if_neg h0]
    have hb : ((E : Int) != 0) = true := by simp; omega
    have H0 := hide h0; clear h0
    go_enter Try.func133, Try.ntmps133
    go_wp2_with fail
    refine C.mono ?_
    clear C
    rintro e w1 ⟨rfl, h1, h2⟩
    have H1 := hide h1; have H2 := hide h2; clear h1 h2
    go_wp2
    go_ret2
    exact ⟨rfl, H1.out, H2.out⟩

theorem rem_two (u : Nat) : (((u : Int) % 2) == 1) = decide (u % 2 ≠ 0) := by
  have e : ((u : Int)) % 2 = ((u % 2 : Nat) : Int) := by push_cast; rfl
  rw [e]
  rcases Nat.mod_two_eq_zero_or_one u with h | h <;> simp [h]

set_option maxRecDepth 100000 in
theorem rsNum_any (B q : Nat) (l : List Bool) (w : World) (hs : RefIs w B q l) :
    Calls Try.prog 126 #[.pointer (some ⟨q, 0, none⟩)] w fun e w' => e = .returned (.tuple #[.int .i64 (numValL l), .int .i64 ((natErrL l : Nat) : Int)]) ∧ RefIs w' B q (natRestL l) ∧ KeptR B q w w' := by
  have C := rsNat_any B q l w hs
  have hlt := natValL_lt l
  obtain ⟨E, hE⟩ : ∃ E, E = natErrL l := ⟨_, rfl⟩
  obtain ⟨V, hV⟩ : ∃ V, V = natValL l := ⟨_, rfl⟩
  have hn : numValL l = if E = 0 then numOf V else 0 := by unfold numValL; rw [hE, hV]
  rw [← hE, ← hV] at C
  rw [← hV] at hlt
  rw [hn, ← hE]
  clear hE hV hn hs
  have hlt' : (V : Int) ≤ 18446744073709551615 := by omega
  have hb2 := rem_two V
  by_cases h0 : E = 0
  · subst h0
    rw [if_pos rfl]
    by_cases hp : V % 2 = 0
    · rw [show decide (V % 2 ≠ 0) = false by simp [hp]] at hb2
      have hv : numOf V = (V : Int) / 2 := by unfold numOf; rw [if_pos hp]; omega
      have HV := hide hv; clear hv hp hlt
      go_enter Try.func126, Try.ntmps126
      go_wp2_with fail
      refine C.mono ?_
      clear C
      rintro e w1 ⟨rfl, h1, h2⟩
      have H1 := hide h1; have H2 := hide h2; clear h1 h2
      go_wp2
      go_ret2
      rw [HV.out]
      exact ⟨rfl, H1.out, H2.out⟩
    · rw [show decide (V % 2 ≠ 0) = true by simp; omega] at hb2
      have hv : numOf V = -((V : Int) / 2) - 1 := by unfold numOf; rw [if_neg hp]; omega
      have HV := hide hv; clear hv hp hlt
      go_enter Try.func126, Try.ntmps126
      go_wp2_with fail
      refine C.mono ?_
      clear C
      rintro e w1 ⟨rfl, h1, h2⟩
      have H1 := hide h1; have H2 := hide h2; clear h1 h2
      go_wp2
      go_ret2
      rw [HV.out]
      exact ⟨rfl, H1.out, H2.out⟩
  · rw [if_neg h0]
    have hb : ((E : Int) != 0) = true := by simp; omega
    have H0 := hide h0; clear h0
    go_enter Try.func126, Try.ntmps126
    go_wp2_with fail
    refine C.mono ?_
    clear C
    rintro e w1 ⟨rfl, h1, h2⟩
    have H1 := hide h1; have H2 := hide h2; clear h1 h2
    go_wp2
    go_ret2
    exact ⟨rfl, H1.out, H2.out⟩

/-- A flag: the next bit. -/
def flagVal (l : List Bool) : Bool := (bitsVal l 1 : Int) == 1

theorem any_take_false (l : List Bool) (k : Nat) (h : ∀ i, i < k → l.getD i false = false) : (l.take k).any id = false := by
  rw [List.any_eq_false]
  intro x hx
  obtain ⟨i, hi, rfl⟩ := List.getElem_of_mem hx
  simp at hi
  have hik : i < k := by omega
  have hil : i < l.length := by omega
  have := h i hik
  simp [List.getD, hil] at this
  rw [List.getElem_take]
  simp [this]
theorem any_of (l : List Bool) (k : Nat) (hk : k < l.length) (h : l.getD k false = true) : l.any id = true := by
  rw [List.any_eq_true]
  refine ⟨l[k], List.getElem_mem _, ?_⟩
  simpa [List.getD, hk] using h

set_option maxRecDepth 100000 in
theorem rsEnd_any (B q : Nat) (l : List Bool) (w : World) (hs : RefIs w B q l) :
    Calls Try.prog 79 #[.pointer (some ⟨q, 0, none⟩)] w fun e w' => e = .returned (.int .i64 ((endErrL l : Nat) : Int)) ∧ w = w' := by
  rcases hs.open with ⟨rfl, ao, cap, h0, _⟩ | ⟨b, o, cap, h0, hcap, hpos, hc⟩
  · clear hs
    go_enter Try.func79, Try.ntmps79
    go_wp2
    refine wp_loop_rounds 1 ?_
    rw [rounds_succ]
    go_wp2
    go_ret
    exact ⟨rfl, rfl⟩
  · have hlen := hs.len
    clear hs
    obtain ⟨N, hN⟩ : ∃ N, N = l.length := ⟨_, rfl⟩
    rw [← hN] at h0 hcap hpos hlen
    have HN := hide hN; clear hN
    have HC := hide hc; clear hc
    by_cases h8 : 7 < N
    · have he : endErrL l = 12 := by unfold endErrL; rw [if_pos (by rw [← HN.out]; omega)]
      rw [he]
      clear he
      go_enter Try.func79, Try.ntmps79
      go_wp2
      go_ret
      exact ⟨rfl, rfl⟩
    · have he : endErrL l = if l.any id then 12 else 0 := by unfold endErrL; rw [if_neg (by rw [← HN.out]; omega)]
      have HE := hide he; clear he
      go_enter Try.func79, Try.ntmps79
      go_wp2
      go_loop [3] (fun i => ∃ k : Nat, k ≤ N ∧ i = .int .i64 k ∧ ∀ i, i < k → l.getD i false = false) (fun i => N - (intOf i).toNat)
      case atStart => exact ⟨0, Nat.zero_le _, rfl, by intro i hi; omega⟩
      case round =>
        obtain ⟨k, hk, rfl, hz⟩ := hrel
        have HZ := hide hz; clear hz
        by_cases hlt : k < N
        · have hcell := HC.out k (by rw [← HN.out]; exact hlt)
          cases hb : l.getD k false with
          | true =>
            rw [hb] at hcell
            have HB := hide hb; clear hb
            go_wp2
            go_ret
            rw [HE.out, any_of l k (by rw [← HN.out]; exact hlt) HB.out]
            exact ⟨rfl, rfl⟩
          | false =>
            rw [hb] at hcell
            have HB := hide hb; clear hb
            go_wp2
            go_round
            case rel =>
              refine ⟨k + 1, by omega, by go_num, fun i hi => ?_⟩
              by_cases hik : i = k
              · rw [hik]; exact HB.out
              · exact HZ.out i (by omega)
            case measure => simp [intOf]; omega
        · go_wp2
          go_ret
          have ht := any_take_false l k HZ.out
          rw [List.take_of_length_le (by rw [← HN.out]; omega)] at ht
          rw [HE.out, ht]
          exact ⟨rfl, rfl⟩
end Go.Proofs.Ytiljekpfkkocnaa
