/- Contracts of Num, Flag, End, of the program's source and of the document's own. -/
import Derived.Test.YtlibfbfhleijlaaSnum
namespace Go.Proofs.Ytlibfbfhleijlaa
open Go Go.RowKit

set_option maxRecDepth 100000 in
theorem sNum_any (B q : Nat) (bytes : List Nat) (p : Nat) (w : World) (hs : SrcIs w B q bytes p) :
    Calls Try.prog 23 #[.pointer (some ⟨q, 0, none⟩)] w fun e w' => e = .returned (.tuple #[.int .i64 (numValL (leftL bytes p)), .int .i64 ((natErrL (leftL bytes p) : Nat) : Int)]) ∧
      (∃ p', SrcIs w' B q bytes p' ∧ leftL bytes p' = natRestL (leftL bytes p)) ∧ Kept B srcT w w' := by
  have C := sNat_left B q bytes p w hs
  have hlt := natValL_lt (leftL bytes p)
  obtain ⟨E, hE⟩ : ∃ E, E = natErrL (leftL bytes p) := ⟨_, rfl⟩
  obtain ⟨V, hV⟩ : ∃ V, V = natValL (leftL bytes p) := ⟨_, rfl⟩
  have hn : numValL (leftL bytes p) = if E = 0 then numOf V else 0 := by unfold numValL; rw [hE, hV]
  rw [← hE, ← hV] at C
  rw [← hV] at hlt
  rw [hn, ← hE]
  clear hE hV hn hs
  have U := fun w => unfold_any V hlt w
  by_cases h0 : E = 0
  · subst h0
    rw [if_pos rfl]
    go_enter Try.func23, Try.ntmps23
    go_wp2_with fail
    refine C.mono ?_
    clear C
    rintro e w1 ⟨rfl, h1, h2⟩
    have H1 := hide h1; have H2 := hide h2; clear h1 h2
    go_wp2_with fail
    refine (U _).mono ?_
    rintro e w' ⟨rfl, rfl⟩
    go_wp2
    go_ret2
    exact ⟨rfl, H1.out, H2.out⟩
  · rw [if_neg h0]
    have hb : ((E : Int) != 0) = true := by simp; omega
    have H0 := hide h0; clear h0
    go_enter Try.func23, Try.ntmps23
    go_wp2_with fail
    refine C.mono ?_
    clear C
    rintro e w1 ⟨rfl, h1, h2⟩
    have H1 := hide h1; have H2 := hide h2; clear h1 h2
    go_wp2
    go_ret2
    exact ⟨rfl, H1.out, H2.out⟩

theorem rem_two (u : Nat) : (((u : Int) % 2) == 1) = decide (u % 2 ≠ 0) := by
  have e : ((u : Int)) % 2 = ((u % 2 : Nat) : Int) := by push_cast; rfl
  rw [e]
  rcases Nat.mod_two_eq_zero_or_one u with h | h <;> simp [h]

set_option maxRecDepth 100000 in
theorem rsNum_any (B q : Nat) (l : List Bool) (w : World) (hs : RefIs w B q l) :
    Calls Try.prog 41 #[.pointer (some ⟨q, 0, none⟩)] w fun e w' => e = .returned (.tuple #[.int .i64 (numValL l), .int .i64 ((natErrL l : Nat) : Int)]) ∧ RefIs w' B q (natRestL l) ∧ Kept B refT w w' := by
  have C := rsNat_any B q l w hs
  have hlt := natValL_lt l
  obtain ⟨E, hE⟩ : ∃ E, E = natErrL l := ⟨_, rfl⟩
  obtain ⟨V, hV⟩ : ∃ V, V = natValL l := ⟨_, rfl⟩
  have hn : numValL l = if E = 0 then numOf V else 0 := by unfold numValL; rw [hE, hV]
  rw [← hE, ← hV] at C
  rw [← hV] at hlt
  rw [hn, ← hE]
  clear hE hV hn hs
  have hlt' : (V : Int) ≤ 18446744073709551615 := by omega
  have hb2 := rem_two V
  by_cases h0 : E = 0
  · subst h0
    rw [if_pos rfl]
    by_cases hp : V % 2 = 0
    · rw [show decide (V % 2 ≠ 0) = false by simp [hp]] at hb2
      have hv : numOf V = (V : Int) / 2 := by unfold numOf; rw [if_pos hp]; omega
      have HV := hide hv; clear hv hp hlt
      go_enter Try.func41, Try.ntmps41
      go_wp2_with fail
      refine C.mono ?_
      clear C
      rintro e w1 ⟨rfl, h1, h2⟩
      have H1 := hide h1; have H2 := hide h2; clear h1 h2
      go_wp2
      go_ret2
      rw [HV.out]
      exact ⟨rfl, H1.out, H2.out⟩
    · rw [show decide (V % 2 ≠ 0) = true by simp; omega] at hb2
      have hv : numOf V = -((V : Int) / 2) - 1 := by unfold numOf; rw [if_neg hp]; omega
      have HV := hide hv; clear hv hp hlt
      go_enter Try.func41, Try.ntmps41
      go_wp2_with fail
      refine C.mono ?_
      clear C
      rintro e w1 ⟨rfl, h1, h2⟩
      have H1 := hide h1; have H2 := hide h2; clear h1 h2
      go_wp2
      go_ret2
      rw [HV.out]
      exact ⟨rfl, H1.out, H2.out⟩
  · rw [if_neg h0]
    have hb : ((E : Int) != 0) = true := by simp; omega
    have H0 := hide h0; clear h0
    go_enter Try.func41, Try.ntmps41
    go_wp2_with fail
    refine C.mono ?_
    clear C
    rintro e w1 ⟨rfl, h1, h2⟩
    have H1 := hide h1; have H2 := hide h2; clear h1 h2
    go_wp2
    go_ret2
    exact ⟨rfl, H1.out, H2.out⟩

/-- A flag: the next bit. -/
def flagVal (l : List Bool) : Bool := (bitsVal l 1 : Int) == 1

set_option maxRecDepth 100000 in
theorem sFlag_any (B q : Nat) (bytes : List Nat) (p : Nat) (w : World) (hs : SrcIs w B q bytes p) :
    Calls Try.prog 25 #[.pointer (some ⟨q, 0, none⟩)] w fun e w' => e = .returned (.tuple #[.bool (flagVal (leftL bytes p)), .int .i64 ((bitsErr 1 (leftL bytes p).length : Nat) : Int)]) ∧
      (∃ p', SrcIs w' B q bytes p' ∧ leftL bytes p' = bitsRest (leftL bytes p) 1) ∧ Kept B srcT w w' := by
  have C := sBits_any B q 1 bytes p w hs (by decide)
  obtain ⟨E, hE⟩ : ∃ E, E = bitsErr 1 (leftL bytes p).length := ⟨_, rfl⟩
  obtain ⟨V, hV⟩ : ∃ V, V = bitsVal (leftL bytes p) 1 := ⟨_, rfl⟩
  have hn : flagVal (leftL bytes p) = ((V : Int) == 1) := by unfold flagVal; rw [hV]
  rw [← hE, ← hV] at C
  rw [hn, ← hE]
  clear hE hV hn hs
  go_enter Try.func25, Try.ntmps25
  go_wp2_with fail
  refine C.mono ?_
  clear C
  rintro e w1 ⟨rfl, h1, h2⟩
  have H1 := hide h1; have H2 := hide h2; clear h1 h2
  go_wp2
  go_ret2
  exact ⟨rfl, H1.out, H2.out⟩

set_option maxRecDepth 100000 in
theorem rsFlag_any (B q : Nat) (l : List Bool) (w : World) (hs : RefIs w B q l) :
    Calls Try.prog 43 #[.pointer (some ⟨q, 0, none⟩)] w fun e w' => e = .returned (.tuple #[.bool (flagVal l), .int .i64 ((bitsErr 1 l.length : Nat) : Int)]) ∧ RefIs w' B q (bitsRest l 1) ∧ Kept B refT w w' := by
  have C := rsBits_any B q 1 l w hs (by decide)
  obtain ⟨E, hE⟩ : ∃ E, E = bitsErr 1 l.length := ⟨_, rfl⟩
  obtain ⟨V, hV⟩ : ∃ V, V = bitsVal l 1 := ⟨_, rfl⟩
  have hn : flagVal l = ((V : Int) == 1) := by unfold flagVal; rw [hV]
  rw [← hE, ← hV] at C
  rw [hn, ← hE]
  clear hE hV hn hs
  go_enter Try.func43, Try.ntmps43
  go_wp2_with fail
  refine C.mono ?_
  clear C
  rintro e w1 ⟨rfl, h1, h2⟩
  have H1 := hide h1; have H2 := hide h2; clear h1 h2
  go_wp2
  go_ret2
  exact ⟨rfl, H1.out, H2.out⟩

theorem any_take_false (l : List Bool) (k : Nat) (h : ∀ i, i < k → l.getD i false = false) : (l.take k).any id = false := by
  rw [List.any_eq_false]
  intro x hx
  obtain ⟨i, hi, rfl⟩ := List.getElem_of_mem hx
  simp at hi
  have hik : i < k := by omega
  have hil : i < l.length := by omega
  have := h i hik
  simp [List.getD, hil] at this
  rw [List.getElem_take]
  simp [this]
theorem any_of (l : List Bool) (k : Nat) (hk : k < l.length) (h : l.getD k false = true) : l.any id = true := by
  rw [List.any_eq_true]
  refine ⟨l[k], List.getElem_mem _, ?_⟩
  simpa [List.getD, hk] using h

set_option maxRecDepth 100000 in
theorem rsEnd_any (B q : Nat) (l : List Bool) (w : World) (hs : RefIs w B q l) :
    Calls Try.prog 20 #[.pointer (some ⟨q, 0, none⟩)] w fun e w' => e = .returned (.int .i64 ((endErrL l : Nat) : Int)) ∧ w = w' := by
  rcases hs.open with ⟨rfl, ao, cap, h0, _⟩ | ⟨b, o, cap, h0, hcap, hpos, hc⟩
  · clear hs
    go_enter Try.func20, Try.ntmps20
    go_wp2
    refine wp_loop_rounds 1 ?_
    rw [rounds_succ]
    go_wp2
    go_ret
    exact ⟨rfl, rfl⟩
  · have hlen := hs.len
    clear hs
    obtain ⟨N, hN⟩ : ∃ N, N = l.length := ⟨_, rfl⟩
    rw [← hN] at h0 hcap hpos hlen
    have HN := hide hN; clear hN
    have HC := hide hc; clear hc
    by_cases h8 : 7 < N
    · have he : endErrL l = 12 := by unfold endErrL; rw [if_pos (by rw [← HN.out]; omega)]
      rw [he]
      clear he
      go_enter Try.func20, Try.ntmps20
      go_wp2
      go_ret
      exact ⟨rfl, rfl⟩
    · have he : endErrL l = if l.any id then 12 else 0 := by unfold endErrL; rw [if_neg (by rw [← HN.out]; omega)]
      have HE := hide he; clear he
      go_enter Try.func20, Try.ntmps20
      go_wp2
      go_loop [3] (fun i => ∃ k : Nat, k ≤ N ∧ i = .int .i64 k ∧ ∀ i, i < k → l.getD i false = false) (fun i => N - (intOf i).toNat)
      case atStart => exact ⟨0, Nat.zero_le _, rfl, by intro i hi; omega⟩
      case round =>
        obtain ⟨k, hk, rfl, hz⟩ := hrel
        have HZ := hide hz; clear hz
        by_cases hlt : k < N
        · have hcell := HC.out k (by rw [← HN.out]; exact hlt)
          cases hb : l.getD k false with
          | true =>
            rw [hb] at hcell
            have HB := hide hb; clear hb
            go_wp2
            go_ret
            rw [HE.out, any_of l k (by rw [← HN.out]; exact hlt) HB.out]
            exact ⟨rfl, rfl⟩
          | false =>
            rw [hb] at hcell
            have HB := hide hb; clear hb
            go_wp2
            go_round
            case rel =>
              refine ⟨k + 1, by omega, by go_num, fun i hi => ?_⟩
              by_cases hik : i = k
              · rw [hik]; exact HB.out
              · exact HZ.out i (by omega)
            case measure => simp [intOf]; omega
        · go_wp2
          go_ret
          have ht := any_take_false l k HZ.out
          rw [List.take_of_length_le (by rw [← HN.out]; omega)] at ht
          rw [HE.out, ht]
          exact ⟨rfl, rfl⟩
end Go.Proofs.Ytlibfbfhleijlaa
