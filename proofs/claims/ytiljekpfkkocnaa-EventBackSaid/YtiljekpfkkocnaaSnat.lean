/- Contract: a source tells the next natural number, or what is wrong first. -/
import Derived.Test.YtiljekpfkkocnaaSrc
namespace Go.Proofs.Ytiljekpfkkocnaa
open Go Go.RowKit

def natErr (bytes : List Nat) (p : Nat) : Nat :=
  if 64 < zerosAt bytes p then 11
  else if 8 * bytes.length - p < 2 * zerosAt bytes p + 1 then 10
  else if zerosAt bytes p = 64 ∧ valAt bytes (p + zerosAt bytes p + 1) (zerosAt bytes p) ≠ 0 then 11
  else 0
def natVal (bytes : List Nat) (p : Nat) : Nat := if natErr bytes p = 0 then 2 ^ zerosAt bytes p + valAt bytes (p + zerosAt bytes p + 1) (zerosAt bytes p) - 1 else 0
def natNext (bytes : List Nat) (p : Nat) : Nat := if natErr bytes p = 0 then p + 2 * zerosAt bytes p + 1 else p

/-- The block of a source behind a store into its place. -/
theorem SrcIs.moved {w : World} {B q : Nat} {bytes : List Nat} {p : Nat} (h : SrcIs w B q bytes p) (p' : Nat) (hp : p' ≤ 8 * bytes.length) : SrcIs (w.setCell ⟨q, 2, none⟩ (.int .i64 (p' : Int))) B q bytes p' := by
  obtain ⟨v, h1, ho⟩ := h.row
  refine ⟨h.from_, h.len, hp, h.small, v, ?_, ownsRow_setCell_typed ho h1 (by decide) _⟩
  rw [heap_setCell_same h1]; simp
theorem SrcIs.keeps {w : World} {B q : Nat} {bytes : List Nat} {p : Nat} (h : SrcIs w B q bytes p) (u : Value) : Kept B srcT w (w.setCell ⟨q, 2, none⟩ u) := by
  obtain ⟨v, h1, ho⟩ := h.row
  exact (Kept.refl _ _ _).setCell h.from_ h1 rfl u
theorem SrcIs.free {w : World} {B q : Nat} {bytes : List Nat} {p : Nat} (h : SrcIs w B q bytes p) : w.frozen? ⟨q, 2, none⟩ = false := by
  obtain ⟨v, h1, _⟩ := h.row
  exact (free_of_three h1).2.2

theorem natErr_num (bytes : List Nat) (p : Nat) : natErr bytes p = 0 ∨ natErr bytes p = 10 ∨ natErr bytes p = 11 := by
  unfold natErr
  by_cases h1 : 64 < zerosAt bytes p
  · rw [if_pos h1]; omega
  rw [if_neg h1]
  by_cases h2 : 8 * bytes.length - p < 2 * zerosAt bytes p + 1
  · rw [if_pos h2]; omega
  rw [if_neg h2]
  by_cases h3 : zerosAt bytes p = 64 ∧ valAt bytes (p + zerosAt bytes p + 1) (zerosAt bytes p) ≠ 0
  · rw [if_pos h3]; omega
  · rw [if_neg h3]; omega

set_option maxRecDepth 100000 in
set_option maxHeartbeats 400000 in
theorem sNat_any (B q : Nat) (bytes : List Nat) (p : Nat) (w : World) (hs : SrcIs w B q bytes p) :
    Calls Try.prog 129 #[.pointer (some ⟨q, 0, none⟩)] w fun e w' => e = .returned (.tuple #[.int .u64 ((natVal bytes p : Nat) : Int), .int .i64 ((natErr bytes p : Nat) : Int)]) ∧ SrcIs w' B q bytes (natNext bytes p) ∧ Kept B srcT w w' := by
  have hp := hs.at_
  have hl := hs.len
  obtain ⟨k, hk⟩ : ∃ k, k = zerosAt bytes p := ⟨_, rfl⟩
  have C := sZeros_k B q bytes p w hs
  rw [← hk] at C
  have HK := hide hk; clear hk
  go_enter Try.func129, Try.ntmps129
  go_wp2_with fail
  refine (sIsMade_any q _ hs.made).mono ?_
  rintro e w' ⟨rfl, rfl⟩
  go_wp2_with fail
  refine C.mono ?_
  rintro e w1 ⟨rfl, hs1, k1⟩
  by_cases h64 : 64 < k
  · go_wp2_with fail
    go_ret2
    have he : natErr bytes p = 11 := by unfold natErr; rw [← HK.out, if_pos h64]
    rw [natVal, natNext, he]
    exact ⟨rfl, hs1, k1⟩
  obtain ⟨Lf, hLf⟩ : ∃ Lf, Lf = 8 * bytes.length - p := ⟨_, rfl⟩
  have C2 := sLeft_k B q bytes p w1 hs1
  rw [← hLf] at C2
  have HL := hide hLf; clear hLf
  have hLb : Lf ≤ 1125899906842624000 := by have := HL.out; omega
  go_wp2_with fail
  refine C2.mono ?_
  rintro e w2 ⟨rfl, hs2, k2⟩
  have hpos := hs2.pos
  have hfree := hs2.free
  by_cases hfew : Lf < 2 * k + 1
  · go_wp2_with fail
    go_ret2
    have he : natErr bytes p = 10 := by unfold natErr; rw [← HK.out, if_neg h64, if_pos (by have := HL.out; omega)]
    rw [natVal, natNext, he]
    exact ⟨rfl, hs2, k1.trans k2⟩
  obtain ⟨V, hV⟩ : ∃ V, V = valAt bytes (p + k + 1) k := ⟨_, rfl⟩
  have hVlt : V < 2 ^ k := by rw [hV]; exact valAt_lt _ _ _
  have C3 := sPeek_any B q bytes p (p + k + 1) k w2 hs2 (by omega) (by have := HL.out; omega)
  rw [← hV] at C3
  have C4 : Calls Try.prog 107 #[.pointer (some ⟨q, 0, none⟩), .int .i64 ((p : Int) + (k : Int) + 1), .int .i64 (k : Int)] w2 fun e w' => e = .returned (.int .u64 ((V : Nat) : Int)) ∧ w2 = w' := C3
  have HV := hide hV; clear hV
  clear C C2 C3
  have hp2 : p ≤ 1125899906842624000 := by omega
  have HP := hide hp; clear hp
  have he0 : natErr bytes p = if k = 64 ∧ V ≠ 0 then 11 else 0 := by unfold natErr; rw [← HK.out, ← HV.out, if_neg h64, if_neg (by have := HL.out; omega)]
  have HE := hide he0; clear he0
  by_cases hk64 : k = 64
  · subst hk64
    by_cases hV0 : V = 0
    · have hVb : ((V : Int) != 0) = false := by simp; omega
      have hV0' := hide hV0; clear hV0
      go_wp2_with fail
      refine C4.mono ?_
      rintro e w' ⟨rfl, rfl⟩
      clear C4
      go_wp2
      go_ret2
      have he : natErr bytes p = 0 := HE.out.trans (if_neg (fun h => h.2 hV0'.out))
      have hm := hs2.moved (p + (2 * 64 + 1)) (by have := HL.out; have := HP.out; omega)
      rw [natVal, natNext, he, if_pos rfl, if_pos rfl, ← HK.out, ← HV.out, hV0'.out]
      refine ⟨?_, ?_, ?_⟩
      · show Ending.returned (.tuple #[.int .u64 (IntKind.u64.wrap (IntKind.u64.wrap (IntKind.u64.wrap 18446744073709551616 + ((0 : Nat) : Int)) - 1)), .int .i64 0]) = _
        have e : IntKind.u64.wrap (IntKind.u64.wrap (IntKind.u64.wrap 18446744073709551616 + ((0 : Nat) : Int)) - 1) = ((2 ^ 64 + 0 - 1 : Nat) : Int) := by decide +kernel
        rw [e]; rfl
      · exact hm
      · exact (k1.trans k2).trans (hs2.keeps _)
    · have hVb : ((V : Int) != 0) = true := by simp; omega
      have hV0' := hide hV0; clear hV0
      go_wp2_with fail
      refine C4.mono ?_
      rintro e w' ⟨rfl, rfl⟩
      clear C4
      go_wp2
      go_ret2
      have he : natErr bytes p = 11 := HE.out.trans (if_pos ⟨by trivial, hV0'.out⟩)
      rw [natVal, natNext, he]
      exact ⟨rfl, hs2, k1.trans k2⟩
  · have hk63 : k ≤ 63 := by omega
    have hkb : ((k : Int) == 64) = false := by simp; omega
    have hk64' := hide hk64; clear hk64
    go_wp2_with fail
    refine C4.mono ?_
    rintro e w' ⟨rfl, rfl⟩
    clear C4
    go_wp2
    go_ret2
    have he := HE.out
    rw [if_neg (by rintro ⟨h, _⟩; exact hk64'.out h)] at he
    have hm := hs2.moved (p + (2 * k + 1)) (by have := HL.out; have := HP.out; omega)
    rw [natVal, natNext, he, if_pos rfl, if_pos rfl, ← HK.out, ← HV.out]
    refine ⟨?_, ?_, ?_⟩
    · show Ending.returned (.tuple #[.int .u64 (IntKind.u64.wrap (IntKind.u64.wrap (IntKind.u64.wrap (2 ^ k) + (V : Int)) - 1)), .int .i64 0]) = _
      have h2k : (2 : Nat) ^ k ≤ 2 ^ 63 := Nat.pow_le_pow_right (by omega) hk63
      have h1k : 0 < (2 : Nat) ^ k := Nat.two_pow_pos k
      have hck : ((2 : Int) ^ k) = ((2 ^ k : Nat) : Int) := by push_cast; rfl
      have e : IntKind.u64.wrap (IntKind.u64.wrap (IntKind.u64.wrap (2 ^ k) + (V : Int)) - 1) = ((2 ^ k + V - 1 : Nat) : Int) := by
        rw [hck]; simp only [IntKind.wrap_u64]; omega
      rw [e]; rfl
    · exact hm
    · exact (k1.trans k2).trans (hs2.keeps _)
end Go.Proofs.Ytiljekpfkkocnaa
