/- Contracts: which values may be, how two stand, relations: the program's calls and the document's. -/
import Derived.Test.YtiinljljbjjaeaaGreatDoorVm
import Derived.Test.YtiinljljbjjaeaaGreatDoorRows
import Derived.Test.YtiinljljbjjaeaaGreatDoorShelf
import Derived.WalkKit
import Derived.WalkLawsBesides
import Derived.Outline
import Derived.BigQuiet
import Derived.Deep.QuietTactic
import Derived.OneCell
import Derived.Lib.Hide
namespace Go.Proofs.YtiinljljbjjaeaaGreatDoor
open Go Go.RowKit

theorem ckI_ok {k n : Int} {s : List UInt8} (h : ckB k n s = true) : ckI k n s = 0 := by unfold ckI; rw [if_pos h]
theorem ckI_no {k n : Int} {s : List UInt8} (h : ckB k n s = false) : ckI k n s = 30 := by unfold ckI; rw [h]; rfl

set_option maxHeartbeats 1000000 in
theorem vCheck_any (k n : Int) (s : ByteArray) (w : World) (hs : s.size ≤ maxLen) :
    Calls Tryz.prog 131 #[.agg #[.int .i64 k, .int .i64 n, .string s]] w fun e w' => e = .returned (.int .i64 (ckI k n s.data.toList)) ∧ Below w.heap.size w w' := by
  unfold maxLen at hs
  have hl : s.data.toList.length = s.size := by simp
  have ht := Lib.toList_data s
  by_cases h1 : k = 1
  · subst h1
    cases he : s.toList.isEmpty with
    | true =>
      rw [ckI_ok (by simp only [ckB, if_true]; rw [← ht]; exact he)]
      have he' : s.toList = [] := by simpa using he
      clear hl ht he
      go_enter Tryz.func131, Tryz.ntmps131
      go_wp2
      go_ret
      exact ⟨rfl, (Below.refl _ _).alloc (Nat.le_refl _) _⟩
    | false =>
      rw [ckI_no (by simp only [ckB, if_true]; rw [← ht]; exact he)]
      clear hl ht
      go_enter Tryz.func131, Tryz.ntmps131
      go_wp2
      go_ret
      exact ⟨rfl, (Below.refl _ _).alloc (Nat.le_refl _) _⟩
  · have b1 : (k == 1) = false := by simpa using h1
    by_cases h2 : k = 2
    · subst h2
      by_cases hn : n = 0
      · subst hn
        by_cases hz : s.size ≤ 64
        · rw [ckI_ok (by simp [ckB]; omega)]
          clear hl ht b1 h1
          go_enter Tryz.func131, Tryz.ntmps131
          go_wp2
          go_ret
          exact ⟨rfl, (Below.refl _ _).alloc (Nat.le_refl _) _⟩
        · rw [ckI_no (by simp [ckB]; omega)]
          have hz' : ¬ ((s.size : Int) ≤ 64) := by omega
          clear hl ht b1 h1
          go_enter Tryz.func131, Tryz.ntmps131
          go_wp2
          go_ret
          exact ⟨rfl, (Below.refl _ _).alloc (Nat.le_refl _) _⟩
      · rw [ckI_no (by simp [ckB, hn])]
        have bn : (n == 0) = false := by simpa using hn
        clear hl ht b1 h1
        go_enter Tryz.func131, Tryz.ntmps131
        go_wp2
        go_ret
        exact ⟨rfl, (Below.refl _ _).alloc (Nat.le_refl _) _⟩
    · have b2 : (k == 2) = false := by simpa using h2
      rw [ckI_no (by simp [ckB, h1, h2])]
      clear hl ht h1 h2
      go_enter Tryz.func131, Tryz.ntmps131
      go_wp2
      go_ret
      exact ⟨rfl, (Below.refl _ _).alloc (Nat.le_refl _) _⟩
set_option maxHeartbeats 1000000 in
theorem r3Check_any (k n : Int) (s : ByteArray) (w : World) (hs : s.size ≤ maxLen) :
    Calls Tryz.prog 132 #[.agg #[.int .i64 k, .int .i64 n, .string s]] w fun e w' => e = .returned (.int .i64 (ckI k n s.data.toList)) ∧ Below w.heap.size w w' := by
  unfold maxLen at hs
  have hl : s.data.toList.length = s.size := by simp
  have ht := Lib.toList_data s
  by_cases h1 : k = 1
  · subst h1
    cases he : s.toList.isEmpty with
    | true =>
      rw [ckI_ok (by simp only [ckB, if_true]; rw [← ht]; exact he)]
      have he' : s.toList = [] := by simpa using he
      clear hl ht he
      go_enter Tryz.func132, Tryz.ntmps132
      go_wp2
      go_ret
      exact ⟨rfl, (Below.refl _ _).alloc (Nat.le_refl _) _⟩
    | false =>
      rw [ckI_no (by simp only [ckB, if_true]; rw [← ht]; exact he)]
      clear hl ht
      go_enter Tryz.func132, Tryz.ntmps132
      go_wp2
      go_ret
      exact ⟨rfl, (Below.refl _ _).alloc (Nat.le_refl _) _⟩
  · have b1 : (k == 1) = false := by simpa using h1
    by_cases h2 : k = 2
    · subst h2
      by_cases hn : n = 0
      · subst hn
        by_cases hz : s.size ≤ 64
        · rw [ckI_ok (by simp [ckB]; omega)]
          clear hl ht b1 h1
          go_enter Tryz.func132, Tryz.ntmps132
          go_wp2
          go_ret
          exact ⟨rfl, (Below.refl _ _).alloc (Nat.le_refl _) _⟩
        · rw [ckI_no (by simp [ckB]; omega)]
          have hz' : ¬ ((s.size : Int) ≤ 64) := by omega
          clear hl ht b1 h1
          go_enter Tryz.func132, Tryz.ntmps132
          go_wp2
          go_ret
          exact ⟨rfl, (Below.refl _ _).alloc (Nat.le_refl _) _⟩
      · rw [ckI_no (by simp [ckB, hn])]
        have bn : (n == 0) = false := by simpa using hn
        clear hl ht b1 h1
        go_enter Tryz.func132, Tryz.ntmps132
        go_wp2
        go_ret
        exact ⟨rfl, (Below.refl _ _).alloc (Nat.le_refl _) _⟩
    · have b2 : (k == 2) = false := by simpa using h2
      rw [ckI_no (by simp [ckB, h1, h2])]
      clear hl ht h1 h2
      go_enter Tryz.func132, Tryz.ntmps132
      go_wp2
      go_ret
      exact ⟨rfl, (Below.refl _ _).alloc (Nat.le_refl _) _⟩

theorem isNaN_any (n : Int) (w : World) : Calls Tryz.prog 134 #[.int .i64 n] w fun e w' => e = .returned (.bool false) ∧ w = w' := by
  go_enter Tryz.func134, Tryz.ntmps134
  go_wp2
  go_ret
  exact ⟨by simp, rfl⟩
theorem cmpI_any (a b : Int) (w : World) : Calls Tryz.prog 100 #[.int .i64 a, .int .i64 b] w fun e w' => e = .returned (.int .i64 (cmpI a b)) ∧ w = w' := by
  rcases Int.lt_trichotomy a b with h | h | h
  · rw [cmpI_lt h]
    go_enter Tryz.func100, Tryz.ntmps100
    go_wp2_with (go_at_call 134; refine (isNaN_any _ _).mono ?_; rintro e w' ⟨rfl, rfl⟩)
    go_ret
    exact ⟨rfl, rfl⟩
  · subst h
    rw [cmpI_eq]
    go_enter Tryz.func100, Tryz.ntmps100
    go_wp2_with (go_at_call 134; refine (isNaN_any _ _).mono ?_; rintro e w' ⟨rfl, rfl⟩)
    go_ret
    exact ⟨rfl, rfl⟩
  · rw [cmpI_gt h]
    have h' : ¬ a < b := by omega
    go_enter Tryz.func100, Tryz.ntmps100
    go_wp2_with (go_at_call 134; refine (isNaN_any _ _).mono ?_; rintro e w' ⟨rfl, rfl⟩)
    go_ret
    exact ⟨rfl, rfl⟩
theorem sCompare_any (a b : ByteArray) (w : World) : Calls Tryz.prog 46 #[.string a, .string b] w fun e w' => e = .returned (.int .i64 (Lib.compareBytes a.data.toList b.data.toList)) ∧ w = w' :=
  (Tryz.strings_Compare a b w).mono fun _ _ ⟨h, k⟩ => ⟨h, k.symm⟩

/-- Two values' answers of Compare. -/
def cmpT (k1 n1 : Int) (s1 : ByteArray) (k2 n2 : Int) (s2 : ByteArray) : Value := .tuple #[.int .i64 (cmpV k1 n1 s1.data.toList k2 n2 s2.data.toList), .bool (cmpB k1 k2)]
theorem cmpT_no {k1 k2 : Int} (h : cmpB k1 k2 = false) (n1 : Int) (s1 : ByteArray) (n2 : Int) (s2 : ByteArray) : cmpT k1 n1 s1 k2 n2 s2 = .tuple #[.int .i64 0, .bool false] := by unfold cmpT; rw [cmpV_no h, h]
theorem cmpT_ii (n1 : Int) (s1 : ByteArray) (n2 : Int) (s2 : ByteArray) : cmpT 1 n1 s1 1 n2 s2 = .tuple #[.int .i64 (cmpI n1 n2), .bool true] := by unfold cmpT; rw [cmpV_ii]; rfl
theorem cmpT_ss (n1 : Int) (s1 : ByteArray) (n2 : Int) (s2 : ByteArray) : cmpT 2 n1 s1 2 n2 s2 = .tuple #[.int .i64 (Lib.compareBytes s1.data.toList s2.data.toList), .bool true] := by unfold cmpT; rw [cmpV_ss]; rfl

end Go.Proofs.YtiinljljbjjaeaaGreatDoor
namespace Go.Proofs.YtiinljljbjjaeaaGreatDoor
open Go Go.RowKit

end Go.Proofs.YtiinljljbjjaeaaGreatDoor
namespace Go.Proofs.YtiinljljbjjaeaaGreatDoor
open Go Go.RowKit

theorem bcell {W w1 : World} (hb : Below W.heap.size W w1) : (∀ b o, b < W.heap.size → w1.cell? ⟨b, o, none⟩ = W.cell? ⟨b, o, none⟩) ∧ (∀ b o, b < W.heap.size → w1.frozen? ⟨b, o, none⟩ = W.frozen? ⟨b, o, none⟩) :=
  ⟨fun b o h => hb.cell (p := ⟨b, o, none⟩) h, fun b o h => hb.frozen (p := ⟨b, o, none⟩) h⟩
theorem holdsB_yes {rel k1 n1 : Int} {s1 : List UInt8} {k2 n2 : Int} {s2 : List UInt8} (h : cmpB k1 k2 = true) : holdsB rel k1 n1 s1 k2 n2 s2 = relB rel (cmpV k1 n1 s1 k2 n2 s2) := by unfold holdsB; rw [if_pos h]
theorem holdsB_no {rel k1 n1 : Int} {s1 : List UInt8} {k2 n2 : Int} {s2 : List UInt8} (h : cmpB k1 k2 = false) : holdsB rel k1 n1 s1 k2 n2 s2 = (decide (rel = 2) && (kindB k1 && kindB k2)) := by unfold holdsB; rw [h]; rfl

end Go.Proofs.YtiinljljbjjaeaaGreatDoor
