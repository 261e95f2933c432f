/- Contracts: which values may be, how two stand, relations: the program's calls and the document's. -/
import Derived.Test.YtpbloplbpkedcaaVm
import Derived.Test.YtpbloplbpkedcaaRows
import Derived.Test.YtpbloplbpkedcaaShelf
import Derived.WalkKit
import Derived.WalkLawsBesides
import Derived.Outline
import Derived.BigQuiet
import Derived.Deep.QuietTactic
import Derived.OneCell
import Derived.Lib.Hide
namespace Go.Proofs.Ytpbloplbpkedcaa
open Go Go.RowKit

theorem ckI_ok {k n : Int} {s : List UInt8} (h : ckB k n s = true) : ckI k n s = 0 := by unfold ckI; rw [if_pos h]
theorem ckI_no {k n : Int} {s : List UInt8} (h : ckB k n s = false) : ckI k n s = 30 := by unfold ckI; rw [h]; rfl

set_option maxHeartbeats 1000000 in
theorem vCheck_any (k n : Int) (s : ByteArray) (w : World) (hs : s.size ≤ maxLen) :
    Calls Try.prog 134 #[.agg #[.int .i64 k, .int .i64 n, .string s]] w fun e w' => e = .returned (.int .i64 (ckI k n s.data.toList)) ∧ Below w.heap.size w w' := by
  unfold maxLen at hs
  have hl : s.data.toList.length = s.size := by simp
  have ht := Lib.toList_data s
  by_cases h1 : k = 1
  · subst h1
    cases he : s.toList.isEmpty with
    | true =>
      rw [ckI_ok (by simp only [ckB, if_true]; rw [← ht]; exact he)]
      have he' : s.toList = [] := by simpa using he
      clear hl ht he
      go_enter Try.func134, Try.ntmps134
      go_wp2
      go_ret
      exact ⟨rfl, (Below.refl _ _).alloc (Nat.le_refl _) _⟩
    | false =>
      rw [ckI_no (by simp only [ckB, if_true]; rw [← ht]; exact he)]
      clear hl ht
      go_enter Try.func134, Try.ntmps134
      go_wp2
      go_ret
      exact ⟨rfl, (Below.refl _ _).alloc (Nat.le_refl _) _⟩
  · have b1 : (k == 1) = false := by simpa using h1
    by_cases h2 : k = 2
    · subst h2
      by_cases hn : n = 0
      · subst hn
        by_cases hz : s.size ≤ 64
        · rw [ckI_ok (by simp [ckB]; omega)]
          clear hl ht b1 h1
          go_enter Try.func134, Try.ntmps134
          go_wp2
          go_ret
          exact ⟨rfl, (Below.refl _ _).alloc (Nat.le_refl _) _⟩
        · rw [ckI_no (by simp [ckB]; omega)]
          have hz' : ¬ ((s.size : Int) ≤ 64) := by omega
          clear hl ht b1 h1
          go_enter Try.func134, Try.ntmps134
          go_wp2
          go_ret
          exact ⟨rfl, (Below.refl _ _).alloc (Nat.le_refl _) _⟩
      · rw [ckI_no (by simp [ckB, hn])]
        have bn : (n == 0) = false := by simpa using hn
        clear hl ht b1 h1
        go_enter Try.func134, Try.ntmps134
        go_wp2
        go_ret
        exact ⟨rfl, (Below.refl _ _).alloc (Nat.le_refl _) _⟩
    · have b2 : (k == 2) = false := by simpa using h2
      rw [ckI_no (by simp [ckB, h1, h2])]
      clear hl ht h1 h2
      go_enter Try.func134, Try.ntmps134
      go_wp2
      go_ret
      exact ⟨rfl, (Below.refl _ _).alloc (Nat.le_refl _) _⟩
set_option maxHeartbeats 1000000 in
theorem r3Check_any (k n : Int) (s : ByteArray) (w : World) (hs : s.size ≤ maxLen) :
    Calls Try.prog 160 #[.agg #[.int .i64 k, .int .i64 n, .string s]] w fun e w' => e = .returned (.int .i64 (ckI k n s.data.toList)) ∧ Below w.heap.size w w' := by
  unfold maxLen at hs
  have hl : s.data.toList.length = s.size := by simp
  have ht := Lib.toList_data s
  by_cases h1 : k = 1
  · subst h1
    cases he : s.toList.isEmpty with
    | true =>
      rw [ckI_ok (by simp only [ckB, if_true]; rw [← ht]; exact he)]
      have he' : s.toList = [] := by simpa using he
      clear hl ht he
      go_enter Try.func160, Try.ntmps160
      go_wp2
      go_ret
      exact ⟨rfl, (Below.refl _ _).alloc (Nat.le_refl _) _⟩
    | false =>
      rw [ckI_no (by simp only [ckB, if_true]; rw [← ht]; exact he)]
      clear hl ht
      go_enter Try.func160, Try.ntmps160
      go_wp2
      go_ret
      exact ⟨rfl, (Below.refl _ _).alloc (Nat.le_refl _) _⟩
  · have b1 : (k == 1) = false := by simpa using h1
    by_cases h2 : k = 2
    · subst h2
      by_cases hn : n = 0
      · subst hn
        by_cases hz : s.size ≤ 64
        · rw [ckI_ok (by simp [ckB]; omega)]
          clear hl ht b1 h1
          go_enter Try.func160, Try.ntmps160
          go_wp2
          go_ret
          exact ⟨rfl, (Below.refl _ _).alloc (Nat.le_refl _) _⟩
        · rw [ckI_no (by simp [ckB]; omega)]
          have hz' : ¬ ((s.size : Int) ≤ 64) := by omega
          clear hl ht b1 h1
          go_enter Try.func160, Try.ntmps160
          go_wp2
          go_ret
          exact ⟨rfl, (Below.refl _ _).alloc (Nat.le_refl _) _⟩
      · rw [ckI_no (by simp [ckB, hn])]
        have bn : (n == 0) = false := by simpa using hn
        clear hl ht b1 h1
        go_enter Try.func160, Try.ntmps160
        go_wp2
        go_ret
        exact ⟨rfl, (Below.refl _ _).alloc (Nat.le_refl _) _⟩
    · have b2 : (k == 2) = false := by simpa using h2
      rw [ckI_no (by simp [ckB, h1, h2])]
      clear hl ht h1 h2
      go_enter Try.func160, Try.ntmps160
      go_wp2
      go_ret
      exact ⟨rfl, (Below.refl _ _).alloc (Nat.le_refl _) _⟩

theorem isNaN_any (n : Int) (w : World) : Calls Try.prog 146 #[.int .i64 n] w fun e w' => e = .returned (.bool false) ∧ w = w' := by
  go_enter Try.func146, Try.ntmps146
  go_wp2
  go_ret
  exact ⟨by simp, rfl⟩
theorem cmpI_any (a b : Int) (w : World) : Calls Try.prog 112 #[.int .i64 a, .int .i64 b] w fun e w' => e = .returned (.int .i64 (cmpI a b)) ∧ w = w' := by
  rcases Int.lt_trichotomy a b with h | h | h
  · rw [cmpI_lt h]
    go_enter Try.func112, Try.ntmps112
    go_wp2_with (go_at_call 146; refine (isNaN_any _ _).mono ?_; rintro e w' ⟨rfl, rfl⟩)
    go_ret
    exact ⟨rfl, rfl⟩
  · subst h
    rw [cmpI_eq]
    go_enter Try.func112, Try.ntmps112
    go_wp2_with (go_at_call 146; refine (isNaN_any _ _).mono ?_; rintro e w' ⟨rfl, rfl⟩)
    go_ret
    exact ⟨rfl, rfl⟩
  · rw [cmpI_gt h]
    have h' : ¬ a < b := by omega
    go_enter Try.func112, Try.ntmps112
    go_wp2_with (go_at_call 146; refine (isNaN_any _ _).mono ?_; rintro e w' ⟨rfl, rfl⟩)
    go_ret
    exact ⟨rfl, rfl⟩
theorem sCompare_any (a b : ByteArray) (w : World) : Calls Try.prog 90 #[.string a, .string b] w fun e w' => e = .returned (.int .i64 (Lib.compareBytes a.data.toList b.data.toList)) ∧ w = w' :=
  (Try.strings_Compare a b w).mono fun _ _ ⟨h, k⟩ => ⟨h, k.symm⟩

/-- Two values' answers of Compare. -/
def cmpT (k1 n1 : Int) (s1 : ByteArray) (k2 n2 : Int) (s2 : ByteArray) : Value := .tuple #[.int .i64 (cmpV k1 n1 s1.data.toList k2 n2 s2.data.toList), .bool (cmpB k1 k2)]
theorem cmpT_no {k1 k2 : Int} (h : cmpB k1 k2 = false) (n1 : Int) (s1 : ByteArray) (n2 : Int) (s2 : ByteArray) : cmpT k1 n1 s1 k2 n2 s2 = .tuple #[.int .i64 0, .bool false] := by unfold cmpT; rw [cmpV_no h, h]
theorem cmpT_ii (n1 : Int) (s1 : ByteArray) (n2 : Int) (s2 : ByteArray) : cmpT 1 n1 s1 1 n2 s2 = .tuple #[.int .i64 (cmpI n1 n2), .bool true] := by unfold cmpT; rw [cmpV_ii]; rfl
theorem cmpT_ss (n1 : Int) (s1 : ByteArray) (n2 : Int) (s2 : ByteArray) : cmpT 2 n1 s1 2 n2 s2 = .tuple #[.int .i64 (Lib.compareBytes s1.data.toList s2.data.toList), .bool true] := by unfold cmpT; rw [cmpV_ss]; rfl

set_option maxHeartbeats 1000000 in
theorem vCompare_any (k1 n1 : Int) (s1 : ByteArray) (k2 n2 : Int) (s2 : ByteArray) (w : World) :
    Calls Try.prog 73 #[.agg #[.int .i64 k1, .int .i64 n1, .string s1], .agg #[.int .i64 k2, .int .i64 n2, .string s2]] w fun e w' => e = .returned (cmpT k1 n1 s1 k2 n2 s2) ∧ Below w.heap.size w w' := by
  by_cases he : k1 = k2
  · subst he
    by_cases h1 : k1 = 1
    · subst h1
      rw [cmpT_ii]
      go_enter Try.func73, Try.ntmps73
      go_wp2_with (go_at_call 112; refine (cmpI_any _ _ _).mono ?_; rintro e w' ⟨rfl, rfl⟩)
      go_ret2
      exact ⟨rfl, ((Below.refl _ _).alloc (Nat.le_refl _) _).alloc (by simp) _⟩
    · have b1 : (k1 == 1) = false := by simpa using h1
      by_cases h2 : k1 = 2
      · subst h2
        rw [cmpT_ss]
        clear h1 b1
        go_enter Try.func73, Try.ntmps73
        go_wp2_with (go_at_call 90; refine (sCompare_any _ _ _).mono ?_; rintro e w' ⟨rfl, rfl⟩)
        go_ret2
        exact ⟨rfl, ((Below.refl _ _).alloc (Nat.le_refl _) _).alloc (by simp) _⟩
      · have b2 : (k1 == 2) = false := by simpa using h2
        rw [cmpT_no (by simp [cmpB, h1, h2])]
        clear h1 h2
        go_enter Try.func73, Try.ntmps73
        go_wp2
        go_ret2
        exact ⟨rfl, ((Below.refl _ _).alloc (Nat.le_refl _) _).alloc (by simp) _⟩
  · have be : (k1 == k2) = false := by simpa using he
    rw [cmpT_no (by simp [cmpB, he])]
    clear he
    go_enter Try.func73, Try.ntmps73
    go_wp2
    go_ret2
    exact ⟨rfl, ((Below.refl _ _).alloc (Nat.le_refl _) _).alloc (by simp) _⟩

set_option maxHeartbeats 2000000 in
theorem r3Compare_any (k1 n1 : Int) (s1 : ByteArray) (k2 n2 : Int) (s2 : ByteArray) (w : World) :
    Calls Try.prog 76 #[.agg #[.int .i64 k1, .int .i64 n1, .string s1], .agg #[.int .i64 k2, .int .i64 n2, .string s2]] w fun e w' => e = .returned (cmpT k1 n1 s1 k2 n2 s2) ∧ Below w.heap.size w w' := by
  by_cases he : k1 = 1 ∧ k2 = 1
  · obtain ⟨rfl, rfl⟩ := he
    rw [cmpT_ii]
    rcases Int.lt_trichotomy n1 n2 with h | h | h
    · rw [cmpI_lt h]
      go_enter Try.func76, Try.ntmps76
      go_wp2
      go_ret2
      exact ⟨rfl, ((Below.refl _ _).alloc (Nat.le_refl _) _).alloc (by simp) _⟩
    · subst h
      rw [cmpI_eq]
      go_enter Try.func76, Try.ntmps76
      go_wp2
      go_ret2
      exact ⟨rfl, ((Below.refl _ _).alloc (Nat.le_refl _) _).alloc (by simp) _⟩
    · rw [cmpI_gt h]
      have h' : ¬ n1 < n2 := by omega
      go_enter Try.func76, Try.ntmps76
      go_wp2
      go_ret2
      exact ⟨rfl, ((Below.refl _ _).alloc (Nat.le_refl _) _).alloc (by simp) _⟩
  · by_cases h2 : k1 = 2 ∧ k2 = 2
    · obtain ⟨rfl, rfl⟩ := h2
      rw [cmpT_ss]
      have hl := less_cb s1.toList s2.toList
      have hq := eq_cb s1.toList s2.toList
      rw [← Lib.toList_data, ← Lib.toList_data]
      have hr := cb_range s1.toList s2.toList
      clear he
      obtain ⟨c, hc⟩ : ∃ c, c = Lib.compareBytes s1.toList s2.toList := ⟨_, rfl⟩
      rw [← hc] at hl hq hr ⊢
      clear hc
      have hc : c = -1 ∨ c = 0 ∨ c = 1 := by omega
      clear hr
      rcases hc with rfl | rfl | rfl
      all_goals
        simp only [show decide ((-1 : Int) < 0) = true from rfl, show decide ((0 : Int) < 0) = false from rfl, show decide ((1 : Int) < 0) = false from rfl, show decide ((-1 : Int) = 0) = false from rfl, show decide ((1 : Int) = 0) = false from rfl] at hl hq
        go_enter Try.func76, Try.ntmps76
        go_wp2
        go_ret2
        exact ⟨rfl, ((Below.refl _ _).alloc (Nat.le_refl _) _).alloc (by simp) _⟩
    · rw [cmpT_no (by rw [Bool.eq_false_iff]; exact fun h => (cmpB_cases h).elim he h2)]
      by_cases a1 : k1 = 1
      · subst a1
        have b2 : (k2 == 1) = false := by simpa using he
        clear he h2
        go_enter Try.func76, Try.ntmps76
        go_wp2
        go_ret2
        exact ⟨rfl, ((Below.refl _ _).alloc (Nat.le_refl _) _).alloc (by simp) _⟩
      · have b1 : (k1 == 1) = false := by simpa using a1
        clear he
        by_cases a2 : k1 = 2
        · subst a2
          have b2 : (k2 == 2) = false := by simpa using h2
          clear h2 a1 b1
          go_enter Try.func76, Try.ntmps76
          go_wp2
          go_ret2
          exact ⟨rfl, ((Below.refl _ _).alloc (Nat.le_refl _) _).alloc (by simp) _⟩
        · have b2 : (k1 == 2) = false := by simpa using a2
          clear h2 a1 a2
          go_enter Try.func76, Try.ntmps76
          go_wp2
          go_ret2
          exact ⟨rfl, ((Below.refl _ _).alloc (Nat.le_refl _) _).alloc (by simp) _⟩
end Go.Proofs.Ytpbloplbpkedcaa
namespace Go.Proofs.Ytpbloplbpkedcaa
open Go Go.RowKit

theorem vIsKind_any (n : Int) (w : World) : Calls Try.prog 74 #[.int .i64 n] w fun e w' => e = .returned (.bool (kindB n)) ∧ w = w' := by
  by_cases h0 : n = 1
  · subst h0
    rw [show kindB 1 = true from rfl]
    go_enter Try.func74, Try.ntmps74
    go_wp2
    go_ret
    exact ⟨rfl, rfl⟩
  · have b0 : (n == 1) = false := by simpa using h0
    by_cases h1 : n = 2
    · subst h1
      rw [show kindB 2 = true from rfl]
      clear h0 b0
      go_enter Try.func74, Try.ntmps74
      go_wp2
      go_ret
      exact ⟨rfl, rfl⟩
    · have b1 : (n == 2) = false := by simpa using h1
      rw [show kindB n = false by simp [kindB, h0, h1]]
      clear h0 h1
      go_enter Try.func74, Try.ntmps74
      go_wp2
      go_ret
      exact ⟨rfl, rfl⟩
theorem r3some_any (k n : Int) (s : ByteArray) (w : World) : Calls Try.prog 77 #[.agg #[.int .i64 k, .int .i64 n, .string s]] w fun e w' => e = .returned (.bool (kindB k)) ∧ Below w.heap.size w w' := by
  by_cases h0 : k = 1
  · subst h0
    rw [show kindB 1 = true from rfl]
    go_enter Try.func77, Try.ntmps77
    go_wp2
    go_ret
    exact ⟨rfl, (Below.refl _ _).alloc (Nat.le_refl _) _⟩
  · have b0 : (k == 1) = false := by simpa using h0
    by_cases h1 : k = 2
    · subst h1
      rw [show kindB 2 = true from rfl]
      clear h0 b0
      go_enter Try.func77, Try.ntmps77
      go_wp2
      go_ret
      exact ⟨rfl, (Below.refl _ _).alloc (Nat.le_refl _) _⟩
    · have b1 : (k == 2) = false := by simpa using h1
      rw [show kindB k = false by simp [kindB, h0, h1]]
      clear h0 h1
      go_enter Try.func77, Try.ntmps77
      go_wp2
      go_ret
      exact ⟨rfl, (Below.refl _ _).alloc (Nat.le_refl _) _⟩
end Go.Proofs.Ytpbloplbpkedcaa
namespace Go.Proofs.Ytpbloplbpkedcaa
open Go Go.RowKit

theorem bcell {W w1 : World} (hb : Below W.heap.size W w1) : (∀ b o, b < W.heap.size → w1.cell? ⟨b, o, none⟩ = W.cell? ⟨b, o, none⟩) ∧ (∀ b o, b < W.heap.size → w1.frozen? ⟨b, o, none⟩ = W.frozen? ⟨b, o, none⟩) :=
  ⟨fun b o h => hb.cell (p := ⟨b, o, none⟩) h, fun b o h => hb.frozen (p := ⟨b, o, none⟩) h⟩
theorem holdsB_yes {rel k1 n1 : Int} {s1 : List UInt8} {k2 n2 : Int} {s2 : List UInt8} (h : cmpB k1 k2 = true) : holdsB rel k1 n1 s1 k2 n2 s2 = relB rel (cmpV k1 n1 s1 k2 n2 s2) := by unfold holdsB; rw [if_pos h]
theorem holdsB_no {rel k1 n1 : Int} {s1 : List UInt8} {k2 n2 : Int} {s2 : List UInt8} (h : cmpB k1 k2 = false) : holdsB rel k1 n1 s1 k2 n2 s2 = (decide (rel = 2) && (kindB k1 && kindB k2)) := by unfold holdsB; rw [h]; rfl

set_option maxHeartbeats 2000000 in
theorem vHolds_any (rel k1 n1 : Int) (s1 : ByteArray) (k2 n2 : Int) (s2 : ByteArray) (w : World) :
    Calls Try.prog 35 #[.int .i64 rel, .agg #[.int .i64 k1, .int .i64 n1, .string s1], .agg #[.int .i64 k2, .int .i64 n2, .string s2]] w fun e w' => e = .returned (.bool (holdsB rel k1 n1 s1.data.toList k2 n2 s2.data.toList)) ∧ Below w.heap.size w w' := by
  have C := fun w => vCompare_any k1 n1 s1 k2 n2 s2 w
  unfold cmpT at C
  cases hq : cmpB k1 k2 with
  | true =>
    rw [holdsB_yes hq]
    rw [hq] at C
    generalize cmpV k1 n1 s1.data.toList k2 n2 s2.data.toList = c at C ⊢
    have HC := Lib.hid C
    clear C hq
    rcases rel_cases rel with rfl | rfl | rfl | rfl | rfl | rfl | ⟨h1, h2, h3, h4, h5, h6⟩
    · rw [show relB 1 c = (c == 0) from by rw [Bool.eq_iff_iff]; simp [relB]]
      go_enter Try.func35, Try.ntmps35
      go_wp2_with (go_at_call 73; (with_reducible refine (HC.out _).mono ?_); rintro e w1 ⟨rfl, hb⟩; obtain ⟨hc, hf⟩ := bcell hb)
      go_ret
      exact ⟨by rfl, (((Below.refl _ _).alloc (Nat.le_refl _) _).alloc (by simp) _).trans (hb.mono (by simp; omega))⟩
    · rw [show relB 2 c = (c != 0) from by rw [Bool.eq_iff_iff]; simp [relB]]
      go_enter Try.func35, Try.ntmps35
      go_wp2_with (go_at_call 73; (with_reducible refine (HC.out _).mono ?_); rintro e w1 ⟨rfl, hb⟩; obtain ⟨hc, hf⟩ := bcell hb)
      go_ret
      exact ⟨by rfl, (((Below.refl _ _).alloc (Nat.le_refl _) _).alloc (by simp) _).trans (hb.mono (by simp; omega))⟩
    · rw [show relB 3 c = decide (c < 0) from by simp [relB]]
      go_enter Try.func35, Try.ntmps35
      go_wp2_with (go_at_call 73; (with_reducible refine (HC.out _).mono ?_); rintro e w1 ⟨rfl, hb⟩; obtain ⟨hc, hf⟩ := bcell hb)
      go_ret
      exact ⟨by rfl, (((Below.refl _ _).alloc (Nat.le_refl _) _).alloc (by simp) _).trans (hb.mono (by simp; omega))⟩
    · rw [show relB 4 c = decide (c ≤ 0) from by simp [relB]]
      go_enter Try.func35, Try.ntmps35
      go_wp2_with (go_at_call 73; (with_reducible refine (HC.out _).mono ?_); rintro e w1 ⟨rfl, hb⟩; obtain ⟨hc, hf⟩ := bcell hb)
      go_ret
      exact ⟨by rfl, (((Below.refl _ _).alloc (Nat.le_refl _) _).alloc (by simp) _).trans (hb.mono (by simp; omega))⟩
    · rw [show relB 5 c = decide (0 < c) from by simp [relB]]
      go_enter Try.func35, Try.ntmps35
      go_wp2_with (go_at_call 73; (with_reducible refine (HC.out _).mono ?_); rintro e w1 ⟨rfl, hb⟩; obtain ⟨hc, hf⟩ := bcell hb)
      go_ret
      exact ⟨by rfl, (((Below.refl _ _).alloc (Nat.le_refl _) _).alloc (by simp) _).trans (hb.mono (by simp; omega))⟩
    · rw [show relB 6 c = decide (0 ≤ c) from by simp [relB]]
      go_enter Try.func35, Try.ntmps35
      go_wp2_with (go_at_call 73; (with_reducible refine (HC.out _).mono ?_); rintro e w1 ⟨rfl, hb⟩; obtain ⟨hc, hf⟩ := bcell hb)
      go_ret
      exact ⟨by rfl, (((Below.refl _ _).alloc (Nat.le_refl _) _).alloc (by simp) _).trans (hb.mono (by simp; omega))⟩
    · rw [show relB rel c = false by simp [relB, h1, h2, h3, h4, h5, h6]]
      have b1 : (rel == 1) = false := by simpa using h1
      have b2 : (rel == 2) = false := by simpa using h2
      have b3 : (rel == 3) = false := by simpa using h3
      have b4 : (rel == 4) = false := by simpa using h4
      have b5 : (rel == 5) = false := by simpa using h5
      have b6 : (rel == 6) = false := by simpa using h6
      clear h1 h2 h3 h4 h5 h6
      go_enter Try.func35, Try.ntmps35
      go_wp2_with (go_at_call 73; (with_reducible refine (HC.out _).mono ?_); rintro e w1 ⟨rfl, hb⟩; obtain ⟨hc, hf⟩ := bcell hb)
      go_ret
      exact ⟨by rfl, (((Below.refl _ _).alloc (Nat.le_refl _) _).alloc (by simp) _).trans (hb.mono (by simp; omega))⟩
  | false =>
    rw [holdsB_no hq]
    rw [hq, cmpV_no hq] at C
    have HC := Lib.hid C
    have K1 := fun w => vIsKind_any k1 w
    have K2 := fun w => vIsKind_any k2 w
    generalize kindB k1 = x1 at K1 ⊢
    generalize kindB k2 = x2 at K2 ⊢
    clear C hq
    by_cases h2 : rel = 2
    · subst h2
      cases x1 with
      | false =>
        have HK1 := Lib.hid K1; have HK2 := Lib.hid K2
        clear K1 K2
        rw [show (decide ((2 : Int) = 2) && (false && x2)) = false from rfl]
        go_enter Try.func35, Try.ntmps35
        go_wp2_with (first | (go_at_call 73; (with_reducible refine (HC.out _).mono ?_); rintro e w1 ⟨rfl, hb⟩; obtain ⟨hc, hf⟩ := bcell hb) | (go_at_call 74; (with_reducible refine (HK1.out _).mono ?_); rintro e w2 ⟨rfl, rfl⟩))
        go_ret
        exact ⟨by rfl, (((Below.refl _ _).alloc (Nat.le_refl _) _).alloc (by simp) _).trans (hb.mono (by simp; omega))⟩
      | true =>
        cases x2 with
        | false =>
          have HK1 := Lib.hid K1; have HK2 := Lib.hid K2
          clear K1 K2
          go_enter Try.func35, Try.ntmps35
          go_wp2_with (first | (go_at_call 73; (with_reducible refine (HC.out _).mono ?_); rintro e w1 ⟨rfl, hb⟩; obtain ⟨hc, hf⟩ := bcell hb) | (go_at_call 74; (with_reducible refine (HK1.out _).mono ?_); rintro e w2 ⟨rfl, rfl⟩) | (go_at_call 74; (with_reducible refine (HK2.out _).mono ?_); rintro e w3 ⟨rfl, rfl⟩))
          go_ret
          exact ⟨by rfl, (((Below.refl _ _).alloc (Nat.le_refl _) _).alloc (by simp) _).trans (hb.mono (by simp; omega))⟩
        | true =>
          have HK1 := Lib.hid K1; have HK2 := Lib.hid K2
          clear K1 K2
          go_enter Try.func35, Try.ntmps35
          go_wp2_with (first | (go_at_call 73; (with_reducible refine (HC.out _).mono ?_); rintro e w1 ⟨rfl, hb⟩; obtain ⟨hc, hf⟩ := bcell hb) | (go_at_call 74; (with_reducible refine (HK1.out _).mono ?_); rintro e w2 ⟨rfl, rfl⟩) | (go_at_call 74; (with_reducible refine (HK2.out _).mono ?_); rintro e w3 ⟨rfl, rfl⟩))
          go_ret
          exact ⟨by rfl, (((Below.refl _ _).alloc (Nat.le_refl _) _).alloc (by simp) _).trans (hb.mono (by simp; omega))⟩
    · have b2 : (rel == 2) = false := by simpa using h2
      rw [show (decide (rel = 2) && (x1 && x2)) = false by simp [h2]]
      clear h2 K1 K2
      go_enter Try.func35, Try.ntmps35
      go_wp2_with (go_at_call 73; (with_reducible refine (HC.out _).mono ?_); rintro e w1 ⟨rfl, hb⟩; obtain ⟨hc, hf⟩ := bcell hb)
      go_ret
      exact ⟨by rfl, (((Below.refl _ _).alloc (Nat.le_refl _) _).alloc (by simp) _).trans (hb.mono (by simp; omega))⟩

set_option maxHeartbeats 2000000 in
theorem r3Holds_any (rel k1 n1 : Int) (s1 : ByteArray) (k2 n2 : Int) (s2 : ByteArray) (w : World) :
    Calls Try.prog 37 #[.int .i64 rel, .agg #[.int .i64 k1, .int .i64 n1, .string s1], .agg #[.int .i64 k2, .int .i64 n2, .string s2]] w fun e w' => e = .returned (.bool (holdsB rel k1 n1 s1.data.toList k2 n2 s2.data.toList)) ∧ Below w.heap.size w w' := by
  have C := fun w => r3Compare_any k1 n1 s1 k2 n2 s2 w
  unfold cmpT at C
  cases hq : cmpB k1 k2 with
  | true =>
    rw [holdsB_yes hq]
    rw [hq] at C
    generalize cmpV k1 n1 s1.data.toList k2 n2 s2.data.toList = c at C ⊢
    have HC := Lib.hid C
    clear C hq
    rcases rel_cases rel with rfl | rfl | rfl | rfl | rfl | rfl | ⟨h1, h2, h3, h4, h5, h6⟩
    · rw [show relB 1 c = (c == 0) from by rw [Bool.eq_iff_iff]; simp [relB]]
      go_enter Try.func37, Try.ntmps37
      go_wp2_with (go_at_call 76; (with_reducible refine (HC.out _).mono ?_); rintro e w1 ⟨rfl, hb⟩; obtain ⟨hc, hf⟩ := bcell hb; have hz : w.heap.size + 1 < w1.heap.size := by have := hb.size; simp at this; omega)
      go_ret
      exact ⟨by rfl, (((Below.refl _ _).alloc (Nat.le_refl _) _).alloc (by simp) _).trans (hb.mono (by simp; omega))⟩
    · rw [show relB 2 c = (c != 0) from by rw [Bool.eq_iff_iff]; simp [relB]]
      go_enter Try.func37, Try.ntmps37
      go_wp2_with (go_at_call 76; (with_reducible refine (HC.out _).mono ?_); rintro e w1 ⟨rfl, hb⟩; obtain ⟨hc, hf⟩ := bcell hb; have hz : w.heap.size + 1 < w1.heap.size := by have := hb.size; simp at this; omega)
      go_ret
      exact ⟨by rfl, (((Below.refl _ _).alloc (Nat.le_refl _) _).alloc (by simp) _).trans (hb.mono (by simp; omega))⟩
    · rw [show relB 3 c = decide (c < 0) from by simp [relB]]
      go_enter Try.func37, Try.ntmps37
      go_wp2_with (go_at_call 76; (with_reducible refine (HC.out _).mono ?_); rintro e w1 ⟨rfl, hb⟩; obtain ⟨hc, hf⟩ := bcell hb; have hz : w.heap.size + 1 < w1.heap.size := by have := hb.size; simp at this; omega)
      go_ret
      exact ⟨by rfl, (((Below.refl _ _).alloc (Nat.le_refl _) _).alloc (by simp) _).trans (hb.mono (by simp; omega))⟩
    · rw [show relB 4 c = decide (c ≤ 0) from by simp [relB]]
      go_enter Try.func37, Try.ntmps37
      go_wp2_with (go_at_call 76; (with_reducible refine (HC.out _).mono ?_); rintro e w1 ⟨rfl, hb⟩; obtain ⟨hc, hf⟩ := bcell hb; have hz : w.heap.size + 1 < w1.heap.size := by have := hb.size; simp at this; omega)
      go_ret
      exact ⟨by rfl, (((Below.refl _ _).alloc (Nat.le_refl _) _).alloc (by simp) _).trans (hb.mono (by simp; omega))⟩
    · rw [show relB 5 c = decide (0 < c) from by simp [relB]]
      go_enter Try.func37, Try.ntmps37
      go_wp2_with (go_at_call 76; (with_reducible refine (HC.out _).mono ?_); rintro e w1 ⟨rfl, hb⟩; obtain ⟨hc, hf⟩ := bcell hb; have hz : w.heap.size + 1 < w1.heap.size := by have := hb.size; simp at this; omega)
      go_ret
      exact ⟨by rfl, (((Below.refl _ _).alloc (Nat.le_refl _) _).alloc (by simp) _).trans (hb.mono (by simp; omega))⟩
    · rw [show relB 6 c = decide (0 ≤ c) from by simp [relB]]
      go_enter Try.func37, Try.ntmps37
      go_wp2_with (go_at_call 76; (with_reducible refine (HC.out _).mono ?_); rintro e w1 ⟨rfl, hb⟩; obtain ⟨hc, hf⟩ := bcell hb; have hz : w.heap.size + 1 < w1.heap.size := by have := hb.size; simp at this; omega)
      go_ret
      exact ⟨by rfl, (((Below.refl _ _).alloc (Nat.le_refl _) _).alloc (by simp) _).trans (hb.mono (by simp; omega))⟩
    · rw [show relB rel c = false by simp [relB, h1, h2, h3, h4, h5, h6]]
      have b1 : (rel == 1) = false := by simpa using h1
      have b2 : (rel == 2) = false := by simpa using h2
      have b3 : (rel == 3) = false := by simpa using h3
      have b4 : (rel == 4) = false := by simpa using h4
      have b5 : (rel == 5) = false := by simpa using h5
      have b6 : (rel == 6) = false := by simpa using h6
      clear h1 h2 h3 h4 h5 h6
      go_enter Try.func37, Try.ntmps37
      go_wp2_with (go_at_call 76; (with_reducible refine (HC.out _).mono ?_); rintro e w1 ⟨rfl, hb⟩; obtain ⟨hc, hf⟩ := bcell hb; have hz : w.heap.size + 1 < w1.heap.size := by have := hb.size; simp at this; omega)
      go_ret
      exact ⟨by rfl, (((Below.refl _ _).alloc (Nat.le_refl _) _).alloc (by simp) _).trans (hb.mono (by simp; omega))⟩
  | false =>
    rw [holdsB_no hq]
    rw [hq, cmpV_no hq] at C
    have HC := Lib.hid C
    have K1 := fun w => r3some_any k1 n1 s1 w
    have K2 := fun w => r3some_any k2 n2 s2 w
    generalize kindB k1 = x1 at K1 ⊢
    generalize kindB k2 = x2 at K2 ⊢
    clear C hq
    by_cases h2 : rel = 2
    · subst h2
      cases x1 with
      | false =>
        have HK1 := Lib.hid K1; have HK2 := Lib.hid K2
        clear K1 K2
        rw [show (decide ((2 : Int) = 2) && (false && x2)) = false from rfl]
        go_enter Try.func37, Try.ntmps37
        go_wp2_with (first | (go_at_call 76; (with_reducible refine (HC.out _).mono ?_); rintro e w1 ⟨rfl, hb⟩; obtain ⟨hc, hf⟩ := bcell hb; have hz : w.heap.size + 1 < w1.heap.size := by have := hb.size; simp at this; omega) | (go_at_call 77; (with_reducible refine (HK1.out _).mono ?_); rintro e w2 ⟨rfl, hb2⟩; obtain ⟨hc2, hf2⟩ := bcell hb2))
        go_ret
        exact ⟨by rfl, (((((Below.refl _ _).alloc (Nat.le_refl _) _).alloc (by simp) _).trans (hb.mono (by simp; omega))).trans (hb2.mono (by have := hb.size; simp at this; omega)))⟩
      | true =>
        cases x2 with
        | false =>
          have HK1 := Lib.hid K1; have HK2 := Lib.hid K2
          clear K1 K2
          go_enter Try.func37, Try.ntmps37
          go_wp2_with (first | (go_at_call 76; (with_reducible refine (HC.out _).mono ?_); rintro e w1 ⟨rfl, hb⟩; obtain ⟨hc, hf⟩ := bcell hb; have hz : w.heap.size + 1 < w1.heap.size := by have := hb.size; simp at this; omega) | (go_at_call 77; (with_reducible refine (HK1.out _).mono ?_); rintro e w2 ⟨rfl, hb2⟩; obtain ⟨hc2, hf2⟩ := bcell hb2) | (go_at_call 77; (with_reducible refine (HK2.out _).mono ?_); rintro e w3 ⟨rfl, hb3⟩))
          go_ret
          exact ⟨by rfl, ((((((Below.refl _ _).alloc (Nat.le_refl _) _).alloc (by simp) _).trans (hb.mono (by simp; omega))).trans (hb2.mono (by have := hb.size; simp at this; omega)))).trans (hb3.mono (by have := hb.size; have := hb2.size; simp at *; omega))⟩
        | true =>
          have HK1 := Lib.hid K1; have HK2 := Lib.hid K2
          clear K1 K2
          go_enter Try.func37, Try.ntmps37
          go_wp2_with (first | (go_at_call 76; (with_reducible refine (HC.out _).mono ?_); rintro e w1 ⟨rfl, hb⟩; obtain ⟨hc, hf⟩ := bcell hb; have hz : w.heap.size + 1 < w1.heap.size := by have := hb.size; simp at this; omega) | (go_at_call 77; (with_reducible refine (HK1.out _).mono ?_); rintro e w2 ⟨rfl, hb2⟩; obtain ⟨hc2, hf2⟩ := bcell hb2) | (go_at_call 77; (with_reducible refine (HK2.out _).mono ?_); rintro e w3 ⟨rfl, hb3⟩))
          go_ret
          exact ⟨by rfl, ((((((Below.refl _ _).alloc (Nat.le_refl _) _).alloc (by simp) _).trans (hb.mono (by simp; omega))).trans (hb2.mono (by have := hb.size; simp at this; omega)))).trans (hb3.mono (by have := hb.size; have := hb2.size; simp at *; omega))⟩
    · have b2 : (rel == 2) = false := by simpa using h2
      rw [show (decide (rel = 2) && (x1 && x2)) = false by simp [h2]]
      clear h2 K1 K2
      go_enter Try.func37, Try.ntmps37
      go_wp2_with (go_at_call 76; (with_reducible refine (HC.out _).mono ?_); rintro e w1 ⟨rfl, hb⟩; obtain ⟨hc, hf⟩ := bcell hb; have hz : w.heap.size + 1 < w1.heap.size := by have := hb.size; simp at this; omega)
      go_ret
      exact ⟨by rfl, (((Below.refl _ _).alloc (Nat.le_refl _) _).alloc (by simp) _).trans (hb.mono (by simp; omega))⟩
end Go.Proofs.Ytpbloplbpkedcaa
