/- Contracts: whether a relation holds of two values: the program's call and the document's. -/
import Derived.Test.YtjllcbgokoacaaaDoorVr
namespace Go.Proofs.YtjllcbgokoacaaaDoor
open Go Go.RowKit

theorem bcell {W w1 : World} (hb : Below W.heap.size W w1) : (∀ b o, b < W.heap.size → w1.cell? ⟨b, o, none⟩ = W.cell? ⟨b, o, none⟩) ∧ (∀ b o, b < W.heap.size → w1.frozen? ⟨b, o, none⟩ = W.frozen? ⟨b, o, none⟩) :=
  ⟨fun b o h => hb.cell (p := ⟨b, o, none⟩) h, fun b o h => hb.frozen (p := ⟨b, o, none⟩) h⟩
theorem holdsB_yes {rel k1 n1 : Int} {s1 : List UInt8} {k2 n2 : Int} {s2 : List UInt8} (h : cmpB k1 k2 = true) : holdsB rel k1 n1 s1 k2 n2 s2 = relB rel (cmpV k1 n1 s1 k2 n2 s2) := by unfold holdsB; rw [if_pos h]
theorem holdsB_no {rel k1 n1 : Int} {s1 : List UInt8} {k2 n2 : Int} {s2 : List UInt8} (h : cmpB k1 k2 = false) : holdsB rel k1 n1 s1 k2 n2 s2 = (decide (rel = 2) && (kindB k1 && kindB k2)) := by unfold holdsB; rw [h]; rfl

set_option maxHeartbeats 2000000 in
theorem vHolds_any (rel k1 n1 : Int) (s1 : ByteArray) (k2 n2 : Int) (s2 : ByteArray) (w : World) :
    Calls Tryd.prog 23 #[.int .i64 rel, .agg #[.int .i64 k1, .int .i64 n1, .string s1], .agg #[.int .i64 k2, .int .i64 n2, .string s2]] w fun e w' => e = .returned (.bool (holdsB rel k1 n1 s1.data.toList k2 n2 s2.data.toList)) ∧ Below w.heap.size w w' := by
  have C := fun w => vCompare_any k1 n1 s1 k2 n2 s2 w
  unfold cmpT at C
  cases hq : cmpB k1 k2 with
  | true =>
    rw [holdsB_yes hq]
    rw [hq] at C
    generalize cmpV k1 n1 s1.data.toList k2 n2 s2.data.toList = c at C ⊢
    have HC := Lib.hid C
    clear C hq
    rcases rel_cases rel with rfl | rfl | rfl | rfl | rfl | rfl | ⟨h1, h2, h3, h4, h5, h6⟩
    · rw [show relB 1 c = (c == 0) from by rw [Bool.eq_iff_iff]; simp [relB]]
      go_enter Tryd.func23, Tryd.ntmps23
      go_wp2_with (go_at_call 21; (with_reducible refine (HC.out _).mono ?_); rintro e w1 ⟨rfl, hb⟩; obtain ⟨hc, hf⟩ := bcell hb)
      go_ret
      exact ⟨by rfl, (((Below.refl _ _).alloc (Nat.le_refl _) _).alloc (by simp) _).trans (hb.mono (by simp; omega))⟩
    · rw [show relB 2 c = (c != 0) from by rw [Bool.eq_iff_iff]; simp [relB]]
      go_enter Tryd.func23, Tryd.ntmps23
      go_wp2_with (go_at_call 21; (with_reducible refine (HC.out _).mono ?_); rintro e w1 ⟨rfl, hb⟩; obtain ⟨hc, hf⟩ := bcell hb)
      go_ret
      exact ⟨by rfl, (((Below.refl _ _).alloc (Nat.le_refl _) _).alloc (by simp) _).trans (hb.mono (by simp; omega))⟩
    · rw [show relB 3 c = decide (c < 0) from by simp [relB]]
      go_enter Tryd.func23, Tryd.ntmps23
      go_wp2_with (go_at_call 21; (with_reducible refine (HC.out _).mono ?_); rintro e w1 ⟨rfl, hb⟩; obtain ⟨hc, hf⟩ := bcell hb)
      go_ret
      exact ⟨by rfl, (((Below.refl _ _).alloc (Nat.le_refl _) _).alloc (by simp) _).trans (hb.mono (by simp; omega))⟩
    · rw [show relB 4 c = decide (c ≤ 0) from by simp [relB]]
      go_enter Tryd.func23, Tryd.ntmps23
      go_wp2_with (go_at_call 21; (with_reducible refine (HC.out _).mono ?_); rintro e w1 ⟨rfl, hb⟩; obtain ⟨hc, hf⟩ := bcell hb)
      go_ret
      exact ⟨by rfl, (((Below.refl _ _).alloc (Nat.le_refl _) _).alloc (by simp) _).trans (hb.mono (by simp; omega))⟩
    · rw [show relB 5 c = decide (0 < c) from by simp [relB]]
      go_enter Tryd.func23, Tryd.ntmps23
      go_wp2_with (go_at_call 21; (with_reducible refine (HC.out _).mono ?_); rintro e w1 ⟨rfl, hb⟩; obtain ⟨hc, hf⟩ := bcell hb)
      go_ret
      exact ⟨by rfl, (((Below.refl _ _).alloc (Nat.le_refl _) _).alloc (by simp) _).trans (hb.mono (by simp; omega))⟩
    · rw [show relB 6 c = decide (0 ≤ c) from by simp [relB]]
      go_enter Tryd.func23, Tryd.ntmps23
      go_wp2_with (go_at_call 21; (with_reducible refine (HC.out _).mono ?_); rintro e w1 ⟨rfl, hb⟩; obtain ⟨hc, hf⟩ := bcell hb)
      go_ret
      exact ⟨by rfl, (((Below.refl _ _).alloc (Nat.le_refl _) _).alloc (by simp) _).trans (hb.mono (by simp; omega))⟩
    · rw [show relB rel c = false by simp [relB, h1, h2, h3, h4, h5, h6]]
      have b1 : (rel == 1) = false := by simpa using h1
      have b2 : (rel == 2) = false := by simpa using h2
      have b3 : (rel == 3) = false := by simpa using h3
      have b4 : (rel == 4) = false := by simpa using h4
      have b5 : (rel == 5) = false := by simpa using h5
      have b6 : (rel == 6) = false := by simpa using h6
      clear h1 h2 h3 h4 h5 h6
      go_enter Tryd.func23, Tryd.ntmps23
      go_wp2_with (go_at_call 21; (with_reducible refine (HC.out _).mono ?_); rintro e w1 ⟨rfl, hb⟩; obtain ⟨hc, hf⟩ := bcell hb)
      go_ret
      exact ⟨by rfl, (((Below.refl _ _).alloc (Nat.le_refl _) _).alloc (by simp) _).trans (hb.mono (by simp; omega))⟩
  | false =>
    rw [holdsB_no hq]
    rw [hq, cmpV_no hq] at C
    have HC := Lib.hid C
    have K1 := fun w => vIsKind_any k1 w
    have K2 := fun w => vIsKind_any k2 w
    generalize kindB k1 = x1 at K1 ⊢
    generalize kindB k2 = x2 at K2 ⊢
    clear C hq
    by_cases h2 : rel = 2
    · subst h2
      cases x1 with
      | false =>
        have HK1 := Lib.hid K1; have HK2 := Lib.hid K2
        clear K1 K2
        rw [show (decide ((2 : Int) = 2) && (false && x2)) = false from rfl]
        go_enter Tryd.func23, Tryd.ntmps23
        go_wp2_with (first | (go_at_call 21; (with_reducible refine (HC.out _).mono ?_); rintro e w1 ⟨rfl, hb⟩; obtain ⟨hc, hf⟩ := bcell hb) | (go_at_call 45; (with_reducible refine (HK1.out _).mono ?_); rintro e w2 ⟨rfl, rfl⟩))
        go_ret
        exact ⟨by rfl, (((Below.refl _ _).alloc (Nat.le_refl _) _).alloc (by simp) _).trans (hb.mono (by simp; omega))⟩
      | true =>
        cases x2 with
        | false =>
          have HK1 := Lib.hid K1; have HK2 := Lib.hid K2
          clear K1 K2
          go_enter Tryd.func23, Tryd.ntmps23
          go_wp2_with (first | (go_at_call 21; (with_reducible refine (HC.out _).mono ?_); rintro e w1 ⟨rfl, hb⟩; obtain ⟨hc, hf⟩ := bcell hb) | (go_at_call 45; (with_reducible refine (HK1.out _).mono ?_); rintro e w2 ⟨rfl, rfl⟩) | (go_at_call 45; (with_reducible refine (HK2.out _).mono ?_); rintro e w3 ⟨rfl, rfl⟩))
          go_ret
          exact ⟨by rfl, (((Below.refl _ _).alloc (Nat.le_refl _) _).alloc (by simp) _).trans (hb.mono (by simp; omega))⟩
        | true =>
          have HK1 := Lib.hid K1; have HK2 := Lib.hid K2
          clear K1 K2
          go_enter Tryd.func23, Tryd.ntmps23
          go_wp2_with (first | (go_at_call 21; (with_reducible refine (HC.out _).mono ?_); rintro e w1 ⟨rfl, hb⟩; obtain ⟨hc, hf⟩ := bcell hb) | (go_at_call 45; (with_reducible refine (HK1.out _).mono ?_); rintro e w2 ⟨rfl, rfl⟩) | (go_at_call 45; (with_reducible refine (HK2.out _).mono ?_); rintro e w3 ⟨rfl, rfl⟩))
          go_ret
          exact ⟨by rfl, (((Below.refl _ _).alloc (Nat.le_refl _) _).alloc (by simp) _).trans (hb.mono (by simp; omega))⟩
    · have b2 : (rel == 2) = false := by simpa using h2
      rw [show (decide (rel = 2) && (x1 && x2)) = false by simp [h2]]
      clear h2 K1 K2
      go_enter Tryd.func23, Tryd.ntmps23
      go_wp2_with (go_at_call 21; (with_reducible refine (HC.out _).mono ?_); rintro e w1 ⟨rfl, hb⟩; obtain ⟨hc, hf⟩ := bcell hb)
      go_ret
      exact ⟨by rfl, (((Below.refl _ _).alloc (Nat.le_refl _) _).alloc (by simp) _).trans (hb.mono (by simp; omega))⟩

set_option maxHeartbeats 2000000 in
theorem r3Holds_any (rel k1 n1 : Int) (s1 : ByteArray) (k2 n2 : Int) (s2 : ByteArray) (w : World) :
    Calls Tryd.prog 24 #[.int .i64 rel, .agg #[.int .i64 k1, .int .i64 n1, .string s1], .agg #[.int .i64 k2, .int .i64 n2, .string s2]] w fun e w' => e = .returned (.bool (holdsB rel k1 n1 s1.data.toList k2 n2 s2.data.toList)) ∧ Below w.heap.size w w' := by
  have C := fun w => r3Compare_any k1 n1 s1 k2 n2 s2 w
  unfold cmpT at C
  cases hq : cmpB k1 k2 with
  | true =>
    rw [holdsB_yes hq]
    rw [hq] at C
    generalize cmpV k1 n1 s1.data.toList k2 n2 s2.data.toList = c at C ⊢
    have HC := Lib.hid C
    clear C hq
    rcases rel_cases rel with rfl | rfl | rfl | rfl | rfl | rfl | ⟨h1, h2, h3, h4, h5, h6⟩
    · rw [show relB 1 c = (c == 0) from by rw [Bool.eq_iff_iff]; simp [relB]]
      go_enter Tryd.func24, Tryd.ntmps24
      go_wp2_with (go_at_call 22; (with_reducible refine (HC.out _).mono ?_); rintro e w1 ⟨rfl, hb⟩; obtain ⟨hc, hf⟩ := bcell hb; have hz : w.heap.size + 1 < w1.heap.size := by have := hb.size; simp at this; omega)
      go_ret
      exact ⟨by rfl, (((Below.refl _ _).alloc (Nat.le_refl _) _).alloc (by simp) _).trans (hb.mono (by simp; omega))⟩
    · rw [show relB 2 c = (c != 0) from by rw [Bool.eq_iff_iff]; simp [relB]]
      go_enter Tryd.func24, Tryd.ntmps24
      go_wp2_with (go_at_call 22; (with_reducible refine (HC.out _).mono ?_); rintro e w1 ⟨rfl, hb⟩; obtain ⟨hc, hf⟩ := bcell hb; have hz : w.heap.size + 1 < w1.heap.size := by have := hb.size; simp at this; omega)
      go_ret
      exact ⟨by rfl, (((Below.refl _ _).alloc (Nat.le_refl _) _).alloc (by simp) _).trans (hb.mono (by simp; omega))⟩
    · rw [show relB 3 c = decide (c < 0) from by simp [relB]]
      go_enter Tryd.func24, Tryd.ntmps24
      go_wp2_with (go_at_call 22; (with_reducible refine (HC.out _).mono ?_); rintro e w1 ⟨rfl, hb⟩; obtain ⟨hc, hf⟩ := bcell hb; have hz : w.heap.size + 1 < w1.heap.size := by have := hb.size; simp at this; omega)
      go_ret
      exact ⟨by rfl, (((Below.refl _ _).alloc (Nat.le_refl _) _).alloc (by simp) _).trans (hb.mono (by simp; omega))⟩
    · rw [show relB 4 c = decide (c ≤ 0) from by simp [relB]]
      go_enter Tryd.func24, Tryd.ntmps24
      go_wp2_with (go_at_call 22; (with_reducible refine (HC.out _).mono ?_); rintro e w1 ⟨rfl, hb⟩; obtain ⟨hc, hf⟩ := bcell hb; have hz : w.heap.size + 1 < w1.heap.size := by have := hb.size; simp at this; omega)
      go_ret
      exact ⟨by rfl, (((Below.refl _ _).alloc (Nat.le_refl _) _).alloc (by simp) _).trans (hb.mono (by simp; omega))⟩
    · rw [show relB 5 c = decide (0 < c) from by simp [relB]]
      go_enter Tryd.func24, Tryd.ntmps24
      go_wp2_with (go_at_call 22; (with_reducible refine (HC.out _).mono ?_); rintro e w1 ⟨rfl, hb⟩; obtain ⟨hc, hf⟩ := bcell hb; have hz : w.heap.size + 1 < w1.heap.size := by have := hb.size; simp at this; omega)
      go_ret
      exact ⟨by rfl, (((Below.refl _ _).alloc (Nat.le_refl _) _).alloc (by simp) _).trans (hb.mono (by simp; omega))⟩
    · rw [show relB 6 c = decide (0 ≤ c) from by simp [relB]]
      go_enter Tryd.func24, Tryd.ntmps24
      go_wp2_with (go_at_call 22; (with_reducible refine (HC.out _).mono ?_); rintro e w1 ⟨rfl, hb⟩; obtain ⟨hc, hf⟩ := bcell hb; have hz : w.heap.size + 1 < w1.heap.size := by have := hb.size; simp at this; omega)
      go_ret
      exact ⟨by rfl, (((Below.refl _ _).alloc (Nat.le_refl _) _).alloc (by simp) _).trans (hb.mono (by simp; omega))⟩
    · rw [show relB rel c = false by simp [relB, h1, h2, h3, h4, h5, h6]]
      have b1 : (rel == 1) = false := by simpa using h1
      have b2 : (rel == 2) = false := by simpa using h2
      have b3 : (rel == 3) = false := by simpa using h3
      have b4 : (rel == 4) = false := by simpa using h4
      have b5 : (rel == 5) = false := by simpa using h5
      have b6 : (rel == 6) = false := by simpa using h6
      clear h1 h2 h3 h4 h5 h6
      go_enter Tryd.func24, Tryd.ntmps24
      go_wp2_with (go_at_call 22; (with_reducible refine (HC.out _).mono ?_); rintro e w1 ⟨rfl, hb⟩; obtain ⟨hc, hf⟩ := bcell hb; have hz : w.heap.size + 1 < w1.heap.size := by have := hb.size; simp at this; omega)
      go_ret
      exact ⟨by rfl, (((Below.refl _ _).alloc (Nat.le_refl _) _).alloc (by simp) _).trans (hb.mono (by simp; omega))⟩
  | false =>
    rw [holdsB_no hq]
    rw [hq, cmpV_no hq] at C
    have HC := Lib.hid C
    have K1 := fun w => r3some_any k1 n1 s1 w
    have K2 := fun w => r3some_any k2 n2 s2 w
    generalize kindB k1 = x1 at K1 ⊢
    generalize kindB k2 = x2 at K2 ⊢
    clear C hq
    by_cases h2 : rel = 2
    · subst h2
      cases x1 with
      | false =>
        have HK1 := Lib.hid K1; have HK2 := Lib.hid K2
        clear K1 K2
        rw [show (decide ((2 : Int) = 2) && (false && x2)) = false from rfl]
        go_enter Tryd.func24, Tryd.ntmps24
        go_wp2_with (first | (go_at_call 22; (with_reducible refine (HC.out _).mono ?_); rintro e w1 ⟨rfl, hb⟩; obtain ⟨hc, hf⟩ := bcell hb; have hz : w.heap.size + 1 < w1.heap.size := by have := hb.size; simp at this; omega) | (go_at_call 46; (with_reducible refine (HK1.out _).mono ?_); rintro e w2 ⟨rfl, hb2⟩; obtain ⟨hc2, hf2⟩ := bcell hb2))
        go_ret
        exact ⟨by rfl, (((((Below.refl _ _).alloc (Nat.le_refl _) _).alloc (by simp) _).trans (hb.mono (by simp; omega))).trans (hb2.mono (by have := hb.size; simp at this; omega)))⟩
      | true =>
        cases x2 with
        | false =>
          have HK1 := Lib.hid K1; have HK2 := Lib.hid K2
          clear K1 K2
          go_enter Tryd.func24, Tryd.ntmps24
          go_wp2_with (first | (go_at_call 22; (with_reducible refine (HC.out _).mono ?_); rintro e w1 ⟨rfl, hb⟩; obtain ⟨hc, hf⟩ := bcell hb; have hz : w.heap.size + 1 < w1.heap.size := by have := hb.size; simp at this; omega) | (go_at_call 46; (with_reducible refine (HK1.out _).mono ?_); rintro e w2 ⟨rfl, hb2⟩; obtain ⟨hc2, hf2⟩ := bcell hb2) | (go_at_call 46; (with_reducible refine (HK2.out _).mono ?_); rintro e w3 ⟨rfl, hb3⟩))
          go_ret
          exact ⟨by rfl, ((((((Below.refl _ _).alloc (Nat.le_refl _) _).alloc (by simp) _).trans (hb.mono (by simp; omega))).trans (hb2.mono (by have := hb.size; simp at this; omega)))).trans (hb3.mono (by have := hb.size; have := hb2.size; simp at *; omega))⟩
        | true =>
          have HK1 := Lib.hid K1; have HK2 := Lib.hid K2
          clear K1 K2
          go_enter Tryd.func24, Tryd.ntmps24
          go_wp2_with (first | (go_at_call 22; (with_reducible refine (HC.out _).mono ?_); rintro e w1 ⟨rfl, hb⟩; obtain ⟨hc, hf⟩ := bcell hb; have hz : w.heap.size + 1 < w1.heap.size := by have := hb.size; simp at this; omega) | (go_at_call 46; (with_reducible refine (HK1.out _).mono ?_); rintro e w2 ⟨rfl, hb2⟩; obtain ⟨hc2, hf2⟩ := bcell hb2) | (go_at_call 46; (with_reducible refine (HK2.out _).mono ?_); rintro e w3 ⟨rfl, hb3⟩))
          go_ret
          exact ⟨by rfl, ((((((Below.refl _ _).alloc (Nat.le_refl _) _).alloc (by simp) _).trans (hb.mono (by simp; omega))).trans (hb2.mono (by have := hb.size; simp at this; omega)))).trans (hb3.mono (by have := hb.size; have := hb2.size; simp at *; omega))⟩
    · have b2 : (rel == 2) = false := by simpa using h2
      rw [show (decide (rel = 2) && (x1 && x2)) = false by simp [h2]]
      clear h2 K1 K2
      go_enter Tryd.func24, Tryd.ntmps24
      go_wp2_with (go_at_call 22; (with_reducible refine (HC.out _).mono ?_); rintro e w1 ⟨rfl, hb⟩; obtain ⟨hc, hf⟩ := bcell hb; have hz : w.heap.size + 1 < w1.heap.size := by have := hb.size; simp at this; omega)
      go_ret
      exact ⟨by rfl, (((Below.refl _ _).alloc (Nat.le_refl _) _).alloc (by simp) _).trans (hb.mono (by simp; omega))⟩
end Go.Proofs.YtjllcbgokoacaaaDoor
