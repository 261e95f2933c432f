/- Contract of first: the byte that is written first in a text. -/
import Derived.Test.YthmdnlcinlmjkaaDoorPu
import Derived.Test.YthmdnlcinlmjkaaDoorLive3
namespace Go.Proofs.YthmdnlcinlmjkaaDoor
open Go Go.RowKit

theorem list_at (s : ByteArray) (k : Nat) (h : k < s.size) : s.data.toList.drop k = s[k] :: s.data.toList.drop (k + 1) := by
  have h2 : k < s.data.toList.length := by simpa using h
  rw [List.drop_eq_getElem_cons h2]; rfl
theorem list_end (s : ByteArray) (k : Nat) (h : s.size ≤ k) : s.data.toList.drop k = [] := List.drop_eq_nil_of_le (by simpa using h)
theorem first_1 (s : ByteArray) (h0 : 0 < s.size) (h : ¬ s[0].toNat = 92) : firstL s.data.toList = (s[0], 1) := by
  have e := list_at s 0 h0
  rw [List.drop_zero] at e
  rw [e]; simp only [firstL, if_neg h]
theorem first_2 (s : ByteArray) (h0 : 0 < s.size) (h1 : 1 < s.size) (h : s[0].toNat = 92) (hx : ¬ s[1].toNat = 120) : firstL s.data.toList = (s[1], 2) := by
  have e := list_at s 0 h0
  rw [List.drop_zero, list_at s 1 h1] at e
  rw [e]; simp only [firstL, if_pos h, if_neg hx]
theorem first_3 (s : ByteArray) (h0 : 0 < s.size) (h1 : 1 < s.size) (h2 : 2 < s.size) (h3 : 3 < s.size) (h : s[0].toNat = 92) (hx : s[1].toNat = 120) :
    firstL s.data.toList = match hexF 0 [s[2], s[3]] with | some u => (UInt8.ofNat u, 4) | none => (0, 0) := by
  have e := list_at s 0 h0
  rw [List.drop_zero, list_at s 1 h1, list_at s 2 h2, list_at s 3 h3] at e
  rw [e]; simp only [firstL, if_pos h, if_pos hx]
  rfl
theorem first_01 (s : ByteArray) (h0 : 0 < s.size) (h1 : ¬ 1 < s.size) (h : s[0].toNat = 92) : firstL s.data.toList = (0, 0) := by
  have e := list_at s 0 h0
  rw [List.drop_zero, list_end s (0 + 1) (by omega)] at e
  rw [e]; simp only [firstL, if_pos h]
theorem first_03 (s : ByteArray) (h0 : 0 < s.size) (h1 : 1 < s.size) (h3 : ¬ 3 < s.size) (h : s[0].toNat = 92) (hx : s[1].toNat = 120) : firstL s.data.toList = (0, 0) := by
  have e := list_at s 0 h0
  rw [List.drop_zero, list_at s 1 h1] at e
  rw [e]; simp only [firstL, if_pos h, if_pos hx]
  by_cases h2 : 2 < s.size
  · rw [list_at s (1 + 1) h2, list_end s (1 + 1 + 1) (by omega)]
  · rw [list_end s (1 + 1) (by omega)]
theorem ext_two (s : ByteArray) (h2 : 2 < s.size) (h3 : 3 < s.size) : (s.extract 2 4).size = 2 ∧ (s.extract 2 4).data.toList = [s[2], s[3]] := by
  refine ⟨by simp; omega, ?_⟩
  rw [← Lib.toList_data, Lib.extract_toList, list_at s 2 h2, list_at s (2 + 1) h3]; rfl
theorem hexF_256 (x y : UInt8) {u : Nat} (h : hexF 0 [x, y] = some u) : u < 256 := by
  unfold hexF at h
  split at h
  · rename_i d1 e1
    unfold hexF at h
    split at h
    · rename_i d2 e2
      simp only [hexF, Option.some.injEq] at h
      have := hexV_lt e1
      have := hexV_lt e2
      omega
    · cases h
  · cases h

def firstT (p : UInt8 × Nat) : Value := .tuple #[.int .u8 (p.1.toNat : Int), .int .i64 (p.2 : Int)]

set_option maxHeartbeats 4000000 in
set_option maxRecDepth 100000 in
theorem vFirst_any (s : ByteArray) (h0 : 0 < s.size) (hmax : s.size ≤ maxLen) (w : World) (hE : ErrV w) :
    Calls Tryd.prog 32 #[.string s] w fun e w' => e = .returned (firstT (firstL s.data.toList)) ∧ Below w.heap.size w w' := by
  unfold maxLen at hmax
  by_cases hc : s[0].toNat = 92
  · by_cases h1 : 1 < s.size
    · by_cases hx : s[1].toNat = 120
      · by_cases h3 : 3 < s.size
        · have h2 : 2 < s.size := by omega
          rw [first_3 s h0 h1 h2 h3 hc hx]
          obtain ⟨z2, zl⟩ := ext_two s h2 h3
          have hP := ParseUint_hex (s.extract 2 4) z2 w hE
          rw [zl] at hP
          have HP := Lib.hid hP
          clear hP zl hE
          cases hh : hexF 0 [s[2], s[3]] with
          | some u =>
            have hu := hexF_256 _ _ hh
            have hP := HP.out
            rw [hh] at hP
            clear HP hh
            simp only [hexE] at hP
            have hlen : ((s.size : Int) ≥ 4) := by omega
            go_enter Tryd.func32, Tryd.ntmps32
            go_wp2_with (go_at_call 42; (with_reducible refine hP.mono ?_); rintro e w' ⟨rfl, hb⟩)
            go_ret2
            refine ⟨?_, hb⟩
            simp only [firstT, UInt8.toNat_ofNat', Nat.reducePow]
            rw [Nat.mod_eq_of_lt hu]
            rfl
          | none =>
            have hP := HP.out
            rw [hh] at hP
            clear HP hh
            simp only [hexE] at hP
            go_enter Tryd.func32, Tryd.ntmps32
            go_wp2_with (go_at_call 42; (with_reducible refine hP.mono ?_); rintro e w' ⟨⟨N, rfl⟩, hb⟩)
            go_ret2
            exact ⟨rfl, hb⟩
        · rw [first_03 s h0 h1 h3 hc hx]
          have h4 : (s.size : Int) < 4 := by omega
          clear hE
          go_enter Tryd.func32, Tryd.ntmps32
          go_wp2
          go_ret2
          exact ⟨rfl, Below.refl _ _⟩
      · rw [first_2 s h0 h1 hc hx]
        have bx : ((s[1].toNat : Int) == 120) = false := by simp; omega
        clear hE hx
        go_enter Tryd.func32, Tryd.ntmps32
        go_wp2
        go_ret2
        exact ⟨rfl, Below.refl _ _⟩
    · rw [first_01 s h0 h1 hc]
      have h4 : (s.size : Int) < 2 := by omega
      clear hE
      go_enter Tryd.func32, Tryd.ntmps32
      go_wp2
      go_ret2
      exact ⟨rfl, Below.refl _ _⟩
  · rw [first_1 s h0 hc]
    have bx : ((s[0].toNat : Int) == 92) = false := by simp; omega
    clear hE hc
    go_enter Tryd.func32, Tryd.ntmps32
    go_wp2
    go_ret2
    exact ⟨rfl, Below.refl _ _⟩
end Go.Proofs.YthmdnlcinlmjkaaDoor
