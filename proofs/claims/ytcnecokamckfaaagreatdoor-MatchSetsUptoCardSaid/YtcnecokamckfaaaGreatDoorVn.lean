/- Contracts: which texts are names: the program's call and the document's. -/
import Derived.Test.YtcnecokamckfaaaGreatDoorK1
namespace Go.Proofs.YtcnecokamckfaaaGreatDoor
open Go Go.RowKit

theorem at_eq (s : ByteArray) (k : Nat) (h : k < s.size) : s.data.toList.getD k 0 = s[k] := by
  have h2 : k < s.data.toList.length := by simpa using h
  simp [List.getD, List.getElem?_eq_getElem h2]; rfl
theorem vIsDigit_any (c : UInt8) (w : World) : Calls Tryz.prog 128 #[.int .u8 (c.toNat : Int)] w fun e w' => e = .returned (.bool (digB c)) ∧ w = w' := by
  have hd : digB c = (decide (48 ≤ c.toNat) && decide (c.toNat ≤ 57)) := rfl
  generalize c.toNat = n at hd ⊢
  by_cases h0 : 48 ≤ n
  · by_cases h1 : n ≤ 57
    · rw [show digB c = true by rw [hd]; simp [h0, h1]]
      clear hd
      go_enter Tryz.func128, Tryz.ntmps128
      go_wp2
      go_ret
      first | exact ⟨rfl, rfl⟩ | exact ⟨by simp; omega, rfl⟩
    · rw [show digB c = false by rw [hd]; simp [h1]]
      clear hd
      go_enter Tryz.func128, Tryz.ntmps128
      go_wp2
      go_ret
      first | exact ⟨rfl, rfl⟩ | exact ⟨by simp; omega, rfl⟩
  · rw [show digB c = false by rw [hd]; simp [h0]]
    clear hd
    go_enter Tryz.func128, Tryz.ntmps128
    go_wp2
    go_ret
    first | exact ⟨rfl, rfl⟩ | exact ⟨by simp; omega, rfl⟩
theorem vIsLetter_any (c : UInt8) (w : World) : Calls Tryz.prog 129 #[.int .u8 (c.toNat : Int)] w fun e w' => e = .returned (.bool (letB c)) ∧ w = w' := by
  have hd : letB c = ((decide (97 ≤ c.toNat) && decide (c.toNat ≤ 122)) || (decide (65 ≤ c.toNat) && decide (c.toNat ≤ 90)) || decide (c.toNat = 95)) := rfl
  generalize c.toNat = n at hd ⊢
  have hw : n < 65 ∨ (65 ≤ n ∧ n ≤ 90) ∨ (90 < n ∧ n < 95) ∨ n = 95 ∨ (95 < n ∧ n < 97) ∨ (97 ≤ n ∧ n ≤ 122) ∨ 122 < n := by omega
  rcases hw with h | ⟨h, h2⟩ | ⟨h, h2⟩ | rfl | ⟨h, h2⟩ | ⟨h, h2⟩ | h
  · rw [show letB c = false by rw [hd]; simp; omega]
    clear hd
    have b : ((n : Int) == 95) = false := by simp; omega
    go_enter Tryz.func129, Tryz.ntmps129
    go_wp2
    go_ret
    first | exact ⟨rfl, rfl⟩ | exact ⟨by simp; omega, rfl⟩
  · rw [show letB c = true by rw [hd]; simp; omega]
    clear hd
    have b : ((n : Int) == 95) = false := by simp; omega
    go_enter Tryz.func129, Tryz.ntmps129
    go_wp2
    go_ret
    first | exact ⟨rfl, rfl⟩ | exact ⟨by simp; omega, rfl⟩
  · rw [show letB c = false by rw [hd]; simp; omega]
    clear hd
    have b : ((n : Int) == 95) = false := by simp; omega
    go_enter Tryz.func129, Tryz.ntmps129
    go_wp2
    go_ret
    first | exact ⟨rfl, rfl⟩ | exact ⟨by simp; omega, rfl⟩
  · rw [show letB c = true by rw [hd]; rfl]
    clear hd
    go_enter Tryz.func129, Tryz.ntmps129
    go_wp2
    go_ret
    first | exact ⟨rfl, rfl⟩ | exact ⟨by simp; omega, rfl⟩
  · rw [show letB c = false by rw [hd]; simp; omega]
    clear hd
    have b : ((n : Int) == 95) = false := by simp; omega
    go_enter Tryz.func129, Tryz.ntmps129
    go_wp2
    go_ret
    first | exact ⟨rfl, rfl⟩ | exact ⟨by simp; omega, rfl⟩
  · rw [show letB c = true by rw [hd]; simp; omega]
    clear hd
    have b : ((n : Int) == 95) = false := by simp; omega
    go_enter Tryz.func129, Tryz.ntmps129
    go_wp2
    go_ret
    first | exact ⟨rfl, rfl⟩ | exact ⟨by simp; omega, rfl⟩
  · rw [show letB c = false by rw [hd]; simp; omega]
    clear hd
    have b : ((n : Int) == 95) = false := by simp; omega
    go_enter Tryz.func129, Tryz.ntmps129
    go_wp2
    go_ret
    first | exact ⟨rfl, rfl⟩ | exact ⟨by simp; omega, rfl⟩
theorem r3letter_any (c : UInt8) (w : World) : Calls Tryz.prog 96 #[.int .u8 (c.toNat : Int)] w fun e w' => e = .returned (.bool (letB c)) ∧ w = w' := by
  have hd : letB c = ((decide (97 ≤ c.toNat) && decide (c.toNat ≤ 122)) || (decide (65 ≤ c.toNat) && decide (c.toNat ≤ 90)) || decide (c.toNat = 95)) := rfl
  generalize c.toNat = n at hd ⊢
  have hw : n < 65 ∨ (65 ≤ n ∧ n ≤ 90) ∨ (90 < n ∧ n < 95) ∨ n = 95 ∨ (95 < n ∧ n < 97) ∨ (97 ≤ n ∧ n ≤ 122) ∨ 122 < n := by omega
  rcases hw with h | ⟨h, h2⟩ | ⟨h, h2⟩ | rfl | ⟨h, h2⟩ | ⟨h, h2⟩ | h
  · rw [show letB c = false by rw [hd]; simp; omega]
    clear hd
    have b : ((n : Int) == 95) = false := by simp; omega
    go_enter Tryz.func96, Tryz.ntmps96
    go_wp2
    go_ret
    first | exact ⟨rfl, rfl⟩ | exact ⟨by simp; omega, rfl⟩
  · rw [show letB c = true by rw [hd]; simp; omega]
    clear hd
    have b : ((n : Int) == 95) = false := by simp; omega
    go_enter Tryz.func96, Tryz.ntmps96
    go_wp2
    go_ret
    first | exact ⟨rfl, rfl⟩ | exact ⟨by simp; omega, rfl⟩
  · rw [show letB c = false by rw [hd]; simp; omega]
    clear hd
    have b : ((n : Int) == 95) = false := by simp; omega
    go_enter Tryz.func96, Tryz.ntmps96
    go_wp2
    go_ret
    first | exact ⟨rfl, rfl⟩ | exact ⟨by simp; omega, rfl⟩
  · rw [show letB c = true by rw [hd]; rfl]
    clear hd
    go_enter Tryz.func96, Tryz.ntmps96
    go_wp2
    go_ret
    first | exact ⟨rfl, rfl⟩ | exact ⟨by simp; omega, rfl⟩
  · rw [show letB c = false by rw [hd]; simp; omega]
    clear hd
    have b : ((n : Int) == 95) = false := by simp; omega
    go_enter Tryz.func96, Tryz.ntmps96
    go_wp2
    go_ret
    first | exact ⟨rfl, rfl⟩ | exact ⟨by simp; omega, rfl⟩
  · rw [show letB c = true by rw [hd]; simp; omega]
    clear hd
    have b : ((n : Int) == 95) = false := by simp; omega
    go_enter Tryz.func96, Tryz.ntmps96
    go_wp2
    go_ret
    first | exact ⟨rfl, rfl⟩ | exact ⟨by simp; omega, rfl⟩
  · rw [show letB c = false by rw [hd]; simp; omega]
    clear hd
    have b : ((n : Int) == 95) = false := by simp; omega
    go_enter Tryz.func96, Tryz.ntmps96
    go_wp2
    go_ret
    first | exact ⟨rfl, rfl⟩ | exact ⟨by simp; omega, rfl⟩

set_option maxHeartbeats 1000000 in
theorem vName_any (s : ByteArray) (w : World) (hs : s.size ≤ maxLen) :
    Calls Tryz.prog 90 #[.string s] w fun e w' => e = .returned (.bool (nameB s.data.toList)) ∧ w = w' := by
  unfold maxLen at hs
  have hl : s.data.toList.length = s.size := by simp
  have ht := Lib.toList_data s
  cases he : s.toList.isEmpty with
  | true =>
    have he' : s.toList = [] := by simpa using he
    rw [← ht, he', nameB_empty]
    clear hl ht he
    go_enter Tryz.func90, Tryz.ntmps90
    go_wp2
    go_ret
    exact ⟨rfl, rfl⟩
  | false =>
    have h0 : 0 < s.size := by
      rcases Nat.eq_zero_or_pos s.size with h | h
      · exfalso
        rw [← hl, List.length_eq_zero_iff, ← ht] at h
        rw [h] at he; cases he
      · exact h
    have H0 : Hid (s.data.toList ≠ []) := fun h => by rw [h] at hl; simp at hl; omega
    have HL := Lib.hid hl
    clear hl ht
    by_cases hlen : 32 < s.size
    · rw [nameB_long (by rw [HL.out]; exact hlen)]
      go_enter Tryz.func90, Tryz.ntmps90
      go_wp2
      go_ret
      exact ⟨rfl, rfl⟩
    · cases hd : digB s[0] with
      | true =>
        rw [nameB_at (i := 0) (by rw [HL.out]; exact h0) (by unfold okAt; rw [at_eq s 0 h0, hd]; cases hx : letB s[0]; rfl; rw [let_dig hx] at hd; cases hd)]
        go_enter Tryz.func90, Tryz.ntmps90
        go_wp2_with (go_at_call 128; (with_reducible refine (vIsDigit_any _ _).mono ?_); rintro e w' ⟨rfl, rfl⟩)
        go_ret
        exact ⟨rfl, rfl⟩
      | false =>
        go_enter Tryz.func90, Tryz.ntmps90
        go_wp2_with (go_at_call 128; (with_reducible refine (vIsDigit_any _ _).mono ?_); rintro e w' ⟨rfl, rfl⟩)
        have HD := Lib.hid hd
        clear hd
        go_loop [18] (fun i => ∃ k : Nat, k ≤ s.size ∧ i = .int .i64 k ∧ Hid (∀ j, j < k → okAt s.data.toList j = true)) (fun i => s.size - (intOf i).toNat)
        case atStart => exact ⟨0, Nat.zero_le _, rfl, fun j hj => absurd hj (Nat.not_lt_zero _)⟩
        case round =>
          obtain ⟨k, hk, rfl, HA⟩ := hrel
          by_cases hlt : k < s.size
          · cases hx : letB s[k] with
            | true =>
              have HA2 : Hid (∀ j, j < k + 1 → okAt s.data.toList j = true) := fun j hj => by
                rcases Nat.lt_succ_iff_lt_or_eq.1 hj with h | h
                · exact HA.out j h
                · rw [h]; unfold okAt; rw [at_eq s k hlt, hx]; rfl
              go_wp2_with (first | (go_at_call 129; (with_reducible refine (vIsLetter_any _ _).mono ?_); rintro e w' ⟨rfl, rfl⟩) | (go_at_call 128; (with_reducible refine (vIsDigit_any _ _).mono ?_); rintro e w' ⟨rfl, rfl⟩))
              go_round
              case rel => exact ⟨k + 1, by omega, by go_num, HA2⟩
              case measure => simp [intOf]; omega
            | false =>
              cases hy : digB s[k] with
              | true =>
                have hk0 : k ≠ 0 := fun h => by subst h; rw [HD.out] at hy; cases hy
                have HA2 : Hid (∀ j, j < k + 1 → okAt s.data.toList j = true) := fun j hj => by
                  rcases Nat.lt_succ_iff_lt_or_eq.1 hj with h | h
                  · exact HA.out j h
                  · rw [h]; unfold okAt; rw [at_eq s k hlt, hx, hy]; simp [hk0]
                clear hk0
                go_wp2_with (first | (go_at_call 129; (with_reducible refine (vIsLetter_any _ _).mono ?_); rintro e w' ⟨rfl, rfl⟩) | (go_at_call 128; (with_reducible refine (vIsDigit_any _ _).mono ?_); rintro e w' ⟨rfl, rfl⟩))
                go_round
                case rel => exact ⟨k + 1, by omega, by go_num, HA2⟩
                case measure => simp [intOf]; omega
              | false =>
                have HN : Hid (nameB s.data.toList = false) := nameB_at (i := k) (by rw [HL.out]; exact hlt) (by unfold okAt; rw [at_eq s k hlt, hx, hy]; rfl)
                go_wp2_with (first | (go_at_call 129; (with_reducible refine (vIsLetter_any _ _).mono ?_); rintro e w' ⟨rfl, rfl⟩) | (go_at_call 128; (with_reducible refine (vIsDigit_any _ _).mono ?_); rintro e w' ⟨rfl, rfl⟩))
                go_ret
                exact ⟨by rw [HN.out]; rfl, rfl⟩
          · have HN : Hid (nameB s.data.toList = true) := nameB_yes H0.out (by rw [HL.out]; omega) (fun i hi => HA.out i (by rw [HL.out] at hi; omega))
            go_wp2
            go_ret
            exact ⟨by rw [HN.out]; rfl, rfl⟩

set_option maxHeartbeats 1000000 in
theorem r3Name_any (s : ByteArray) (w : World) (hs : s.size ≤ maxLen) :
    Calls Tryz.prog 67 #[.string s] w fun e w' => e = .returned (.bool (nameB s.data.toList)) ∧ w = w' := by
  unfold maxLen at hs
  have hl : s.data.toList.length = s.size := by simp
  have ht := Lib.toList_data s
  cases he : s.toList.isEmpty with
  | true =>
    have he' : s.toList = [] := by simpa using he
    rw [← ht, he', nameB_empty]
    clear hl ht he
    go_enter Tryz.func67, Tryz.ntmps67
    go_wp2
    go_ret
    exact ⟨rfl, rfl⟩
  | false =>
    have H0 : Hid (s.data.toList ≠ []) := fun h => by rw [← ht] at h; rw [h] at he; cases he
    have HL := Lib.hid hl
    clear hl ht
    by_cases hlen : 32 < s.size
    · rw [nameB_long (by rw [HL.out]; exact hlen)]
      go_enter Tryz.func67, Tryz.ntmps67
      go_wp2
      go_ret
      exact ⟨rfl, rfl⟩
    · go_enter Tryz.func67, Tryz.ntmps67
      go_wp2_with fail
      go_loop [3] (fun i => ∃ k : Nat, k ≤ s.size ∧ i = .int .i64 k ∧ Hid (∀ j, j < k → okAt s.data.toList j = true)) (fun i => s.size - (intOf i).toNat)
      case atStart => exact ⟨0, Nat.zero_le _, rfl, fun j hj => absurd hj (Nat.not_lt_zero _)⟩
      case round =>
        obtain ⟨k, hk, rfl, HA⟩ := hrel
        by_cases hlt : k < s.size
        · cases hx : letB s[k] with
          | true =>
            have HA2 : Hid (∀ j, j < k + 1 → okAt s.data.toList j = true) := fun j hj => by
              rcases Nat.lt_succ_iff_lt_or_eq.1 hj with h | h
              · exact HA.out j h
              · rw [h]; unfold okAt; rw [at_eq s k hlt, hx]; rfl
            go_wp2_with (go_at_call 96; (with_reducible refine (r3letter_any _ _).mono ?_); rintro e w' ⟨rfl, rfl⟩)
            go_round
            case rel => exact ⟨k + 1, by omega, by go_num, HA2⟩
            case measure => simp [intOf]; omega
          | false =>
            by_cases hk0 : k = 0
            · subst hk0
              have HN : Hid (nameB s.data.toList = false) := nameB_at (i := 0) (by rw [HL.out]; exact hlt) (by unfold okAt; rw [at_eq s 0 hlt, hx]; simp)
              go_wp2_with (go_at_call 96; (with_reducible refine (r3letter_any _ _).mono ?_); rintro e w' ⟨rfl, rfl⟩)
              go_ret
              exact ⟨by rw [HN.out]; rfl, rfl⟩
            · have bk : ((k : Int) == 0) = false := by simpa using hk0
              have hd : digB s[k] = (decide (48 ≤ s[k].toNat) && decide (s[k].toNat ≤ 57)) := rfl
              by_cases h1 : s[k].toNat < 48
              · have HN : Hid (nameB s.data.toList = false) := nameB_at (i := k) (by rw [HL.out]; exact hlt) (by unfold okAt; rw [at_eq s k hlt, hx, hd]; simp; omega)
                clear hd hk0
                go_wp2_with (go_at_call 96; (with_reducible refine (r3letter_any _ _).mono ?_); rintro e w' ⟨rfl, rfl⟩)
                go_ret
                exact ⟨by rw [HN.out]; rfl, rfl⟩
              · by_cases h2 : 57 < s[k].toNat
                · have HN : Hid (nameB s.data.toList = false) := nameB_at (i := k) (by rw [HL.out]; exact hlt) (by unfold okAt; rw [at_eq s k hlt, hx, hd]; simp; omega)
                  clear hd hk0
                  go_wp2_with (go_at_call 96; (with_reducible refine (r3letter_any _ _).mono ?_); rintro e w' ⟨rfl, rfl⟩)
                  go_ret
                  exact ⟨by rw [HN.out]; rfl, rfl⟩
                · have HA2 : Hid (∀ j, j < k + 1 → okAt s.data.toList j = true) := fun j hj => by
                    rcases Nat.lt_succ_iff_lt_or_eq.1 hj with h | h
                    · exact HA.out j h
                    · rw [h]; unfold okAt; rw [at_eq s k hlt, hx, hd]; simp [hk0]; omega
                  clear hd hk0
                  go_wp2_with (go_at_call 96; (with_reducible refine (r3letter_any _ _).mono ?_); rintro e w' ⟨rfl, rfl⟩)
                  go_round
                  case rel => exact ⟨k + 1, by omega, by go_num, HA2⟩
                  case measure => simp [intOf]; omega
        · have HN : Hid (nameB s.data.toList = true) := nameB_yes H0.out (by rw [HL.out]; omega) (fun i hi => HA.out i (by rw [HL.out] at hi; omega))
          go_wp2
          go_ret
          exact ⟨by rw [HN.out]; rfl, rfl⟩
end Go.Proofs.YtcnecokamckfaaaGreatDoor
