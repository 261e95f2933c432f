/- Contracts of the program's Symbol, symbol, run, quoted and outline. -/
import Derived.Test.YtdmdakkibgjffaaDoorLb
namespace Go.Proofs.YtdmdakkibgjffaaDoor
open Go Go.RowKit

theorem symB_def (l : List UInt8) : symB l = (l == [40] || (l == [41] || (l == [91] || (l == [93] || (l == [44] || (l == [46] || (l == [59] || (l == [38] || (l == [124] || (l == [58] || (l == [61] || (l == [33, 61] || (l == [60] || (l == [60, 61] || (l == [62] || (l == [62, 61] || false)))))))))))))))) := rfl
theorem swB (b : Bool) : b = true ∨ b = false := by cases b <;> simp
set_option maxRecDepth 100000 in
set_option maxHeartbeats 1000000 in
theorem lSymbol_any (s : ByteArray) (w : World) :
    Calls Tryd.prog 16 #[.string s] w fun e w' => e = .returned (.bool (symB s.data.toList)) ∧ w = w' := by
  have HD := Lib.hid (symB_def s.data.toList)
  rw [← Lib.toList_data] at HD ⊢
  go_enter Tryd.func16, Tryd.ntmps16
  rcases swB (s.toList == [40]) with h1 | h1
  · simp only [h1, Bool.true_or, Bool.or_false] at HD
    go_wp2
    go_ret
    exact ⟨by rw [HD.out]; rfl, rfl⟩
  rcases swB (s.toList == [41]) with h2 | h2
  · simp only [h1, h2, Bool.or_true, Bool.true_or, Bool.or_false] at HD
    go_wp2
    go_ret
    exact ⟨by rw [HD.out]; rfl, rfl⟩
  rcases swB (s.toList == [91]) with h3 | h3
  · simp only [h1, h2, h3, Bool.or_true, Bool.true_or, Bool.or_false] at HD
    go_wp2
    go_ret
    exact ⟨by rw [HD.out]; rfl, rfl⟩
  rcases swB (s.toList == [93]) with h4 | h4
  · simp only [h1, h2, h3, h4, Bool.or_true, Bool.true_or, Bool.or_false] at HD
    go_wp2
    go_ret
    exact ⟨by rw [HD.out]; rfl, rfl⟩
  rcases swB (s.toList == [44]) with h5 | h5
  · simp only [h1, h2, h3, h4, h5, Bool.or_true, Bool.true_or, Bool.or_false] at HD
    go_wp2
    go_ret
    exact ⟨by rw [HD.out]; rfl, rfl⟩
  rcases swB (s.toList == [46]) with h6 | h6
  · simp only [h1, h2, h3, h4, h5, h6, Bool.or_true, Bool.true_or, Bool.or_false] at HD
    go_wp2
    go_ret
    exact ⟨by rw [HD.out]; rfl, rfl⟩
  rcases swB (s.toList == [59]) with h7 | h7
  · simp only [h1, h2, h3, h4, h5, h6, h7, Bool.or_true, Bool.true_or, Bool.or_false] at HD
    go_wp2
    go_ret
    exact ⟨by rw [HD.out]; rfl, rfl⟩
  rcases swB (s.toList == [38]) with h8 | h8
  · simp only [h1, h2, h3, h4, h5, h6, h7, h8, Bool.or_true, Bool.true_or, Bool.or_false] at HD
    go_wp2
    go_ret
    exact ⟨by rw [HD.out]; rfl, rfl⟩
  rcases swB (s.toList == [124]) with h9 | h9
  · simp only [h1, h2, h3, h4, h5, h6, h7, h8, h9, Bool.or_true, Bool.true_or, Bool.or_false] at HD
    go_wp2
    go_ret
    exact ⟨by rw [HD.out]; rfl, rfl⟩
  rcases swB (s.toList == [58]) with h10 | h10
  · simp only [h1, h2, h3, h4, h5, h6, h7, h8, h9, h10, Bool.or_true, Bool.true_or, Bool.or_false] at HD
    go_wp2
    go_ret
    exact ⟨by rw [HD.out]; rfl, rfl⟩
  rcases swB (s.toList == [61]) with h11 | h11
  · simp only [h1, h2, h3, h4, h5, h6, h7, h8, h9, h10, h11, Bool.or_true, Bool.true_or, Bool.or_false] at HD
    go_wp2
    go_ret
    exact ⟨by rw [HD.out]; rfl, rfl⟩
  rcases swB (s.toList == [33, 61]) with h12 | h12
  · simp only [h1, h2, h3, h4, h5, h6, h7, h8, h9, h10, h11, h12, Bool.or_true, Bool.true_or, Bool.or_false] at HD
    go_wp2
    go_ret
    exact ⟨by rw [HD.out]; rfl, rfl⟩
  rcases swB (s.toList == [60]) with h13 | h13
  · simp only [h1, h2, h3, h4, h5, h6, h7, h8, h9, h10, h11, h12, h13, Bool.or_true, Bool.true_or, Bool.or_false] at HD
    go_wp2
    go_ret
    exact ⟨by rw [HD.out]; rfl, rfl⟩
  rcases swB (s.toList == [60, 61]) with h14 | h14
  · simp only [h1, h2, h3, h4, h5, h6, h7, h8, h9, h10, h11, h12, h13, h14, Bool.or_true, Bool.true_or, Bool.or_false] at HD
    go_wp2
    go_ret
    exact ⟨by rw [HD.out]; rfl, rfl⟩
  rcases swB (s.toList == [62]) with h15 | h15
  · simp only [h1, h2, h3, h4, h5, h6, h7, h8, h9, h10, h11, h12, h13, h14, h15, Bool.or_true, Bool.true_or, Bool.or_false] at HD
    go_wp2
    go_ret
    exact ⟨by rw [HD.out]; rfl, rfl⟩
  rcases swB (s.toList == [62, 61]) with h16 | h16
  · simp only [h1, h2, h3, h4, h5, h6, h7, h8, h9, h10, h11, h12, h13, h14, h15, h16, Bool.or_true, Bool.or_false] at HD
    go_wp2
    go_ret
    exact ⟨by rw [HD.out]; rfl, rfl⟩
  simp only [h1, h2, h3, h4, h5, h6, h7, h8, h9, h10, h11, h12, h13, h14, h15, h16, Bool.or_false] at HD
  go_wp2
  go_ret
  exact ⟨by rw [HD.out]; rfl, rfl⟩

def symN : List UInt8 → Nat
  | c :: d :: _ => if symB [c, d] then 2 else 1
  | _ => 1
def quoN (l : List UInt8) : Nat := match clo (l.drop 1) with | some n => 1 + n | none => l.length
theorem clo_92 (r : List UInt8) : clo (92 :: r) = (clo (r.drop 1)).map (· + 2) := by
  cases r with
  | nil => rfl
  | cons d r => exact clo_slash d r
def cloE (n k : Nat) (l : List UInt8) : Nat := match clo l with | some m => k + m | none => n
theorem cloE_34 (n k : Nat) (r : List UInt8) : cloE n k (34 :: r) = k + 1 := by unfold cloE; rw [clo_quote]
theorem cloE_92 (n k : Nat) (r : List UInt8) : cloE n k (92 :: r) = cloE n (k + 2) (r.drop 1) := by
  unfold cloE; rw [clo_92]; cases clo (r.drop 1) <;> simp <;> omega
theorem cloE_no (n k : Nat) (c : UInt8) (r : List UInt8) (h : c ≠ 34) (h2 : c ≠ 92) : cloE n k (c :: r) = cloE n (k + 1) r := by
  unfold cloE; rw [clo_cons _ _ h h2]; cases clo r <;> simp <;> omega
theorem cloE_nil (n k : Nat) : cloE n k [] = n := rfl
theorem quoN_E (l : List UInt8) : quoN l = cloE l.length 1 (l.drop 1) := rfl

set_option maxRecDepth 100000 in
set_option maxHeartbeats 1000000 in
theorem lQuoted_any (s : ByteArray) (hs : s.size ≤ 140737488355328) (w : World) :
    Calls Tryd.prog 49 #[.string s] w fun e w' => e = .returned (.int .i64 (quoN s.data.toList : Nat)) ∧ w = w' := by
  have HT := Lib.hid (quoN_E s.data.toList)
  rw [← Lib.size_eq] at HT
  generalize hT : cloE s.size 1 (s.data.toList.drop 1) = T at HT
  have HK0 := Lib.hid hT
  clear hT
  go_enter Tryd.func49, Tryd.ntmps49
  go_wp2_with fail
  go_loop [3] (fun v => ∃ k : Nat, 1 ≤ k ∧ k ≤ s.size + 1 ∧ v = .int .i64 k ∧ Hid (cloE s.size k (s.data.toList.drop k) = T)) (fun v => s.size + 1 - (intOf v).toNat)
  case atStart => exact ⟨1, Nat.le_refl _, by omega, rfl, HK0⟩
  case round =>
    obtain ⟨k, h1, hk, rfl, HK⟩ := hrel
    by_cases hlt : k < s.size
    · have hat := list_at s k hlt
      have e : ∀ d : UInt8, (((s[k]'hlt).toNat : Int) == (d.toNat : Int)) = ((s[k]'hlt) == d) := fun d => by
        rw [Bool.eq_iff_iff]; simp only [beq_iff_eq]
        exact ⟨fun h => UInt8.toNat_inj.1 (by omega), fun h => by rw [h]⟩
      have e1 := e 92; have e2 := e 34
      simp only [show ((92 : UInt8).toNat : Int) = 92 from rfl, show ((34 : UInt8).toNat : Int) = 34 from rfl] at e1 e2
      clear e
      by_cases hc : (s[k]'hlt) = 92
      · have HK2 : Hid (cloE s.size (k + 2) (s.data.toList.drop (k + 2)) = T) := by have h := HK.out; rw [hat, hc, cloE_92, List.drop_drop] at h; exact h
        rw [hc] at e1
        have b1 : (((s[k]'hlt).toNat : Int) == 92) = true := by rw [hc]; rfl
        clear hat e1 e2 hc HK
        go_wp2
        go_round
        case rel => exact ⟨k + 2, by omega, by omega, by go_num, HK2⟩
        case measure => simp [intOf]; omega
      · have b1 : (((s[k]'hlt).toNat : Int) == 92) = false := by rw [e1]; simpa using hc
        by_cases hd : (s[k]'hlt) = 34
        · have HT2 : Hid (T = k + 1) := by have h := HK.out; rw [hat, hd, cloE_34] at h; exact h.symm
          have b2 : (((s[k]'hlt).toNat : Int) == 34) = true := by rw [hd]; rfl
          clear hat e1 e2 hc hd HK
          go_wp2
          go_ret
          exact ⟨by rw [HT.out, HT2.out]; go_num, rfl⟩
        · have HK2 : Hid (cloE s.size (k + 1) (s.data.toList.drop (k + 1)) = T) := by have h := HK.out; rw [hat, cloE_no _ _ _ _ hd hc] at h; exact h
          have b2 : (((s[k]'hlt).toNat : Int) == 34) = false := by rw [e2]; simpa using hd
          clear hat e1 e2 hc hd HK
          go_wp2
          go_round
          case rel => exact ⟨k + 1, by omega, by omega, by go_num, HK2⟩
          case measure => simp [intOf]; omega
    · have HT2 : Hid (T = s.size) := by have h := HK.out; rw [list_end s k (by omega), cloE_nil] at h; exact h.symm
      go_wp2
      go_ret
      exact ⟨by rw [HT.out, HT2.out]; rfl, rfl⟩

set_option maxRecDepth 100000 in
set_option maxHeartbeats 1000000 in
theorem lSym1_any (s : ByteArray) (hs : s.size ≤ 140737488355328) (w : World) :
    Calls Tryd.prog 50 #[.string s] w fun e w' => e = .returned (.int .i64 (symN s.data.toList : Nat)) ∧ w = w' := by
  by_cases h2 : 2 ≤ s.size
  · have hl : s.data.toList = s[0]'(by omega) :: s[1]'(by omega) :: s.data.toList.drop 2 := by
      have a := list_at s 0 (by omega); have b := list_at s 1 (by omega)
      rw [List.drop_zero] at a; rw [b] at a; exact a
    have hx : (s.extract 0 2).data.toList = [s[0]'(by omega), s[1]'(by omega)] := by
      rw [← Lib.toList_data, Lib.extract_toList, List.drop_zero, hl]; rfl
    have HC := fun w => lSymbol_any (s.extract 0 2) w
    rw [hx] at HC
    rw [hl]
    simp only [symN]
    clear hl hx
    cases hb : symB [s[0]'(by omega), s[1]'(by omega)]
    · rw [hb] at HC
      go_enter Tryd.func50, Tryd.ntmps50
      go_wp2_with (go_at_call 16; (with_reducible refine (HC _).mono ?_); rintro e w' ⟨rfl, rfl⟩)
      go_ret
      exact ⟨rfl, rfl⟩
    · rw [hb] at HC
      go_enter Tryd.func50, Tryd.ntmps50
      go_wp2_with (go_at_call 16; (with_reducible refine (HC _).mono ?_); rintro e w' ⟨rfl, rfl⟩)
      go_ret
      exact ⟨rfl, rfl⟩
  · have hx : symN s.data.toList = 1 := by
      have : s.data.toList.length < 2 := by rw [← Lib.size_eq]; omega
      match h : s.data.toList, this with
      | [], _ => rfl
      | [c], _ => rfl
    rw [hx]
    clear hx
    go_enter Tryd.func50, Tryd.ntmps50
    go_wp2
    go_ret
    exact ⟨rfl, rfl⟩
end Go.Proofs.YtdmdakkibgjffaaDoor
