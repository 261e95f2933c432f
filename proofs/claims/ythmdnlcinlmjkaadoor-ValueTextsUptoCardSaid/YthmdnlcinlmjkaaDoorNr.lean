/- Contracts of the document's own number and digits. -/
import Derived.Test.YthmdnlcinlmjkaaDoorAe
import Derived.Test.YthmdnlcinlmjkaaDoorNu
import Derived.Test.YthmdnlcinlmjkaaDoorRh
import Derived.Laws.Runes
namespace Go.Proofs.YthmdnlcinlmjkaaDoor
open Go Go.RowKit

theorem quo10 (d : Int) (h0 : 0 ≤ d) (h9 : d ≤ 9) : Int.tdiv (-9223372036854775808 + d) 10 = -((9223372036854775808 - d) / 10) := by
  have : d = 0 ∨ d = 1 ∨ d = 2 ∨ d = 3 ∨ d = 4 ∨ d = 5 ∨ d = 6 ∨ d = 7 ∨ d = 8 ∨ d = 9 := by omega
  rcases this with rfl | rfl | rfl | rfl | rfl | rfl | rfl | rfl | rfl | rfl <;> decide
def NumPost (s : ByteArray) (e : Ending) : Prop := ∃ (n : Int) (ok : Bool), e = .returned (.tuple #[.int .i64 n, .bool ok]) ∧ (-9223372036854775808 ≤ n ∧ n ≤ 9223372036854775807) ∧ ∀ n' : Int, (-9223372036854775808 ≤ n' ∧ n' ≤ 9223372036854775807) → s.data.toList = Lib.itoa n' → n = n' ∧ ok = true
theorem NumPost.no {s : ByteArray} (h : ∀ n' : Int, (-9223372036854775808 ≤ n' ∧ n' ≤ 9223372036854775807) → s.data.toList = Lib.itoa n' → False) : NumPost s (.returned (.tuple #[.int .i64 0, .bool false])) :=
  ⟨0, false, rfl, by omega, fun n' h1 h2 => absurd (h n' h1 h2) id⟩
theorem NumPost.yes {s : ByteArray} {n : Int} {ok : Bool} (hr : -9223372036854775808 ≤ n ∧ n ≤ 9223372036854775807) (h : ∀ n' : Int, (-9223372036854775808 ≤ n' ∧ n' ≤ 9223372036854775807) → s.data.toList = Lib.itoa n' → n = n' ∧ ok = true) : NumPost s (.returned (.tuple #[.int .i64 n, .bool ok])) :=
  ⟨n, ok, rfl, hr, h⟩
set_option maxHeartbeats 1600000 in
set_option maxRecDepth 100000 in
theorem r3number_any (s : ByteArray) (hmax : s.size ≤ 140737488355328) (w : World) :
    Calls Tryd.prog 14 #[.string s] w fun e w' => NumPost s e ∧ w = w' := by
  have hln : s.data.toList.length = s.size := (Lib.size_eq s).symm
  have HLN := Lib.hid hln
  clear hln
  by_cases hz : 0 < s.size
  · have h0l : 0 < s.data.toList.length := by rw [HLN.out]; exact hz
    have hs0 : (s.data.toList[0]'h0l) = (s[0]'hz) := rfl
    have hhead : ∀ n' : Int, s.data.toList = Lib.itoa n' → (n' < 0 → (s[0]'hz).toNat = 45 ∧ s.data.toList.drop 1 = Lib.decDigits n'.natAbs) ∧ (¬ n' < 0 → (s[0]'hz).toNat ≠ 45 ∧ s.data.toList = Lib.decDigits n'.toNat) := fun n' h => by
      refine ⟨fun hn => ?_, fun hn => ?_⟩
      · rw [itoa_neg hn] at h
        refine ⟨?_, by rw [h]; rfl⟩
        have : (s.data.toList[0]'h0l) = 45 := by simp only [h]; rfl
        rw [← hs0, this]; rfl
      · rw [itoa_pos hn] at h
        refine ⟨fun he => ?_, h⟩
        obtain ⟨c, r, e, a, b⟩ := dec_head n'.toNat
        have : (s.data.toList[0]'h0l) = c := by simp only [h, e]; rfl
        rw [← hs0, this] at he
        omega
    have HHD := Lib.hid hhead
    clear h0l hs0 hhead
    by_cases h45 : (s[0]'hz).toNat = 45
    · have bs : (((s[0]'hz).toNat : Int) == 45) = true := by simp; omega
      have HSG := Lib.hid (show ∀ n' : Int, (-9223372036854775808 ≤ n' ∧ n' ≤ 9223372036854775807) → s.data.toList = Lib.itoa n' → ∃ u : Nat, s.data.toList.drop 1 = Lib.decDigits u ∧ u ≤ 9223372036854775808 ∧ n' = -(u : Int) from fun n' h1 h2 => by
        by_cases hn : n' < 0
        · exact ⟨n'.natAbs, ((HHD.out n' h2).1 hn).2, by omega, by omega⟩
        · exact absurd h45 ((HHD.out n' h2).2 hn).1)
      clear h45
      go_enter Tryd.func14, Tryd.ntmps14
      go_wp2_with fail
      go_loop [4, 6] (fun nv kv => ∃ (k : Nat) (n : Int), 1 ≤ k ∧ k ≤ s.size ∧ kv = .int .i64 (k : Int) ∧ nv = .int .i64 n ∧ -9223372036854775808 ≤ n ∧ n ≤ 0 ∧ Hid (NumP s.data.toList 1 k n)) (fun _ kv => s.size - (intOf kv).toNat)
      case atStart => exact ⟨1, 0, Nat.le_refl _, by omega, rfl, rfl, by omega, by omega, Lib.hid (NumP.start _ _)⟩
      case round =>
        obtain ⟨k, n, hik, hks, rfl, rfl, hn0, hn1, HN⟩ := hrel
        by_cases hlt : k < s.size
        · have hkl : k < s.data.toList.length := by rw [HLN.out]; exact hlt
          have HKL := Lib.hid hkl
          have hc256 := ((s[k]'hlt)).toNat_lt
          clear hkl
          by_cases h48 : (s[k]'hlt).toNat < 48
          · have hi48 : ((s[k]'hlt).toNat : Int) < 48 := by omega
            have HNO := Lib.hid (show ∀ n' : Int, (-9223372036854775808 ≤ n' ∧ n' ≤ 9223372036854775807) → s.data.toList = Lib.itoa n' → False from fun n' h1 h2 => by
              obtain ⟨u, hu, _⟩ := HSG.out n' h1 h2
              exact numP_digit hik HKL.out (fun h => by have h1 : 48 ≤ (s[k]'hlt).toNat := h.1; have h2 : (s[k]'hlt).toNat ≤ 57 := h.2; omega) hu)
            go_wp2
            go_ret2
            exact ⟨.no (by first | exact HNO.out | exact fun n' h1 h2 => HNO.out n' h1.1 h1.2 h2 | exact fun n' h1 h2 => HNO.out n' h1 h2), rfl⟩
          · have hi48 : ¬ ((s[k]'hlt).toNat : Int) < 48 := by omega
            by_cases h57 : 57 < (s[k]'hlt).toNat
            · have hi57 : 57 < ((s[k]'hlt).toNat : Int) := by omega
              have HNO := Lib.hid (show ∀ n' : Int, (-9223372036854775808 ≤ n' ∧ n' ≤ 9223372036854775807) → s.data.toList = Lib.itoa n' → False from fun n' h1 h2 => by
                obtain ⟨u, hu, _⟩ := HSG.out n' h1 h2
                exact numP_digit hik HKL.out (fun h => by have h1 : 48 ≤ (s[k]'hlt).toNat := h.1; have h2 : (s[k]'hlt).toNat ≤ 57 := h.2; omega) hu)
              go_wp2
              go_ret2
              exact ⟨.no (by first | exact HNO.out | exact fun n' h1 h2 => HNO.out n' h1.1 h1.2 h2 | exact fun n' h1 h2 => HNO.out n' h1 h2), rfl⟩
            · have hi57 : ¬ 57 < ((s[k]'hlt).toNat : Int) := by omega
              have HST := Lib.hid (show NumP s.data.toList 1 (k + 1) (10 * n - (((s[k]'hlt).toNat : Int) - 48)) from HN.out.step hik HKL.out (show 48 ≤ (s[k]'hlt).toNat by omega))
              have HFT := Lib.hid (show ∀ u : Nat, s.data.toList.drop 1 = Lib.decDigits u → -(u : Int) ≤ 10 * n - (((s[k]'hlt).toNat : Int) - 48) from fun u hu => HN.out.fits hik HKL.out hu)
              have hd0 : 0 ≤ ((s[k]'hlt).toNat : Int) - 48 := by omega
              have hd9 : ((s[k]'hlt).toNat : Int) - 48 ≤ 9 := by omega
              have hq := quo10 (((s[k]'hlt).toNat : Int) - 48) hd0 hd9
              by_cases hov : n < -((9223372036854775808 - (((s[k]'hlt).toNat : Int) - 48)) / 10)
              · have HNO := Lib.hid (show ∀ n' : Int, (-9223372036854775808 ≤ n' ∧ n' ≤ 9223372036854775807) → s.data.toList = Lib.itoa n' → False from fun n' h1 h2 => by
                  obtain ⟨u, hu, hu2, _⟩ := HSG.out n' h1 h2
                  have := HFT.out u hu
                  omega)
                go_wp2
                go_ret2
                exact ⟨NumPost.no HNO.out, rfl⟩
              · go_wp2
                go_round
                case rel => exact ⟨k + 1, 10 * n - (((s[k]'hlt).toNat : Int) - 48), by omega, by omega, by go_num, rfl, by omega, by omega, HST⟩
                case measure => simp [intOf]; omega
        · obtain rfl : k = s.size := by omega
          have HDN := Lib.hid (show ∀ u : Nat, s.data.toList.drop 1 = Lib.decDigits u → n = -(u : Int) from fun u hu => NumP.done (by rw [HLN.out]; exact HN.out) hu)
          go_wp2
          go_ret2
          refine ⟨.yes ⟨hn0, by omega⟩ fun n' h1 h2 => ?_, rfl⟩
          obtain ⟨u, hu, hu2, hu3⟩ := HSG.out n' h1 h2
          refine ⟨by rw [hu3]; exact HDN.out u hu, ?_⟩
          have hl : (s.data.toList.drop 1).length ≠ 0 := by rw [hu]; have := dec_ne u; intro h; exact this (List.length_eq_zero_iff.1 h)
          rw [List.length_drop, HLN.out] at hl
          simp; omega
    · have bs : (((s[0]'hz).toNat : Int) == 45) = false := by simp; omega
      have HSG := Lib.hid (show ∀ n' : Int, (-9223372036854775808 ≤ n' ∧ n' ≤ 9223372036854775807) → s.data.toList = Lib.itoa n' → ∃ u : Nat, s.data.toList.drop 0 = Lib.decDigits u ∧ u ≤ 9223372036854775807 ∧ n' = (u : Int) from fun n' h1 h2 => by
        by_cases hn : n' < 0
        · exact absurd ((HHD.out n' h2).1 hn).1 h45
        · exact ⟨n'.toNat, ((HHD.out n' h2).2 hn).2, by omega, by omega⟩)
      clear h45
      go_enter Tryd.func14, Tryd.ntmps14
      go_wp2_with fail
      go_loop [4, 6] (fun nv kv => ∃ (k : Nat) (n : Int), 0 ≤ k ∧ k ≤ s.size ∧ kv = .int .i64 (k : Int) ∧ nv = .int .i64 n ∧ -9223372036854775808 ≤ n ∧ n ≤ 0 ∧ Hid (NumP s.data.toList 0 k n)) (fun _ kv => s.size - (intOf kv).toNat)
      case atStart => exact ⟨0, 0, Nat.le_refl _, by omega, rfl, rfl, by omega, by omega, Lib.hid (NumP.start _ _)⟩
      case round =>
        obtain ⟨k, n, hik, hks, rfl, rfl, hn0, hn1, HN⟩ := hrel
        by_cases hlt : k < s.size
        · have hkl : k < s.data.toList.length := by rw [HLN.out]; exact hlt
          have HKL := Lib.hid hkl
          have hc256 := ((s[k]'hlt)).toNat_lt
          clear hkl
          by_cases h48 : (s[k]'hlt).toNat < 48
          · have hi48 : ((s[k]'hlt).toNat : Int) < 48 := by omega
            have HNO := Lib.hid (show ∀ n' : Int, (-9223372036854775808 ≤ n' ∧ n' ≤ 9223372036854775807) → s.data.toList = Lib.itoa n' → False from fun n' h1 h2 => by
              obtain ⟨u, hu, _⟩ := HSG.out n' h1 h2
              exact numP_digit hik HKL.out (fun h => by have h1 : 48 ≤ (s[k]'hlt).toNat := h.1; have h2 : (s[k]'hlt).toNat ≤ 57 := h.2; omega) hu)
            go_wp2
            go_ret2
            exact ⟨.no (by first | exact HNO.out | exact fun n' h1 h2 => HNO.out n' h1.1 h1.2 h2 | exact fun n' h1 h2 => HNO.out n' h1 h2), rfl⟩
          · have hi48 : ¬ ((s[k]'hlt).toNat : Int) < 48 := by omega
            by_cases h57 : 57 < (s[k]'hlt).toNat
            · have hi57 : 57 < ((s[k]'hlt).toNat : Int) := by omega
              have HNO := Lib.hid (show ∀ n' : Int, (-9223372036854775808 ≤ n' ∧ n' ≤ 9223372036854775807) → s.data.toList = Lib.itoa n' → False from fun n' h1 h2 => by
                obtain ⟨u, hu, _⟩ := HSG.out n' h1 h2
                exact numP_digit hik HKL.out (fun h => by have h1 : 48 ≤ (s[k]'hlt).toNat := h.1; have h2 : (s[k]'hlt).toNat ≤ 57 := h.2; omega) hu)
              go_wp2
              go_ret2
              exact ⟨.no (by first | exact HNO.out | exact fun n' h1 h2 => HNO.out n' h1.1 h1.2 h2 | exact fun n' h1 h2 => HNO.out n' h1 h2), rfl⟩
            · have hi57 : ¬ 57 < ((s[k]'hlt).toNat : Int) := by omega
              have HST := Lib.hid (show NumP s.data.toList 0 (k + 1) (10 * n - (((s[k]'hlt).toNat : Int) - 48)) from HN.out.step hik HKL.out (show 48 ≤ (s[k]'hlt).toNat by omega))
              have HFT := Lib.hid (show ∀ u : Nat, s.data.toList.drop 0 = Lib.decDigits u → -(u : Int) ≤ 10 * n - (((s[k]'hlt).toNat : Int) - 48) from fun u hu => HN.out.fits hik HKL.out hu)
              have hd0 : 0 ≤ ((s[k]'hlt).toNat : Int) - 48 := by omega
              have hd9 : ((s[k]'hlt).toNat : Int) - 48 ≤ 9 := by omega
              have hq := quo10 (((s[k]'hlt).toNat : Int) - 48) hd0 hd9
              by_cases hov : n < -((9223372036854775808 - (((s[k]'hlt).toNat : Int) - 48)) / 10)
              · have HNO := Lib.hid (show ∀ n' : Int, (-9223372036854775808 ≤ n' ∧ n' ≤ 9223372036854775807) → s.data.toList = Lib.itoa n' → False from fun n' h1 h2 => by
                  obtain ⟨u, hu, hu2, _⟩ := HSG.out n' h1 h2
                  have := HFT.out u hu
                  omega)
                go_wp2
                go_ret2
                exact ⟨NumPost.no HNO.out, rfl⟩
              · go_wp2
                go_round
                case rel => exact ⟨k + 1, 10 * n - (((s[k]'hlt).toNat : Int) - 48), by omega, by omega, by go_num, rfl, by omega, by omega, HST⟩
                case measure => simp [intOf]; omega
        · obtain rfl : k = s.size := by omega
          have HDN := Lib.hid (show ∀ u : Nat, s.data.toList.drop 0 = Lib.decDigits u → n = -(u : Int) from fun u hu => NumP.done (by rw [HLN.out]; exact HN.out) hu)
          by_cases hmin : n = -9223372036854775808
          · have bm : (n == -9223372036854775808) = true := by simp [hmin]
            have HMIN := Lib.hid hmin
            clear hmin
            go_wp2
            go_ret2
            refine ⟨.no fun n' h1 h2 => ?_, rfl⟩
            obtain ⟨u, hu, hu2, hu3⟩ := HSG.out n' h1 h2
            have := HDN.out u hu
            have := HMIN.out
            omega
          · have bm : (n == -9223372036854775808) = false := by simp [hmin]
            have HMIN := Lib.hid hmin
            clear hmin
            go_wp2
            go_ret2
            have hw : wrap64 (-n) = -n := by have := HMIN.out; unfold wrap64; omega
            rw [hw]
            refine ⟨.yes ⟨by omega, by have := HMIN.out; omega⟩ fun n' h1 h2 => ?_, rfl⟩
            obtain ⟨u, hu, hu2, hu3⟩ := HSG.out n' h1 h2
            have := HDN.out u hu
            exact ⟨by omega, by simp <;> omega⟩
  · have h0 : s.size = 0 := by omega
    have hz0 : ¬ (0 : Int) < (s.size : Int) := by omega
    have HE := Lib.hid (show ∀ n' : Int, s.data.toList = Lib.itoa n' → False from fun n' h => by
      have hl := HLN.out
      rw [h0, h] at hl
      obtain ⟨c, r, e, _⟩ := itoa_head n'
      rw [e] at hl; simp at hl)
    go_enter Tryd.func14, Tryd.ntmps14
    go_wp2_with fail
    go_loop [4, 6] (fun nv kv => nv = .int .i64 0 ∧ kv = .int .i64 0) (fun _ _ => 0)
    case atStart => exact ⟨rfl, rfl⟩
    case round =>
      obtain ⟨rfl, rfl⟩ := hrel
      go_wp2
      go_ret2
      exact ⟨.yes (by omega) fun n' h1 h2 => absurd (HE.out n' h2) id, rfl⟩

theorem enc10 : ∀ d : Fin 10, Utf8.encode (48 + (d.val : Int)) = ⟨#[UInt8.ofNat (48 + d.val)]⟩ := by decide
theorem enc_digit (u : Nat) : Utf8.encode (48 + (u : Int) % 10) = ⟨#[UInt8.ofNat (48 + u % 10)]⟩ := by
  have := enc10 ⟨u % 10, by omega⟩
  simpa using this
theorem ba_append_data (a b : ByteArray) : (a ++ b).data.toList = a.data.toList ++ b.data.toList := by simp

def szOf : Value → Nat
  | .string s => s.size
  | _ => 0

theorem size_of_list (s : ByteArray) : s.size = s.data.toList.length := by simp
theorem nDig (u : Nat) (h : u ≤ 9223372036854775808) : (Lib.decDigits u).length ≤ 20 := by
  have key : ∀ k u, u < 10 ^ (k + 1) → (Lib.decDigits u).length ≤ k + 1 := by
    intro k
    induction k with
    | zero => intro u hu; rw [dec_lt (by omega)]; simp
    | succ k ih =>
      intro u hu
      by_cases h : u < 10
      · rw [dec_lt h]; simp
      · rw [dec_ge h, List.length_append]
        have := ih (u / 10) (by rw [Nat.pow_succ] at hu; omega)
        simp; omega
  exact key 19 u (by omega)

theorem enc48 : Utf8.encode 48 = ⟨#[48]⟩ := by decide
theorem digRel0 {U : Nat} (h : Hid (DigP U (0 / 10) (UInt8.ofNat (48 + 0 % 10) :: ([] : List UInt8)))) :
    ∃ (u : Nat) (t : ByteArray), Value.int .u64 0 = Value.int .u64 (u : Int) ∧ Value.string (Utf8.encode 48 ++ ⟨#[]⟩) = Value.string t ∧ Hid (u ≤ 9223372036854775808) ∧ Hid (t.size ≤ 20) ∧ Hid (DigP U u t.data.toList) := by
  refine ⟨0, _, rfl, rfl, Lib.hid (by omega), ?_, ?_⟩ <;> rw [enc48]
  · exact Lib.hid (by decide)
  · exact h
theorem digMeas0 : (intOf (Value.int .u64 0)).toNat + (1 - szOf (Value.string (Utf8.encode 48 ++ ⟨#[]⟩))) < (intOf (Value.int .u64 ((0 : Nat) : Int))).toNat + (1 - szOf (Value.string ⟨#[]⟩)) := by
  rw [enc48]; decide

theorem digRel {U u : Nat} {t : ByteArray} (hu : Hid (u ≤ 9223372036854775808)) (hl : Hid ((Lib.decDigits U).length ≤ 20)) (h : Hid (DigP U (u / 10) (UInt8.ofNat (48 + u % 10) :: t.data.toList))) :
    ∃ (u' : Nat) (t' : ByteArray), Value.int .u64 (IntKind.u64.wrap ((u : Int) / 10)) = Value.int .u64 (u' : Int) ∧ Value.string (Utf8.encode (48 + (u : Int) % 10) ++ t) = Value.string t' ∧ Hid (u' ≤ 9223372036854775808) ∧ Hid (t'.size ≤ 20) ∧ Hid (DigP U u' t'.data.toList) := by
  have hu := hu.out
  have e : ((Utf8.encode (48 + (u : Int) % 10)) ++ t).data.toList = UInt8.ofNat (48 + u % 10) :: t.data.toList := by
    rw [enc_digit, ba_append_data]; rfl
  refine ⟨u / 10, _, ?_, rfl, Lib.hid (by omega), Lib.hid ?_, ?_⟩
  · have hm : ((u : Int) / 10) % 18446744073709551616 = ((u / 10 : Nat) : Int) := by omega
    rw [IntKind.wrap_u64]; exact congrArg _ hm
  · rw [size_of_list, e]; exact Nat.le_trans h.out.le hl.out
  · rw [e]; exact h
theorem dig_size (t : ByteArray) (c : UInt8) : (⟨#[c]⟩ ++ t : ByteArray).size = t.size + 1 := by
  rw [ByteArray.size_append]; show 1 + t.size = _; omega
theorem enc_size (u : Nat) : (Utf8.encode (48 + (u : Int) % 10)).size = 1 := by rw [enc_digit]; rfl
theorem digMeas {u : Nat} {t : ByteArray} (hg : Hid (0 < u)) (hu : Hid (u ≤ 9223372036854775808)) :
    (intOf (Value.int .u64 (IntKind.u64.wrap ((u : Int) / 10)))).toNat + (1 - szOf (Value.string (Utf8.encode (48 + (u : Int) % 10) ++ t))) < (intOf (Value.int .u64 (u : Int))).toNat + (1 - szOf (Value.string t)) := by
  have hg := hg.out
  have hu := hu.out
  have e : szOf (Value.string ((Utf8.encode (48 + (u : Int) % 10)) ++ t)) = t.size + 1 := by
    rw [enc_digit]; exact dig_size t _
  have hm : ((u : Int) / 10) % 18446744073709551616 = ((u / 10 : Nat) : Int) := by omega
  rw [e, IntKind.wrap_u64, hm]
  show (((u / 10 : Nat) : Int)).toNat + _ < (u : Int).toNat + _
  omega
theorem digNeg {n : Int} {U : Nat} {t : ByteArray} (hn : n < 0) (hU : U = n.natAbs) (h : t.data.toList = Lib.decDigits U) : Ending.returned (.string (⟨#[45]⟩ ++ t)) = .returned (.string ⟨(Lib.itoa n).toArray⟩) := by
  have e : (⟨#[45]⟩ ++ t : ByteArray) = ⟨(Lib.itoa n).toArray⟩ := ba_ext2 (by rw [Lib.toList_data, Lib.toList_data, ba_append_data, h, hU, itoa_neg hn]; rfl)
  rw [e]
theorem digPos {n : Int} {U : Nat} {t : ByteArray} (hn : 0 ≤ n) (hU : U = n.toNat) (h : t.data.toList = Lib.decDigits U) : Ending.returned (.string t) = .returned (.string ⟨(Lib.itoa n).toArray⟩) := by
  have e : t = ⟨(Lib.itoa n).toArray⟩ := ba_ext2 (by rw [Lib.toList_data, Lib.toList_data, h, hU, itoa_pos (by omega)])
  rw [e]

set_option maxHeartbeats 1600000 in
set_option maxRecDepth 100000 in
theorem r3digits_any (n : Int) (h0 : -9223372036854775808 ≤ n) (h1 : n ≤ 9223372036854775807) (w : World) :
    Calls Tryd.prog 20 #[.int .i64 n] w fun e w' => e = .returned (.string ⟨(Lib.itoa n).toArray⟩) ∧ w = w' := by
  by_cases hn : n < 0
  · have hconv : IntKind.u64.wrap (-IntKind.u64.wrap n) = ((n.natAbs : Nat) : Int) := by rw [IntKind.wrap_u64, IntKind.wrap_u64]; omega
    obtain ⟨U, hU⟩ : ∃ U : Nat, U = n.natAbs := ⟨_, rfl⟩
    have HU64 := Lib.hid (show U ≤ 9223372036854775808 by omega)
    have HLEN := Lib.hid (nDig U HU64.out)
    go_enter Tryd.func20, Tryd.ntmps20
    go_wp2_with fail
    try rw [hconv]
    rw [← hU]
    clear hconv
    have HU := Lib.hid hU
    have H0 := Lib.hid h0
    have H1 := Lib.hid h1
    clear hU h0 h1
    go_loop [3, 4] (fun uv sv => ∃ (u : Nat) (t : ByteArray), uv = .int .u64 (u : Int) ∧ sv = .string t ∧ Hid (u ≤ 9223372036854775808) ∧ Hid (t.size ≤ 20) ∧ Hid (DigP U u t.data.toList)) (fun uv sv => (intOf uv).toNat + (1 - szOf sv))
    case atStart => exact ⟨U, ⟨#[]⟩, rfl, rfl, HU64, Lib.hid (by decide), Lib.hid (DigP.start U)⟩
    case round =>
      obtain ⟨u, t, rfl, rfl, HUU, HT, HD⟩ := hrel
      have hsz : t.size < 9223372036854775807 := by have := HT.out; omega
      by_cases hu0 : 0 < u
      · have hgt : (0 : Int) < (u : Int) := by omega
        have HST := Lib.hid (HD.out.step (.inl hu0))
        have HGT := Lib.hid hu0
        clear hu0
        go_wp2_with fail
        all_goals first | exact ⟨digRel HUU HLEN HST, digMeas HGT HUU⟩ | (exfalso; have hez := enc_size u; omega)
      · obtain rfl : u = 0 := by omega
        by_cases hte : t.data.toList = []
        · obtain rfl : t = ⟨#[]⟩ := ba_ext2 (by rw [Lib.toList_data, Lib.toList_data]; exact hte)
          have HST := Lib.hid (HD.out.step (.inr rfl))
          go_wp2_with fail
          go_round
          case rel => exact digRel0 HST
          case measure => exact digMeas0
        · have htn : (t.toList == ([] : List UInt8)) = false := by
            rw [Lib.toList_data]; cases h : t.data.toList with
            | nil => exact absurd h hte
            | cons a b => rfl
          have HDN := Lib.hid (HD.out.done rfl hte)
          clear hte
          go_wp2_with fail
          go_ret
          exact ⟨digNeg hn HU.out HDN.out, rfl⟩
  · have HCONV := Lib.hid (show n = ((n.toNat : Nat) : Int) by omega)
    obtain ⟨U, hU⟩ : ∃ U : Nat, U = n.toNat := ⟨_, rfl⟩
    have HU64 := Lib.hid (show U ≤ 9223372036854775808 by omega)
    have HLEN := Lib.hid (nDig U HU64.out)
    go_enter Tryd.func20, Tryd.ntmps20
    go_wp2_with fail
    rw [show Value.int IntKind.u64 n = Value.int IntKind.u64 (U : Int) by rw [hU]; exact congrArg _ HCONV.out]
    have HU := Lib.hid hU
    have H0 := Lib.hid h0
    have H1 := Lib.hid h1
    clear hU h0 h1
    go_loop [3, 4] (fun uv sv => ∃ (u : Nat) (t : ByteArray), uv = .int .u64 (u : Int) ∧ sv = .string t ∧ Hid (u ≤ 9223372036854775808) ∧ Hid (t.size ≤ 20) ∧ Hid (DigP U u t.data.toList)) (fun uv sv => (intOf uv).toNat + (1 - szOf sv))
    case atStart => exact ⟨U, ⟨#[]⟩, rfl, rfl, HU64, Lib.hid (by decide), Lib.hid (DigP.start U)⟩
    case round =>
      obtain ⟨u, t, rfl, rfl, HUU, HT, HD⟩ := hrel
      have hsz : t.size < 9223372036854775807 := by have := HT.out; omega
      by_cases hu0 : 0 < u
      · have hgt : (0 : Int) < (u : Int) := by omega
        have HST := Lib.hid (HD.out.step (.inl hu0))
        have HGT := Lib.hid hu0
        clear hu0
        go_wp2_with fail
        all_goals first | exact ⟨digRel HUU HLEN HST, digMeas HGT HUU⟩ | (exfalso; have hez := enc_size u; omega)
      · obtain rfl : u = 0 := by omega
        by_cases hte : t.data.toList = []
        · obtain rfl : t = ⟨#[]⟩ := ba_ext2 (by rw [Lib.toList_data, Lib.toList_data]; exact hte)
          have HST := Lib.hid (HD.out.step (.inr rfl))
          go_wp2_with fail
          go_round
          case rel => exact digRel0 HST
          case measure => exact digMeas0
        · have htn : (t.toList == ([] : List UInt8)) = false := by
            rw [Lib.toList_data]; cases h : t.data.toList with
            | nil => exact absurd h hte
            | cons a b => rfl
          have HDN := Lib.hid (HD.out.done rfl hte)
          clear hte
          go_wp2_with fail
          go_ret
          exact ⟨digPos hn HU.out HDN.out, rfl⟩
end Go.Proofs.YthmdnlcinlmjkaaDoor
