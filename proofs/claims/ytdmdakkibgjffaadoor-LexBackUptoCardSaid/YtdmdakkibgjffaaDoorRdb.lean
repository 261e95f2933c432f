/- Contracts of the document's blank, Blank, Symbol, letter, digit, run and closes. -/
import Derived.Test.YtdmdakkibgjffaaDoorLu
namespace Go.Proofs.YtdmdakkibgjffaaDoor
open Go Go.RowKit

theorem r5letter_any (c : UInt8) (w : World) : Calls Tryd.prog 30 #[.int .u8 (c.toNat : Int)] w fun e w' => e = .returned (.bool (letB c)) ∧ w = w' := by
  have hd : letB c = ((decide (97 ≤ c.toNat) && decide (c.toNat ≤ 122)) || (decide (65 ≤ c.toNat) && decide (c.toNat ≤ 90)) || decide (c.toNat = 95)) := rfl
  generalize c.toNat = n at hd ⊢
  have hw : n < 65 ∨ (65 ≤ n ∧ n ≤ 90) ∨ (90 < n ∧ n < 95) ∨ n = 95 ∨ (95 < n ∧ n < 97) ∨ (97 ≤ n ∧ n ≤ 122) ∨ 122 < n := by omega
  rcases hw with h | ⟨h, h2⟩ | ⟨h, h2⟩ | rfl | ⟨h, h2⟩ | ⟨h, h2⟩ | h
  · rw [show letB c = false by rw [hd]; simp; omega]
    clear hd
    have b : ((n : Int) == 95) = false := by simp; omega
    go_enter Tryd.func30, Tryd.ntmps30
    go_wp2
    go_ret
    first | exact ⟨rfl, rfl⟩ | exact ⟨by simp; omega, rfl⟩
  · rw [show letB c = true by rw [hd]; simp; omega]
    clear hd
    have b : ((n : Int) == 95) = false := by simp; omega
    go_enter Tryd.func30, Tryd.ntmps30
    go_wp2
    go_ret
    first | exact ⟨rfl, rfl⟩ | exact ⟨by simp; omega, rfl⟩
  · rw [show letB c = false by rw [hd]; simp; omega]
    clear hd
    have b : ((n : Int) == 95) = false := by simp; omega
    go_enter Tryd.func30, Tryd.ntmps30
    go_wp2
    go_ret
    first | exact ⟨rfl, rfl⟩ | exact ⟨by simp; omega, rfl⟩
  · rw [show letB c = true by rw [hd]; rfl]
    clear hd
    go_enter Tryd.func30, Tryd.ntmps30
    go_wp2
    go_ret
    first | exact ⟨rfl, rfl⟩ | exact ⟨by simp; omega, rfl⟩
  · rw [show letB c = false by rw [hd]; simp; omega]
    clear hd
    have b : ((n : Int) == 95) = false := by simp; omega
    go_enter Tryd.func30, Tryd.ntmps30
    go_wp2
    go_ret
    first | exact ⟨rfl, rfl⟩ | exact ⟨by simp; omega, rfl⟩
  · rw [show letB c = true by rw [hd]; simp; omega]
    clear hd
    have b : ((n : Int) == 95) = false := by simp; omega
    go_enter Tryd.func30, Tryd.ntmps30
    go_wp2
    go_ret
    first | exact ⟨rfl, rfl⟩ | exact ⟨by simp; omega, rfl⟩
  · rw [show letB c = false by rw [hd]; simp; omega]
    clear hd
    have b : ((n : Int) == 95) = false := by simp; omega
    go_enter Tryd.func30, Tryd.ntmps30
    go_wp2
    go_ret
    first | exact ⟨rfl, rfl⟩ | exact ⟨by simp; omega, rfl⟩

set_option maxHeartbeats 1000000 in

theorem r5digit_any (c : UInt8) (w : World) : Calls Tryd.prog 33 #[.int .u8 (c.toNat : Int)] w fun e w' => e = .returned (.bool (digB c)) ∧ w = w' := by
  have hd : digB c = (decide (48 ≤ c.toNat) && decide (c.toNat ≤ 57)) := rfl
  generalize c.toNat = n at hd ⊢
  by_cases h0 : 48 ≤ n
  · by_cases h1 : n ≤ 57
    · have hr : digB c = true := by rw [hd]; simp [h0, h1]
      rw [hr]; clear hd hr
      go_enter Tryd.func33, Tryd.ntmps33
      go_wp2
      go_ret
      exact ⟨by first | rfl | (simp; omega), rfl⟩
    · have hr : digB c = false := by rw [hd]; simp [h0, h1]
      rw [hr]; clear hd hr
      go_enter Tryd.func33, Tryd.ntmps33
      go_wp2
      go_ret
      exact ⟨by first | rfl | (simp; omega), rfl⟩
  · have hr : digB c = false := by rw [hd]; simp [h0]
    rw [hr]; clear hd hr
    go_enter Tryd.func33, Tryd.ntmps33
    go_wp2
    go_ret
    exact ⟨by first | rfl | (simp; omega), rfl⟩
theorem r5blank_any (c : UInt8) (w : World) : Calls Tryd.prog 27 #[.int .u8 (c.toNat : Int)] w fun e w' => e = .returned (.bool (blB c)) ∧ w = w' := by
  rcases bl_ways c with ⟨hw, hb⟩ | ⟨b1, b2, b3, b4, _, hb, _⟩ | ⟨b1, b2, b3, b4, _, hb, _⟩
  · rw [hb]
    clear hb
    rcases hw with b1 | ⟨b1, b2⟩ | ⟨b1, b2, b3⟩ | ⟨b1, b2, b3, b4⟩
    all_goals go_enter Tryd.func27, Tryd.ntmps27
    all_goals go_wp2
    all_goals go_ret
    all_goals exact ⟨rfl, rfl⟩
  · rw [hb]
    clear hb
    go_enter Tryd.func27, Tryd.ntmps27
    go_wp2
    go_ret
    exact ⟨rfl, rfl⟩
  · rw [hb]
    clear hb
    go_enter Tryd.func27, Tryd.ntmps27
    go_wp2
    go_ret
    exact ⟨rfl, rfl⟩

set_option maxRecDepth 100000 in
set_option maxHeartbeats 1000000 in
theorem r5Blank_any (s : ByteArray) (hs : s.size ≤ 140737488355328) (i : Int) (hi : inW i) (w : World) :
    Calls Tryd.prog 15 #[.string s, .int .i64 i] w fun e w' => e = .returned (.int .i64 (blkI s.data.toList i)) ∧ w = w' := by
  unfold inW at hi
  by_cases h0 : 0 ≤ i ∧ i ≤ s.size
  · obtain ⟨k0, rfl⟩ : ∃ k : Nat, i = k := ⟨i.toNat, by omega⟩
    have HT : Hid (blkI s.data.toList (k0 : Int) = (k0 + bk false (s.data.toList.drop k0) : Nat)) := Lib.hid (blkI_at (by rw [← Lib.size_eq]; omega))
    have hk0 : k0 ≤ s.size := by omega
    generalize hT : k0 + bk false (s.data.toList.drop k0) = T at HT
    have HK0 := Lib.hid hT
    clear hT hi h0
    have hd1 : decide (s.size < k0) = false := by simp; omega
    have hd2 : decide ((k0 : Int) < 0) = false := by simp
    have hd3 : ¬ (s.size < k0) := by omega
    have hd4 : ¬ ((s.size : Int) < (k0 : Int)) := by omega
    go_enter Tryd.func15, Tryd.ntmps15
    go_wp2_with fail
    go_loopw [1] (fun v wr => ∃ k : Nat, k ≤ s.size ∧ v = .int .i64 k ∧ Hid (k + bk false (s.data.toList.drop k) = T) ∧ wr = w) (fun v _ => s.size - (intOf v).toNat)
    case atStart => exact ⟨k0, hk0, rfl, HK0, rfl⟩
    case round =>
      obtain ⟨k, hk, rfl, HK, rfl⟩ := hrel
      by_cases hlt : k < s.size
      · have hat := list_at s k hlt
        rcases bl_ways (s[k]'hlt) with ⟨_, hb⟩ | ⟨_, _, _, _, b5, hb, hc⟩ | ⟨_, _, _, _, b5, hb, hc⟩
        · have HK2 : Hid (k + 1 + bk false (s.data.toList.drop (k + 1)) = T) := by have h := HK.out; rw [hat, bk_bl hb] at h; show _ = _; omega
          have hC := fun w => r5blank_any (s[k]'hlt) w
          rw [hb] at hC
          clear hat hb HK
          go_wp2_with (go_at_call 27; (with_reducible refine (hC _).mono ?_); rintro e w' ⟨rfl, rfl⟩)
          go_roundw
          case rel => exact ⟨k + 1, by omega, by go_num, HK2, by trivial⟩
          case measure => simp [intOf]; omega
        · have HK2 : Hid (k + bk true (s.data.toList.drop k) = T) := by have h := HK.out; rw [hat, hc, bk_hash, ← bk_hash_in, ← hc, ← hat] at h; exact h
          have hstep : k + 1 + bk true (s.data.toList.drop (k + 1)) = T := by have h := HK2.out; rw [hat, hc, bk_in (by decide)] at h; omega
          have hC := fun w => r5blank_any (s[k]'hlt) w
          rw [hb] at hC
          have HK35 := Lib.hid hc
          clear hat hb HK hc hstep
          go_wp2_with (go_at_call 27; (with_reducible refine (hC _).mono ?_); rintro e w' ⟨rfl, rfl⟩)
          clear hC
          go_loopw [1] (fun v w2 => ∃ m : Nat, k ≤ m ∧ m ≤ s.size ∧ v = .int .i64 m ∧ Hid (m + bk true (s.data.toList.drop m) = T) ∧ w2 = wr) (fun v _ => s.size - (intOf v).toNat)
          case atStart => exact ⟨k, Nat.le_refl _, hk, rfl, HK2, by trivial⟩
          case round =>
            obtain ⟨m, hkm, hm, rfl, HM, rfl⟩ := hrel
            by_cases hml : m < s.size
            · have hat := list_at s m hml
              by_cases h10 : (s[m]'hml) = 10
              · have HF : Hid (m + bk false (s.data.toList.drop m) = T) := by have h := HM.out; rw [hat, h10, bk_nl, ← h10, ← hat] at h; exact h
                have b10 : (((s[m]'hml).toNat : Int) == 10) = true := by rw [h10]; rfl
                have hkm2 : k < m := by
                  rcases Nat.lt_or_eq_of_le hkm with h | h
                  · exact h
                  · subst h; rw [HK35.out] at h10; exact absurd h10 (by decide)
                clear hat HM h10
                go_wp2
                go_roundw
                case rel => exact ⟨m, hm, rfl, HF, by trivial⟩
                case measure => simp [intOf]; omega
              · have HN : Hid (m + 1 + bk true (s.data.toList.drop (m + 1)) = T) := by have h := HM.out; rw [hat, bk_in h10] at h; show _ = _; omega
                have b10 : (((s[m]'hml).toNat : Int) == 10) = false := by
                  rw [Bool.eq_false_iff]; intro h; apply h10
                  exact UInt8.toNat_inj.1 (by simp at h; show _ = 10; omega)
                clear hat HM h10
                go_wp2
                go_roundw
                case rel => exact ⟨m + 1, by omega, by omega, by go_num, HN, by trivial⟩
                case measure => simp [intOf]; omega
            · have HF : Hid (m + bk false (s.data.toList.drop m) = T) := by have h := HM.out; rw [list_end s m (by omega), bk_nil] at h ⊢; exact h
              have hkm2 : k < m := by omega
              go_wp2
              go_roundw
              case rel => exact ⟨m, hm, rfl, HF, by trivial⟩
              case measure => simp [intOf]; omega
        · have HT2 : Hid (T = k) := by have h := HK.out; rw [hat, bk_no hb hc] at h; show _ = _; omega
          have hC := fun w => r5blank_any (s[k]'hlt) w
          rw [hb] at hC
          clear hat hb HK hc
          go_wp2_with (go_at_call 27; (with_reducible refine (hC _).mono ?_); rintro e w' ⟨rfl, rfl⟩)
          go_ret
          exact ⟨by rw [HT.out, HT2.out]; rfl, rfl⟩
      · have HT2 : Hid (T = k) := by have h := HK.out; rw [list_end s k (by omega), bk_nil] at h; show _ = _; omega
        go_wp2
        go_ret
        exact ⟨by rw [HT.out, HT2.out]; rfl, rfl⟩
  · have HT : Hid (blkI s.data.toList i = i) := Lib.hid (by unfold blkI; rw [← Lib.size_eq, if_neg h0])
    by_cases h1 : i < 0
    · go_enter Tryd.func15, Tryd.ntmps15
      go_wp2
      go_ret
      exact ⟨by rw [HT.out]; rfl, rfl⟩
    · have h2 : (s.size : Int) < i := by omega
      go_enter Tryd.func15, Tryd.ntmps15
      go_wp2
      go_ret
      exact ⟨by rw [HT.out]; rfl, rfl⟩

def symA : List ByteArray := [⟨#[40]⟩, ⟨#[41]⟩, ⟨#[91]⟩, ⟨#[93]⟩, ⟨#[44]⟩, ⟨#[46]⟩, ⟨#[59]⟩, ⟨#[38]⟩, ⟨#[124]⟩, ⟨#[58]⟩, ⟨#[61]⟩, ⟨#[33, 61]⟩, ⟨#[60]⟩, ⟨#[60, 61]⟩, ⟨#[62]⟩, ⟨#[62, 61]⟩]
theorem symA_syms : syms = symA.map (·.toList) := by
  have : (fun x : ByteArray => x.toList) = fun x => x.data.toList := funext fun x => Lib.toList_data x
  show syms = symA.map (fun x => x.toList)
  rw [this]; rfl
theorem symA_cell {w : World} {B t : Nat} (h : w.heap[B]? = some (.cells (symA.map Value.string).toArray t (0, 0))) (k : Nat) (hk : k < symA.length) : w.cell? ⟨B, k, none⟩ = some (.string symA[k]) := by
  simp only [World.cell?, h]
  simp [List.getElem?_eq_getElem hk]
theorem symB_no {l : List UInt8} (h : ∀ j (hj : j < symA.length), (symA[j].toList == l) = false) : symB l = false := by
  rw [Bool.eq_false_iff]
  intro hc
  unfold symB at hc
  rw [symA_syms] at hc
  have hm := List.contains_iff_mem.1 hc
  obtain ⟨x, hx, rfl⟩ := List.mem_map.1 hm
  obtain ⟨j, hj, rfl⟩ := List.getElem_of_mem hx
  have := h j hj
  simp at this
theorem symB_yes {l : List UInt8} {j : Nat} (hj : j < symA.length) (h : (symA[j].toList == l) = true) : symB l = true := by
  unfold symB
  rw [symA_syms]
  refine List.contains_iff_mem.2 (List.mem_map.2 ⟨symA[j], List.getElem_mem hj, by simpa using h⟩)
set_option maxRecDepth 100000 in
set_option maxHeartbeats 1000000 in
theorem r5Symbol_any (s : ByteArray) (w : World) :
    Calls Tryd.prog 17 #[.string s] w fun e w' => e = .returned (.bool (symB s.data.toList)) ∧ Below w.heap.size w w' := by
  have HY := Lib.hid (fun (j : Nat) (hj : j < symA.length) (h : (symA[j].toList == s.toList) = true) => show symB s.data.toList = true from by rw [← Lib.toList_data]; exact symB_yes hj h)
  have HN := Lib.hid (fun (h : ∀ j (hj : j < symA.length), (symA[j].toList == s.toList) = false) => show symB s.data.toList = false from by rw [← Lib.toList_data]; exact symB_no h)
  generalize symB s.data.toList = R at HY HN
  have HB := Lib.hid (show Below w.heap.size w (w.alloc (.cells (symA.map Value.string).toArray 9)) from (Below.refl _ _).alloc (Nat.le_refl _) _)
  have HC := Lib.hid (fun (k : Nat) (hk : k < symA.length) => symA_cell (heap_alloc_new w (.cells (symA.map Value.string).toArray 9)) k hk)
  have hl16 : symA.length = 16 := rfl
  have HL := Lib.hid hl16
  clear hl16
  go_enter Tryd.func17, Tryd.ntmps17
  go_wp2_with fail
  go_loop [4] (fun v => ∃ k : Nat, k ≤ 16 ∧ v = .int .i64 k ∧ Hid (∀ j (hj : j < symA.length), j < k → (symA[j].toList == s.toList) = false)) (fun v => 16 - (intOf v).toNat)
  case atStart => exact ⟨0, by omega, rfl, Lib.hid (fun j _ h => absurd h (Nat.not_lt_zero _))⟩
  case round =>
    obtain ⟨k, hk, rfl, HK⟩ := hrel
    by_cases hlt : k < 16
    · have hka : k < symA.length := by rw [HL.out]; exact hlt
      have ck := HC.out k hka
      have HY2 := Lib.hid (HY.out k hka)
      have HN2 := Lib.hid (fun (hf : (symA[k].toList == s.toList) = false) => (show ∀ j (hj : j < symA.length), j < k + 1 → (symA[j].toList == s.toList) = false from fun j hj h => by
        rcases Nat.lt_succ_iff_lt_or_eq.1 h with h | h
        · exact HK.out j hj h
        · subst h; exact hf))
      generalize symA[k] = x at ck HY2 HN2
      have ck' : (w.alloc (.cells #[.string ⟨#[40]⟩, .string ⟨#[41]⟩, .string ⟨#[91]⟩, .string ⟨#[93]⟩, .string ⟨#[44]⟩, .string ⟨#[46]⟩, .string ⟨#[59]⟩, .string ⟨#[38]⟩, .string ⟨#[124]⟩, .string ⟨#[58]⟩, .string ⟨#[61]⟩, .string ⟨#[33, 61]⟩, .string ⟨#[60]⟩, .string ⟨#[60, 61]⟩, .string ⟨#[62]⟩, .string ⟨#[62, 61]⟩] 9)).cell? ⟨w.heap.size, k, none⟩ = some (.string x) := ck
      have hlti : (k : Int) < 16 := by omega
      clear ck
      cases hx : x.toList == s.toList
      · have HN3 := Lib.hid (HN2.out hx)
        go_wp2
        go_round
        case rel => exact ⟨k + 1, by omega, by go_num, HN3⟩
        case measure => simp [intOf]; omega
      · have HY3 := Lib.hid (HY2.out hx)
        go_wp2
        go_ret
        exact ⟨by rw [HY3.out]; rfl, HB.out⟩
    · have HNN := Lib.hid (HN.out fun j hj => HK.out j hj (by rw [HL.out] at hj; omega))
      go_wp2
      go_ret
      exact ⟨by rw [HNN.out]; rfl, HB.out⟩

def rdB (b : Bool) (c : UInt8) : Bool := digB c || (b && letB c)
theorem rdB_t : rdB true = ldB := by funext c; unfold rdB ldB; cases digB c <;> cases letB c <;> rfl
theorem rdB_f : rdB false = digB := by funext c; unfold rdB; cases digB c <;> rfl
theorem runN_yes {p : UInt8 → Bool} {c : UInt8} {r : List UInt8} (h : p c = true) : runN p (c :: r) = 1 + runN p r := by unfold runN; rw [List.takeWhile_cons_of_pos h]; simp; omega
theorem runN_no {p : UInt8 → Bool} {c : UInt8} {r : List UInt8} (h : p c = false) : runN p (c :: r) = 0 := by unfold runN; rw [List.takeWhile_cons_of_neg (by rw [h]; simp)]; rfl
theorem runN_nil (p : UInt8 → Bool) : runN p [] = 0 := rfl
set_option maxRecDepth 100000 in
set_option maxHeartbeats 1000000 in
theorem r5run_any (s : ByteArray) (hs : s.size ≤ 140737488355328) (k0 : Nat) (hk0 : k0 ≤ s.size) (b : Bool) (w : World) :
    Calls Tryd.prog 31 #[.string s, .int .i64 (k0 : Int), .bool b] w fun e w' => e = .returned (.int .i64 (k0 + runN (rdB b) (s.data.toList.drop k0) : Nat)) ∧ w = w' := by
  generalize hT : k0 + runN (rdB b) (s.data.toList.drop k0) = T
  have HK0 := Lib.hid hT
  clear hT
  go_enter Tryd.func31, Tryd.ntmps31
  go_wp2_with fail
  go_loop [1] (fun v => ∃ k : Nat, k ≤ s.size ∧ v = .int .i64 k ∧ Hid (k + runN (rdB b) (s.data.toList.drop k) = T)) (fun v => s.size - (intOf v).toNat)
  case atStart => exact ⟨k0, hk0, rfl, HK0⟩
  case round =>
    obtain ⟨k, hk, rfl, HK⟩ := hrel
    by_cases hlt : k < s.size
    · have hat := list_at s k hlt
      have hD := fun w => r5digit_any (s[k]'hlt) w
      have hL := fun w => r5letter_any (s[k]'hlt) w
      cases hp : rdB b (s[k]'hlt) with
      | true =>
        have HK2 : Hid (k + 1 + runN (rdB b) (s.data.toList.drop (k + 1)) = T) := by have h := HK.out; rw [hat, runN_yes hp] at h; show _ = _; omega
        clear hat HK
        unfold rdB at hp
        cases hd : digB (s[k]'hlt) with
        | true =>
          rw [hd] at hD
          clear hp
          go_wp2_with (go_at_call 33; (with_reducible refine (hD _).mono ?_); rintro e w' ⟨rfl, rfl⟩)
          go_round
          case rel => exact ⟨k + 1, by omega, by go_num, HK2⟩
          case measure => simp [intOf]; omega
        | false =>
          rw [hd] at hD hp
          have hp2 : b = true ∧ letB (s[k]'hlt) = true := by simpa using hp
          obtain ⟨rfl, hl⟩ := hp2
          rw [hl] at hL
          clear hp
          go_wp2_with (first | (go_at_call 33; (with_reducible refine (hD _).mono ?_); rintro e w' ⟨rfl, rfl⟩) | (go_at_call 30; (with_reducible refine (hL _).mono ?_); rintro e w' ⟨rfl, rfl⟩))
          go_round
          case rel => exact ⟨k + 1, by omega, by go_num, HK2⟩
          case measure => simp [intOf]; omega
      | false =>
        have HT2 : Hid (T = k) := by have h := HK.out; rw [hat, runN_no hp] at h; show _ = _; omega
        clear hat HK
        unfold rdB at hp
        have hp2 : digB (s[k]'hlt) = false ∧ (b && letB (s[k]'hlt)) = false := by simpa using hp
        obtain ⟨hd, hbl⟩ := hp2
        rw [hd] at hD
        clear hp
        cases b with
        | false =>
          go_wp2_with (go_at_call 33; (with_reducible refine (hD _).mono ?_); rintro e w' ⟨rfl, rfl⟩)
          go_ret
          exact ⟨by rw [HT2.out]; rfl, rfl⟩
        | true =>
          have hl : letB (s[k]'hlt) = false := by simpa using hbl
          rw [hl] at hL
          clear hbl
          go_wp2_with (first | (go_at_call 33; (with_reducible refine (hD _).mono ?_); rintro e w' ⟨rfl, rfl⟩) | (go_at_call 30; (with_reducible refine (hL _).mono ?_); rintro e w' ⟨rfl, rfl⟩))
          go_ret
          exact ⟨by rw [HT2.out]; rfl, rfl⟩
    · have HT2 : Hid (T = k) := by have h := HK.out; rw [list_end s k (by omega), runN_nil] at h; show _ = _; omega
      go_wp2
      go_ret
      exact ⟨by rw [HT2.out]; rfl, rfl⟩

def closV (k : Nat) (l : List UInt8) : Value := match clo l with | some m => .tuple #[.int .i64 (k + m : Nat), .bool true] | none => .tuple #[.int .i64 0, .bool false]
theorem closV_34 (k : Nat) (r : List UInt8) : closV k (34 :: r) = .tuple #[.int .i64 (k + 1 : Nat), .bool true] := by unfold closV; rw [clo_quote]
theorem closV_92 (k : Nat) (r : List UInt8) : closV k (92 :: r) = closV (k + 2) (r.drop 1) := by
  unfold closV; rw [clo_92]; cases clo (r.drop 1) <;> simp <;> omega
theorem closV_no (k : Nat) (c : UInt8) (r : List UInt8) (h : c ≠ 34) (h2 : c ≠ 92) : closV k (c :: r) = closV (k + 1) r := by
  unfold closV; rw [clo_cons _ _ h h2]; cases clo r <;> simp <;> omega
set_option maxRecDepth 100000 in
set_option maxHeartbeats 1000000 in
theorem r5closes_any (s : ByteArray) (hs : s.size ≤ 140737488355328) (k0 : Nat) (hk0 : k0 < s.size) (w : World) :
    Calls Tryd.prog 34 #[.string s, .int .i64 (k0 : Int)] w fun e w' => e = .returned (closV (k0 + 1) (s.data.toList.drop (k0 + 1))) ∧ w = w' := by
  generalize hT : closV (k0 + 1) (s.data.toList.drop (k0 + 1)) = T
  have HK0 := Lib.hid hT
  clear hT
  go_enter Tryd.func34, Tryd.ntmps34
  go_wp2_with fail
  go_loop [6] (fun v => ∃ k : Nat, k ≤ s.size + 1 ∧ v = .int .i64 k ∧ Hid (closV k (s.data.toList.drop k) = T)) (fun v => s.size + 1 - (intOf v).toNat)
  case atStart => exact ⟨k0 + 1, by omega, by go_num, HK0⟩
  case round =>
    obtain ⟨k, hk, rfl, HK⟩ := hrel
    by_cases hlt : k < s.size
    · have hat := list_at s k hlt
      have e : ∀ d : UInt8, (((s[k]'hlt).toNat : Int) == (d.toNat : Int)) = ((s[k]'hlt) == d) := fun d => by
        rw [Bool.eq_iff_iff]; simp only [beq_iff_eq]
        exact ⟨fun h => UInt8.toNat_inj.1 (by omega), fun h => by rw [h]⟩
      have e1 := e 92; have e2 := e 34
      simp only [show ((92 : UInt8).toNat : Int) = 92 from rfl, show ((34 : UInt8).toNat : Int) = 34 from rfl] at e1 e2
      clear e
      by_cases hc : (s[k]'hlt) = 92
      · have HK2 : Hid (closV (k + 2) (s.data.toList.drop (k + 2)) = T) := by have h := HK.out; rw [hat, hc, closV_92, List.drop_drop] at h; exact h
        have b1 : (((s[k]'hlt).toNat : Int) == 92) = true := by rw [hc]; rfl
        clear hat e1 e2 hc HK
        go_wp2
        go_round
        case rel => exact ⟨k + 2, by omega, by go_num, HK2⟩
        case measure => simp [intOf]; omega
      · have b1 : (((s[k]'hlt).toNat : Int) == 92) = false := by rw [e1]; simpa using hc
        by_cases hd : (s[k]'hlt) = 34
        · have HT2 : Hid (T = .tuple #[.int .i64 (k + 1 : Nat), .bool true]) := by have h := HK.out; rw [hat, hd, closV_34] at h; exact h.symm
          have b2 : (((s[k]'hlt).toNat : Int) == 34) = true := by rw [hd]; rfl
          clear hat e1 e2 hc hd HK
          go_wp2
          go_ret2
          exact ⟨by rw [HT2.out]; rfl, rfl⟩
        · have HK2 : Hid (closV (k + 1) (s.data.toList.drop (k + 1)) = T) := by have h := HK.out; rw [hat, closV_no _ _ _ hd hc] at h; exact h
          have b2 : (((s[k]'hlt).toNat : Int) == 34) = false := by rw [e2]; simpa using hd
          clear hat e1 e2 hc hd HK
          go_wp2
          go_round
          case rel => exact ⟨k + 1, by omega, by go_num, HK2⟩
          case measure => simp [intOf]; omega
    · have HT2 : Hid (T = .tuple #[.int .i64 0, .bool false]) := by have h := HK.out; rw [list_end s k (by omega)] at h; exact h.symm
      go_wp2
      go_ret2
      exact ⟨by rw [HT2.out]; rfl, rfl⟩
end Go.Proofs.YtdmdakkibgjffaaDoor
