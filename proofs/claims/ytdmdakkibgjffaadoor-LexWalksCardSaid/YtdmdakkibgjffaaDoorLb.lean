/- Contracts of Blank, the program's and the document's. -/
import Derived.Test.YtdmdakkibgjffaaDoorLxw
import Derived.Test.YtdmdakkibgjffaaDoorFi
namespace Go.Proofs.YtdmdakkibgjffaaDoor
open Go Go.RowKit

theorem ext_list (s : ByteArray) (k : Nat) : (s.extract k s.size).data.toList = s.data.toList.drop k := by
  rw [← Lib.toList_data, Lib.extract_toList]
  rw [List.take_of_length_le (by rw [List.length_drop, ← Lib.size_eq]; exact Nat.le_refl _)]
theorem ext_size (s : ByteArray) (k : Nat) : (s.extract k s.size).size = s.size - k := by simp
/-- The six ways of a byte at which blanks are looked for. -/
theorem bl_ways (c : UInt8) :
    ((((c.toNat : Int) == 32) = true ∨ (((c.toNat : Int) == 32) = false ∧ ((c.toNat : Int) == 9) = true) ∨ (((c.toNat : Int) == 32) = false ∧ ((c.toNat : Int) == 9) = false ∧ ((c.toNat : Int) == 10) = true) ∨ (((c.toNat : Int) == 32) = false ∧ ((c.toNat : Int) == 9) = false ∧ ((c.toNat : Int) == 10) = false ∧ ((c.toNat : Int) == 13) = true)) ∧ blB c = true) ∨
    (((c.toNat : Int) == 32) = false ∧ ((c.toNat : Int) == 9) = false ∧ ((c.toNat : Int) == 10) = false ∧ ((c.toNat : Int) == 13) = false ∧ ((c.toNat : Int) == 35) = true ∧ blB c = false ∧ c = 35) ∨
    (((c.toNat : Int) == 32) = false ∧ ((c.toNat : Int) == 9) = false ∧ ((c.toNat : Int) == 10) = false ∧ ((c.toNat : Int) == 13) = false ∧ ((c.toNat : Int) == 35) = false ∧ blB c = false ∧ c ≠ 35) := by
  have e : ∀ d : UInt8, ((c.toNat : Int) == (d.toNat : Int)) = (c == d) := fun d => by
    rw [Bool.eq_iff_iff]; simp only [beq_iff_eq]
    exact ⟨fun h => UInt8.toNat_inj.1 (by omega), fun h => by rw [h]⟩
  have e1 := e 32; have e2 := e 9; have e3 := e 10; have e4 := e 13; have e5 := e 35
  simp only [show ((32 : UInt8).toNat : Int) = 32 from rfl, show ((9 : UInt8).toNat : Int) = 9 from rfl, show ((10 : UInt8).toNat : Int) = 10 from rfl, show ((13 : UInt8).toNat : Int) = 13 from rfl, show ((35 : UInt8).toNat : Int) = 35 from rfl] at e1 e2 e3 e4 e5
  rw [e1, e2, e3, e4, e5]
  unfold blB
  cases h1 : c == 32
  · cases h2 : c == 9
    · cases h3 : c == 10
      · cases h4 : c == 13
        · cases h5 : c == 35
          · simp at h5; simp [h5]
          · simp at h5; simp [h5]
        · simp
      · simp
    · simp
  · simp

set_option maxRecDepth 100000 in
theorem lComment_any (s : ByteArray) (hs : s.size ≤ 140737488355328) (w : World) :
    Calls Tryd.prog 26 #[.string s] w fun e w' => e = .returned (.int .i64 (comI s.data.toList)) ∧ w = w' := by
  have hg := Lib.indexByte_ge s.data.toList 10
  have hl : Lib.indexByte s.data.toList 10 < s.size ∨ Lib.indexByte s.data.toList 10 = -1 := by
    by_cases h : Lib.indexByte s.data.toList 10 = -1
    · exact .inr h
    · have := ((bk_com s.data.toList).2 (Lib.indexByte s.data.toList 10).toNat (by omega)).2
      rw [← Lib.size_eq] at this; omega
  have HE : Hid (comI s.data.toList = if 0 ≤ Lib.indexByte s.data.toList 10 then Lib.indexByte s.data.toList 10 + 1 else s.size) := by rw [Lib.size_eq]; rfl
  generalize hn : Lib.indexByte s.data.toList 10 = n at hg hl HE
  by_cases h : 0 ≤ n
  · go_enter Tryd.func26, Tryd.ntmps26
    go_wp2_with (go_at_call 39; (with_reducible refine (Tryd.strings_IndexByte s 10 _).mono ?_); rintro e w' ⟨he, rfl⟩; rw [show (10 : Int).toNat.toUInt8 = 10 from rfl, hn] at he; subst he)
    go_ret
    exact ⟨by rw [HE.out, if_pos h]; go_num, rfl⟩
  · obtain rfl : n = -1 := by omega
    go_enter Tryd.func26, Tryd.ntmps26
    go_wp2_with (go_at_call 39; (with_reducible refine (Tryd.strings_IndexByte s 10 _).mono ?_); rintro e w' ⟨he, rfl⟩; rw [show (10 : Int).toNat.toUInt8 = 10 from rfl, hn] at he; subst he)
    go_ret
    exact ⟨by rw [HE.out]; rfl, rfl⟩

set_option maxRecDepth 100000 in
set_option maxHeartbeats 1000000 in
theorem lBlank_any (s : ByteArray) (hs : s.size ≤ 140737488355328) (i : Int) (hi : inW i) (w : World) :
    Calls Tryd.prog 14 #[.string s, .int .i64 i] w fun e w' => e = .returned (.int .i64 (blkI s.data.toList i)) ∧ w = w' := by
  unfold inW at hi
  by_cases h0 : 0 ≤ i ∧ i ≤ s.size
  · obtain ⟨k0, rfl⟩ : ∃ k : Nat, i = k := ⟨i.toNat, by omega⟩
    have HT : Hid (blkI s.data.toList (k0 : Int) = (k0 + bk false (s.data.toList.drop k0) : Nat)) := Lib.hid (blkI_at (by rw [← Lib.size_eq]; omega))
    have hk0 : k0 ≤ s.size := by omega
    generalize hT : k0 + bk false (s.data.toList.drop k0) = T at HT
    have HK0 := Lib.hid hT
    clear hT
    have HC := Lib.hid (fun (k : Nat) w => lComment_any (s.extract k s.size) (by rw [ext_size]; omega) w)
    clear hi h0
    go_enter Tryd.func14, Tryd.ntmps14
    go_wp2_with fail
    go_loop [1] (fun v => ∃ k : Nat, k ≤ s.size ∧ v = .int .i64 k ∧ Hid (k + bk false (s.data.toList.drop k) = T)) (fun v => s.size - (intOf v).toNat)
    case atStart => exact ⟨k0, hk0, rfl, HK0⟩
    case round =>
      obtain ⟨k, hk, rfl, HK⟩ := hrel
      by_cases hlt : k < s.size
      · have hat := list_at s k hlt
        have hkl : k + 1 ≤ s.size := hlt
        rcases bl_ways (s[k]'hlt) with ⟨hw, hb⟩ | ⟨b1, b2, b3, b4, b5, hb, hc⟩ | ⟨b1, b2, b3, b4, b5, hb, hc⟩
        · have HK2 : Hid (k + 1 + bk false (s.data.toList.drop (k + 1)) = T) := by have h := HK.out; rw [hat, bk_bl hb] at h; show _ = _; omega
          clear hat hb HK
          rcases hw with b1 | ⟨b1, b2⟩ | ⟨b1, b2, b3⟩ | ⟨b1, b2, b3, b4⟩
          all_goals go_wp2
          all_goals go_round
          all_goals first | exact ⟨k + 1, by omega, by go_num, HK2⟩ | (simp [intOf]; omega)
        · obtain ⟨n, h1, h2, h3, h4⟩ := comI_step (s.data.toList.drop (k + 1))
          have hx : comI (s.extract k s.size).data.toList = (n : Int) := by rw [ext_list, hat, hc]; exact h1
          have HC2 := fun w => HC.out k w
          rw [hx] at HC2
          rw [List.length_drop, ← Lib.size_eq] at h3
          have HK2 : Hid (k + n + bk false (s.data.toList.drop (k + n)) = T) := by
            have h := HK.out; rw [hat, hc, h4, ← hc, ← hat, List.drop_drop] at h; show _ = _; omega
          clear hat hb HK h1 h4 hx hc
          go_wp2_with (go_at_call 26; (with_reducible refine (HC2 _).mono ?_); rintro e w' ⟨rfl, rfl⟩)
          go_round
          case rel => exact ⟨k + n, by omega, by go_num, HK2⟩
          case measure => simp [intOf]; omega
        · have HT2 : Hid (T = k) := by have h := HK.out; rw [hat, bk_no hb hc] at h; show _ = _; omega
          clear hat hb HK hc
          go_wp2
          go_ret
          exact ⟨by rw [HT.out, HT2.out]; rfl, rfl⟩
      · have HT2 : Hid (T = k) := by have h := HK.out; rw [list_end s k (by omega), bk_nil] at h; show _ = _; omega
        go_wp2
        go_ret
        exact ⟨by rw [HT.out, HT2.out]; rfl, rfl⟩
  · have HT : Hid (blkI s.data.toList i = i) := Lib.hid (by unfold blkI; rw [← Lib.size_eq, if_neg h0])
    go_enter Tryd.func14, Tryd.ntmps14
    go_wp2_with fail
    go_loop [1] (fun v => v = .int .i64 i) (fun _ => 0)
    case atStart => rfl
    case round =>
      obtain rfl := hrel
      by_cases h1 : 0 ≤ i
      · have h2 : ¬ i < s.size := by omega
        go_wp2
        go_ret
        exact ⟨by rw [HT.out]; rfl, rfl⟩
      · go_wp2
        go_ret
        exact ⟨by rw [HT.out]; rfl, rfl⟩
end Go.Proofs.YtdmdakkibgjffaaDoor
