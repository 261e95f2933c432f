/- The walk of ValueOrder. -/
import Derived.Test.YtjllcbgokoacaaaDoorVx
namespace Go.Proofs.YtjllcbgokoacaaaDoor
open Go Go.RowKit

theorem ba_ext {a b : ByteArray} (h : a.data.toList = b.data.toList) : a = b := by
  cases a; cases b; simp at h; rw [h]

set_option maxRecDepth 100000 in
set_option maxHeartbeats 6400000 in
theorem order_walk (k1 n1 : Int) (s1 : ByteArray) (k2 n2 : Int) (s2 : ByteArray) (k3 n3 : Int) (s3 : ByteArray) (w : World) :
    Calls Tryd.prog 8 #[.agg #[.int .i64 k1, .int .i64 n1, .string s1], .agg #[.int .i64 k2, .int .i64 n2, .string s2], .agg #[.int .i64 k3, .int .i64 n3, .string s3]] w fun e w' => e = .returned (.bool true) ∧ Below w.heap.size w w' := by
  obtain ⟨P, hP⟩ : ∃ P, P = w.heap.size := ⟨_, rfl⟩
  obtain ⟨W, hW⟩ : ∃ W, W = ((w.alloc (.cells #[.int .i64 k1, .int .i64 n1, .string s1] 23)).alloc (.cells #[.int .i64 k2, .int .i64 n2, .string s2] 23)).alloc (.cells #[.int .i64 k3, .int .i64 n3, .string s3] 23) := ⟨_, rfl⟩
  have HB : Hid (Vx w P [vcs k1 n1 s1, vcs k2 n2 s2, vcs k3 n3 s3] W) := by
    rw [hW, hP]; exact (((Vx.start w).box (by simp) _).box (by simp) _).box (by simp) _
  have HW := Lib.hid hW; have HP := Lib.hid hP
  obtain ⟨c0, c1, c2⟩ := HB.out.c0
  obtain ⟨d0, d1, d2⟩ := HB.out.c1
  obtain ⟨e0, e1, e2⟩ := HB.out.c2
  have C1 := fun w => vCompare_any k1 n1 s1 k2 n2 s2 w
  have C2 := fun w => vCompare_any k2 n2 s2 k1 n1 s1 w
  have C3 := fun w => vCompare_any k2 n2 s2 k3 n3 s3 w
  have C4 := fun w => vCompare_any k1 n1 s1 k3 n3 s3 w
  unfold cmpT at C1 C2 C3 C4
  simp only [cmpV_swap k1 n1 s1.data.toList k2 n2 s2.data.toList, cmpB_swap k1 k2] at C2
  have hno : cmpB k1 k2 = false → cmpV k1 n1 s1.data.toList k2 n2 s2.data.toList = 0 := fun h => cmpV_no h _ _ _ _
  have hrg := cmpV_range k1 n1 s1.data.toList k2 n2 s2.data.toList
  have hzr := cmpV_zero k1 n1 s1.data.toList k2 n2 s2.data.toList
  have hkk : cmpB k1 k2 = true → k1 = 1 ∨ k1 = 2 := fun h => (cmpB_cases h).elim (fun h => .inl h.1) (fun h => .inr h.1)
  have hbt : cmpB k1 k2 = true → cmpB k2 k3 = true → cmpB k1 k3 = true := cmpB_trans
  have htr : cmpB k1 k2 = true → cmpB k2 k3 = true → cmpV k1 n1 s1.data.toList k2 n2 s2.data.toList ≤ 0 → cmpV k2 n2 s2.data.toList k3 n3 s3.data.toList ≤ 0 → cmpV k1 n1 s1.data.toList k3 n3 s3.data.toList ≤ 0 ∧ (cmpV k1 n1 s1.data.toList k2 n2 s2.data.toList < 0 → cmpV k1 n1 s1.data.toList k3 n3 s3.data.toList < 0) := cmpV_trans
  generalize cmpV k1 n1 s1.data.toList k2 n2 s2.data.toList = x at C1 C2 hno hrg hzr htr
  generalize cmpV k2 n2 s2.data.toList k3 n3 s3.data.toList = z at C3 htr
  generalize cmpV k1 n1 s1.data.toList k3 n3 s3.data.toList = v at C4 htr
  generalize cmpB k1 k2 = ab at C1 C2 hno hzr hkk hbt htr
  generalize cmpB k2 k3 = bc at C3 hbt htr
  generalize cmpB k1 k3 = ac at C4 hbt
  have HC1 := Lib.hid C1; have HC2 := Lib.hid C2; have HC3 := Lib.hid C3; have HC4 := Lib.hid C4
  have HNO := Lib.hid hno; have HRG := Lib.hid hrg; have HZR := Lib.hid hzr; have HKK := Lib.hid hkk; have HBT := Lib.hid hbt; have HTR := Lib.hid htr
  rw [← hP]
  clear hP hW C1 C2 C3 C4 hno hrg hzr hkk hbt htr
  go_enter Tryd.func8, Tryd.ntmps8
  go_wp2_with fail
  rw [← HW.out, ← HP.out]
  go_wp2_with (go_at_call 21; (with_reducible refine (HC1.out _).mono ?_); rintro e w1 ⟨rfl, hb⟩; have HB := Lib.hid (HB.out.call hb); clear hb c0 c1 c2 d0 d1 d2 e0 e1 e2; obtain ⟨c0, c1, c2⟩ := HB.out.c0; obtain ⟨d0, d1, d2⟩ := HB.out.c1; obtain ⟨e0, e1, e2⟩ := HB.out.c2)
  go_wp2_with (go_at_call 21; (with_reducible refine (HC2.out _).mono ?_); rintro e w2 ⟨rfl, hb⟩; have HB := Lib.hid (HB.out.call hb); clear hb c0 c1 c2 d0 d1 d2 e0 e1 e2; obtain ⟨c0, c1, c2⟩ := HB.out.c0; obtain ⟨d0, d1, d2⟩ := HB.out.c1; obtain ⟨e0, e1, e2⟩ := HB.out.c2)
  go_wp2_with (go_at_call 21; (with_reducible refine (HC3.out _).mono ?_); rintro e w3 ⟨rfl, hb⟩; have HB := Lib.hid (HB.out.call hb); clear hb c0 c1 c2 d0 d1 d2 e0 e1 e2; obtain ⟨c0, c1, c2⟩ := HB.out.c0; obtain ⟨d0, d1, d2⟩ := HB.out.c1; obtain ⟨e0, e1, e2⟩ := HB.out.c2)
  go_wp2_with (go_at_call 21; (with_reducible refine (HC4.out _).mono ?_); rintro e w4 ⟨rfl, hb⟩; have HB := Lib.hid (HB.out.call hb); clear hb c0 c1 c2 d0 d1 d2 e0 e1 e2; obtain ⟨c0, c1, c2⟩ := HB.out.c0; obtain ⟨d0, d1, d2⟩ := HB.out.c1; obtain ⟨e0, e1, e2⟩ := HB.out.c2)
  cases ab with
  | false =>
    obtain rfl : x = 0 := HNO.out rfl
    go_wp2_with (go_at_call 13; (with_reducible refine (live_any _).mono ?_); rintro e w5 ⟨rfl, hb⟩; have HB := Lib.hid (HB.out.call hb); clear hb c0 c1 c2 d0 d1 d2 e0 e1 e2; obtain ⟨c0, c1, c2⟩ := HB.out.c0; obtain ⟨d0, d1, d2⟩ := HB.out.c1; obtain ⟨e0, e1, e2⟩ := HB.out.c2)
    all_goals go_ret
    all_goals exact ⟨rfl, HB.out.below⟩
  | true =>
    have hx3 : x = -1 ∨ x = 0 ∨ x = 1 := by have := HRG.out; omega
    cases bc with
    | false =>
      rcases hx3 with rfl | rfl | rfl
      · go_wp2_with (go_at_call 13; (with_reducible refine (live_any _).mono ?_); rintro e w5 ⟨rfl, hb⟩; have HB := Lib.hid (HB.out.call hb); clear hb c0 c1 c2 d0 d1 d2 e0 e1 e2; obtain ⟨c0, c1, c2⟩ := HB.out.c0; obtain ⟨d0, d1, d2⟩ := HB.out.c1; obtain ⟨e0, e1, e2⟩ := HB.out.c2)
        all_goals go_ret
        all_goals exact ⟨rfl, HB.out.below⟩
      · have hz := HZR.out rfl rfl
        rcases HKK.out rfl with rfl | rfl
        · obtain rfl := hz.1 rfl
          clear hz
          cases hs : s1.toList == s2.toList with
          | false =>
            go_wp2_with (go_at_call 13; (with_reducible refine (live_any _).mono ?_); rintro e w5 ⟨rfl, hb⟩; have HB := Lib.hid (HB.out.call hb); clear hb c0 c1 c2 d0 d1 d2 e0 e1 e2; obtain ⟨c0, c1, c2⟩ := HB.out.c0; obtain ⟨d0, d1, d2⟩ := HB.out.c1; obtain ⟨e0, e1, e2⟩ := HB.out.c2)
            all_goals go_ret
            all_goals exact ⟨rfl, HB.out.below⟩
          | true =>
            go_wp2_with (go_at_call 13; (with_reducible refine (live_any _).mono ?_); rintro e w5 ⟨rfl, hb⟩; have HB := Lib.hid (HB.out.call hb); clear hb c0 c1 c2 d0 d1 d2 e0 e1 e2; obtain ⟨c0, c1, c2⟩ := HB.out.c0; obtain ⟨d0, d1, d2⟩ := HB.out.c1; obtain ⟨e0, e1, e2⟩ := HB.out.c2)
            all_goals go_ret
            all_goals exact ⟨rfl, HB.out.below⟩
        · obtain rfl : s1 = s2 := ba_ext (hz.2 rfl)
          clear hz
          cases hn : n1 == n2 with
          | false =>
            go_wp2_with (go_at_call 13; (with_reducible refine (live_any _).mono ?_); rintro e w5 ⟨rfl, hb⟩; have HB := Lib.hid (HB.out.call hb); clear hb c0 c1 c2 d0 d1 d2 e0 e1 e2; obtain ⟨c0, c1, c2⟩ := HB.out.c0; obtain ⟨d0, d1, d2⟩ := HB.out.c1; obtain ⟨e0, e1, e2⟩ := HB.out.c2)
            all_goals go_ret
            all_goals exact ⟨rfl, HB.out.below⟩
          | true =>
            go_wp2_with (go_at_call 13; (with_reducible refine (live_any _).mono ?_); rintro e w5 ⟨rfl, hb⟩; have HB := Lib.hid (HB.out.call hb); clear hb c0 c1 c2 d0 d1 d2 e0 e1 e2; obtain ⟨c0, c1, c2⟩ := HB.out.c0; obtain ⟨d0, d1, d2⟩ := HB.out.c1; obtain ⟨e0, e1, e2⟩ := HB.out.c2)
            all_goals go_ret
            all_goals exact ⟨rfl, HB.out.below⟩
      · go_wp2_with (go_at_call 13; (with_reducible refine (live_any _).mono ?_); rintro e w5 ⟨rfl, hb⟩; have HB := Lib.hid (HB.out.call hb); clear hb c0 c1 c2 d0 d1 d2 e0 e1 e2; obtain ⟨c0, c1, c2⟩ := HB.out.c0; obtain ⟨d0, d1, d2⟩ := HB.out.c1; obtain ⟨e0, e1, e2⟩ := HB.out.c2)
        all_goals go_ret
        all_goals exact ⟨rfl, HB.out.below⟩
    | true =>
      obtain rfl : ac = true := HBT.out rfl rfl
      by_cases hz0 : 0 < z
      · rcases hx3 with rfl | rfl | rfl
        · go_wp2_with (go_at_call 13; (with_reducible refine (live_any _).mono ?_); rintro e w5 ⟨rfl, hb⟩; have HB := Lib.hid (HB.out.call hb); clear hb c0 c1 c2 d0 d1 d2 e0 e1 e2; obtain ⟨c0, c1, c2⟩ := HB.out.c0; obtain ⟨d0, d1, d2⟩ := HB.out.c1; obtain ⟨e0, e1, e2⟩ := HB.out.c2)
          all_goals go_ret
          all_goals exact ⟨rfl, HB.out.below⟩
        · have hz := HZR.out rfl rfl
          rcases HKK.out rfl with rfl | rfl
          · obtain rfl := hz.1 rfl
            clear hz
            cases hs : s1.toList == s2.toList with
            | false =>
              go_wp2_with (go_at_call 13; (with_reducible refine (live_any _).mono ?_); rintro e w5 ⟨rfl, hb⟩; have HB := Lib.hid (HB.out.call hb); clear hb c0 c1 c2 d0 d1 d2 e0 e1 e2; obtain ⟨c0, c1, c2⟩ := HB.out.c0; obtain ⟨d0, d1, d2⟩ := HB.out.c1; obtain ⟨e0, e1, e2⟩ := HB.out.c2)
              all_goals go_ret
              all_goals exact ⟨rfl, HB.out.below⟩
            | true =>
              go_wp2_with (go_at_call 13; (with_reducible refine (live_any _).mono ?_); rintro e w5 ⟨rfl, hb⟩; have HB := Lib.hid (HB.out.call hb); clear hb c0 c1 c2 d0 d1 d2 e0 e1 e2; obtain ⟨c0, c1, c2⟩ := HB.out.c0; obtain ⟨d0, d1, d2⟩ := HB.out.c1; obtain ⟨e0, e1, e2⟩ := HB.out.c2)
              all_goals go_ret
              all_goals exact ⟨rfl, HB.out.below⟩
          · obtain rfl : s1 = s2 := ba_ext (hz.2 rfl)
            clear hz
            cases hn : n1 == n2 with
            | false =>
              go_wp2_with (go_at_call 13; (with_reducible refine (live_any _).mono ?_); rintro e w5 ⟨rfl, hb⟩; have HB := Lib.hid (HB.out.call hb); clear hb c0 c1 c2 d0 d1 d2 e0 e1 e2; obtain ⟨c0, c1, c2⟩ := HB.out.c0; obtain ⟨d0, d1, d2⟩ := HB.out.c1; obtain ⟨e0, e1, e2⟩ := HB.out.c2)
              all_goals go_ret
              all_goals exact ⟨rfl, HB.out.below⟩
            | true =>
              go_wp2_with (go_at_call 13; (with_reducible refine (live_any _).mono ?_); rintro e w5 ⟨rfl, hb⟩; have HB := Lib.hid (HB.out.call hb); clear hb c0 c1 c2 d0 d1 d2 e0 e1 e2; obtain ⟨c0, c1, c2⟩ := HB.out.c0; obtain ⟨d0, d1, d2⟩ := HB.out.c1; obtain ⟨e0, e1, e2⟩ := HB.out.c2)
              all_goals go_ret
              all_goals exact ⟨rfl, HB.out.below⟩
        · go_wp2_with (go_at_call 13; (with_reducible refine (live_any _).mono ?_); rintro e w5 ⟨rfl, hb⟩; have HB := Lib.hid (HB.out.call hb); clear hb c0 c1 c2 d0 d1 d2 e0 e1 e2; obtain ⟨c0, c1, c2⟩ := HB.out.c0; obtain ⟨d0, d1, d2⟩ := HB.out.c1; obtain ⟨e0, e1, e2⟩ := HB.out.c2)
          all_goals go_ret
          all_goals exact ⟨rfl, HB.out.below⟩
      · rcases hx3 with rfl | rfl | rfl
        · have hv := HTR.out rfl rfl (by omega) (by omega)
          have hv1 : v < 0 := hv.2 (by omega)
          have hv0 : v ≤ 0 := hv.1
          clear hv
          go_wp2_with (go_at_call 13; (with_reducible refine (live_any _).mono ?_); rintro e w5 ⟨rfl, hb⟩; have HB := Lib.hid (HB.out.call hb); clear hb c0 c1 c2 d0 d1 d2 e0 e1 e2; obtain ⟨c0, c1, c2⟩ := HB.out.c0; obtain ⟨d0, d1, d2⟩ := HB.out.c1; obtain ⟨e0, e1, e2⟩ := HB.out.c2)
          all_goals go_ret
          all_goals exact ⟨rfl, HB.out.below⟩
        · have hv0 : v ≤ 0 := (HTR.out rfl rfl (by omega) (by omega)).1
          have hz := HZR.out rfl rfl
          rcases HKK.out rfl with rfl | rfl
          · obtain rfl := hz.1 rfl
            clear hz
            cases hs : s1.toList == s2.toList with
            | false =>
              go_wp2_with (go_at_call 13; (with_reducible refine (live_any _).mono ?_); rintro e w5 ⟨rfl, hb⟩; have HB := Lib.hid (HB.out.call hb); clear hb c0 c1 c2 d0 d1 d2 e0 e1 e2; obtain ⟨c0, c1, c2⟩ := HB.out.c0; obtain ⟨d0, d1, d2⟩ := HB.out.c1; obtain ⟨e0, e1, e2⟩ := HB.out.c2)
              all_goals go_ret
              all_goals exact ⟨rfl, HB.out.below⟩
            | true =>
              go_wp2_with (go_at_call 13; (with_reducible refine (live_any _).mono ?_); rintro e w5 ⟨rfl, hb⟩; have HB := Lib.hid (HB.out.call hb); clear hb c0 c1 c2 d0 d1 d2 e0 e1 e2; obtain ⟨c0, c1, c2⟩ := HB.out.c0; obtain ⟨d0, d1, d2⟩ := HB.out.c1; obtain ⟨e0, e1, e2⟩ := HB.out.c2)
              all_goals go_ret
              all_goals exact ⟨rfl, HB.out.below⟩
          · obtain rfl : s1 = s2 := ba_ext (hz.2 rfl)
            clear hz
            cases hn : n1 == n2 with
            | false =>
              go_wp2_with (go_at_call 13; (with_reducible refine (live_any _).mono ?_); rintro e w5 ⟨rfl, hb⟩; have HB := Lib.hid (HB.out.call hb); clear hb c0 c1 c2 d0 d1 d2 e0 e1 e2; obtain ⟨c0, c1, c2⟩ := HB.out.c0; obtain ⟨d0, d1, d2⟩ := HB.out.c1; obtain ⟨e0, e1, e2⟩ := HB.out.c2)
              all_goals go_ret
              all_goals exact ⟨rfl, HB.out.below⟩
            | true =>
              go_wp2_with (go_at_call 13; (with_reducible refine (live_any _).mono ?_); rintro e w5 ⟨rfl, hb⟩; have HB := Lib.hid (HB.out.call hb); clear hb c0 c1 c2 d0 d1 d2 e0 e1 e2; obtain ⟨c0, c1, c2⟩ := HB.out.c0; obtain ⟨d0, d1, d2⟩ := HB.out.c1; obtain ⟨e0, e1, e2⟩ := HB.out.c2)
              all_goals go_ret
              all_goals exact ⟨rfl, HB.out.below⟩
        · go_wp2_with (go_at_call 13; (with_reducible refine (live_any _).mono ?_); rintro e w5 ⟨rfl, hb⟩; have HB := Lib.hid (HB.out.call hb); clear hb c0 c1 c2 d0 d1 d2 e0 e1 e2; obtain ⟨c0, c1, c2⟩ := HB.out.c0; obtain ⟨d0, d1, d2⟩ := HB.out.c1; obtain ⟨e0, e1, e2⟩ := HB.out.c2)
          all_goals go_ret
          all_goals exact ⟨rfl, HB.out.below⟩
end Go.Proofs.YtjllcbgokoacaaaDoor
