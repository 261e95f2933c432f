/- The walk of FrameSealed. -/
import Derived.Test.YtebojmjbolphfaaRde
import Derived.Test.YtebojmjbolphfaaSlm
import Derived.Test.YtebojmjbolphfaaReads
namespace Go.Proofs.Ytebojmjbolphfaa
open Go Go.RowKit Crc

set_option maxRecDepth 100000 in
set_option maxHeartbeats 1600000 in
theorem sealed_walk (B0 : Nat) (v : Value) (b : List Nat) (w : World) (hb0 : Bv w B0 v b) (hB0 : B0 ≤ w.heap.size) (hbig : b.length ≤ 1048576) :
    Calls Try.prog 6 #[v] w fun e w' => e = .returned (.bool true) ∧ Below w.heap.size w w' := by
  obtain ⟨i0, hi, hz0, hz1, hz2⟩ := info_parts Try.info5
  obtain ⟨H0, hH0⟩ : ∃ H0, H0 = w.heap.size := ⟨_, rfl⟩
  have HH := hide hH0
  have hb := hb0.mono hB0
  rw [← hH0] at hb ⊢
  obtain ⟨ao, cap, rfl⟩ := hb.shape
  have hsm := hb.small
  have hcs := sealed_small b hsm
  have hcl : (sealed b).length = b.length + 4 := sealed_length b
  have HBack := hide (sealed_back b hsm)
  have hfeq : sealed b = b ++ be32 (sumN b) := rfl
  have HEq := hide hfeq
  obtain ⟨c, hc⟩ : ∃ c, c = sealed b := ⟨_, rfl⟩
  rw [← hc] at hcs hcl HBack HEq
  have hdx := decX_small c
  have hdl := decX_le c
  have HD1 := hide (fun (w' : World) (B : Nat) (v : Value) (h : Bv w' B v c) (h2 : B ≤ w'.heap.size) => fDecode_any B v c w' h h2)
  have HD2 := hide (fun (w' : World) (B : Nat) (v : Value) (h : Bv w' B v c) (h2 : B ≤ w'.heap.size) => r2Decode_any B v c w' h h2 (by omega))
  obtain ⟨X, hX⟩ : ∃ X, X = decX c := ⟨_, rfl⟩
  obtain ⟨vf, hvf⟩ : ∃ vf, vf = decF c := ⟨_, rfl⟩
  obtain ⟨vt, hvt⟩ : ∃ vt, vt = decT c := ⟨_, rfl⟩
  obtain ⟨vk, hvk⟩ : ∃ vk, vk = decK c := ⟨_, rfl⟩
  obtain ⟨vs, hvs⟩ : ∃ vs, vs = decS c := ⟨_, rfl⟩
  obtain ⟨va, hva⟩ : ∃ va, va = decA c := ⟨_, rfl⟩
  obtain ⟨er, her⟩ : ∃ er, er = decErr c := ⟨_, rfl⟩
  unfold DecPost at HD1 HD2
  rw [← hX, ← hvf, ← hvt, ← hvk, ← hvs, ← hva, ← her] at HD1 HD2 HBack
  rw [← hX] at hdx hdl
  have HDx := hide hdx; have HDl := hide hdl; have HCs := hide hcs
  have hbl := hb.len
  obtain ⟨nb, hnb⟩ : ∃ nb, nb = b.length := ⟨_, rfl⟩
  have HNb := hide hnb
  rw [← hnb] at hb hbl hcl hbig ⊢
  have HCl := hide hcl
  have HV := hide hb
  have HCl2 := hide (show Bv w H0 (.slice ao nb cap) b from hb)
  have W1 := Below.refl H0 w
  -- the sum
  have CS := sum_any w.heap.size 1 [(.slice ao nb cap, b)] (w.alloc (.cells #[.slice ao nb cap] 22)) (fun j hj => by
    simp at hj; subst hj
    exact ⟨cell_alloc_one _ _ rfl _ _, H0, hb.below (W1.alloc (by rw [hH0]; exact Nat.le_refl _) _) (Nat.le_refl _)⟩) (by simp)
  rw [show [(Value.slice ao nb cap, b)].flatMap (·.2) = b by simp] at CS
  have hsl := sumN_lt b
  obtain ⟨sm, hsm'⟩ : ∃ sm, sm = sumN b := ⟨_, rfl⟩
  rw [← hsm'] at CS hsl HEq
  have HB1 := hide (W1.alloc (by rw [hH0]; exact Nat.le_refl _) (.cells #[.slice ao nb cap] 22))
  have CC := cloneB_any (w.alloc (.cells #[.slice ao nb cap] 22)) H0 ao nb cap b (hb.below HB1.out (Nat.le_refl _))
  rw [← hnb] at CC
  have H1 := hide (show H0 ≤ (w.alloc (.cells #[.slice ao nb cap] 22)).heap.size by simp; omega)
  clear hb0 hB0 hb W1 hH0 hX hvf hvt hvk hvs hva her hdx hdl hcs hc hnb hfeq hsm hsm' hbl
  go_enter Try.func6, Try.ntmps6
  go_wp2_with fail
  refine CS.mono ?_
  clear CS
  rintro e w' ⟨rfl, rfl⟩
  go_wp2_with fail
  refine CC.mono ?_
  clear CC
  rintro e w2 ⟨v2, rfl, ho2, b2⟩
  obtain ⟨ao2, cap2, rfl⟩ := own_slice ho2
  have HO2 := hide (ownsRow_lower ho2 H1.out)
  have HB2 := hide (HB1.out.trans (b2.mono H1.out))
  have H2 := hide (Nat.le_trans H1.out b2.size)
  clear ho2 b2
  go_wp2_with (at_builtin; refine wpList_append_own _ rfl (.tmp 15) (.tmp 27) 22 rfl H0 5 i0 (.int .u8 0) 1 1 Try.underlying22 hi hz0 hz1 hz2 rfl (by decide) (.slice ao2 nb cap2) nb (byteVs b) rfl (HO2.out.alloc _) ⟨w2.heap.size, 0, none⟩ 4 4 (byteVs (be32 sm)) rfl rfl (by rw [be32_vs]; exact four_news (heap_alloc_at (by simp) rfl)) (byteVs_one _) (by unfold maxLen; omega) (by omega) (by have := H2.out; simp <;> omega) ?_; intro v3 w3 hown3 hgrow3 hnil3; clear hnil3; obtain ⟨ao3, cap3, rfl⟩ := own_slice hown3; have HO3 := hide hown3; have HB3 := hide ((HB2.out.alloc (by have := H2.out; simp <;> omega) _).grown hgrow3 (by have := H2.out; simp <;> omega) (fun k h => (HO2.out.lt k h).1)); have H3 := hide (Nat.le_trans (show H0 ≤ (w2.alloc (.cells #[.int .u8 ((sm : Int) / 16777216), .int .u8 ((sm : Int) / 65536 % 256), .int .u8 ((sm : Int) / 256 % 256), .int .u8 ((sm : Int) % 256)] 5)).heap.size by have := H2.out; simp <;> omega) hgrow3.size); clear hown3 hgrow3)
  have hv3 : Bv w3 w3.heap.size (.slice ao3 (nb + 4) cap3) c := by
    have h := HO3.out
    rw [← byteVs_append, ← HEq.out, ← HCl.out] at h
    have := Bv.of_own h HCs.out (by have := HCl.out; omega)
    rwa [HCl.out] at this
  have HV3 := hide hv3
  clear hv3
  refine (HD1.out _ _ _ HV3.out (Nat.le_refl _)).mono ?_
  rintro e w4 ⟨v4, rfl, ho4, b4⟩
  obtain ⟨ao4, cap4, rfl⟩ := own_slice ho4
  have hb4 := b4.alloc b4.size (.cells #[.int .i64 vf, .int .i64 vt, .int .i64 vk, .int .i64 vs, .int .i64 va, .slice ao4 X.length cap4] 24)
  have HV4 := hide (HV3.out.below hb4 (Nat.le_refl _))
  have HB4 := hide (HB3.out.trans (hb4.mono H3.out))
  have HX4 := hide (heap_alloc_new w4 (.cells #[.int .i64 vf, .int .i64 vt, .int .i64 vk, .int .i64 vs, .int .i64 va, .slice ao4 X.length cap4] 24))
  have HO4 := hide (ho4.alloc (.cells #[.int .i64 vf, .int .i64 vt, .int .i64 vk, .int .i64 vs, .int .i64 va, .slice ao4 X.length cap4] 24))
  have H4 := hide (Nat.le_trans H3.out hb4.size)
  have H34 := hide hb4.size
  clear ho4 b4 hb4
  go_wp2_with fail
  refine (HD2.out _ _ _ HV4.out H34.out).mono ?_
  rintro e w5 ⟨v5, rfl, ho5, b5⟩
  obtain ⟨ao5, cap5, rfl⟩ := own_slice ho5
  have hb5 := b5.alloc b5.size (.cells #[.int .i64 vf, .int .i64 vt, .int .i64 vk, .int .i64 vs, .int .i64 va, .slice ao5 X.length cap5] 24)
  have HX5 := hide ((hb5.block _ (lt_of_block HX4.out)).trans HX4.out)
  have HY5 := hide (heap_alloc_new w5 (.cells #[.int .i64 vf, .int .i64 vt, .int .i64 vk, .int .i64 vs, .int .i64 va, .slice ao5 X.length cap5] 24))
  have HO5 := hide (ho5.alloc (.cells #[.int .i64 vf, .int .i64 vt, .int .i64 vk, .int .i64 vs, .int .i64 va, .slice ao5 X.length cap5] 24))
  have HO45 := hide (ownsRow_below HO4.out hb5 (Nat.le_refl _))
  have HV5 := hide (HV4.out.below hb5 H34.out)
  have HB5 := hide (HB4.out.trans (hb5.mono H4.out))
  have H5 := hide (Nat.le_trans H4.out hb5.size)
  have H35 := hide (Nat.le_trans H34.out hb5.size)
  clear ho5 b5 hb5
  go_wp2_with fail
  refine (begun_any _).mono ?_
  rintro e w6 ⟨rfl, b6⟩
  have HX6 := hide ((b6.block _ (lt_of_block HX5.out)).trans HX5.out)
  have HY6 := hide ((b6.block _ (lt_of_block HY5.out)).trans HY5.out)
  have HxV := hide (Bv.of_own (ownsRow_below HO45.out b6 (Nat.le_refl _)) HDx.out (by have := HDl.out; omega))
  have HyV := hide (Bv.of_own (ownsRow_below HO5.out b6 (Nat.le_refl _)) HDx.out (by have := HDl.out; omega))
  have HV6 := hide (HV5.out.below b6 H35.out)
  have HB6 := hide (HB5.out.trans (b6.mono H5.out))
  have H6 := hide (Nat.le_trans H5.out b6.size)
  have H36 := hide (Nat.le_trans H35.out b6.size)
  obtain ⟨c0, c1, c2, c3, c4, c5⟩ := cell_of_six HX6.out
  obtain ⟨d0, d1, d2, d3, d4, d5⟩ := cell_of_six HY6.out
  have CS := r2Same_any vf vt vk vs va vf vt vk vs va ao4 ao5 X.length cap4 X.length cap5 _ _ X X w6 HxV.out HyV.out (Nat.le_refl _) (Nat.le_refl _)
  rw [sameB_refl] at CS
  clear b6
  go_wp2_with fail
  refine CS.mono ?_
  clear CS c0 c1 c2 c3 c4 c5 d0 d1 d2 d3 d4 d5
  rintro e w7 ⟨rfl, b7⟩
  have HX7 := hide ((b7.block _ (lt_of_block HX6.out)).trans HX6.out)
  have HxV7 := hide (HxV.out.below b7 (Nat.le_refl _))
  have HV7 := hide (HV6.out.below b7 H36.out)
  have HB7 := hide (HB6.out.trans (b7.mono H6.out))
  have H7 := hide (Nat.le_trans H6.out b7.size)
  have H37 := hide (Nat.le_trans H36.out b7.size)
  have H67 := hide b7.size
  obtain ⟨c0, c1, c2, c3, c4, c5⟩ := cell_of_six HX7.out
  clear b7
  by_cases h0 : er = 0
  · subst h0
    obtain ⟨g1, g2⟩ := HBack.out rfl
    have CE := fEncode_any vf vt vk vs va ao4 X.length cap4 w6.heap.size X w7 HxV7.out H67.out
    rw [ckErr_ok g1, g2, HCl.out] at CE
    clear g1 g2
    go_wp2_with fail
    refine CE.mono ?_
    clear CE c0 c1 c2 c3 c4 c5
    rintro e w8 ⟨v8, rfl, ho8, b8⟩
    obtain ⟨ao8, cap8, rfl⟩ := own_slice ho8
    rw [← HCl.out] at ho8
    have hz8 := Bv.of_own ho8 HCs.out (by have := HCl.out; omega)
    rw [HCl.out] at hz8
    have CQ := hz8.equal (HV7.out.below b8 H37.out)
    rw [decide_eq_true rfl] at CQ
    have HB8 := hide (HB7.out.trans (b8.mono H7.out))
    clear ho8 b8 hz8
    go_wp2_with fail
    refine CQ.mono ?_
    clear CQ
    rintro e w' ⟨rfl, rfl⟩
    go_wp2
    go_ret
    exact ⟨rfl, HB8.out⟩
  · have hne : ((er : Int) != 0) = true := by simp; omega
    clear h0
    go_wp2
    go_ret
    exact ⟨rfl, HB7.out⟩
end Go.Proofs.Ytebojmjbolphfaa
