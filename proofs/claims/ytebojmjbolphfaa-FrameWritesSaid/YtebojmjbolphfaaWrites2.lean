/- The walk of FrameWrites where the bytes are parted at their end, or are none. -/
import Derived.Test.YtebojmjbolphfaaWrites
import Derived.Deep.RegionHeld3
namespace Go.Proofs.Ytebojmjbolphfaa
open Go Go.RowKit Crc

set_option maxRecDepth 100000 in
set_option maxHeartbeats 3200000 in
theorem writes_full (f t k s a : Int) (m : Nat) (ao : Option Addr) (ad : Addr) (n cap ny : Nat) (x y : List Nat) (w : World) (hx : Bv w w.heap.size (.slice ao n cap) x) (hy : Bv w w.heap.size (.slice (some ad) ny ny) y) (hm : m < 256)
    (hkm : m % (ny + 1) = ny) :
    Calls Try.prog 4 #[.agg #[.int .i64 f, .int .i64 t, .int .i64 k, .int .i64 s, .int .i64 a, .slice ao n cap], .slice (some ad) ny ny, .int .u8 (m : Int)] w fun e w' => e = .returned (.bool true) ∧ Below w.heap.size w w' := by
  have hny := hy.bytesIn.1
  have hyl := hy.len
  have hyb : ny ≤ 140737488355328 := by omega
  have HB := hide (Bo.new (cs := #[.int .i64 f, .int .i64 t, .int .i64 k, .int .i64 s, .int .i64 a, .slice ao n cap]) hx)
  have HY := hide (hy.below (alloc_below w (.cells #[.int .i64 f, .int .i64 t, .int .i64 k, .int .i64 s, .int .i64 a, .slice ao n cap] 24)) (Nat.le_refl _))
  have CE := fEncode_any f t k s a ao n cap w.heap.size x (w.alloc (.cells #[.int .i64 f, .int .i64 t, .int .i64 k, .int .i64 s, .int .i64 a, .slice ao n cap] 24)) HB.out.hx (by simp)
  have C2 := fun (w' : World) (h1 : Bv w' w.heap.size (.slice ao n cap) x) (h3 : w.heap.size ≤ w'.heap.size) => r2Encode_any f t k s a ao n cap w.heap.size x w' h1 h3
  have C3 := fun (w' : World) (h1 : Bv w' w.heap.size (.slice ao n cap) x) => fSize_any f t k s a ao n cap w.heap.size x w' h1
  have hbs := enc_small f t k s a x
  have hbl := enc_len f t k s a x
  obtain ⟨b, hb0⟩ : ∃ b, b = encN f t k s a x := ⟨_, rfl⟩
  rw [← hb0] at CE C2 C3 hbs hbl
  obtain ⟨er, her⟩ : ∃ er, er = ckErr f t k s a n := ⟨_, rfl⟩
  rw [← her] at CE C2
  obtain ⟨nb, hnb⟩ : ∃ nb, nb = b.length := ⟨_, rfl⟩
  rw [← hnb] at CE C2 C3 hbl
  have HC2 := hide C2; have HC3 := hide C3; have HBs := hide hbs; have HNb := hide hnb
  clear hx hy hb0 her hbs hnb C2 C3 hny hyl
  go_enter Try.func4, Try.ntmps4
  go_wp2_with fail
  refine CE.mono ?_
  clear CE
  rintro e w1 ⟨v1, rfl, ho, hb⟩
  obtain ⟨a1, cap1, rfl⟩ := own_slice ho
  have hv : Bv w1 w1.heap.size (.slice a1 nb cap1) b := by
    rw [HNb.out] at ho ⊢
    exact Bv.of_own ho HBs.out (by have := HNb.out; omega)
  have HV := hide hv; have HB := hide (HB.out.call hb); have HY := hide (HY.out.below hb (by simp <;> omega))
  clear ho hb hv
  obtain ⟨c0, c1, c2, c3, c4, c5⟩ := cell_of_six HB.out.bx
  go_wp2_with fail
  clear c0 c1 c2 c3 c4 c5
  refine (HC2.out _ HB.out.hx (Nat.le_of_lt HB.out.sz)).mono ?_
  rintro e w2 ⟨v2, rfl, ho, hb⟩
  obtain ⟨a2, cap2, rfl⟩ := own_slice ho
  have hv : Bv w2 w2.heap.size (.slice a2 nb cap2) b := by
    rw [HNb.out] at ho ⊢
    exact Bv.of_own ho HBs.out (by have := HNb.out; omega)
  have HW : Hid (Wx w w.heap.size w2.heap.size #[.int .i64 f, .int .i64 t, .int .i64 k, .int .i64 s, .int .i64 a, .slice ao n cap] (.slice ao n cap) (.slice (some ad) ny ny) (.slice a1 nb cap1) (.slice a2 nb cap2) x y b w2) :=
    hide ⟨(HB.out.call hb).below, Nat.le_refl _, (HB.out.call hb).sz, (HB.out.call hb).bx, (HB.out.call hb).hx, HY.out.below hb (Nat.le_of_lt HB.out.sz), (HV.out.below hb (Nat.le_refl _)).mono hb.size, hv⟩
  clear ho hb hv HB HY HV
  have HKK := hide hkm
  clear hkm
  obtain ⟨c0, c1, c2, c3, c4, c5⟩ := cell_of_six HW.out.bx
  go_wp2_with fail
  rw [show ((m : Int) % ((ny : Int) + 1)) = (ny : Int) by have h := congrArg (fun z : Nat => (z : Int)) HKK.out; push_cast at h; exact h]
  obtain ⟨P, hP⟩ : ∃ P, P = w.heap.size := ⟨_, rfl⟩
  rw [← hP] at HW HC3 ⊢
  rw [← hP] at c0 c1 c2 c3 c4 c5
  have HPw := hide hP
  clear hP
  have hk0 : (0 : Int) ≤ (ny : Int) := by omega
  go_region_held3 (fun w' => w'.cell? ⟨P, 0, none⟩ = some (.int .i64 f) ∧ w'.cell? ⟨P, 1, none⟩ = some (.int .i64 t) ∧ w'.cell? ⟨P, 2, none⟩ = some (.int .i64 k) ∧ w'.cell? ⟨P, 3, none⟩ = some (.int .i64 s) ∧ w'.cell? ⟨P, 4, none⟩ = some (.int .i64 a) ∧ w'.cell? ⟨P, 5, none⟩ = some (.slice ao n cap))
    (first | exact ⟨c0, c1, c2, c3, c4, c5⟩ | go_keep)
    (first
      | (go_at_call 10; (with_reducible refine (begun_any _).mono ?_); rintro e w3 ⟨rfl, hb⟩; have HW := hide (HW.out.drew.call hb); clear hb; clear c0 c1 c2 c3 c4 c5; obtain ⟨c0, c1, c2, c3, c4, c5⟩ := cell_of_six HW.out.bx)
      | (go_at_call 18; (with_reducible refine (eq_same HW.out.h1 HW.out.h2).mono ?_); rintro e w4 ⟨rfl, rfl⟩)
      | (go_at_call 19; (with_reducible refine (HC3.out _ HW.out.hx).mono ?_); rintro e w5 ⟨rfl, hb⟩; have HW := hide (HW.out.call hb); clear hb; clear c0 c1 c2 c3 c4 c5; obtain ⟨c0, c1, c2, c3, c4, c5⟩ := cell_of_six HW.out.bx)
      | (go_at_call 20; (with_reducible refine (sum_one HW.out.hy HW.out.leP).mono ?_); rintro e w6 ⟨rfl, rfl⟩; have HW := hide (HW.out.alloc (.cells #[.slice (some ad) ny ny] 22)); clear c0 c1 c2 c3 c4 c5; obtain ⟨c0, c1, c2, c3, c4, c5⟩ := cell_of_six HW.out.bx)
      | (go_at_call 21; (with_reducible refine (r2Sum_any _ _ _ _ HW.out.hy).mono ?_); rintro e w7 ⟨rfl, rfl⟩)
      | (go_at_call 20; (with_reducible refine (sum_two _ (by simp) (HW.out.hy.upTo (Nat.le_refl _)) (by rw [List.drop_of_length_le (by have := HW.out.hy.bytesIn.1; omega)]; exact Bv.none_ _ _ (some ad) 0 (by omega) (fun _ => rfl)) HW.out.leP).mono ?_); rintro e w8 ⟨rfl, rfl⟩; have HW := hide (HW.out.alloc (.cells #[.slice (some ad) ny ny, .slice (some ad) 0 0] 22)); clear c0 c1 c2 c3 c4 c5; obtain ⟨c0, c1, c2, c3, c4, c5⟩ := cell_of_six HW.out.bx))
  all_goals go_wp2
  all_goals go_ret
  all_goals exact ⟨rfl, by rw [← HPw.out]; exact HW.out.below⟩
set_option maxRecDepth 100000 in
set_option maxHeartbeats 3200000 in
theorem writes_none (f t k s a : Int) (m : Nat) (ao : Option Addr) (n cap : Nat) (x y : List Nat) (w : World) (hx : Bv w w.heap.size (.slice ao n cap) x) (hy : Bv w w.heap.size (.slice none 0 0) y) (hm : m < 256)
     :
    Calls Try.prog 4 #[.agg #[.int .i64 f, .int .i64 t, .int .i64 k, .int .i64 s, .int .i64 a, .slice ao n cap], .slice none 0 0, .int .u8 (m : Int)] w fun e w' => e = .returned (.bool true) ∧ Below w.heap.size w w' := by
  have HB := hide (Bo.new (cs := #[.int .i64 f, .int .i64 t, .int .i64 k, .int .i64 s, .int .i64 a, .slice ao n cap]) hx)
  have HY := hide (hy.below (alloc_below w (.cells #[.int .i64 f, .int .i64 t, .int .i64 k, .int .i64 s, .int .i64 a, .slice ao n cap] 24)) (Nat.le_refl _))
  have CE := fEncode_any f t k s a ao n cap w.heap.size x (w.alloc (.cells #[.int .i64 f, .int .i64 t, .int .i64 k, .int .i64 s, .int .i64 a, .slice ao n cap] 24)) HB.out.hx (by simp)
  have C2 := fun (w' : World) (h1 : Bv w' w.heap.size (.slice ao n cap) x) (h3 : w.heap.size ≤ w'.heap.size) => r2Encode_any f t k s a ao n cap w.heap.size x w' h1 h3
  have C3 := fun (w' : World) (h1 : Bv w' w.heap.size (.slice ao n cap) x) => fSize_any f t k s a ao n cap w.heap.size x w' h1
  have hbs := enc_small f t k s a x
  have hbl := enc_len f t k s a x
  obtain ⟨b, hb0⟩ : ∃ b, b = encN f t k s a x := ⟨_, rfl⟩
  rw [← hb0] at CE C2 C3 hbs hbl
  obtain ⟨er, her⟩ : ∃ er, er = ckErr f t k s a n := ⟨_, rfl⟩
  rw [← her] at CE C2
  obtain ⟨nb, hnb⟩ : ∃ nb, nb = b.length := ⟨_, rfl⟩
  rw [← hnb] at CE C2 C3 hbl
  have HC2 := hide C2; have HC3 := hide C3; have HBs := hide hbs; have HNb := hide hnb
  clear hx hy hb0 her hbs hnb C2 C3
  go_enter Try.func4, Try.ntmps4
  go_wp2_with fail
  refine CE.mono ?_
  clear CE
  rintro e w1 ⟨v1, rfl, ho, hb⟩
  obtain ⟨a1, cap1, rfl⟩ := own_slice ho
  have hv : Bv w1 w1.heap.size (.slice a1 nb cap1) b := by
    rw [HNb.out] at ho ⊢
    exact Bv.of_own ho HBs.out (by have := HNb.out; omega)
  have HV := hide hv; have HB := hide (HB.out.call hb); have HY := hide (HY.out.below hb (by simp <;> omega))
  clear ho hb hv
  obtain ⟨c0, c1, c2, c3, c4, c5⟩ := cell_of_six HB.out.bx
  go_wp2_with fail
  clear c0 c1 c2 c3 c4 c5
  refine (HC2.out _ HB.out.hx (Nat.le_of_lt HB.out.sz)).mono ?_
  rintro e w2 ⟨v2, rfl, ho, hb⟩
  obtain ⟨a2, cap2, rfl⟩ := own_slice ho
  have hv : Bv w2 w2.heap.size (.slice a2 nb cap2) b := by
    rw [HNb.out] at ho ⊢
    exact Bv.of_own ho HBs.out (by have := HNb.out; omega)
  have HW : Hid (Wx w w.heap.size w2.heap.size #[.int .i64 f, .int .i64 t, .int .i64 k, .int .i64 s, .int .i64 a, .slice ao n cap] (.slice ao n cap) (.slice none 0 0) (.slice a1 nb cap1) (.slice a2 nb cap2) x y b w2) :=
    hide ⟨(HB.out.call hb).below, Nat.le_refl _, (HB.out.call hb).sz, (HB.out.call hb).bx, (HB.out.call hb).hx, HY.out.below hb (Nat.le_of_lt HB.out.sz), (HV.out.below hb (Nat.le_refl _)).mono hb.size, hv⟩
  clear ho hb hv HB HY HV
  obtain ⟨c0, c1, c2, c3, c4, c5⟩ := cell_of_six HW.out.bx
  go_wp2_with fail
  obtain ⟨P, hP⟩ : ∃ P, P = w.heap.size := ⟨_, rfl⟩
  rw [← hP] at HW HC3 ⊢
  rw [← hP] at c0 c1 c2 c3 c4 c5
  have HPw := hide hP
  clear hP
  go_region_held3 (fun w' => w'.cell? ⟨P, 0, none⟩ = some (.int .i64 f) ∧ w'.cell? ⟨P, 1, none⟩ = some (.int .i64 t) ∧ w'.cell? ⟨P, 2, none⟩ = some (.int .i64 k) ∧ w'.cell? ⟨P, 3, none⟩ = some (.int .i64 s) ∧ w'.cell? ⟨P, 4, none⟩ = some (.int .i64 a) ∧ w'.cell? ⟨P, 5, none⟩ = some (.slice ao n cap))
    (first | exact ⟨c0, c1, c2, c3, c4, c5⟩ | go_keep)
    (first
      | (go_at_call 10; (with_reducible refine (begun_any _).mono ?_); rintro e w3 ⟨rfl, hb⟩; have HW := hide (HW.out.drew.call hb); clear hb; clear c0 c1 c2 c3 c4 c5; obtain ⟨c0, c1, c2, c3, c4, c5⟩ := cell_of_six HW.out.bx)
      | (go_at_call 18; (with_reducible refine (eq_same HW.out.h1 HW.out.h2).mono ?_); rintro e w4 ⟨rfl, rfl⟩)
      | (go_at_call 19; (with_reducible refine (HC3.out _ HW.out.hx).mono ?_); rintro e w5 ⟨rfl, hb⟩; have HW := hide (HW.out.call hb); clear hb; clear c0 c1 c2 c3 c4 c5; obtain ⟨c0, c1, c2, c3, c4, c5⟩ := cell_of_six HW.out.bx)
      | (go_at_call 20; (with_reducible refine (sum_one HW.out.hy HW.out.leP).mono ?_); rintro e w6 ⟨rfl, rfl⟩; have HW := hide (HW.out.alloc (.cells #[.slice none 0 0] 22)); clear c0 c1 c2 c3 c4 c5; obtain ⟨c0, c1, c2, c3, c4, c5⟩ := cell_of_six HW.out.bx)
      | (go_at_call 21; (with_reducible refine (r2Sum_any _ _ _ _ HW.out.hy).mono ?_); rintro e w7 ⟨rfl, rfl⟩)
      | (go_at_call 20; (with_reducible refine (sum_two (k := 0) _ (by simp) (Bv.nil _ _) HW.out.hy HW.out.leP).mono ?_); rintro e w8 ⟨rfl, rfl⟩; have HW := hide (HW.out.alloc (.cells #[.slice none 0 0, .slice none 0 0] 22)); clear c0 c1 c2 c3 c4 c5; obtain ⟨c0, c1, c2, c3, c4, c5⟩ := cell_of_six HW.out.bx))
  all_goals go_wp2
  all_goals go_ret
  all_goals exact ⟨rfl, by rw [← HPw.out]; exact HW.out.below⟩
set_option maxRecDepth 100000 in
set_option maxHeartbeats 3200000 in
theorem writes_zero (f t k s a : Int) (m : Nat) (ao : Option Addr) (ad : Addr) (n cap capy : Nat) (x : List Nat) (w : World) (hx : Bv w w.heap.size (.slice ao n cap) x) (hy : Bv w w.heap.size (.slice (some ad) 0 capy) []) (hm : m < 256) (hne : ¬ capy = 0) (hc : capy ≤ 9223372036854775807)
     :
    Calls Try.prog 4 #[.agg #[.int .i64 f, .int .i64 t, .int .i64 k, .int .i64 s, .int .i64 a, .slice ao n cap], .slice (some ad) 0 capy, .int .u8 (m : Int)] w fun e w' => e = .returned (.bool true) ∧ Below w.heap.size w w' := by
  have HB := hide (Bo.new (cs := #[.int .i64 f, .int .i64 t, .int .i64 k, .int .i64 s, .int .i64 a, .slice ao n cap]) hx)
  have HY := hide (hy.below (alloc_below w (.cells #[.int .i64 f, .int .i64 t, .int .i64 k, .int .i64 s, .int .i64 a, .slice ao n cap] 24)) (Nat.le_refl _))
  have CE := fEncode_any f t k s a ao n cap w.heap.size x (w.alloc (.cells #[.int .i64 f, .int .i64 t, .int .i64 k, .int .i64 s, .int .i64 a, .slice ao n cap] 24)) HB.out.hx (by simp)
  have C2 := fun (w' : World) (h1 : Bv w' w.heap.size (.slice ao n cap) x) (h3 : w.heap.size ≤ w'.heap.size) => r2Encode_any f t k s a ao n cap w.heap.size x w' h1 h3
  have C3 := fun (w' : World) (h1 : Bv w' w.heap.size (.slice ao n cap) x) => fSize_any f t k s a ao n cap w.heap.size x w' h1
  have hbs := enc_small f t k s a x
  have hbl := enc_len f t k s a x
  obtain ⟨b, hb0⟩ : ∃ b, b = encN f t k s a x := ⟨_, rfl⟩
  rw [← hb0] at CE C2 C3 hbs hbl
  obtain ⟨er, her⟩ : ∃ er, er = ckErr f t k s a n := ⟨_, rfl⟩
  rw [← her] at CE C2
  obtain ⟨nb, hnb⟩ : ∃ nb, nb = b.length := ⟨_, rfl⟩
  rw [← hnb] at CE C2 C3 hbl
  have HC2 := hide C2; have HC3 := hide C3; have HBs := hide hbs; have HNb := hide hnb
  clear hx hy hb0 her hbs hnb C2 C3
  go_enter Try.func4, Try.ntmps4
  go_wp2_with fail
  refine CE.mono ?_
  clear CE
  rintro e w1 ⟨v1, rfl, ho, hb⟩
  obtain ⟨a1, cap1, rfl⟩ := own_slice ho
  have hv : Bv w1 w1.heap.size (.slice a1 nb cap1) b := by
    rw [HNb.out] at ho ⊢
    exact Bv.of_own ho HBs.out (by have := HNb.out; omega)
  have HV := hide hv; have HB := hide (HB.out.call hb); have HY := hide (HY.out.below hb (by simp <;> omega))
  clear ho hb hv
  obtain ⟨c0, c1, c2, c3, c4, c5⟩ := cell_of_six HB.out.bx
  go_wp2_with fail
  clear c0 c1 c2 c3 c4 c5
  refine (HC2.out _ HB.out.hx (Nat.le_of_lt HB.out.sz)).mono ?_
  rintro e w2 ⟨v2, rfl, ho, hb⟩
  obtain ⟨a2, cap2, rfl⟩ := own_slice ho
  have hv : Bv w2 w2.heap.size (.slice a2 nb cap2) b := by
    rw [HNb.out] at ho ⊢
    exact Bv.of_own ho HBs.out (by have := HNb.out; omega)
  have HW : Hid (Wx w w.heap.size w2.heap.size #[.int .i64 f, .int .i64 t, .int .i64 k, .int .i64 s, .int .i64 a, .slice ao n cap] (.slice ao n cap) (.slice (some ad) 0 capy) (.slice a1 nb cap1) (.slice a2 nb cap2) x [] b w2) :=
    hide ⟨(HB.out.call hb).below, Nat.le_refl _, (HB.out.call hb).sz, (HB.out.call hb).bx, (HB.out.call hb).hx, HY.out.below hb (Nat.le_of_lt HB.out.sz), (HV.out.below hb (Nat.le_refl _)).mono hb.size, hv⟩
  clear ho hb hv HB HY HV
  obtain ⟨c0, c1, c2, c3, c4, c5⟩ := cell_of_six HW.out.bx
  go_wp2_with fail
  obtain ⟨P, hP⟩ : ∃ P, P = w.heap.size := ⟨_, rfl⟩
  rw [← hP] at HW HC3 ⊢
  rw [← hP] at c0 c1 c2 c3 c4 c5
  have HPw := hide hP
  clear hP
  go_region_held3 (fun w' => w'.cell? ⟨P, 0, none⟩ = some (.int .i64 f) ∧ w'.cell? ⟨P, 1, none⟩ = some (.int .i64 t) ∧ w'.cell? ⟨P, 2, none⟩ = some (.int .i64 k) ∧ w'.cell? ⟨P, 3, none⟩ = some (.int .i64 s) ∧ w'.cell? ⟨P, 4, none⟩ = some (.int .i64 a) ∧ w'.cell? ⟨P, 5, none⟩ = some (.slice ao n cap))
    (first | exact ⟨c0, c1, c2, c3, c4, c5⟩ | go_keep)
    (first
      | (go_at_call 10; (with_reducible refine (begun_any _).mono ?_); rintro e w3 ⟨rfl, hb⟩; have HW := hide (HW.out.drew.call hb); clear hb; clear c0 c1 c2 c3 c4 c5; obtain ⟨c0, c1, c2, c3, c4, c5⟩ := cell_of_six HW.out.bx)
      | (go_at_call 18; (with_reducible refine (eq_same HW.out.h1 HW.out.h2).mono ?_); rintro e w4 ⟨rfl, rfl⟩)
      | (go_at_call 19; (with_reducible refine (HC3.out _ HW.out.hx).mono ?_); rintro e w5 ⟨rfl, hb⟩; have HW := hide (HW.out.call hb); clear hb; clear c0 c1 c2 c3 c4 c5; obtain ⟨c0, c1, c2, c3, c4, c5⟩ := cell_of_six HW.out.bx)
      | (go_at_call 20; (with_reducible refine (sum_one HW.out.hy HW.out.leP).mono ?_); rintro e w6 ⟨rfl, rfl⟩; have HW := hide (HW.out.alloc (.cells #[.slice (some ad) 0 capy] 22)); clear c0 c1 c2 c3 c4 c5; obtain ⟨c0, c1, c2, c3, c4, c5⟩ := cell_of_six HW.out.bx)
      | (go_at_call 21; (with_reducible refine (r2Sum_any _ _ _ _ HW.out.hy).mono ?_); rintro e w7 ⟨rfl, rfl⟩)
      | (go_at_call 20; (with_reducible refine (sum_two (k := 0) (y := []) _ (by simp) (Bv.none_ _ _ (some ad) capy hc (fun h => by cases h)) (Bv.none_ _ _ (some (ad.add 0)) capy hc (fun h => by cases h)) HW.out.leP).mono ?_); rintro e w8 ⟨rfl, hw8⟩; have HW := hide (Wx.eq hw8 (HW.out.alloc _)); clear hw8; clear c0 c1 c2 c3 c4 c5; obtain ⟨c0, c1, c2, c3, c4, c5⟩ := cell_of_six HW.out.bx))
  all_goals go_wp2
  all_goals go_ret
  all_goals exact ⟨rfl, by rw [← HPw.out]; exact HW.out.below⟩
theorem writes_any (f t k s a m : Int) (ao ad : Option Addr) (n cap ny capy : Nat) (x y : List Nat) (w : World) (hx : Bv w w.heap.size (.slice ao n cap) x) (hy : Bv w w.heap.size (.slice ad ny capy) y) (hm : (Lit.int .u8 m).wf = true) :
    Calls Try.prog 4 #[.agg #[.int .i64 f, .int .i64 t, .int .i64 k, .int .i64 s, .int .i64 a, .slice ao n cap], .slice ad ny capy, .int .u8 m] w fun e w' => e = .returned (.bool true) ∧ Below w.heap.size w w' := by
  have h0 : 0 ≤ m ∧ m ≤ 255 := by simpa [Lit.wf, IntKind.min, IntKind.max, IntKind.signed, IntKind.bits] using hm
  obtain ⟨M, rfl⟩ := Int.eq_ofNat_of_zero_le h0.1
  have hM : M < 256 := by omega
  obtain ⟨ad', cap', h1, h2, h2', h2n, h3⟩ := hy.row
  have hny := hy.bytesIn.1
  simp only [Value.slice.injEq] at h1
  obtain ⟨rfl, _, rfl⟩ := h1
  cases ad with
  | none =>
    obtain rfl : capy = 0 := h2n rfl
    obtain rfl : ny = 0 := by omega
    exact writes_none f t k s a M ao n cap x y w hx hy hM
  | some q =>
    have hk := Nat.mod_lt M (show 0 < ny + 1 by omega)
    by_cases hz : ny = 0
    · subst hz
      obtain rfl : y = [] := List.length_eq_zero_iff.1 hny.symm
      by_cases hc : capy = 0
      · subst hc
        exact writes_full f t k s a M ao q n cap 0 x [] w hx hy hM (by omega)
      · exact writes_zero f t k s a M ao q n cap capy x w hx hy hM hc h2'
    · obtain ⟨b, o, hq, _⟩ := h3 (by omega)
      simp only [Option.some.injEq] at hq
      subst hq
      by_cases hc : capy = M % (ny + 1)
      · obtain rfl : capy = ny := by omega
        exact writes_full f t k s a M ao _ n cap capy x y w hx hy hM hc.symm
      · exact writes_part f t k s a M ao b o n cap ny capy x y w hx hy hM hc (by omega)
end Go.Proofs.Ytebojmjbolphfaa
