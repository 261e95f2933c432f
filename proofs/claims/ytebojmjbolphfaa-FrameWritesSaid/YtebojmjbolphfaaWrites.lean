/- The walk of FrameWrites. -/
import Derived.Test.YtebojmjbolphfaaOwnw
import Derived.Test.YtebojmjbolphfaaFren
import Derived.Test.YtebojmjbolphfaaSums
import Derived.Deep.RegionHeld3
namespace Go.Proofs.Ytebojmjbolphfaa
open Go Go.RowKit Crc

theorem alloc_below (w : World) (o : Obj) : Below w.heap.size w (w.alloc o) := (Below.refl _ _).alloc (Nat.le_refl _) o
theorem sum_one {B cap : Nat} {v : Value} {y : List Nat} {w : World} (h : Bv w B v y) (hB : B ≤ w.heap.size) :
    Calls Try.prog 20 #[.slice (some ⟨w.heap.size, 0, none⟩) 1 cap] (w.alloc (.cells #[v] 22)) fun e w' => e = .returned (.int .u32 ((sumN y : Nat) : Int)) ∧ w.alloc (.cells #[v] 22) = w' := by
  have C := sum_any w.heap.size cap [(v, y)] (w.alloc (.cells #[v] 22)) (fun j hj => by
    obtain rfl : j = 0 := by simpa using hj
    exact ⟨cell_alloc_one _ _ rfl _ _, B, h.below (alloc_below _ _) hB⟩) (by simp)
  rw [show ([(v, y)] : List (Value × List Nat)).flatMap (fun x => x.2) = y by simp] at C
  exact C
theorem sum_two {B cap k : Nat} (q : Nat) {v v' : Value} {y : List Nat} {w : World} (hq : q = w.heap.size) (h : Bv w B v (y.take k)) (h' : Bv w B v' (y.drop k)) (hB : B ≤ w.heap.size) :
    Calls Try.prog 20 #[.slice (some ⟨q, 0, none⟩) 2 cap] (w.alloc (.cells #[v, v'] 22)) fun e w' => e = .returned (.int .u32 ((sumN y : Nat) : Int)) ∧ w.alloc (.cells #[v, v'] 22) = w' := by
  subst hq
  have C := sum_any w.heap.size cap [(v, y.take k), (v', y.drop k)] (w.alloc (.cells #[v, v'] 22)) (fun j hj => by
    match j, hj with
    | 0, _ => exact ⟨cell_alloc_two _ _ rfl _ _ _ 0 rfl, B, h.below (alloc_below _ _) hB⟩
    | 1, _ => exact ⟨cell_alloc_two _ _ rfl _ _ _ 1 rfl, B, h'.below (alloc_below _ _) hB⟩) (by simp)
  rw [show ([(v, y.take k), (v', y.drop k)] : List (Value × List Nat)).flatMap (fun x => x.2) = y by simp] at C
  exact C

theorem eq_same {w : World} {B B' : Nat} {ao ao' : Option Addr} {n n' cap cap' : Nat} {b : List Nat} (h1 : Bv w B (.slice ao n cap) b) (h2 : Bv w B' (.slice ao' n' cap') b) :
    Calls Try.prog 18 #[.slice ao n cap, .slice ao' n' cap'] w fun e w' => e = .returned (.bool true) ∧ w = w' := by
  have h := h1.equal h2
  simp only [decide_true] at h
  exact h

theorem Bv.none_ (w : World) (B : Nat) (ao : Option Addr) (cap : Nat) (hc : cap ≤ 9223372036854775807) (hn : ao = none → cap = 0) : Bv w B (.slice ao 0 cap) [] :=
  ⟨by simp, by simp, ao, cap, rfl, by simp, hc, hn, fun h => by simp at h⟩
theorem Bv.from_le {w : World} {B b o n cap k : Nat} {bytes : List Nat} (h : Bv w B (.slice (some ⟨b, o, none⟩) n cap) bytes) (hk : k ≤ n) : Bv w B (.slice (some ⟨b, o + k, none⟩) (n - k) (cap - k)) (bytes.drop k) := by
  rcases Nat.lt_or_ge k n with hlt | hge
  · exact h.from_ hlt
  · obtain rfl : k = n := by omega
    obtain ⟨_, cap', h1, _, h2', _⟩ := h.row
    simp only [Value.slice.injEq] at h1
    rw [List.drop_of_length_le (by omega), Nat.sub_self]
    exact Bv.none_ _ _ _ _ (by omega) (fun h => by cases h)

/-- How things stand within FrameWrites: the datagram's box at P; the bytes given; what was written twice. -/
structure Wx (w0 : World) (P Q : Nat) (cs : Array Value) (va vy v1 v2 : Value) (x y b : List Nat) (w : World) : Prop where
  below : Below P w0 w
  le : Q ≤ w.heap.size
  lt : P < Q
  bx : w.heap[P]? = some (.cells cs 24 (0, 0))
  hx : Bv w P va x
  hy : Bv w P vy y
  h1 : Bv w Q v1 b
  h2 : Bv w Q v2 b
theorem Wx.call {w0 : World} {P Q : Nat} {cs : Array Value} {va vy v1 v2 : Value} {x y b : List Nat} {w w' : World} (h : Wx w0 P Q cs va vy v1 v2 x y b w) (hb : Below w.heap.size w w') : Wx w0 P Q cs va vy v1 v2 x y b w' := by
  have h1 := h.le; have h2 := h.lt
  exact ⟨h.below.trans (hb.mono (by omega)), Nat.le_trans h.le hb.size, h.lt, (hb.block P (by omega)).trans h.bx, h.hx.below hb (by omega), h.hy.below hb (by omega), h.h1.below hb h1, h.h2.below hb h1⟩
theorem Wx.drew {w0 : World} {P Q : Nat} {cs : Array Value} {va vy v1 v2 : Value} {x y b : List Nat} {w : World} (h : Wx w0 P Q cs va vy v1 v2 x y b w) : Wx w0 P Q cs va vy v1 v2 x y b w.drew :=
  ⟨h.below.drew, h.le, h.lt, h.bx, h.hx.drew, h.hy.drew, h.h1.drew, h.h2.drew⟩
theorem Wx.alloc {w0 : World} {P Q : Nat} {cs : Array Value} {va vy v1 v2 : Value} {x y b : List Nat} {w : World} (h : Wx w0 P Q cs va vy v1 v2 x y b w) (o : Obj) : Wx w0 P Q cs va vy v1 v2 x y b (w.alloc o) := h.call (alloc_below _ _)
theorem Wx.leP {w0 : World} {P Q : Nat} {cs : Array Value} {va vy v1 v2 : Value} {x y b : List Nat} {w : World} (h : Wx w0 P Q cs va vy v1 v2 x y b w) : P ≤ w.heap.size := by
  have h1 := h.le; have h2 := h.lt; omega
theorem Wx.eq {w0 : World} {P Q : Nat} {cs : Array Value} {va vy v1 v2 : Value} {x y b : List Nat} {w w' : World} (e : w = w') (h : Wx w0 P Q cs va vy v1 v2 x y b w) : Wx w0 P Q cs va vy v1 v2 x y b w' := e ▸ h
end Go.Proofs.Ytebojmjbolphfaa
namespace Go.Proofs.Ytebojmjbolphfaa
open Go Go.RowKit Crc

set_option maxRecDepth 100000 in
set_option maxHeartbeats 3200000 in
theorem writes_part (f t k s a : Int) (m : Nat) (ao : Option Addr) (yb yo : Nat) (n cap ny capy : Nat) (x y : List Nat) (w : World) (hx : Bv w w.heap.size (.slice ao n cap) x) (hy : Bv w w.heap.size (.slice (some ⟨yb, yo, none⟩) ny capy) y) (hm : m < 256)
    (hne : ¬ capy = m % (ny + 1)) (hlt : m % (ny + 1) ≤ ny) :
    Calls Try.prog 4 #[.agg #[.int .i64 f, .int .i64 t, .int .i64 k, .int .i64 s, .int .i64 a, .slice ao n cap], .slice (some ⟨yb, yo, none⟩) ny capy, .int .u8 (m : Int)] w fun e w' => e = .returned (.bool true) ∧ Below w.heap.size w w' := by
  have hny := hy.bytesIn.1
  have hyl := hy.len
  have hyb : ny ≤ 140737488355328 := by omega
  have hcapy : ny ≤ capy := by
    obtain ⟨_, _, h1, h2, _⟩ := hy.row
    simp only [Value.slice.injEq] at h1
    omega
  have HB := hide (Bo.new (cs := #[.int .i64 f, .int .i64 t, .int .i64 k, .int .i64 s, .int .i64 a, .slice ao n cap]) hx)
  have HY := hide (hy.below (alloc_below w (.cells #[.int .i64 f, .int .i64 t, .int .i64 k, .int .i64 s, .int .i64 a, .slice ao n cap] 24)) (Nat.le_refl _))
  have CE := fEncode_any f t k s a ao n cap w.heap.size x (w.alloc (.cells #[.int .i64 f, .int .i64 t, .int .i64 k, .int .i64 s, .int .i64 a, .slice ao n cap] 24)) HB.out.hx (by simp)
  have C2 := fun (w' : World) (h1 : Bv w' w.heap.size (.slice ao n cap) x) (h3 : w.heap.size ≤ w'.heap.size) => r2Encode_any f t k s a ao n cap w.heap.size x w' h1 h3
  have C3 := fun (w' : World) (h1 : Bv w' w.heap.size (.slice ao n cap) x) => fSize_any f t k s a ao n cap w.heap.size x w' h1
  have hbs := enc_small f t k s a x
  have hbl := enc_len f t k s a x
  obtain ⟨b, hb0⟩ : ∃ b, b = encN f t k s a x := ⟨_, rfl⟩
  rw [← hb0] at CE C2 C3 hbs hbl
  obtain ⟨er, her⟩ : ∃ er, er = ckErr f t k s a n := ⟨_, rfl⟩
  rw [← her] at CE C2
  obtain ⟨nb, hnb⟩ : ∃ nb, nb = b.length := ⟨_, rfl⟩
  rw [← hnb] at CE C2 C3 hbl
  have HC2 := hide C2; have HC3 := hide C3; have HBs := hide hbs; have HNb := hide hnb
  clear hx hy hb0 her hbs hnb C2 C3 hny hyl
  go_enter Try.func4, Try.ntmps4
  go_wp2_with fail
  refine CE.mono ?_
  clear CE
  rintro e w1 ⟨v1, rfl, ho, hb⟩
  obtain ⟨a1, cap1, rfl⟩ := own_slice ho
  have hv : Bv w1 w1.heap.size (.slice a1 nb cap1) b := by
    rw [HNb.out] at ho ⊢
    exact Bv.of_own ho HBs.out (by have := HNb.out; omega)
  have HV := hide hv; have HB := hide (HB.out.call hb); have HY := hide (HY.out.below hb (by simp <;> omega))
  clear ho hb hv
  obtain ⟨c0, c1, c2, c3, c4, c5⟩ := cell_of_six HB.out.bx
  go_wp2_with fail
  clear c0 c1 c2 c3 c4 c5
  refine (HC2.out _ HB.out.hx (Nat.le_of_lt HB.out.sz)).mono ?_
  rintro e w2 ⟨v2, rfl, ho, hb⟩
  obtain ⟨a2, cap2, rfl⟩ := own_slice ho
  have hv : Bv w2 w2.heap.size (.slice a2 nb cap2) b := by
    rw [HNb.out] at ho ⊢
    exact Bv.of_own ho HBs.out (by have := HNb.out; omega)
  have HW : Hid (Wx w w.heap.size w2.heap.size #[.int .i64 f, .int .i64 t, .int .i64 k, .int .i64 s, .int .i64 a, .slice ao n cap] (.slice ao n cap) (.slice (some ⟨yb, yo, none⟩) ny capy) (.slice a1 nb cap1) (.slice a2 nb cap2) x y b w2) :=
    hide ⟨(HB.out.call hb).below, Nat.le_refl _, (HB.out.call hb).sz, (HB.out.call hb).bx, (HB.out.call hb).hx, HY.out.below hb (Nat.le_of_lt HB.out.sz), (HV.out.below hb (Nat.le_refl _)).mono hb.size, hv⟩
  clear ho hb hv HB HY HV
  obtain ⟨kk, hkk⟩ : ∃ kk, kk = m % (ny + 1) := ⟨_, rfl⟩
  rw [← hkk] at hne hlt
  have HKK := hide hkk
  clear hkk
  obtain ⟨c0, c1, c2, c3, c4, c5⟩ := cell_of_six HW.out.bx
  go_wp2_with fail
  rw [show ((m : Int) % ((ny : Int) + 1)) = (kk : Int) by rw [HKK.out]; push_cast; rfl]
  obtain ⟨P, hP⟩ : ∃ P, P = w.heap.size := ⟨_, rfl⟩
  rw [← hP] at HW HC3 ⊢
  rw [← hP] at c0 c1 c2 c3 c4 c5
  have HPw := hide hP
  clear hP
  have hk0 : (0 : Int) ≤ (kk : Int) := by omega
  have hk1 : (kk : Int) ≤ (ny : Int) := by omega
  have hk2 : (kk : Int) ≤ (capy : Int) := by omega
  have hk3 : (ny : Int) ≤ (capy : Int) := by omega
  go_region_held3 (fun w' => w'.cell? ⟨P, 0, none⟩ = some (.int .i64 f) ∧ w'.cell? ⟨P, 1, none⟩ = some (.int .i64 t) ∧ w'.cell? ⟨P, 2, none⟩ = some (.int .i64 k) ∧ w'.cell? ⟨P, 3, none⟩ = some (.int .i64 s) ∧ w'.cell? ⟨P, 4, none⟩ = some (.int .i64 a) ∧ w'.cell? ⟨P, 5, none⟩ = some (.slice ao n cap))
    (first | exact ⟨c0, c1, c2, c3, c4, c5⟩ | go_keep)
    (first
      | (go_at_call 10; (with_reducible refine (begun_any _).mono ?_); rintro e w3 ⟨rfl, hb⟩; have HW := hide (HW.out.drew.call hb); clear hb; clear c0 c1 c2 c3 c4 c5; obtain ⟨c0, c1, c2, c3, c4, c5⟩ := cell_of_six HW.out.bx)
      | (go_at_call 18; (with_reducible refine (eq_same HW.out.h1 HW.out.h2).mono ?_); rintro e w4 ⟨rfl, rfl⟩)
      | (go_at_call 19; (with_reducible refine (HC3.out _ HW.out.hx).mono ?_); rintro e w5 ⟨rfl, hb⟩; have HW := hide (HW.out.call hb); clear hb; clear c0 c1 c2 c3 c4 c5; obtain ⟨c0, c1, c2, c3, c4, c5⟩ := cell_of_six HW.out.bx)
      | (go_at_call 20; (with_reducible refine (sum_one HW.out.hy HW.out.leP).mono ?_); rintro e w6 ⟨rfl, rfl⟩; have HW := hide (HW.out.alloc (.cells #[.slice (some ⟨yb, yo, none⟩) ny capy] 22)); clear c0 c1 c2 c3 c4 c5; obtain ⟨c0, c1, c2, c3, c4, c5⟩ := cell_of_six HW.out.bx)
      | (go_at_call 21; (with_reducible refine (r2Sum_any _ _ _ _ HW.out.hy).mono ?_); rintro e w7 ⟨rfl, rfl⟩)
      | (go_at_call 20; (with_reducible refine (sum_two _ (by simp) (HW.out.hy.upTo hlt) (HW.out.hy.from_le hlt) HW.out.leP).mono ?_); rintro e w8 ⟨rfl, rfl⟩; have HW := hide (HW.out.alloc (.cells #[.slice (some ⟨yb, yo, none⟩) kk capy, .slice (some ⟨yb, yo + kk, none⟩) (ny - kk) (capy - kk)] 22)); clear c0 c1 c2 c3 c4 c5; obtain ⟨c0, c1, c2, c3, c4, c5⟩ := cell_of_six HW.out.bx))
  all_goals go_wp2
  all_goals go_ret
  all_goals exact ⟨rfl, by rw [← HPw.out]; exact HW.out.below⟩
end Go.Proofs.Ytebojmjbolphfaa
