/- Joined: Put4, Fb0, Pt0, Pu0, Wx0, Bk4, Bq0, Wk0. -/
import Derived.Test.YtpbloplbpkedcaaJrc
import Derived.Test.YtpbloplbpkedcaaJrd
import Derived.Test.YtpbloplbpkedcaaJrb
import Derived.Test.YtpbloplbpkedcaaJrg
import Derived.Test.YtpbloplbpkedcaaJri
import Derived.Test.YtpbloplbpkedcaaJrh
import Derived.Test.YtpbloplbpkedcaaJre
/- Contracts: put of an attribute, of an event, into a sink that has room; how many bits an event has. -/
namespace Go.Proofs.Ytpbloplbpkedcaa
open Go Go.RowKit

theorem cell_of_four4 {w : World} {q : Nat} {c0 c1 c2 c3 : Value} {t : Nat} {fr : Nat × Nat} (h : w.heap[q]? = some (.cells #[c0, c1, c2, c3] t fr)) :
    w.cell? ⟨q, 0, none⟩ = some c0 ∧ w.cell? ⟨q, 1, none⟩ = some c1 ∧ w.cell? ⟨q, 2, none⟩ = some c2 ∧ w.cell? ⟨q, 3, none⟩ = some c3 := by
  refine ⟨?_, ?_, ?_, ?_⟩ <;> simp [World.cell?, h]

set_option maxRecDepth 100000 in
set_option maxHeartbeats 1600000 in
theorem ePutAttr_int (B q : Nat) (bs : List Bool) (nm s : ByteArray) (n : Int) (w : World) (hs : SinkIs w B q bs) (hB : B ≤ w.heap.size) (hn : (Lit.int .i64 n).wf = true)
    (hl : bs.length + ((2 * ahd nm.size + 1 + 8 * nm.size) + 2 + (2 * ahd (zigN n) + 1)) ≤ 1048576) :
    Calls Try.prog 182 #[.pointer (some ⟨q, 0, none⟩), .agg #[.string nm, .int .i64 1, .int .i64 n, .string s]] w
      fun e w' => e = .returned (.tuple #[]) ∧ SinkIs w' B q (bs ++ (textBits nm.data.toList ++ bitsOf 1 2 ++ natBits (zigN n))) ∧ Below B w w' := by
  obtain ⟨P, hP⟩ : ∃ P, P = w.heap.size := ⟨_, rfl⟩
  obtain ⟨W, hW⟩ : ∃ W, W = w.alloc (.cells #[.string nm, .int .i64 1, .int .i64 n, .string s] 78) := ⟨_, rfl⟩
  have hbel : Below B w W := by rw [hW]; exact (Below.refl _ _).alloc hB _
  have HSW := hide (by rw [hW]; exact hs.below ((Below.refl w.heap.size w).alloc (Nat.le_refl _) _) (Nat.le_refl _) : SinkIs W B q bs)
  have HPW := hide (by rw [hW, hP]; exact heap_alloc_new w _ : W.heap[P]? = some (.cells #[.string nm, .int .i64 1, .int .i64 n, .string s] 78 (0, 0)))
  have HBel := hide hbel; have HW := hide hW; have HP := hide hP
  have htl := textBits_len nm
  obtain ⟨L, hL⟩ : ∃ L, L = (textBits nm.data.toList).length := ⟨_, rfl⟩
  have CT := fun (w : World) (h : SinkIs w B q bs) => kText_fits B q nm bs w h (by omega)
  have CB := fun (w : World) (h : SinkIs w B q (bs ++ textBits nm.data.toList)) => kBits_fits B q 1 2 _ w h (by decide) (by decide) (by rw [List.length_append]; omega)
  have CN := fun (w : World) (h : SinkIs w B q (bs ++ textBits nm.data.toList ++ bitsOf 1 2)) => kNum_fits B q n _ w hn h (by rw [List.length_append, List.length_append, bitsOf_length]; omega)
  have HCT := hide CT; have HCB := hide CB; have HCN := hide CN
  clear hs hbel hW hP CT CB CN hl htl hL hn hB
  obtain ⟨c0, c1, c2, c3⟩ := cell_of_four4 HPW.out
  go_enter Try.func182, Try.ntmps182
  go_wp2_with fail
  rw [← HW.out, ← HP.out]
  refine (HCT.out _ HSW.out).mono ?_
  rintro e w1 ⟨rfl, hs1, k1⟩
  clear c0 c1 c2 c3
  have HP1 := hide (k1.typed _ _ _ _ HPW.out (by decide))
  obtain ⟨c0, c1, c2, c3⟩ := cell_of_four4 HP1.out
  have HS1 := hide hs1; have K1 := hide k1; clear hs1 k1
  go_wp2_with fail
  refine (HCB.out _ HS1.out).mono ?_
  rintro e w2 ⟨rfl, hs2, k2⟩
  clear c0 c1 c2 c3
  have HP2 := hide (k2.typed _ _ _ _ HP1.out (by decide))
  obtain ⟨c0, c1, c2, c3⟩ := cell_of_four4 HP2.out
  have HS2 := hide hs2; have K2 := hide (K1.out.trans k2); clear hs2 k2
  go_wp2_with fail
  refine (HCN.out _ HS2.out).mono ?_
  rintro e w3 ⟨rfl, hs3, k3⟩
  have HS3 := hide hs3; have K3 := hide (K2.out.trans k3); clear hs3 k3
  go_wp2
  go_end0
  refine ⟨rfl, ?_, HBel.out.trans K3.out.below⟩
  have := HS3.out
  rwa [List.append_assoc, List.append_assoc, ← List.append_assoc (textBits _)] at this

set_option maxRecDepth 100000 in
set_option maxHeartbeats 1600000 in
theorem ePutAttr_str (B q : Nat) (bs : List Bool) (nm s : ByteArray) (n : Int) (w : World) (hs : SinkIs w B q bs) (hB : B ≤ w.heap.size)
    (hl : bs.length + ((2 * ahd nm.size + 1 + 8 * nm.size) + 2 + (2 * ahd s.size + 1 + 8 * s.size)) ≤ 1048576) :
    Calls Try.prog 182 #[.pointer (some ⟨q, 0, none⟩), .agg #[.string nm, .int .i64 2, .int .i64 n, .string s]] w
      fun e w' => e = .returned (.tuple #[]) ∧ SinkIs w' B q (bs ++ (textBits nm.data.toList ++ bitsOf 2 2 ++ textBits s.data.toList)) ∧ Below B w w' := by
  obtain ⟨P, hP⟩ : ∃ P, P = w.heap.size := ⟨_, rfl⟩
  obtain ⟨W, hW⟩ : ∃ W, W = w.alloc (.cells #[.string nm, .int .i64 2, .int .i64 n, .string s] 78) := ⟨_, rfl⟩
  have hbel : Below B w W := by rw [hW]; exact (Below.refl _ _).alloc hB _
  have HSW := hide (by rw [hW]; exact hs.below ((Below.refl w.heap.size w).alloc (Nat.le_refl _) _) (Nat.le_refl _) : SinkIs W B q bs)
  have HPW := hide (by rw [hW, hP]; exact heap_alloc_new w _ : W.heap[P]? = some (.cells #[.string nm, .int .i64 2, .int .i64 n, .string s] 78 (0, 0)))
  have HBel := hide hbel; have HW := hide hW; have HP := hide hP
  have htl := textBits_len nm
  obtain ⟨L, hL⟩ : ∃ L, L = (textBits nm.data.toList).length := ⟨_, rfl⟩
  have CT := fun (w : World) (h : SinkIs w B q bs) => kText_fits B q nm bs w h (by omega)
  have CB := fun (w : World) (h : SinkIs w B q (bs ++ textBits nm.data.toList)) => kBits_fits B q 2 2 _ w h (by decide) (by decide) (by rw [List.length_append]; omega)
  have CN := fun (w : World) (h : SinkIs w B q (bs ++ textBits nm.data.toList ++ bitsOf 2 2)) => kText_fits B q s _ w h (by rw [List.length_append, List.length_append, bitsOf_length]; omega)
  have HCT := hide CT; have HCB := hide CB; have HCN := hide CN
  clear hs hbel hW hP CT CB CN hl htl hL hB
  obtain ⟨c0, c1, c2, c3⟩ := cell_of_four4 HPW.out
  go_enter Try.func182, Try.ntmps182
  go_wp2_with fail
  rw [← HW.out, ← HP.out]
  refine (HCT.out _ HSW.out).mono ?_
  rintro e w1 ⟨rfl, hs1, k1⟩
  clear c0 c1 c2 c3
  have HP1 := hide (k1.typed _ _ _ _ HPW.out (by decide))
  obtain ⟨c0, c1, c2, c3⟩ := cell_of_four4 HP1.out
  have HS1 := hide hs1; have K1 := hide k1; clear hs1 k1
  go_wp2_with fail
  refine (HCB.out _ HS1.out).mono ?_
  rintro e w2 ⟨rfl, hs2, k2⟩
  clear c0 c1 c2 c3
  have HP2 := hide (k2.typed _ _ _ _ HP1.out (by decide))
  obtain ⟨c0, c1, c2, c3⟩ := cell_of_four4 HP2.out
  have HS2 := hide hs2; have K2 := hide (K1.out.trans k2); clear hs2 k2
  go_wp2_with fail
  refine (HCN.out _ HS2.out).mono ?_
  rintro e w3 ⟨rfl, hs3, k3⟩
  have HS3 := hide hs3; have K3 := hide (K2.out.trans k3); clear hs3 k3
  go_wp2
  go_end0
  refine ⟨rfl, ?_, HBel.out.trans K3.out.below⟩
  have := HS3.out
  rwa [List.append_assoc, List.append_assoc, ← List.append_assoc (textBits _)] at this

def AtOk (x : At) : Prop := x.name.size ≤ 32 ∧ ((x.k = 1 ∧ x.s.size = 0) ∨ (x.k = 2 ∧ x.n = 0 ∧ x.s.size ≤ 64))
theorem ePutAttr_any (B q : Nat) (bs : List Bool) (x : At) (w : World) (hs : SinkIs w B q bs) (hB : B ≤ w.heap.size) (hx : AtOk x) (hn : (Lit.int .i64 x.n).wf = true) (hl : bs.length + (atBits x).length ≤ 1048576) :
    Calls Try.prog 182 #[.pointer (some ⟨q, 0, none⟩), .agg #[.string x.name, .int .i64 x.k, .int .i64 x.n, .string x.s]] w
      fun e w' => e = .returned (.tuple #[]) ∧ SinkIs w' B q (bs ++ atBits x) ∧ Below B w w' := by
  obtain ⟨nm, k, n, s⟩ := x
  obtain ⟨h1, h2⟩ := hx
  simp only at h1 h2 hn ⊢
  rw [atBits_len] at hl
  rcases h2 with ⟨rfl, h3⟩ | ⟨rfl, h3, h4⟩
  · rw [show atBits ⟨nm, 1, n, s⟩ = textBits nm.data.toList ++ bitsOf 1 2 ++ natBits (zigN n) from rfl]
    rw [show valBitsA ⟨nm, 1, n, s⟩ = natBits (zigN n) from rfl, natBits_length] at hl
    exact ePutAttr_int B q bs nm s n w hs hB hn hl
  · rw [show atBits ⟨nm, 2, n, s⟩ = textBits nm.data.toList ++ bitsOf 2 2 ++ textBits s.data.toList from rfl]
    rw [show valBitsA ⟨nm, 2, n, s⟩ = textBits s.data.toList from rfl, textBits_len] at hl
    exact ePutAttr_str B q bs nm s n w hs hB hl
end Go.Proofs.Ytpbloplbpkedcaa
namespace Go.Proofs.Ytpbloplbpkedcaa
open Go Go.RowKit

theorem take_flat (xs : List At) (k : Nat) (h : k < xs.length) : (xs.take (k + 1)).flatMap atBits = (xs.take k).flatMap atBits ++ atBits xs[k]! := by
  rw [List.take_succ_eq_append_getElem h, List.flatMap_append, getElem!_pos xs k h]; simp
theorem take_flat_le (xs : List At) (k : Nat) (h : k < xs.length) : ((xs.take k).flatMap atBits).length + (atBits xs[k]!).length ≤ (xs.flatMap atBits).length := by
  have e : xs.flatMap atBits = (xs.take (k + 1)).flatMap atBits ++ (xs.drop (k + 1)).flatMap atBits := by rw [← List.flatMap_append, List.take_append_drop]
  rw [e, take_flat xs k h, List.length_append, List.length_append]; omega

set_option maxRecDepth 100000 in
set_option maxHeartbeats 3200000 in
theorem eput_nat (B q S Q T : Nat) (bs : List Bool) (ty : ByteArray) (ats : List At) (ao : Option Addr) (n cap : Nat) (w : World) (hs : SinkIs w B q bs) (hB : B ≤ w.heap.size)
    (hv : Av w B (.slice ao n cap) ats) (hok : EvOk ⟨S, Q, T, ty, ats⟩) (hn : ∀ x ∈ ats, (Lit.int .i64 x.n).wf = true) (hl : bs.length + (evBits ⟨S, Q, T, ty, ats⟩).length ≤ 1048576) :
    Calls Try.prog 164 #[.pointer (some ⟨q, 0, none⟩), .agg #[.int .i64 (S : Int), .int .i64 (Q : Int), .int .i64 (T : Int), .string ty, .slice ao n cap]] w
      fun e w' => e = .returned (.tuple #[]) ∧ SinkIs w' B q (bs ++ evBits ⟨S, Q, T, ty, ats⟩) ∧ Below B w w' := by
  obtain ⟨P, hP⟩ : ∃ P, P = w.heap.size := ⟨_, rfl⟩
  obtain ⟨W, hW⟩ : ∃ W, W = w.alloc (.cells #[.int .i64 (S : Int), .int .i64 (Q : Int), .int .i64 (T : Int), .string ty, .slice ao n cap] 36) := ⟨_, rfl⟩
  have hbel : Below B w W := by rw [hW]; exact (Below.refl _ _).alloc hB _
  have HSW := hide (by rw [hW]; exact hs.below ((Below.refl w.heap.size w).alloc (Nat.le_refl _) _) (Nat.le_refl _) : SinkIs W B q bs)
  have HPW := hide (by rw [hW, hP]; exact heap_alloc_new w _ : W.heap[P]? = some (.cells #[.int .i64 (S : Int), .int .i64 (Q : Int), .int .i64 (T : Int), .string ty, .slice ao n cap] 36 (0, 0)))
  have HBel := hide hbel; have HW := hide hW; have HP := hide hP
  have hBP : B ≤ P := by omega
  obtain ⟨hnx, hn63⟩ := hv.num
  have hn8 : n ≤ 8 := by have := hok.ats; simp only at this; omega
  have hS := hok.src; have hQ := hok.seq; have hT := hok.time; have hty := hok.ty
  simp only at hS hQ hT hty
  have hS16 : S < 16 := by omega
  have hQ40 : Q ≤ 1099511627776 := by omega
  have hT40 : T ≤ 1099511627776 := by omega
  have hel : (evBits ⟨S, Q, T, ty, ats⟩).length = 4 + (2 * ahd Q + 1) + (2 * ahd T + 1) + (2 * ahd ty.size + 1 + 8 * ty.size) + 4 + (ats.flatMap atBits).length := by
    unfold evBits; rw [List.length_append, headE_len]; rfl
  rw [hel] at hl
  have htl := textBits_len ty
  have hql := natBits_length Q; have htl2 := natBits_length T
  obtain ⟨L, hL⟩ : ∃ L, L = (ats.flatMap atBits).length := ⟨_, rfl⟩
  rw [← hL] at hl
  have C1 := fun (w : World) (h : SinkIs w B q bs) => kBits_fits B q S 4 bs w h (by decide) (by omega) (by omega)
  have C2 := fun (w : World) (h : SinkIs w B q (bs ++ bitsOf S 4)) => kNat_fits B q Q _ w (by omega) h (by rw [List.length_append, bitsOf_length]; omega)
  have C3 := fun (w : World) (h : SinkIs w B q (bs ++ bitsOf S 4 ++ natBits Q)) => kNat_fits B q T _ w (by omega) h (by rw [List.length_append, List.length_append, bitsOf_length]; omega)
  have C4 := fun (w : World) (h : SinkIs w B q (bs ++ bitsOf S 4 ++ natBits Q ++ natBits T)) => kText_fits B q ty _ w h (by rw [List.length_append, List.length_append, List.length_append, bitsOf_length]; omega)
  have C5 := fun (w : World) (h : SinkIs w B q (bs ++ bitsOf S 4 ++ natBits Q ++ natBits T ++ textBits ty.data.toList)) => kBits_fits B q n 4 _ w h (by decide) (by omega) (by rw [List.length_append, List.length_append, List.length_append, List.length_append, bitsOf_length]; omega)
  obtain ⟨hd, hhd⟩ : ∃ hd, hd = bs ++ headE ⟨S, Q, T, ty, ats⟩ := ⟨_, rfl⟩
  have HHD : Hid (bs ++ bitsOf S 4 ++ natBits Q ++ natBits T ++ textBits ty.data.toList ++ bitsOf n 4 = hd) := by
    rw [hhd, hnx]; unfold headE; simp only [List.append_assoc]; rfl
  have HEV : Hid (hd ++ ats.flatMap atBits = bs ++ evBits ⟨S, Q, T, ty, ats⟩) := by rw [hhd]; exact List.append_assoc _ _ _
  have hhl : hd.length + L ≤ 1048576 := by rw [hhd, List.length_append, headE_len]; show _ + (4 + (2 * ahd Q + 1) + (2 * ahd T + 1) + (2 * ahd ty.size + 1 + 8 * ty.size) + 4) + L ≤ _; omega
  have CA := fun (w : World) (k : Nat) (hk : k < ats.length) (h : SinkIs w B q (hd ++ (ats.take k).flatMap atBits)) (hBw : B ≤ w.heap.size) => ePutAttr_any B q _ ats[k]! w h hBw (by rw [getElem!_pos ats k hk]; exact hok.each _ (List.getElem_mem _)) (by rw [getElem!_pos ats k hk]; exact hn _ (List.getElem_mem _)) (by rw [List.length_append]; have := take_flat_le ats k hk; omega)
  have HC1 := hide C1; have HC2 := hide C2; have HC3 := hide C3; have HC4 := hide C4; have HC5 := hide C5; have HCA := hide CA
  have HAV := hide (hv.below hbel (Nat.le_refl _))
  have HNX := hide hnx
  clear hs hbel hW hP C1 C2 C3 C4 C5 CA hl hel htl hql htl2 hL hn hok hv hhd hhl hQ hT hS hnx hB
  have hSw : (S : Int) < 16 := by omega
  have hQw : (Q : Int) ≤ 1099511627776 := by omega
  have hTw : (T : Int) ≤ 1099511627776 := by omega
  have hnw : (n : Int) ≤ 8 := by omega
  obtain ⟨c0, c1, c2, c3, c4⟩ := cell_of_five HPW.out
  go_enter Try.func164, Try.ntmps164
  go_wp2_with fail
  rw [← HW.out, ← HP.out]
  refine (HC1.out _ HSW.out).mono ?_
  rintro e w1 ⟨rfl, hs1, k1⟩
  clear c0 c1 c2 c3 c4
  have HP1 := hide (k1.typed _ _ _ _ HPW.out (by decide))
  obtain ⟨c0, c1, c2, c3, c4⟩ := cell_of_five HP1.out
  have HS1 := hide hs1; have K1 := hide k1; clear hs1 k1
  go_wp2_with fail
  refine (HC2.out _ HS1.out).mono ?_
  rintro e w2 ⟨rfl, hs2, k2⟩
  clear c0 c1 c2 c3 c4
  have HP2 := hide (k2.typed _ _ _ _ HP1.out (by decide))
  obtain ⟨c0, c1, c2, c3, c4⟩ := cell_of_five HP2.out
  have HS2 := hide hs2; have K2 := hide (K1.out.trans k2); clear hs2 k2
  go_wp2_with fail
  refine (HC3.out _ HS2.out).mono ?_
  rintro e w3 ⟨rfl, hs3, k3⟩
  clear c0 c1 c2 c3 c4
  have HP3 := hide (k3.typed _ _ _ _ HP2.out (by decide))
  obtain ⟨c0, c1, c2, c3, c4⟩ := cell_of_five HP3.out
  have HS3 := hide hs3; have K3 := hide (K2.out.trans k3); clear hs3 k3
  go_wp2_with fail
  refine (HC4.out _ HS3.out).mono ?_
  rintro e w4 ⟨rfl, hs4, k4⟩
  clear c0 c1 c2 c3 c4
  have HP4 := hide (k4.typed _ _ _ _ HP3.out (by decide))
  obtain ⟨c0, c1, c2, c3, c4⟩ := cell_of_five HP4.out
  have HS4 := hide hs4; have K4 := hide (K3.out.trans k4); clear hs4 k4
  go_wp2_with fail
  refine (HC5.out _ HS4.out).mono ?_
  rintro e w5 ⟨rfl, hs5, k5⟩
  rw [HHD.out] at hs5
  clear c0 c1 c2 c3 c4
  have HP5 := hide (k5.typed _ _ _ _ HP4.out (by decide))
  obtain ⟨c0, c1, c2, c3, c4⟩ := cell_of_five HP5.out
  have HS5 := hide hs5; have K5 := hide (HBel.out.trans (K4.out.trans k5).below)
  have HAV5 := hide (HAV.out.below (K4.out.trans k5).below (Nat.le_refl _))
  have HB5 := hide (show B ≤ w5.heap.size from Nat.le_of_lt (Nat.lt_of_le_of_lt hBP (lt_of_block HP5.out)))
  clear hs5 k5
  go_wp2_with fail
  go_loopw [36] (fun i wr => ∃ k : Nat, k ≤ n ∧ i = .int .i64 k ∧ Hid (SinkIs wr B q (hd ++ (ats.take k).flatMap atBits)) ∧ Hid (Below B w5 wr)) (fun i _ => n - (intOf i).toNat)
  case atStart => exact ⟨0, Nat.zero_le _, rfl, by simpa using HS5, Below.refl _ _⟩
  case round =>
    obtain ⟨k, hk, rfl, HSr, HKr⟩ := hrel
    by_cases hlt : k < n
    · have hkl : k < ats.length := by rw [← HNX.out]; exact hlt
      obtain ⟨b, o, rfl, hb, hnn, _, hcap, hcell⟩ := (HAV5.out.below HKr.out (Nat.le_refl _)).at (by omega)
      obtain ⟨x, hx⟩ : ∃ x, x = ats[k]! := ⟨_, rfl⟩
      obtain ⟨a0, a1, a2, a3⟩ := four_cells (w := wr) (b := b) (a := o + k * 4) (x := x) (fun i u hu => hcell k hkl i u (by rw [← hx]; exact hu))
      have HT := hide (take_flat ats k hkl)
      have hBr : B ≤ wr.heap.size := Nat.le_trans HB5.out HKr.out.size
      have hkz : (0 : Int) ≤ (k : Int) := by omega
      have CP := HCA.out (wr.alloc (.cells #[.string x.name, .int .i64 x.k, .int .i64 x.n, .string x.s] 78)) k hkl (HSr.out.below ((Below.refl wr.heap.size wr).alloc (Nat.le_refl _) _) (Nat.le_refl _)) (by simp; omega)
      rw [← hx] at CP HT
      have HCP := hide CP
      have HBR := hide hBr
      clear hcell hx hkl CP hb hnn
      go_wp2_with (go_at_call 182; (with_reducible refine (HCP.out).mono ?_); rintro e w7 ⟨rfl, hs7, hb7⟩; have HS7 := hide hs7; have HB7 := hide hb7; clear hs7 hb7)
      go_roundw
      case rel => exact ⟨k + 1, by omega, by go_num, by rw [HT.out, ← List.append_assoc]; exact HS7.out, (HKr.out.alloc HBR.out _).trans HB7.out⟩
      case measure => simp [intOf]; omega
    · go_wp2
      go_end0
      obtain rfl : k = n := by omega
      refine ⟨rfl, ?_, K5.out.trans HKr.out⟩
      have := HSr.out
      rwa [List.take_of_length_le (by rw [HNX.out]; exact Nat.le_refl _), HEV.out] at this
end Go.Proofs.Ytpbloplbpkedcaa
namespace Go.Proofs.Ytpbloplbpkedcaa
open Go Go.RowKit

theorem zig_ok {n : Int} (h : (Lit.int .i64 n).wf = true) : zigN n < 2 ^ 64 := zigN_lt n (by simpa [Lit.wf, IntKind.min, IntKind.max, IntKind.signed, IntKind.bits] using h)
def Wf (ats : List At) : Prop := ∀ x ∈ ats, (Lit.int .i64 x.n).wf = true

theorem eput_any (ev : Ev) (B q : Nat) (bs : List Bool) (ao : Option Addr) (n cap : Nat) (w : World) (hs : SinkIs w B q bs) (hB : B ≤ w.heap.size)
    (hv : Av w B (.slice ao n cap) ev.ats) (hok : EvOk ev) (hn : Wf ev.ats) (hl : bs.length + (evBits ev).length ≤ 1048576) :
    Calls Try.prog 164 #[.pointer (some ⟨q, 0, none⟩), evV ev (.slice ao n cap)] w
      fun e w' => e = .returned (.tuple #[]) ∧ SinkIs w' B q (bs ++ evBits ev) ∧ Below B w w' := by
  obtain ⟨s, sq, t, ty, ats⟩ := ev
  have h1 := hok.src0; have h2 := hok.seq0; have h3 := hok.time0
  simp only at h1 h2 h3
  obtain ⟨S, rfl⟩ := Int.eq_ofNat_of_zero_le h1
  obtain ⟨Q, rfl⟩ := Int.eq_ofNat_of_zero_le h2
  obtain ⟨T, rfl⟩ := Int.eq_ofNat_of_zero_le h3
  exact eput_nat B q S Q T bs ty ats ao n cap w hs hB hv hok hn hl

set_option maxRecDepth 100000 in
set_option maxHeartbeats 1600000 in
theorem eSize_any (ev : Ev) (B : Nat) (ao : Option Addr) (n cap : Nat) (w : World) (hB : B ≤ w.heap.size) (hv : Av w B (.slice ao n cap) ev.ats) (hok : EvOk ev) (hn : Wf ev.ats) :
    Calls Try.prog 163 #[evV ev (.slice ao n cap)] w fun e w' => e = .returned (.int .i64 ((evBits ev).length : Int)) ∧ Below w.heap.size w w' := by
  obtain ⟨P, hP⟩ : ∃ P, P = w.heap.size := ⟨_, rfl⟩
  obtain ⟨W, hW⟩ : ∃ W, W = w.alloc (.cells #[.int .i64 ev.src, .int .i64 ev.seq, .int .i64 ev.time, .string ev.ty, .slice ao n cap] 36) := ⟨_, rfl⟩
  have hbel : Below P w W := by rw [hW, hP]; exact (Below.refl _ _).alloc (Nat.le_refl _) _
  have hsz : P < W.heap.size := by rw [hW, hP]; simp
  have HPW := hide (by rw [hW, hP]; exact heap_alloc_new w _ : W.heap[P]? = some (.cells #[.int .i64 ev.src, .int .i64 ev.seq, .int .i64 ev.time, .string ev.ty, .slice ao n cap] 36 (0, 0)))
  have HBel := hide hbel; have HW := hide hW; have HP := hide hP
  have hle := evBits_le ev hok (fun x hx => zig_ok (hn x hx))
  have CP := fun (w : World) (q : Nat) (h : SinkIs w q q []) (hB : q ≤ w.heap.size) (hv : Av w q (.slice ao n cap) ev.ats) => eput_any ev q q [] ao n cap w h hB hv hok hn (by simp; omega)
  simp only [List.nil_append] at CP
  have HCP := hide CP
  have HAV := hide (hv.below hbel (by omega))
  obtain ⟨l, hlv⟩ : ∃ l, l = evBits ev := ⟨_, rfl⟩
  rw [← hlv] at hle HCP ⊢
  have HBP := hide (show B ≤ P by omega)
  have HSZ := hide hsz
  unfold evV at HCP ⊢
  rw [← hP]
  obtain ⟨s, sq, t, ty, ats⟩ := ev
  simp only at *
  have HLE := hide hle
  clear hbel hW hP CP hn hok hv hlv hB hle hsz
  go_enter Try.func163, Try.ntmps163
  go_wp2_with fail
  rw [← HW.out, ← HP.out]
  refine (newSink_any W).mono ?_
  obtain ⟨H1, hH1⟩ : ∃ H1, H1 = W.heap.size := ⟨_, rfl⟩
  rw [← hH1]
  have HH1 := hide hH1
  rintro e w1 ⟨rfl, hs1, k1⟩
  have h01 : P < H1 := by rw [hH1]; exact HSZ.out
  have hp1 := (k1.below.block P h01).trans HPW.out
  obtain ⟨c0, c1, c2, c3, c4⟩ := cell_of_five hp1
  have HS1 := hide hs1
  have HB1 := hide (HBel.out.trans (k1.below.mono (Nat.le_of_lt h01)))
  have HA1 := hide ((HAV.out.below k1.below (by have := HBP.out; omega)).mono (show B ≤ H1 by have := HBP.out; omega))
  have H1S := hide (show H1 ≤ w1.heap.size from Nat.le_of_lt hs1.lt)
  have H01 := hide h01
  clear hs1 k1 hH1 h01 hp1
  go_wp2_with fail
  refine (HCP.out w1 H1 HS1.out H1S.out HA1.out).mono ?_
  rintro e w2 ⟨rfl, hs2, hb2⟩
  have HB2 := hide (HB1.out.trans (hb2.mono (Nat.le_of_lt H01.out)))
  have CL := kLen_any H1 _ w2 hs2.made hs2.count
  clear hs2 hb2 c0 c1 c2 c3 c4
  go_wp2_with fail
  refine CL.mono ?_
  rintro e w3 ⟨rfl, rfl⟩
  go_wp2
  go_ret
  exact ⟨rfl, HB2.out⟩

/-- What Put answers of a sink that holds n bits. -/
def putErr (n : Nat) (ev : Ev) : Int := if ckE ev ≠ 0 then ckE ev else if 1048576 < n + (evBits ev).length then 3 else 0
def putBits (bs : List Bool) (ev : Ev) : List Bool := if putErr bs.length ev = 0 then bs ++ evBits ev else bs
theorem putErr_ck {n : Nat} {ev : Ev} (h : ckE ev ≠ 0) : putErr n ev = ckE ev := by unfold putErr; rw [if_pos h]
theorem putErr_long {n : Nat} {ev : Ev} (h : ckE ev = 0) (h2 : 1048576 < n + (evBits ev).length) : putErr n ev = 3 := by unfold putErr; rw [if_neg (by simpa using h), if_pos h2]
theorem putErr_ok {n : Nat} {ev : Ev} (h : ckE ev = 0) (h2 : ¬ 1048576 < n + (evBits ev).length) : putErr n ev = 0 := by unfold putErr; rw [if_neg (by simpa using h), if_neg h2]

set_option maxRecDepth 100000 in
set_option maxHeartbeats 3200000 in
theorem ePut_any (ev : Ev) (B q : Nat) (bs : List Bool) (ao : Option Addr) (n cap : Nat) (w : World) (hs : SinkIs w B q bs) (hB : B ≤ w.heap.size)
    (hv : Av w B (.slice ao n cap) ev.ats) (hty : ev.ty.size ≤ maxLen) (hn : Wf ev.ats) :
    Calls Try.prog 130 #[.pointer (some ⟨q, 0, none⟩), evV ev (.slice ao n cap)] w
      fun e w' => e = .returned (.int .i64 (putErr bs.length ev)) ∧ SinkIs w' B q (putBits bs ev) ∧ Below B w w' := by
  obtain ⟨P, hP⟩ : ∃ P, P = w.heap.size := ⟨_, rfl⟩
  obtain ⟨W, hW⟩ : ∃ W, W = w.alloc (.cells #[.int .i64 ev.src, .int .i64 ev.seq, .int .i64 ev.time, .string ev.ty, .slice ao n cap] 36) := ⟨_, rfl⟩
  have hbel : Below B w W := by rw [hW]; exact (Below.refl _ _).alloc hB _
  have hsz : P < W.heap.size := by rw [hW, hP]; simp
  have HPW := hide (by rw [hW, hP]; exact heap_alloc_new w _ : W.heap[P]? = some (.cells #[.int .i64 ev.src, .int .i64 ev.seq, .int .i64 ev.time, .string ev.ty, .slice ao n cap] 36 (0, 0)))
  have HSW := hide (by rw [hW]; exact hs.below ((Below.refl w.heap.size w).alloc (Nat.le_refl _) _) (Nat.le_refl _) : SinkIs W B q bs)
  have HBel := hide hbel; have HW := hide hW; have HP := hide hP
  have HBP := hide (show B ≤ P by omega)
  have hsl := hs.len
  have CB := fun (w : World) (h : SinkIs w B q bs) => kBits_fits B q 0 0 bs w h (by decide) (by decide) (by simpa using hsl)
  simp only [bitsOf_zero, List.append_nil] at CB
  have CC := fun (w : World) (h : Av w B (.slice ao n cap) ev.ats) (hB : B ≤ w.heap.size) => eCheck_any ev B ao n cap w h hB hty
  have HCB := hide CB
  have HAV := hide (hv.below hbel (Nat.le_refl _))
  by_cases hck : ckE ev = 0
  case neg =>
    rw [putErr_ck hck]
    rw [show putBits bs ev = bs by unfold putBits; rw [putErr_ck hck, if_neg hck]]
    obtain ⟨c, hc⟩ : ∃ c, c = ckE ev := ⟨_, rfl⟩
    rw [← hc] at CC hck ⊢
    have b1 : (c == 0) = false := by simp [hck]
    have b2 : (c != 0) = true := by simp [hck]
    have HCC := hide CC
    unfold evV at HCC ⊢
    obtain ⟨s, sq, t, ty, ats⟩ := ev
    simp only at *
    clear hs hbel hW hP CB CC hc hck hv hB hsz hn hty hsl
    go_enter Try.func130, Try.ntmps130
    go_wp2_with fail
    rw [← HW.out, ← HP.out]
    refine (HCB.out _ HSW.out).mono ?_
    rintro e w1 ⟨rfl, hs1, k1⟩
    have hp1 := k1.typed _ _ _ _ HPW.out (by decide)
    obtain ⟨c0, c1, c2, c3, c4⟩ := cell_of_five hp1
    have HS1 := hide hs1; have HB1 := hide (HBel.out.trans k1.below); have HA1 := hide (HAV.out.below k1.below (Nat.le_refl _))
    have HZ1 := hide (show B ≤ w1.heap.size from Nat.le_trans HBP.out (Nat.le_of_lt (lt_of_block hp1)))
    clear hs1 k1 hp1
    go_wp2_with fail
    refine (HCC.out _ HA1.out HZ1.out).mono ?_
    rintro e w2 ⟨rfl, hb2⟩
    have HS2 := hide (HS1.out.below hb2 (Nat.le_refl _)); have HB2 := hide (HB1.out.trans (hb2.mono HZ1.out))
    clear hb2 c0 c1 c2 c3 c4
    go_wp2
    go_ret
    exact ⟨rfl, HS2.out, HB2.out⟩
  have hok := EvOk.of hck
  rw [hck] at CC
  have HCC := hide CC
  have CS := fun (w : World) (h : Av w B (.slice ao n cap) ev.ats) (hB : B ≤ w.heap.size) => eSize_any ev B ao n cap w hB h hok hn
  obtain ⟨l, hlv⟩ : ∃ l, l = (evBits ev).length := ⟨_, rfl⟩
  obtain ⟨m, hm⟩ : ∃ m, m = bs.length := ⟨_, rfl⟩
  rw [← hlv] at CS
  have HCS := hide CS
  have CL := fun (w : World) (h : SinkIs w B q bs) => kLen_any q _ w h.made h.count
  rw [← hm] at CL hsl
  have HCL := hide CL
  by_cases hfit : 1048576 < m + l
  · rw [putErr_long hck (by rw [← hm, ← hlv]; exact hfit)]
    rw [show putBits bs ev = bs by unfold putBits; rw [putErr_long hck (by rw [← hm, ← hlv]; exact hfit), if_neg (by decide)]]
    have hd : decide (1048576 - (m : Int) < (l : Int)) = true := by simp; omega
    have hm0 : (0 : Int) ≤ (m : Int) := by omega
    have hm1 : (m : Int) ≤ 1048576 := by omega
    unfold evV at HCC HCS ⊢
    obtain ⟨s, sq, t, ty, ats⟩ := ev
    simp only at *
    clear hs hbel hW hP CB CC CS CL hck hv hB hsz hn hty hsl hok hlv hm hfit
    go_enter Try.func130, Try.ntmps130
    go_wp2_with fail
    rw [← HW.out, ← HP.out]
    refine (HCB.out _ HSW.out).mono ?_
    rintro e w1 ⟨rfl, hs1, k1⟩
    have HP1 := hide (k1.typed _ _ _ _ HPW.out (by decide))
    obtain ⟨c0, c1, c2, c3, c4⟩ := cell_of_five HP1.out
    have HS1 := hide hs1; have HB1 := hide (HBel.out.trans k1.below); have HA1 := hide (HAV.out.below k1.below (Nat.le_refl _))
    have HZ1 := hide (show B ≤ w1.heap.size from Nat.le_trans HBP.out (Nat.le_of_lt (lt_of_block HP1.out)))
    clear hs1 k1
    go_wp2_with fail
    refine (HCC.out _ HA1.out HZ1.out).mono ?_
    rintro e w2 ⟨rfl, hb2⟩
    have HS2 := hide (HS1.out.below hb2 (Nat.le_refl _)); have HB2 := hide (HB1.out.trans (hb2.mono HZ1.out)); have HA2 := hide (HA1.out.below hb2 HZ1.out)
    have HZ2 := hide (Nat.le_trans HZ1.out hb2.size)
    have HP2 := hide ((hb2.block P (lt_of_block HP1.out)).trans HP1.out)
    clear hb2 c0 c1 c2 c3 c4
    obtain ⟨c0, c1, c2, c3, c4⟩ := cell_of_five HP2.out
    go_wp2_with fail
    refine (HCS.out _ HA2.out HZ2.out).mono ?_
    rintro e w3 ⟨rfl, hb3⟩
    have HS3 := hide (HS2.out.below hb3 (Nat.le_refl _)); have HB3 := hide (HB2.out.trans (hb3.mono HZ2.out))
    clear hb3 c0 c1 c2 c3 c4
    go_wp2_with fail
    refine (HCL.out _ HS3.out).mono ?_
    rintro e w4 ⟨rfl, rfl⟩
    go_wp2
    go_ret
    exact ⟨rfl, HS3.out, HB3.out⟩
  · rw [putErr_ok hck (by rw [← hm, ← hlv]; exact hfit)]
    rw [show putBits bs ev = bs ++ evBits ev by unfold putBits; rw [putErr_ok hck (by rw [← hm, ← hlv]; exact hfit), if_pos rfl]]
    have CP := fun (w : World) (h : SinkIs w B q bs) (hB : B ≤ w.heap.size) (hv : Av w B (.slice ao n cap) ev.ats) => eput_any ev B q bs ao n cap w h hB hv hok hn (by rw [← hm, ← hlv]; omega)
    have HCP := hide CP
    have hd : decide (1048576 - (m : Int) < (l : Int)) = false := by simp; omega
    have hm0 : (0 : Int) ≤ (m : Int) := by omega
    have hm1 : (m : Int) ≤ 1048576 := by omega
    obtain ⟨eb, heb⟩ : ∃ eb, eb = evBits ev := ⟨_, rfl⟩
    rw [← heb] at HCP ⊢
    unfold evV at HCC HCS HCP ⊢
    obtain ⟨s, sq, t, ty, ats⟩ := ev
    simp only at *
    clear hs hbel hW hP CB CC CS CL CP hck hv hB hsz hn hty hsl hok hlv hm hfit heb
    go_enter Try.func130, Try.ntmps130
    go_wp2_with fail
    rw [← HW.out, ← HP.out]
    refine (HCB.out _ HSW.out).mono ?_
    rintro e w1 ⟨rfl, hs1, k1⟩
    have HP1 := hide (k1.typed _ _ _ _ HPW.out (by decide))
    obtain ⟨c0, c1, c2, c3, c4⟩ := cell_of_five HP1.out
    have HS1 := hide hs1; have HB1 := hide (HBel.out.trans k1.below); have HA1 := hide (HAV.out.below k1.below (Nat.le_refl _))
    have HZ1 := hide (show B ≤ w1.heap.size from Nat.le_trans HBP.out (Nat.le_of_lt (lt_of_block HP1.out)))
    clear hs1 k1
    go_wp2_with fail
    refine (HCC.out _ HA1.out HZ1.out).mono ?_
    rintro e w2 ⟨rfl, hb2⟩
    have HS2 := hide (HS1.out.below hb2 (Nat.le_refl _)); have HB2 := hide (HB1.out.trans (hb2.mono HZ1.out)); have HA2 := hide (HA1.out.below hb2 HZ1.out)
    have HZ2 := hide (Nat.le_trans HZ1.out hb2.size)
    have HP2 := hide ((hb2.block P (lt_of_block HP1.out)).trans HP1.out)
    clear hb2 c0 c1 c2 c3 c4
    obtain ⟨c0, c1, c2, c3, c4⟩ := cell_of_five HP2.out
    go_wp2_with fail
    refine (HCS.out _ HA2.out HZ2.out).mono ?_
    rintro e w3 ⟨rfl, hb3⟩
    have HS3 := hide (HS2.out.below hb3 (Nat.le_refl _)); have HB3 := hide (HB2.out.trans (hb3.mono HZ2.out)); have HA3 := hide (HA2.out.below hb3 HZ2.out)
    have HZ3 := hide (Nat.le_trans HZ2.out hb3.size)
    have HP3 := hide ((hb3.block P (lt_of_block HP2.out)).trans HP2.out)
    clear hb3 c0 c1 c2 c3 c4
    obtain ⟨c0, c1, c2, c3, c4⟩ := cell_of_five HP3.out
    go_wp2_with fail
    refine (HCL.out _ HS3.out).mono ?_
    rintro e w4 ⟨rfl, rfl⟩
    go_wp2_with fail
    refine (HCP.out _ HS3.out HZ3.out HA3.out).mono ?_
    rintro e w5 ⟨rfl, hs5, hb5⟩
    have HS5 := hide hs5; have HB5 := hide (HB3.out.trans hb5)
    clear hs5 hb5 c0 c1 c2 c3 c4
    go_wp2
    go_ret
    exact ⟨rfl, HS5.out, HB5.out⟩
end Go.Proofs.Ytpbloplbpkedcaa
namespace Go.Proofs.Ytpbloplbpkedcaa
open Go Go.RowKit

def evBytes (ev : Ev) : List Nat := if ckE ev = 0 then packed (evBits ev) else []
theorem evBytes_no {ev : Ev} (h : ckE ev ≠ 0) : evBytes ev = [] := by unfold evBytes; rw [if_neg h]
theorem evBytes_ok {ev : Ev} (h : ckE ev = 0) : evBytes ev = packed (evBits ev) := by unfold evBytes; rw [if_pos h]

end Go.Proofs.Ytpbloplbpkedcaa

/- The bits of a partial match, and how many they are at most. -/
namespace Go.Proofs.Ytpbloplbpkedcaa
open Go Go.RowKit

def bdBits (x : Bd) : List Bool := textBits x.var.data.toList ++ evBits x.ev
def pmBits (l : List Bd) : List Bool := bitsOf l.length 4 ++ l.flatMap bdBits
theorem nmB_len {n : Nat} {x : Bd} (h : nmB n x = true) : x.var.size ≤ 32 := by
  unfold nmB at h
  rw [size_of_data]
  rcases Bool.or_eq_true_iff.1 h with h | h
  · exact nameB_len h
  · have := (Bool.and_eq_true_iff.1 h).1
    simp only [decide_eq_true_eq] at this
    rw [this]; simp
theorem bdBits_le (x : Bd) (hv : x.var.size ≤ 32) (h : EvOk x.ev) (hn : ∀ a ∈ x.ev.ats, (Lit.int .i64 a.n).wf = true) : (bdBits x).length ≤ 8461 := by
  unfold bdBits
  have h1 := textBits_len x.var
  have h2 := ahd_text x.var.size (by omega)
  have h3 := evBits_le x.ev h (fun a ha => zig_ok (hn a ha))
  rw [List.length_append]
  omega
theorem flatBd_le : ∀ (l : List Bd) (_ : ∀ x ∈ l, (bdBits x).length ≤ 8461), (l.flatMap bdBits).length ≤ 8461 * l.length
  | [], _ => by simp
  | x :: r, h => by
    have h1 := flatBd_le r (fun y hy => h y (List.mem_cons_of_mem _ hy))
    have h2 := h x List.mem_cons_self
    simp only [List.flatMap_cons, List.length_append, List.length_cons]
    omega
theorem pmBits_le (l : List Bd) (h : Okl l) (hw : ∀ b ∈ l, ∀ a ∈ b.ev.ats, (Lit.int .i64 a.n).wf = true) : (pmBits l).length ≤ 4 + 8461 * l.length ∧ l.length ≤ 12 := by
  refine ⟨?_, h.len⟩
  unfold pmBits
  have := flatBd_le l (fun x hx => bdBits_le x (nmB_len (h.nm x hx)) (EvOk.of (h.ev x hx)) (hw x hx))
  rw [List.length_append, bitsOf_length]
  omega
theorem take_bd (xs : List Bd) (k : Nat) (h : k < xs.length) : (xs.take (k + 1)).flatMap bdBits = (xs.take k).flatMap bdBits ++ bdBits xs[k]! := by
  rw [List.take_succ_eq_append_getElem h, List.flatMap_append, getElem!_pos xs k h]; simp
theorem take_bd_le (xs : List Bd) (k : Nat) (h : k < xs.length) : ((xs.take k).flatMap bdBits).length + (bdBits xs[k]!).length ≤ (xs.flatMap bdBits).length := by
  have h1 := take_bd xs k h
  have h2 : xs.flatMap bdBits = (xs.take (k + 1)).flatMap bdBits ++ (xs.drop (k + 1)).flatMap bdBits := by rw [← List.flatMap_append, List.take_append_drop]
  rw [h2, h1]
  simp only [List.length_append]
  omega
end Go.Proofs.Ytpbloplbpkedcaa

/- Contract: the bits of a partial match that may be, put to a sink that has room for them. -/
namespace Go.Proofs.Ytpbloplbpkedcaa
open Go Go.RowKit

set_option maxRecDepth 100000 in
set_option maxHeartbeats 3200000 in
theorem mput_any (l : List Bd) (B q : Nat) (bs : List Bool) (ao : Option Addr) (n cap : Nat) (w : World) (hs : SinkIs w B q bs) (hB : B ≤ w.heap.size)
    (hv : BsV w B (.slice ao n cap) l) (hok : Okl l) (hwf : ∀ b ∈ l, ∀ a ∈ b.ev.ats, (Lit.int .i64 a.n).wf = true) (hl : bs.length + (pmBits l).length ≤ 1048576) :
    Calls Try.prog 102 #[.pointer (some ⟨q, 0, none⟩), .agg #[.slice ao n cap]] w
      fun e w' => e = .returned (.tuple #[]) ∧ SinkIs w' B q (bs ++ pmBits l) ∧ Below B w w' := by
  obtain ⟨P, hP⟩ : ∃ P, P = w.heap.size := ⟨_, rfl⟩
  obtain ⟨W, hW⟩ : ∃ W, W = w.alloc (.cells #[.slice ao n cap] 43) := ⟨_, rfl⟩
  have hbel : Below B w W := by rw [hW]; exact (Below.refl _ _).alloc hB _
  have HSW := hide (by rw [hW]; exact hs.below ((Below.refl w.heap.size w).alloc (Nat.le_refl _) _) (Nat.le_refl _) : SinkIs W B q bs)
  have HPW := hide (by rw [hW, hP]; exact heap_alloc_new w _ : W.heap[P]? = some (.cells #[.slice ao n cap] 43 (0, 0)))
  have HBel := hide hbel; have HW := hide hW; have HP := hide hP
  have hBP : B ≤ P := by omega
  obtain ⟨hn, hn63, hnc, hc63, _, hn80⟩ := hv.num
  have hlen := hok.len
  have hn16 : n ≤ 12 := by omega
  have eN : IntKind.u64.wrap (n : Int) = n := by rw [IntKind.wrap_u64]; omega
  have hel : (pmBits l).length = 4 + (l.flatMap bdBits).length := by unfold pmBits; rw [List.length_append, bitsOf_length]
  rw [hel] at hl
  have C1 := fun (w : World) (h : SinkIs w B q bs) => kBits_fits B q n 4 bs w h (by decide) (by omega) (by omega)
  obtain ⟨hd, hhd⟩ : ∃ hd, hd = bs ++ bitsOf n 4 := ⟨_, rfl⟩
  have HEV : Hid (hd ++ l.flatMap bdBits = bs ++ pmBits l) := by rw [hhd, hn]; exact List.append_assoc _ _ _
  have hhl : hd.length + (l.flatMap bdBits).length ≤ 1048576 := by rw [hhd, List.length_append, bitsOf_length]; omega
  rw [← hhd] at C1
  have CT := fun (w : World) (k : Nat) (hk : k < l.length) (h : SinkIs w B q (hd ++ (l.take k).flatMap bdBits)) => kText_fits B q l[k]!.var _ w h (by
    have h1 := take_bd_le l k hk
    have h2 := textBits_len l[k]!.var
    unfold bdBits at h1
    rw [List.length_append] at h1 ⊢
    unfold bdBits at hhl ⊢
    omega)
  have CE := fun (w : World) (k : Nat) (aa : Option Addr) (ac : Nat) (hk : k < l.length) (h : SinkIs w B q (hd ++ (l.take k).flatMap bdBits ++ textBits l[k]!.var.data.toList)) (hBw : B ≤ w.heap.size) (ha : Av w B (.slice aa l[k]!.ev.ats.length ac) l[k]!.ev.ats) (hty : l[k]!.ev.ty.size ≤ maxLen) =>
    (show Calls Try.prog 130 #[.pointer (some ⟨q, 0, none⟩), evV l[k]!.ev (.slice aa l[k]!.ev.ats.length ac)] w fun e w' => e = .returned (.int .i64 0) ∧ SinkIs w' B q (hd ++ (l.take (k + 1)).flatMap bdBits) ∧ Below B w w' from by
      have hm : l[k]! ∈ l := by rw [getElem!_pos l k hk]; exact List.getElem_mem _
      have he := ePut_any l[k]!.ev B q _ aa _ ac w h hBw ha hty (fun x hx => hwf _ hm x hx)
      have h0 : putErr (hd ++ (l.take k).flatMap bdBits ++ textBits l[k]!.var.data.toList).length l[k]!.ev = 0 := putErr_ok (hok.ev _ hm) (by
        have h1 := take_bd_le l k hk
        have h2 : (bdBits l[k]!).length = (textBits l[k]!.var.data.toList).length + (evBits l[k]!.ev).length := List.length_append
        rw [List.length_append, List.length_append]
        omega)
      unfold putBits at he
      rw [h0, if_pos rfl] at he
      have h3 : hd ++ (l.take k).flatMap bdBits ++ textBits l[k]!.var.data.toList ++ evBits l[k]!.ev = hd ++ (l.take (k + 1)).flatMap bdBits := by
        rw [take_bd l k hk]; unfold bdBits; simp only [List.append_assoc]
      rw [h3] at he
      exact he)
  have HC1 := hide C1; have HCT := hide CT; have HCE := hide CE
  have HAV := hide (hv.below hbel (Nat.le_refl _))
  have HN := hide hn
  clear hs hbel hW hP C1 CT CE hl hel hhl hwf hok hv hhd hlen hB hn hn80
  have c0 := cells_one0 HPW.out
  go_enter Try.func102, Try.ntmps102
  go_wp2_with fail
  rw [← HW.out, ← HP.out]
  refine (HC1.out _ HSW.out).mono ?_
  rintro e w5 ⟨rfl, hs5, k5⟩
  clear c0 eN
  have HP5 := hide (k5.typed _ _ _ _ HPW.out (by decide))
  have c0 := cells_one0 HP5.out
  have HS5 := hide hs5; have K5 := hide (HBel.out.trans k5.below)
  have HAV5 := hide (HAV.out.below k5.below (Nat.le_refl _))
  have HB5 := hide (show B ≤ w5.heap.size from Nat.le_of_lt (Nat.lt_of_le_of_lt hBP (lt_of_block HP5.out)))
  clear hs5 k5
  go_wp2_with fail
  clear c0
  go_loopw [15] (fun i wr => ∃ k : Nat, k ≤ n ∧ i = .int .i64 k ∧ Hid (SinkIs wr B q (hd ++ (l.take k).flatMap bdBits)) ∧ Hid (Below B w5 wr)) (fun i _ => n - (intOf i).toNat)
  case atStart => exact ⟨0, Nat.zero_le _, rfl, by simpa using HS5, Below.refl _ _⟩
  case round =>
    obtain ⟨k, hk, rfl, HSr, HKr⟩ := hrel
    by_cases hlt : k < n
    · obtain ⟨b, o, aa, ac, rfl, hb, hkl, hvs, hts, hnil, hav, hc⟩ := HAV5.out.at hlt
      obtain ⟨a0, a1, a2, a3, a4, a5⟩ := six_cells (hc wr HKr.out)
      have hBr : B ≤ wr.heap.size := Nat.le_trans HB5.out HKr.out.size
      have hX := (Below.refl wr.heap.size wr).alloc (Nat.le_refl _) (.cells #[.string l[k]!.var, .int .i64 l[k]!.ev.src, .int .i64 l[k]!.ev.seq, .int .i64 l[k]!.ev.time, .string l[k]!.ev.ty, .slice aa l[k]!.ev.ats.length ac] 91)
      have HCP := hide (HCT.out _ k hkl (HSr.out.below hX (Nat.le_refl _)))
      have HXB := hide (heap_alloc_new wr (.cells #[.string l[k]!.var, .int .i64 l[k]!.ev.src, .int .i64 l[k]!.ev.seq, .int .i64 l[k]!.ev.time, .string l[k]!.ev.ty, .slice aa l[k]!.ev.ats.length ac] 91))
      have HXL := hide (HKr.out.alloc hBr (.cells #[.string l[k]!.var, .int .i64 l[k]!.ev.src, .int .i64 l[k]!.ev.seq, .int .i64 l[k]!.ev.time, .string l[k]!.ev.ty, .slice aa l[k]!.ev.ats.length ac] 91))
      have HCQ := hide (fun u (hu : Below B w5 u) h => HCE.out u k aa ac hkl h (Nat.le_trans HB5.out hu.size) (hav.below hu (Nat.le_refl _)) hts)
      unfold evV at HCQ
      generalize l[k]! = x at *
      have HBR := hide hBr
      clear hc hkl hb hav hts hvs hnil hX
      go_wp2_with fail
      (with_reducible refine (HCP.out).mono ?_)
      rintro e w7 ⟨rfl, hs7, k7⟩
      have HS7 := hide hs7
      have HB7 := hide (HXL.out.trans k7.below)
      have c6 := k7.typed _ _ _ _ HXB.out (by decide)
      clear hs7 k7 a0 a1 a2 a3 a4 a5
      obtain ⟨a0, a1, a2, a3, a4, a5⟩ := cells_six c6
      clear c6
      go_wp2_with fail
      (with_reducible refine (HCQ.out _ HB7.out HS7.out).mono ?_)
      rintro e w8 ⟨rfl, hs8, hb8⟩
      have HS8 := hide hs8; have HB8 := hide (HB7.out.trans hb8)
      clear hs8 hb8
      go_wp2_with fail
      go_roundw
      case rel => exact ⟨k + 1, by omega, by go_num, HS8, HB8⟩
      case measure => simp [intOf]; omega
    · go_wp2
      go_end0
      obtain rfl : k = n := by omega
      refine ⟨rfl, ?_, K5.out.trans HKr.out⟩
      have := HSr.out
      rwa [List.take_of_length_le (by rw [← HN.out]; exact Nat.le_refl _), HEV.out] at this
end Go.Proofs.Ytpbloplbpkedcaa

/- Contracts: size, Put, Bytes of a partial match. -/
namespace Go.Proofs.Ytpbloplbpkedcaa
open Go Go.RowKit

theorem pm_le (ps : List Bd) (h : Okl ps) (hw : WfB ps) : (pmBits ps).length ≤ 1048576 := by
  obtain ⟨h1, h2⟩ := pmBits_le ps h hw
  omega
set_option maxRecDepth 100000 in
set_option maxHeartbeats 1600000 in
theorem mSize_any (ps : List Bd) (B : Nat) (ao : Option Addr) (n cap : Nat) (w : World) (hB : B ≤ w.heap.size) (hv : BsV w B (.slice ao n cap) ps) (hok : Okl ps) (hn : WfB ps) :
    Calls Try.prog 100 #[.agg #[.slice ao n cap]] w fun e w' => e = .returned (.int .i64 ((pmBits ps).length : Int)) ∧ Below w.heap.size w w' := by
  obtain ⟨P, hP⟩ : ∃ P, P = w.heap.size := ⟨_, rfl⟩
  obtain ⟨W, hW⟩ : ∃ W, W = w.alloc (.cells #[.slice ao n cap] 43) := ⟨_, rfl⟩
  have hbel : Below P w W := by rw [hW, hP]; exact (Below.refl _ _).alloc (Nat.le_refl _) _
  have hsz : P < W.heap.size := by rw [hW, hP]; simp
  have HPW := hide (by rw [hW, hP]; exact heap_alloc_new w _ : W.heap[P]? = some (.cells #[.slice ao n cap] 43 (0, 0)))
  have HBel := hide hbel; have HW := hide hW; have HP := hide hP
  have hle : (pmBits ps).length ≤ 1048576 := pm_le ps hok hn
  have CP := fun (w : World) (q : Nat) (h : SinkIs w q q []) (hB : q ≤ w.heap.size) (hv : BsV w q (.slice ao n cap) ps) => mput_any ps q q [] ao n cap w h hB hv hok hn (by simp; omega)
  simp only [List.nil_append] at CP
  have HCP := hide CP
  have HAV := hide (hv.below hbel (by omega))
  obtain ⟨l, hlv⟩ : ∃ l, l = pmBits ps := ⟨_, rfl⟩
  rw [← hlv] at hle HCP ⊢
  have HBP := hide (show B ≤ P by omega)
  have HSZ := hide hsz
  rw [← hP]
  have HLE := hide hle
  clear hbel hW hP CP hn hok hv hlv hB hle hsz
  go_enter Try.func100, Try.ntmps100
  go_wp2_with fail
  rw [← HW.out, ← HP.out]
  refine (newSink_any W).mono ?_
  obtain ⟨H1, hH1⟩ : ∃ H1, H1 = W.heap.size := ⟨_, rfl⟩
  rw [← hH1]
  have HH1 := hide hH1
  rintro e w1 ⟨rfl, hs1, k1⟩
  have h01 : P < H1 := by rw [hH1]; exact HSZ.out
  have hp1 := (k1.below.block P h01).trans HPW.out
  have c0 := cells_one0 hp1
  have HS1 := hide hs1
  have HB1 := hide (HBel.out.trans (k1.below.mono (Nat.le_of_lt h01)))
  have HA1 := hide ((HAV.out.below k1.below (by have := HBP.out; omega)).mono (show B ≤ H1 by have := HBP.out; omega))
  have H1S := hide (show H1 ≤ w1.heap.size from Nat.le_of_lt hs1.lt)
  have H01 := hide h01
  clear hs1 k1 hH1 h01 hp1
  go_wp2_with fail
  refine (HCP.out w1 H1 HS1.out H1S.out HA1.out).mono ?_
  rintro e w2 ⟨rfl, hs2, hb2⟩
  have HB2 := hide (HB1.out.trans (hb2.mono (Nat.le_of_lt H01.out)))
  have CL := kLen_any H1 _ w2 hs2.made hs2.count
  clear hs2 hb2 c0
  go_wp2_with fail
  refine CL.mono ?_
  rintro e w3 ⟨rfl, rfl⟩
  go_wp2
  go_ret
  exact ⟨rfl, HB2.out⟩

/-- What Put answers of a sink that holds n bits. -/
def putErrP (n : Nat) (ps : List Bd) : Int := if ckP ps ≠ 0 then ckP ps else if 1048576 < n + (pmBits ps).length then 3 else 0
def putBitsP (bs : List Bool) (ps : List Bd) : List Bool := if putErrP bs.length ps = 0 then bs ++ pmBits ps else bs
theorem putErrP_ck {n : Nat} {ps : List Bd} (h : ckP ps ≠ 0) : putErrP n ps = ckP ps := by unfold putErrP; rw [if_pos h]
theorem putErrP_long {n : Nat} {ps : List Bd} (h : ckP ps = 0) (h2 : 1048576 < n + (pmBits ps).length) : putErrP n ps = 3 := by unfold putErrP; rw [if_neg (by simpa using h), if_pos h2]
theorem putErrP_ok {n : Nat} {ps : List Bd} (h : ckP ps = 0) (h2 : ¬ 1048576 < n + (pmBits ps).length) : putErrP n ps = 0 := by unfold putErrP; rw [if_neg (by simpa using h), if_neg h2]

set_option maxRecDepth 100000 in
set_option maxHeartbeats 3200000 in
theorem mPut_any (ps : List Bd) (B q : Nat) (bs : List Bool) (ao : Option Addr) (n cap : Nat) (w : World) (hs : SinkIs w B q bs) (hB : B ≤ w.heap.size)
    (hv : BsV w B (.slice ao n cap) ps) (hn : WfB ps) :
    Calls Try.prog 67 #[.pointer (some ⟨q, 0, none⟩), .agg #[.slice ao n cap]] w
      fun e w' => e = .returned (.int .i64 (putErrP bs.length ps)) ∧ SinkIs w' B q (putBitsP bs ps) ∧ Below B w w' := by
  obtain ⟨P, hP⟩ : ∃ P, P = w.heap.size := ⟨_, rfl⟩
  obtain ⟨W, hW⟩ : ∃ W, W = w.alloc (.cells #[.slice ao n cap] 43) := ⟨_, rfl⟩
  have hbel : Below B w W := by rw [hW]; exact (Below.refl _ _).alloc hB _
  have hsz : P < W.heap.size := by rw [hW, hP]; simp
  have HPW := hide (by rw [hW, hP]; exact heap_alloc_new w _ : W.heap[P]? = some (.cells #[.slice ao n cap] 43 (0, 0)))
  have HSW := hide (by rw [hW]; exact hs.below ((Below.refl w.heap.size w).alloc (Nat.le_refl _) _) (Nat.le_refl _) : SinkIs W B q bs)
  have HBel := hide hbel; have HW := hide hW; have HP := hide hP
  have HBP := hide (show B ≤ P by omega)
  have hsl := hs.len
  have CB := fun (w : World) (h : SinkIs w B q bs) => kBits_fits B q 0 0 bs w h (by decide) (by decide) (by simpa using hsl)
  simp only [bitsOf_zero, List.append_nil] at CB
  have CC := fun (w : World) (h : BsV w B (.slice ao n cap) ps) (hB : B ≤ w.heap.size) => mCheck_any B ao n cap ps w h hB
  have HCB := hide CB
  have HAV := hide (hv.below hbel (Nat.le_refl _))
  by_cases hck : ckP ps = 0
  case neg =>
    rw [putErrP_ck hck]
    rw [show putBitsP bs ps = bs by unfold putBitsP; rw [putErrP_ck hck, if_neg hck]]
    obtain ⟨c, hc⟩ : ∃ c, c = ckP ps := ⟨_, rfl⟩
    rw [← hc] at CC hck ⊢
    have b1 : (c == 0) = false := by simp [hck]
    have b2 : (c != 0) = true := by simp [hck]
    have HCC := hide CC
    clear hs hbel hW hP CB CC hc hck hv hB hsz hn hsl
    go_enter Try.func67, Try.ntmps67
    go_wp2_with fail
    rw [← HW.out, ← HP.out]
    refine (HCB.out _ HSW.out).mono ?_
    rintro e w1 ⟨rfl, hs1, k1⟩
    have hp1 := k1.typed _ _ _ _ HPW.out (by decide)
    have c0 := cells_one0 hp1
    have HS1 := hide hs1; have HB1 := hide (HBel.out.trans k1.below); have HA1 := hide (HAV.out.below k1.below (Nat.le_refl _))
    have HZ1 := hide (show B ≤ w1.heap.size from Nat.le_trans HBP.out (Nat.le_of_lt (lt_of_block hp1)))
    clear hs1 k1 hp1
    go_wp2_with fail
    refine (HCC.out _ HA1.out HZ1.out).mono ?_
    rintro e w2 ⟨rfl, hb2⟩
    have HS2 := hide (HS1.out.below hb2 (Nat.le_refl _)); have HB2 := hide (HB1.out.trans (hb2.mono HZ1.out))
    clear hb2 c0
    go_wp2
    go_ret
    exact ⟨rfl, HS2.out, HB2.out⟩
  have hok := (ckP_iff ps).1 hck
  rw [hck] at CC
  have HCC := hide CC
  have CS := fun (w : World) (h : BsV w B (.slice ao n cap) ps) (hB : B ≤ w.heap.size) => mSize_any ps B ao n cap w hB h hok hn
  obtain ⟨l, hlv⟩ : ∃ l, l = (pmBits ps).length := ⟨_, rfl⟩
  obtain ⟨m, hm⟩ : ∃ m, m = bs.length := ⟨_, rfl⟩
  rw [← hlv] at CS
  have HCS := hide CS
  have CL := fun (w : World) (h : SinkIs w B q bs) => kLen_any q _ w h.made h.count
  rw [← hm] at CL hsl
  have HCL := hide CL
  by_cases hfit : 1048576 < m + l
  · rw [putErrP_long hck (by rw [← hm, ← hlv]; exact hfit)]
    rw [show putBitsP bs ps = bs by unfold putBitsP; rw [putErrP_long hck (by rw [← hm, ← hlv]; exact hfit), if_neg (by decide)]]
    have hd : decide (1048576 - (m : Int) < (l : Int)) = true := by simp; omega
    have hm0 : (0 : Int) ≤ (m : Int) := by omega
    have hm1 : (m : Int) ≤ 1048576 := by omega
    clear hs hbel hW hP CB CC CS CL hck hv hB hsz hn hsl hok hlv hm hfit
    go_enter Try.func67, Try.ntmps67
    go_wp2_with fail
    rw [← HW.out, ← HP.out]
    refine (HCB.out _ HSW.out).mono ?_
    rintro e w1 ⟨rfl, hs1, k1⟩
    have HP1 := hide (k1.typed _ _ _ _ HPW.out (by decide))
    have c0 := cells_one0 HP1.out
    have HS1 := hide hs1; have HB1 := hide (HBel.out.trans k1.below); have HA1 := hide (HAV.out.below k1.below (Nat.le_refl _))
    have HZ1 := hide (show B ≤ w1.heap.size from Nat.le_trans HBP.out (Nat.le_of_lt (lt_of_block HP1.out)))
    clear hs1 k1
    go_wp2_with fail
    refine (HCC.out _ HA1.out HZ1.out).mono ?_
    rintro e w2 ⟨rfl, hb2⟩
    have HS2 := hide (HS1.out.below hb2 (Nat.le_refl _)); have HB2 := hide (HB1.out.trans (hb2.mono HZ1.out)); have HA2 := hide (HA1.out.below hb2 HZ1.out)
    have HZ2 := hide (Nat.le_trans HZ1.out hb2.size)
    have HP2 := hide ((hb2.block P (lt_of_block HP1.out)).trans HP1.out)
    clear hb2 c0
    have c0 := cells_one0 HP2.out
    go_wp2_with fail
    refine (HCS.out _ HA2.out HZ2.out).mono ?_
    rintro e w3 ⟨rfl, hb3⟩
    have HS3 := hide (HS2.out.below hb3 (Nat.le_refl _)); have HB3 := hide (HB2.out.trans (hb3.mono HZ2.out))
    clear hb3 c0
    go_wp2_with fail
    refine (HCL.out _ HS3.out).mono ?_
    rintro e w4 ⟨rfl, rfl⟩
    go_wp2
    go_ret
    exact ⟨rfl, HS3.out, HB3.out⟩
  · rw [putErrP_ok hck (by rw [← hm, ← hlv]; exact hfit)]
    rw [show putBitsP bs ps = bs ++ pmBits ps by unfold putBitsP; rw [putErrP_ok hck (by rw [← hm, ← hlv]; exact hfit), if_pos rfl]]
    have CP := fun (w : World) (h : SinkIs w B q bs) (hB : B ≤ w.heap.size) (hv : BsV w B (.slice ao n cap) ps) => mput_any ps B q bs ao n cap w h hB hv hok hn (by rw [← hm, ← hlv]; omega)
    have HCP := hide CP
    have hd : decide (1048576 - (m : Int) < (l : Int)) = false := by simp; omega
    have hm0 : (0 : Int) ≤ (m : Int) := by omega
    have hm1 : (m : Int) ≤ 1048576 := by omega
    obtain ⟨eb, heb⟩ : ∃ eb, eb = pmBits ps := ⟨_, rfl⟩
    rw [← heb] at HCP ⊢
    clear hs hbel hW hP CB CC CS CL CP hck hv hB hsz hn hsl hok hlv hm hfit heb
    go_enter Try.func67, Try.ntmps67
    go_wp2_with fail
    rw [← HW.out, ← HP.out]
    refine (HCB.out _ HSW.out).mono ?_
    rintro e w1 ⟨rfl, hs1, k1⟩
    have HP1 := hide (k1.typed _ _ _ _ HPW.out (by decide))
    have c0 := cells_one0 HP1.out
    have HS1 := hide hs1; have HB1 := hide (HBel.out.trans k1.below); have HA1 := hide (HAV.out.below k1.below (Nat.le_refl _))
    have HZ1 := hide (show B ≤ w1.heap.size from Nat.le_trans HBP.out (Nat.le_of_lt (lt_of_block HP1.out)))
    clear hs1 k1
    go_wp2_with fail
    refine (HCC.out _ HA1.out HZ1.out).mono ?_
    rintro e w2 ⟨rfl, hb2⟩
    have HS2 := hide (HS1.out.below hb2 (Nat.le_refl _)); have HB2 := hide (HB1.out.trans (hb2.mono HZ1.out)); have HA2 := hide (HA1.out.below hb2 HZ1.out)
    have HZ2 := hide (Nat.le_trans HZ1.out hb2.size)
    have HP2 := hide ((hb2.block P (lt_of_block HP1.out)).trans HP1.out)
    clear hb2 c0
    have c0 := cells_one0 HP2.out
    go_wp2_with fail
    refine (HCS.out _ HA2.out HZ2.out).mono ?_
    rintro e w3 ⟨rfl, hb3⟩
    have HS3 := hide (HS2.out.below hb3 (Nat.le_refl _)); have HB3 := hide (HB2.out.trans (hb3.mono HZ2.out)); have HA3 := hide (HA2.out.below hb3 HZ2.out)
    have HZ3 := hide (Nat.le_trans HZ2.out hb3.size)
    have HP3 := hide ((hb3.block P (lt_of_block HP2.out)).trans HP2.out)
    clear hb3 c0
    have c0 := cells_one0 HP3.out
    go_wp2_with fail
    refine (HCL.out _ HS3.out).mono ?_
    rintro e w4 ⟨rfl, rfl⟩
    go_wp2_with fail
    refine (HCP.out _ HS3.out HZ3.out HA3.out).mono ?_
    rintro e w5 ⟨rfl, hs5, hb5⟩
    have HS5 := hide hs5; have HB5 := hide (HB3.out.trans hb5)
    clear hs5 hb5 c0
    go_wp2
    go_ret
    exact ⟨rfl, HS5.out, HB5.out⟩
end Go.Proofs.Ytpbloplbpkedcaa
namespace Go.Proofs.Ytpbloplbpkedcaa
open Go Go.RowKit

def pmBytes (ps : List Bd) : List Nat := if ckP ps = 0 then packed (pmBits ps) else []
theorem pmBytes_no {ps : List Bd} (h : ckP ps ≠ 0) : pmBytes ps = [] := by unfold pmBytes; rw [if_neg h]
theorem pmBytes_ok {ps : List Bd} (h : ckP ps = 0) : pmBytes ps = packed (pmBits ps) := by unfold pmBytes; rw [if_pos h]

set_option maxRecDepth 100000 in
set_option maxHeartbeats 3200000 in
theorem mBytes_any (ps : List Bd) (B : Nat) (ao : Option Addr) (n cap : Nat) (w : World) (hB : B ≤ w.heap.size)
    (hv : BsV w B (.slice ao n cap) ps) (hn : WfB ps) :
    Calls Try.prog 30 #[.agg #[.slice ao n cap]] w
      fun e w' => ∃ v, e = .returned (.tuple #[v, .int .i64 (ckP ps)]) ∧ w'.ownsRow w.heap.size 5 1 v (pmBytes ps).length (byteVs (pmBytes ps)) ∧ Below w.heap.size w w' := by
  obtain ⟨P, hP⟩ : ∃ P, P = w.heap.size := ⟨_, rfl⟩
  obtain ⟨W, hW⟩ : ∃ W, W = w.alloc (.cells #[.slice ao n cap] 43) := ⟨_, rfl⟩
  have hbel : Below P w W := by rw [hW, hP]; exact (Below.refl _ _).alloc (Nat.le_refl _) _
  have hsz : P < W.heap.size := by rw [hW, hP]; simp
  have HPW := hide (by rw [hW, hP]; exact heap_alloc_new w _ : W.heap[P]? = some (.cells #[.slice ao n cap] 43 (0, 0)))
  have HBel := hide hbel; have HW := hide hW; have HP := hide hP
  have HBP := hide (show B ≤ P by omega)
  have CP := fun (w : World) (q : Nat) (h : SinkIs w q q []) (hB : q ≤ w.heap.size) (hv : BsV w q (.slice ao n cap) ps) => mPut_any ps q q [] ao n cap w h hB hv hn
  have HAV := hide (hv.below hbel (by omega))
  have HSZ := hide hsz
  rw [← hP]
  by_cases hck : ckP ps = 0
  · have hok := (ckP_iff ps).1 hck
    have hle : (pmBits ps).length ≤ 1048576 := pm_le ps hok hn
    have hpe : putErrP ([] : List Bool).length ps = 0 := putErrP_ok hck (by simp; omega)
    simp only [hpe, putBitsP, if_true, List.nil_append] at CP
    rw [pmBytes_ok hck, hck]
    obtain ⟨l, hl⟩ : ∃ l, l = pmBits ps := ⟨_, rfl⟩
    rw [← hl] at CP ⊢
    have HCP := hide CP
    clear hbel hW hP CP hn hv hB hsz hck hok hle hpe hl
    go_enter Try.func30, Try.ntmps30
    go_wp2_with fail
    rw [← HW.out, ← HP.out]
    refine (newSink_any W).mono ?_
    obtain ⟨H1, hH1⟩ : ∃ H1, H1 = W.heap.size := ⟨_, rfl⟩
    rw [← hH1]
    rintro e w1 ⟨rfl, hs1, k1⟩
    have h01 : P < H1 := by rw [hH1]; exact HSZ.out
    have hp1 := (k1.below.block P h01).trans HPW.out
    have c0 := cells_one0 hp1
    have HS1 := hide hs1
    have HB1 := hide (HBel.out.trans (k1.below.mono (Nat.le_of_lt h01)))
    have HA1 := hide ((HAV.out.below k1.below (by have := HBP.out; omega)).mono (show B ≤ H1 by have := HBP.out; omega))
    have H1S := hide (show H1 ≤ w1.heap.size from Nat.le_of_lt hs1.lt)
    have H01 := hide h01
    clear hs1 k1 hH1 h01 hp1
    go_wp2_with fail
    refine (HCP.out w1 H1 HS1.out H1S.out HA1.out).mono ?_
    rintro e w2 ⟨rfl, hs2, hb2⟩
    have HB2 := hide (HB1.out.trans (hb2.mono (Nat.le_of_lt H01.out)))
    have HS2 := hide hs2
    clear hs2 hb2 c0
    go_wp2_with fail
    refine (kOut_any H1 H1 l w2 HS2.out).mono ?_
    rintro e w3 ⟨v3, rfl, ho3, hb3⟩
    have HO3 := hide ho3; have HB3 := hide hb3
    have hsz2 : P ≤ w2.heap.size := by have := HB2.out.size; rw [← HP.out] at this; exact this
    have HSZ2 := hide hsz2
    clear ho3 hb3 hsz2
    go_wp2
    go_ret2
    exact ⟨_, rfl, ownsRow_lower HO3.out HSZ2.out, HB2.out.trans (HB3.out.mono HSZ2.out)⟩
  · have hpe : putErrP ([] : List Bool).length ps = ckP ps := putErrP_ck hck
    simp only [hpe] at CP
    rw [pmBytes_no hck]
    obtain ⟨c, hc⟩ : ∃ c, c = ckP ps := ⟨_, rfl⟩
    rw [← hc] at CP hck ⊢
    have b1 : (c == 0) = false := by simp [hck]
    have b2 : (c != 0) = true := by simp [hck]
    have HCP := hide CP
    clear hbel hW hP CP hn hv hB hsz hck hpe hc
    go_enter Try.func30, Try.ntmps30
    go_wp2_with fail
    rw [← HW.out, ← HP.out]
    refine (newSink_any W).mono ?_
    obtain ⟨H1, hH1⟩ : ∃ H1, H1 = W.heap.size := ⟨_, rfl⟩
    rw [← hH1]
    rintro e w1 ⟨rfl, hs1, k1⟩
    have h01 : P < H1 := by rw [hH1]; exact HSZ.out
    have hp1 := (k1.below.block P h01).trans HPW.out
    have c0 := cells_one0 hp1
    have HS1 := hide hs1
    have HB1 := hide (HBel.out.trans (k1.below.mono (Nat.le_of_lt h01)))
    have HA1 := hide ((HAV.out.below k1.below (by have := HBP.out; omega)).mono (show B ≤ H1 by have := HBP.out; omega))
    have H1S := hide (show H1 ≤ w1.heap.size from Nat.le_of_lt hs1.lt)
    have H01 := hide h01
    clear hs1 k1 hH1 h01 hp1
    go_wp2_with fail
    refine (HCP.out w1 H1 HS1.out H1S.out HA1.out).mono ?_
    rintro e w2 ⟨rfl, hs2, hb2⟩
    have HB2 := hide (HB1.out.trans (hb2.mono (Nat.le_of_lt H01.out)))
    clear hs2 hb2 c0
    go_wp2
    go_ret2
    exact ⟨_, rfl, World.ownsRow_nil _ _ _ _, HB2.out⟩
end Go.Proofs.Ytpbloplbpkedcaa

/- How things stand within the walks of MatchWrites and MatchBack. -/
namespace Go.Proofs.Ytpbloplbpkedcaa
open Go Go.RowKit

theorem pm_le' (ps : List Bd) (h : Okl ps) (hw : WfB ps) : (pmBits ps).length ≤ 1000000 := by
  obtain ⟨h1, h2⟩ := pmBits_le ps h hw
  omega
theorem pmBytes_small (ps : List Bd) : ∀ c ∈ pmBytes ps, c < 256 := by
  unfold pmBytes; split
  · exact packed_small _
  · intro c hc; cases hc
theorem pmBytes_len (ps : List Bd) (hn : WfB ps) : (pmBytes ps).length ≤ 1048584 := by
  unfold pmBytes; split
  · rename_i h
    have := pm_le ps ((ckP_iff ps).1 h) hn
    have := packed_length_le (pmBits ps)
    omega
  · simp

/-- How things stand within EventWrites: the event's box, its attributes, what was written. -/
structure Wx0 (w0 : World) (P : Nat) (cs : Array Value) (va : Value) (x : List Bd) (rows : List (Value × List Nat)) (w : World) : Prop where
  below : Below P w0 w
  sz : P < w.heap.size
  bx : w.heap[P]? = some (.cells cs 43 (0, 0))
  hx : BsV w P va x
  rows : ∀ r ∈ rows, Bv w w.heap.size r.1 r.2
theorem Wx0.call {w0 : World} {P : Nat} {cs : Array Value} {va : Value} {x : List Bd} {rows : List (Value × List Nat)} {w w' : World} (h : Wx0 w0 P cs va x rows w) (hb : Below w.heap.size w w') : Wx0 w0 P cs va x rows w' :=
  ⟨h.below.trans (hb.mono (Nat.le_of_lt h.sz)), Nat.lt_of_lt_of_le h.sz hb.size, (hb.block P h.sz).trans h.bx, h.hx.below hb (Nat.le_of_lt h.sz), fun r hr => ((h.rows r hr).below hb (Nat.le_refl _)).mono hb.size⟩
/-- A call that changes only what lies behind the rows. -/
theorem Wx0.from_ {w0 : World} {P : Nat} {cs : Array Value} {va : Value} {x : List Bd} {rows : List (Value × List Nat)} {w1 w w' : World} (h1 : Wx0 w0 P cs va x rows w1) (h : Below w1.heap.size w1 w) (hb : Below w1.heap.size w w') : Wx0 w0 P cs va x rows w' := h1.call (h.trans hb)
theorem Wx0.row {w0 : World} {P : Nat} {cs : Array Value} {va : Value} {x : List Bd} {rows : List (Value × List Nat)} {w w' : World} (h : Wx0 w0 P cs va x rows w) (hb : Below w.heap.size w w') {v : Value} {l : List Nat} (hv : Bv w' w'.heap.size v l) : Wx0 w0 P cs va x ((v, l) :: rows) w' := by
  have hc := h.call hb
  exact ⟨hc.below, hc.sz, hc.bx, hc.hx, fun r hr => (List.mem_cons.1 hr).elim (fun e => by rw [e]; exact hv) (hc.rows r)⟩
end Go.Proofs.Ytpbloplbpkedcaa

/- Plain facts: an event's bits are read as it was; what is read is just these bits. No program in this text. -/
namespace Go.Proofs.Ytpbloplbpkedcaa
open Go Go.RowKit

theorem bitsOf_valBits (t : List Bool) : bitsOf (valBits t) t.length = t := by
  apply List.ext_getElem
  · rw [bitsOf_length]
  · intro i h1 h2
    rw [bitsOf_getElem, valBits_testBit t i h2]
    simp [List.getD, h2]
theorem bitsOf_valBits' (t : List Bool) (n : Nat) (h : t.length = n) : bitsOf (valBits t) n = t := by subst h; exact bitsOf_valBits t
theorem bitsOf_low (x z : Nat) : bitsOf (x % 2 ^ z) z = bitsOf x z := by
  apply List.ext_getElem
  · simp [bitsOf]
  · intro i h1 h2
    rw [bitsOf_length] at h2
    rw [bitsOf_getElem, bitsOf_getElem, Nat.testBit_mod_two_pow, decide_eq_true (by omega : z - 1 - i < z), Bool.true_and]
theorem takeWhile_take (l : List Bool) : l.take ((l.takeWhile (fun b => !b)).length) = List.replicate ((l.takeWhile (fun b => !b)).length) false := by
  induction l with
  | nil => rfl
  | cons a l ih =>
    cases a with
    | true => rfl
    | false => simp only [List.takeWhile_cons, Bool.not_false, if_true, List.length_cons, List.take_succ_cons, List.replicate_succ, ih]
theorem takeWhile_next (l : List Bool) (h : (l.takeWhile (fun b => !b)).length < l.length) : l[(l.takeWhile (fun b => !b)).length] = true := by
  induction l with
  | nil => simp at h
  | cons a l ih =>
    cases a with
    | true => simp
    | false =>
      simp only [List.takeWhile_cons, Bool.not_false, if_true, List.length_cons] at h ⊢
      have := ih (by omega)
      simpa using this
theorem zeros_split (l : List Bool) (h64 : zerosL l ≤ 64) (hl : zerosL l < l.length) : l = List.replicate (zerosL l) false ++ (true :: l.drop (zerosL l + 1)) := by
  have h1 := takeWhile_take (l.take 65)
  have hlt : ((l.take 65).takeWhile (fun b => !b)).length < (l.take 65).length := by
    have : zerosL l = ((l.take 65).takeWhile (fun b => !b)).length := rfl
    rw [List.length_take]; omega
  have h2 := takeWhile_next (l.take 65) hlt
  rw [show ((l.take 65).takeWhile (fun b => !b)).length = zerosL l from rfl] at h1
  rw [List.take_take, show min (zerosL l) 65 = zerosL l by omega] at h1
  have h3 : l[zerosL l] = true := by
    have : (l.take 65)[zerosL l]'(by rw [List.length_take]; omega) = true := h2
    rwa [List.getElem_take] at this
  conv => lhs; rw [← List.take_append_drop (zerosL l) l, h1, List.drop_eq_getElem_cons hl, h3]
theorem natErrL_zero {l : List Bool} (h : natErrL l = 0) : zerosL l ≤ 64 ∧ 2 * zerosL l + 1 ≤ l.length ∧ (zerosL l = 64 → valBits ((l.drop (zerosL l + 1)).take (zerosL l)) = 0) := by
  unfold natErrL at h
  by_cases h1 : 64 < zerosL l
  · rw [if_pos h1] at h; cases h
  rw [if_neg h1] at h
  by_cases h2 : l.length < 2 * zerosL l + 1
  · rw [if_pos h2] at h; cases h
  rw [if_neg h2] at h
  by_cases h3 : zerosL l = 64 ∧ valBits ((l.drop (zerosL l + 1)).take (zerosL l)) ≠ 0
  · rw [if_pos h3] at h; cases h
  exact ⟨by omega, by omega, fun h4 => Decidable.byContradiction fun h5 => h3 ⟨h4, h5⟩⟩
/-- What was read as a natural number is its code. -/
theorem nat_back (l : List Bool) (h : natErrL l = 0) : l = natBits (natValL l) ++ natRestL l ∧ natValL l < 2 ^ 64 := by
  obtain ⟨h1, h2, h3⟩ := natErrL_zero h
  obtain ⟨z, hz⟩ : ∃ z, z = zerosL l := ⟨_, rfl⟩
  have hs := zeros_split l h1 (by omega)
  have ht : ((l.drop (zerosL l + 1)).take (zerosL l)).length = zerosL l := by rw [List.length_take, List.length_drop]; omega
  have hv := valBits_lt ((l.drop (zerosL l + 1)).take (zerosL l))
  rw [ht] at hv
  have hb := bitsOf_valBits' ((l.drop (zerosL l + 1)).take (zerosL l)) (zerosL l) ht
  have hr : natRestL l = l.drop (2 * zerosL l + 1) := by unfold natRestL; rw [if_pos h]
  have hn : natValL l = 2 ^ zerosL l + valBits ((l.drop (zerosL l + 1)).take (zerosL l)) - 1 := by unfold natValL; rw [if_pos h]
  have hd : l.drop (zerosL l + 1) = (l.drop (zerosL l + 1)).take (zerosL l) ++ l.drop (2 * zerosL l + 1) := by
    conv => lhs; rw [← List.take_append_drop (zerosL l) (l.drop (zerosL l + 1)), List.drop_drop]
    rw [show zerosL l + 1 + zerosL l = 2 * zerosL l + 1 by omega]
  rw [hr, hn]
  rw [← hz] at h1 h2 h3 hs ht hv hb hr hn hd ⊢
  obtain ⟨t, htt⟩ : ∃ t, t = (l.drop (z + 1)).take z := ⟨_, rfl⟩
  rw [← htt] at hb hv hd h3 ⊢
  have hp : 0 < 2 ^ z := Nat.two_pow_pos z
  have hu : 2 ^ z + valBits t - 1 + 1 = 2 ^ z + valBits t := by omega
  have ha : ahd (2 ^ z + valBits t - 1) = z := by
    unfold ahd
    rw [hu]
    rw [Nat.log2_eq_iff (by omega)]
    rw [Nat.pow_succ]
    omega
  constructor
  · unfold natBits
    rw [ha, hu, bitsOf_succ, testBit_top _ _ (by omega) (by rw [Nat.pow_succ]; omega), ← bitsOf_low, Nat.add_mod_left, Nat.mod_eq_of_lt hv, hb]
    conv => lhs; rw [hs, hd]
    simp
  · by_cases h64 : z = 64
    · have := h3 h64
      rw [this, h64]; decide
    · have : 2 ^ z ≤ 2 ^ 63 := Nat.pow_le_pow_right (by omega) (by omega)
      omega
def byteBits (x : List Nat) : List Bool := x.flatMap fun c => bitsOf c 8
theorem byteBits_len (x : List Nat) : (byteBits x).length = 8 * x.length := by
  unfold byteBits
  induction x with
  | nil => rfl
  | cons c r ih => rw [List.flatMap_cons, List.length_append, ih, bitsOf_length, List.length_cons]; omega
theorem byteBits_split (x : List Nat) (i : Nat) (h : i < x.length) : byteBits x = byteBits (x.take i) ++ (bitsOf x[i] 8 ++ byteBits (x.drop (i + 1))) := by
  unfold byteBits
  conv => lhs; rw [← List.take_append_drop i x, List.flatMap_append, List.drop_eq_getElem_cons h, List.flatMap_cons]
theorem chunk_byteBits (x : List Nat) (rest : List Bool) (i : Nat) (h : i < x.length) (hs : ∀ c ∈ x, c < 256) : chunk (byteBits x ++ rest) i = x[i] := by
  have hl : (byteBits (x.take i)).length = 8 * i := by rw [byteBits_len, List.length_take]; omega
  unfold chunk
  rw [byteBits_split x i h, List.append_assoc, ← hl, List.drop_left, List.append_assoc]
  have h3 := List.take_left (l₁ := bitsOf x[i] 8) (l₂ := byteBits (x.drop (i + 1)) ++ rest)
  rw [bitsOf_length] at h3
  rw [h3]
  exact valBits_bitsOf _ _ (hs _ (List.getElem_mem _))
theorem chunks_byteBits (x : List Nat) (rest : List Bool) (hs : ∀ c ∈ x, c < 256) : (List.range x.length).map (chunk (byteBits x ++ rest)) = x := by
  apply List.ext_getElem
  · simp
  · intro i h1 h2
    simp only [List.getElem_map, List.getElem_range]
    exact chunk_byteBits x rest i h2 hs
theorem byteBits_back (l : List Bool) (M : Nat) (h : 8 * M ≤ l.length) : l = byteBits ((List.range M).map (chunk l)) ++ l.drop (8 * M) := by
  induction M with
  | zero => simp [byteBits]
  | succ M ih =>
    have h1 := ih (by omega)
    have h2 : l.drop (8 * M) = bitsOf (chunk l M) 8 ++ l.drop (8 * (M + 1)) := by
      have hl : ((l.drop (8 * M)).take 8).length = 8 := by simp; omega
      unfold chunk
      rw [bitsOf_valBits' _ 8 hl]
      conv => lhs; rw [← List.take_append_drop 8 (l.drop (8 * M)), List.drop_drop]
      rw [show 8 * M + 8 = 8 * (M + 1) by omega]
    rw [List.range_succ, List.map_append]
    unfold byteBits at h1 ⊢
    rw [List.flatMap_append]
    conv => lhs; rw [h1, h2]
    simp
theorem bitsAll_byteBits (b : List Nat) : bitsAll b = byteBits b := by
  refine snocInd (P := fun b => bitsAll b = byteBits b) (by simp [bitsAll, byteBits]) (fun b c ih => ?_) b
  rw [bitsAll_snoc, ih]; simp [byteBits]
theorem bytes_of_bitsAll (b : List Nat) (hs : ∀ c ∈ b, c < 256) : (List.range b.length).map (chunk (bitsAll b)) = b := by
  have h := chunks_byteBits b [] hs
  rw [List.append_nil] at h
  rw [bitsAll_byteBits]; exact h
theorem endErrL_zero {l : List Bool} (h : endErrL l = 0) : l.length < 8 ∧ l = List.replicate l.length false := by
  unfold endErrL at h
  by_cases h1 : 8 ≤ l.length
  · rw [if_pos h1] at h; cases h
  rw [if_neg h1] at h
  cases h2 : l.any id with
  | true => rw [h2] at h; cases h
  | false =>
    refine ⟨by omega, ?_⟩
    apply List.ext_getElem
    · simp
    · intro i q1 q2
      rw [List.any_eq_false] at h2
      have := h2 l[i] (List.getElem_mem _)
      simpa using this
theorem packed_back (b : List Nat) (bs : List Bool) (pad : Nat) (hs : ∀ c ∈ b, c < 256) (hp : pad < 8) (h : bitsAll b = bs ++ List.replicate pad false) : packed bs = b := by
  obtain ⟨pad', e, hp'⟩ := bitsAll_packed bs
  have hl := congrArg List.length h
  rw [bitsAll_length, List.length_append, List.length_replicate] at hl
  have hl' := congrArg List.length e
  rw [bitsAll_length, List.length_append, List.length_replicate] at hl'
  obtain rfl : pad' = pad := by omega
  have hlen : (packed bs).length = b.length := by omega
  rw [← bytes_of_bitsAll (packed bs) (packed_small bs), ← bytes_of_bitsAll b hs, e, h, hlen]

/-- There: part by part. -/
theorem qB_front (n u : Nat) (rest : List Bool) (hn : n ≤ 64) (hu : u < 2 ^ n) : qB n (0, bitsOf u n ++ rest) = (u, (0, rest)) := by
  unfold qB
  rw [if_pos rfl]
  simp only
  rw [bitsVal_front u n rest hn hu, bitsErr_front u n rest hn, bitsRest_front u n rest hn]
theorem qN_front (u : Nat) (rest : List Bool) (hu : u < 2 ^ 64) : qN (0, natBits u ++ rest) = (u, (0, rest)) := by
  unfold qN
  rw [if_pos rfl]
  simp only
  rw [natValL_front u hu, natErrL_front u hu, natRestL_front u hu]
theorem zigN_lt64 (n : Int) (h : -9223372036854775808 ≤ n ∧ n ≤ 9223372036854775807) : zigN n < 2 ^ 64 := by
  unfold zigN; split <;> omega
theorem qI_front (n : Int) (rest : List Bool) (h : -9223372036854775808 ≤ n ∧ n ≤ 9223372036854775807) : qI (0, natBits (zigN n) ++ rest) = (n, (0, rest)) := by
  have hz := zigN_lt64 n h
  unfold qI
  rw [if_pos rfl]
  simp only
  rw [natErrL_front _ hz, natRestL_front _ hz, numValL, natErrL_front _ hz, if_pos rfl, natValL_front _ hz, numOf_zigN]
theorem qT_front (s : ByteArray) (rest : List Bool) (h : s.size < 2 ^ 64) : qT (0, textBits s.data.toList ++ rest) = (s, (0, rest)) := by
  have hl : s.data.toList.length < 2 ^ 64 := by rw [← size_of_data]; exact h
  unfold qT
  rw [if_pos rfl]
  simp only
  rw [textStr_front s rest h, textErrL_front _ _ hl, textRestL_front _ _ hl]
theorem ba_empty {s : ByteArray} (h : s.size = 0) : s = ⟨#[]⟩ := by
  obtain ⟨d⟩ := s
  have : d.size = 0 := h
  rw [Array.size_eq_zero_iff.1 this]
/-- An attribute that may be, in the ranges of its types. -/
def AtIn (x : At) : Prop := (x.name.size ≤ 32 ∧ ((x.k = 1 ∧ x.s.size = 0) ∨ (x.k = 2 ∧ x.n = 0 ∧ x.s.size ≤ 64))) ∧ -9223372036854775808 ≤ x.n ∧ x.n ≤ 9223372036854775807
theorem qAttr_front (x : At) (rest : List Bool) (h : AtIn x) : qAttr (0, atBits x ++ rest) = (x, (0, rest)) := by
  obtain ⟨nm, k, n, s⟩ := x
  obtain ⟨⟨h1, h2⟩, h3⟩ := h
  simp only at h1 h2 h3
  rcases h2 with ⟨rfl, hs⟩ | ⟨rfl, rfl, hs⟩
  · obtain rfl := ba_empty hs
    have e : atBits ⟨nm, 1, n, ⟨#[]⟩⟩ ++ rest = textBits nm.data.toList ++ (bitsOf 1 2 ++ (natBits (zigN n) ++ rest)) := by simp [atBits, valBitsA]
    have q1 : qName (0, atBits ⟨nm, 1, n, ⟨#[]⟩⟩ ++ rest) = (nm, (0, bitsOf 1 2 ++ (natBits (zigN n) ++ rest))) := by rw [e]; exact qT_front nm _ (by omega)
    have q2 : qKind (0, atBits ⟨nm, 1, n, ⟨#[]⟩⟩ ++ rest) = (1, (0, natBits (zigN n) ++ rest)) := by unfold qKind; rw [q1]; exact qB_front 2 1 _ (by omega) (by decide)
    unfold qAttr qVal
    rw [q1, q2]
    simp only
    rw [if_neg (by decide), if_pos trivial, qI_front n rest h3]
  · have e : atBits ⟨nm, 2, 0, s⟩ ++ rest = textBits nm.data.toList ++ (bitsOf 2 2 ++ (textBits s.data.toList ++ rest)) := by simp [atBits, valBitsA]
    have q1 : qName (0, atBits ⟨nm, 2, 0, s⟩ ++ rest) = (nm, (0, bitsOf 2 2 ++ (textBits s.data.toList ++ rest))) := by rw [e]; exact qT_front nm _ (by omega)
    have q2 : qKind (0, atBits ⟨nm, 2, 0, s⟩ ++ rest) = (2, (0, textBits s.data.toList ++ rest)) := by unfold qKind; rw [q1]; exact qB_front 2 2 _ (by omega) (by decide)
    unfold qAttr qVal
    rw [q1, q2]
    simp only
    rw [if_neg (by decide), if_neg (by decide), if_pos trivial, qT_front s rest (by omega)]
theorem qGo_front (xs : List At) (rest : List Bool) (h : ∀ x ∈ xs, AtIn x) : ∀ k, k ≤ xs.length → qGo (0, xs.flatMap atBits ++ rest) k = (xs.take k, (0, (xs.drop k).flatMap atBits ++ rest))
  | 0, _ => by simp [qGo]
  | k + 1, hk => by
    have ih := qGo_front xs rest h k (by omega)
    have hd : xs.drop k = xs[k] :: xs.drop (k + 1) := List.drop_eq_getElem_cons (by omega)
    have hq : qAttr (0, (xs.drop k).flatMap atBits ++ rest) = (xs[k], (0, (xs.drop (k + 1)).flatMap atBits ++ rest)) := by
      rw [hd, List.flatMap_cons, List.append_assoc]
      exact qAttr_front _ _ (h _ (List.getElem_mem _))
    show ((qGo _ k).1 ++ [(qAttr (qGo _ k).2).1], (qAttr (qGo _ k).2).2) = _
    rw [ih]
    simp only
    rw [hq, List.take_succ_eq_append_getElem (by omega)]
theorem qAttrs_front (xs : List At) (rest : List Bool) (h : ∀ x ∈ xs, AtIn x) (hl : xs.length ≤ 8) : qAttrs (0, bitsOf xs.length 4 ++ (xs.flatMap atBits ++ rest)) = (xs, (0, rest)) := by
  have q1 : qMany (0, bitsOf xs.length 4 ++ (xs.flatMap atBits ++ rest)) = (xs.length, (0, xs.flatMap atBits ++ rest)) := qB_front 4 _ _ (by omega) (by omega)
  have q2 := qGo_front xs rest h xs.length (Nat.le_refl _)
  unfold qAttrs
  rw [q1]
  simp only
  rw [if_neg (by omega), q2]
  simp
theorem wrap_nat (n : Int) (h0 : 0 ≤ n) (h : n ≤ 1099511627776) : wrap64 ((n.toNat : Nat) : Int) = n := by unfold wrap64; omega
theorem qEvent_front (e : Ev) (rest : List Bool) (h : EvOk e) (hn : ∀ x ∈ e.ats, -9223372036854775808 ≤ x.n ∧ x.n ≤ 9223372036854775807) : qEvent (0, evBits e ++ rest) = (e, (0, rest)) := by
  obtain ⟨src, seq, time, ty, ats⟩ := e
  obtain ⟨a0, a1, b0, b1, c0, c1, d, f, g⟩ := h
  simp only at a0 a1 b0 b1 c0 c1 d f g hn
  have e1 : evBits ⟨src, seq, time, ty, ats⟩ ++ rest = bitsOf src.toNat 4 ++ (natBits seq.toNat ++ (natBits time.toNat ++ (textBits ty.data.toList ++ (bitsOf ats.length 4 ++ (ats.flatMap atBits ++ rest))))) := by simp [evBits, headE]
  have q1 : qSrc (0, evBits ⟨src, seq, time, ty, ats⟩ ++ rest) = (src.toNat, (0, natBits seq.toNat ++ (natBits time.toNat ++ (textBits ty.data.toList ++ (bitsOf ats.length 4 ++ (ats.flatMap atBits ++ rest)))))) := by
    rw [e1]; exact qB_front 4 _ _ (by omega) (by omega)
  have q2 : qSeq (0, evBits ⟨src, seq, time, ty, ats⟩ ++ rest) = (seq.toNat, (0, natBits time.toNat ++ (textBits ty.data.toList ++ (bitsOf ats.length 4 ++ (ats.flatMap atBits ++ rest))))) := by
    unfold qSeq; rw [q1]; exact qN_front _ _ (by omega)
  have q3 : qTime (0, evBits ⟨src, seq, time, ty, ats⟩ ++ rest) = (time.toNat, (0, textBits ty.data.toList ++ (bitsOf ats.length 4 ++ (ats.flatMap atBits ++ rest)))) := by
    unfold qTime; rw [q2]; exact qN_front _ _ (by omega)
  have q4 : qTy (0, evBits ⟨src, seq, time, ty, ats⟩ ++ rest) = (ty, (0, bitsOf ats.length 4 ++ (ats.flatMap atBits ++ rest))) := by
    unfold qTy; rw [q3]; exact qT_front _ _ (by omega)
  have q5 : qAts (0, evBits ⟨src, seq, time, ty, ats⟩ ++ rest) = (ats, (0, rest)) := by
    unfold qAts; rw [q4]; exact qAttrs_front _ _ (fun x hx => ⟨g x hx, hn x hx⟩) f
  unfold qEvent
  rw [q1, q2, q3, q4, q5]
  simp only
  rw [wrap_nat seq b0 b1, wrap_nat time c0 c1, Int.toNat_of_nonneg a0]
/-- What is written is read as it was. -/
theorem parse_there (e : Ev) (b : List Nat) (hc : ckE e = 0) (hn : ∀ x ∈ e.ats, -9223372036854775808 ≤ x.n ∧ x.n ≤ 9223372036854775807) (hb : b = packed (evBits e)) : psErr (bitsAll b) = 0 ∧ psEv (bitsAll b) = e := by
  subst hb
  obtain ⟨pad, hp, hp8⟩ := bitsAll_packed (evBits e)
  have hq := qEvent_front e (List.replicate pad false) (EvOk.of hc) hn
  have ht : tkErr (evBits e ++ List.replicate pad false) = 0 := by rw [tkErr_ck (by rw [hq]), hq]; exact hc
  rw [hp]
  have h0 : psErr (evBits e ++ List.replicate pad false) = 0 := by
    rw [psErr_end ht, tkRest_ok ht, hq]
    show ((endErrL (List.replicate pad false) : Nat) : Int) = 0
    rw [endErrL_pad pad hp8]; rfl
  exact ⟨h0, by rw [psEv_ok h0, tkEv_ok ht, hq]⟩

/-- And back: part by part. -/
theorem qB_back {n : Nat} {s : Qs} (hn : n ≤ 64) (h : (qB n s).2.1 = 0) : s.1 = 0 ∧ s.2 = bitsOf (qB n s).1 n ++ (qB n s).2.2 := by
  by_cases h0 : s.1 = 0
  · refine ⟨h0, ?_⟩
    have e : qB n s = (bitsVal s.2 n, (bitsErr n s.2.length, bitsRest s.2 n)) := by unfold qB; rw [if_pos h0]
    rw [e] at h ⊢
    simp only at h ⊢
    have hl : n ≤ s.2.length := by
      refine Decidable.byContradiction fun hc => ?_
      rw [bitsErr_ends (n := (n : Int)) (by omega) (by omega)] at h
      cases h
    unfold bitsVal bitsRest
    rw [h, if_pos rfl, if_pos rfl]
    show s.2 = bitsOf (valBits (s.2.take n)) n ++ s.2.drop n
    rw [bitsOf_valBits' _ n (by rw [List.length_take]; omega), List.take_append_drop]
  · rw [qB_err h0] at h; exact absurd h h0
theorem qN_back {s : Qs} (h : (qN s).2.1 = 0) : s.1 = 0 ∧ s.2 = natBits (qN s).1 ++ (qN s).2.2 ∧ (qN s).1 < 2 ^ 64 := by
  by_cases h0 : s.1 = 0
  · have e : qN s = (natValL s.2, (natErrL s.2, natRestL s.2)) := by unfold qN; rw [if_pos h0]
    rw [e] at h ⊢
    exact ⟨h0, nat_back s.2 h⟩
  · rw [qN_err h0] at h; exact absurd h h0
theorem zigN_numOf (u : Nat) : zigN (numOf u) = u := by
  unfold zigN numOf
  by_cases h : u % 2 = 0
  · rw [if_pos h, if_pos (by omega)]; omega
  · rw [if_neg h, if_neg (by omega)]; omega
theorem qI_back {s : Qs} (h : (qI s).2.1 = 0) : s.1 = 0 ∧ s.2 = natBits (zigN (qI s).1) ++ (qI s).2.2 := by
  by_cases h0 : s.1 = 0
  · have e : qI s = (numValL s.2, (natErrL s.2, natRestL s.2)) := by unfold qI; rw [if_pos h0]
    rw [e] at h ⊢
    refine ⟨h0, ?_⟩
    show s.2 = natBits (zigN (numValL s.2)) ++ natRestL s.2
    have h' : natErrL s.2 = 0 := h
    unfold numValL
    rw [if_pos h', zigN_numOf]
    exact (nat_back s.2 h').1
  · rw [qI_err h0] at h; exact absurd h h0
theorem text_data (l : List Bool) : (textStr l).data.toList = (textBytesL l).map UInt8.ofNat := by
  unfold textStr
  rw [strOfNums_data, List.map_map]
  apply List.map_congr_left
  intro c _
  simp
theorem text_back (l : List Bool) (h : textErrL l = 0) : l = textBits (textStr l).data.toList ++ textRestL l := by
  have h0 := h
  unfold textErrL at h
  split at h
  · rename_i h1; exact absurd h h1
  · rename_i h1
    split at h
    · cases h
    · rename_i h2
      obtain ⟨n1, n2⟩ := nat_back l (Decidable.not_not.1 h1)
      have hb := byteBits_back (natRestL l) (natValL l) (by omega)
      have ht : textBytesL l = (List.range (natValL l)).map (chunk (natRestL l)) := by unfold textBytesL; rw [if_pos h0]
      have hr : textRestL l = (natRestL l).drop (8 * natValL l) := by unfold textRestL; rw [if_pos h0]
      have hlen : (textBytesL l).length = natValL l := by rw [ht]; simp
      unfold textBits
      rw [text_data, List.length_map, hlen, hr, List.flatMap_map]
      have hf : ((textBytesL l).flatMap fun c => bitsOf (UInt8.ofNat c).toNat 8) = byteBits (textBytesL l) := by
        unfold byteBits
        have key : ∀ m : List Nat, (∀ c ∈ m, c < 256) → (m.flatMap fun c => bitsOf (UInt8.ofNat c).toNat 8) = m.flatMap fun c => bitsOf c 8 := fun m hm => by
          induction m with
          | nil => rfl
          | cons c r ih =>
            rw [List.flatMap_cons, List.flatMap_cons, ih (fun x hx => hm x (List.mem_cons_of_mem _ hx))]
            have hc : c < 256 := hm c (List.mem_cons_self ..)
            rw [show (UInt8.ofNat c).toNat = c by simp; omega]
        refine key _ (fun c hc => ?_)
        rw [ht] at hc
        obtain ⟨i, _, rfl⟩ := List.mem_map.1 hc
        exact chunk_lt _ _
      rw [hf, List.append_assoc, ht, ← hb]
      exact n1
theorem qT_back {s : Qs} (h : (qT s).2.1 = 0) : s.1 = 0 ∧ s.2 = textBits (qT s).1.data.toList ++ (qT s).2.2 := by
  by_cases h0 : s.1 = 0
  · have e : qT s = (textStr s.2, (textErrL s.2, textRestL s.2)) := by unfold qT; rw [if_pos h0]
    rw [e] at h ⊢
    exact ⟨h0, text_back s.2 h⟩
  · rw [qT_err h0] at h; exact absurd h h0
theorem qAttr_back {s : Qs} (h : (qAttr s).2.1 = 0) : s.1 = 0 ∧ s.2 = atBits (qAttr s).1 ++ (qAttr s).2.2 := by
  unfold qAttr at h ⊢
  by_cases hk : (qKind s).2.1 ≠ 0
  · rw [if_pos hk] at h; exact absurd h hk
  rw [if_neg hk] at h ⊢
  obtain ⟨k1, k2⟩ := qB_back (n := 2) (s := (qName s).2) (by omega) (show (qB 2 (qName s).2).2.1 = 0 from Decidable.not_not.1 hk)
  obtain ⟨n1, n2⟩ := qT_back (s := s) k1
  have e1 : qB 2 (qName s).2 = qKind s := rfl
  have e2 : qT s = qName s := rfl
  rw [e1] at k2
  rw [e2] at n2
  refine ⟨n1, ?_⟩
  unfold qVal at h ⊢
  by_cases h1 : (qKind s).1 = 1
  · rw [if_pos h1] at h ⊢
    obtain ⟨_, v⟩ := qI_back (s := (qKind s).2) h
    rw [h1] at k2
    unfold atBits valBitsA
    simp only
    rw [if_pos trivial, List.append_assoc, List.append_assoc, ← v]
    show s.2 = textBits (qName s).1.data.toList ++ (bitsOf 1 2 ++ (qKind s).2.2)
    rw [← k2]; exact n2
  · rw [if_neg h1] at h ⊢
    by_cases h2 : (qKind s).1 = 2
    · rw [if_pos h2] at h ⊢
      obtain ⟨_, v⟩ := qT_back (s := (qKind s).2) h
      rw [h2] at k2
      unfold atBits valBitsA
      simp only
      rw [if_neg (by decide), List.append_assoc, List.append_assoc, ← v]
      show s.2 = textBits (qName s).1.data.toList ++ (bitsOf 2 2 ++ (qKind s).2.2)
      rw [← k2]; exact n2
    · rw [if_neg h2] at h; cases h
theorem qGo_back (s : Qs) : ∀ k, (qGo s k).2.1 = 0 → s.1 = 0 ∧ s.2 = (qGo s k).1.flatMap atBits ++ (qGo s k).2.2
  | 0, h => ⟨h, by simp [qGo]⟩
  | k + 1, h => by
    obtain ⟨a1, a2⟩ := qAttr_back (s := (qGo s k).2) h
    obtain ⟨b1, b2⟩ := qGo_back s k a1
    refine ⟨b1, ?_⟩
    show s.2 = ((qGo s k).1 ++ [(qAttr (qGo s k).2).1]).flatMap atBits ++ (qAttr (qGo s k).2).2.2
    rw [List.flatMap_append, List.append_assoc, List.flatMap_cons, List.flatMap_nil, List.append_nil, ← a2]
    exact b2
theorem qAttrs_back {s : Qs} (h : (qAttrs s).2.1 = 0) : s.1 = 0 ∧ s.2 = bitsOf (qAttrs s).1.length 4 ++ ((qAttrs s).1.flatMap atBits ++ (qAttrs s).2.2) := by
  unfold qAttrs at h ⊢
  by_cases h8 : 8 < (qMany s).1
  · rw [if_pos h8] at h; cases h
  rw [if_neg h8] at h ⊢
  by_cases hg : (qGo (qMany s).2 (qMany s).1).2.1 ≠ 0
  · rw [if_pos hg] at h; exact absurd h hg
  rw [if_neg hg]
  obtain ⟨g1, g2⟩ := qGo_back (qMany s).2 (qMany s).1 (Decidable.not_not.1 hg)
  obtain ⟨m1, m2⟩ := qB_back (n := 4) (s := s) (by omega) (show (qB 4 s).2.1 = 0 from g1)
  refine ⟨m1, ?_⟩
  rw [qGo_len, ← g2]
  exact m2
theorem wrap_back (u : Nat) (hu : u < 2 ^ 64) (h0 : 0 ≤ wrap64 (u : Int)) (h : wrap64 (u : Int) ≤ 1099511627776) : (wrap64 (u : Int)).toNat = u := by
  unfold wrap64 at *; omega
theorem qEvent_back {s : Qs} (h : (qEvent s).2.1 = 0) (hc : ckE (qEvent s).1 = 0) : s.2 = evBits (qEvent s).1 ++ (qEvent s).2.2 := by
  obtain ⟨a1, a2⟩ := qAttrs_back (s := (qTy s).2) h
  obtain ⟨b1, b2⟩ := qT_back (s := (qTime s).2) a1
  obtain ⟨c1, c2, c3⟩ := qN_back (s := (qSeq s).2) b1
  obtain ⟨d1, d2, d3⟩ := qN_back (s := (qSrc s).2) c1
  obtain ⟨e1, e2⟩ := qB_back (n := 4) (s := s) (by omega) d1
  have ok := EvOk.of hc
  have f1 : (wrap64 ((qSeq s).1 : Nat)).toNat = (qSeq s).1 := wrap_back _ d3 ok.seq0 ok.seq
  have f2 : (wrap64 ((qTime s).1 : Nat)).toNat = (qTime s).1 := wrap_back _ c3 ok.time0 ok.time
  have g : evBits (qEvent s).1 ++ (qEvent s).2.2 = bitsOf (qSrc s).1 4 ++ (natBits (qSeq s).1 ++ (natBits (qTime s).1 ++ (textBits (qTy s).1.data.toList ++ (bitsOf (qAts s).1.length 4 ++ ((qAts s).1.flatMap atBits ++ (qAts s).2.2))))) := by
    show (bitsOf ((qSrc s).1 : Int).toNat 4 ++ natBits (wrap64 ((qSeq s).1 : Nat)).toNat ++ natBits (wrap64 ((qTime s).1 : Nat)).toNat ++ textBits (qTy s).1.data.toList ++ bitsOf (qAts s).1.length 4) ++ (qAts s).1.flatMap atBits ++ (qAts s).2.2 = _
    rw [f1, f2, Int.toNat_natCast]; simp
  rw [g]
  have a2' : (qTy s).2.2 = bitsOf (qAts s).1.length 4 ++ ((qAts s).1.flatMap atBits ++ (qAts s).2.2) := a2
  have b2' : (qTime s).2.2 = textBits (qTy s).1.data.toList ++ (qTy s).2.2 := b2
  have c2' : (qSeq s).2.2 = natBits (qTime s).1 ++ (qTime s).2.2 := c2
  have d2' : (qSrc s).2.2 = natBits (qSeq s).1 ++ (qSeq s).2.2 := d2
  have e2' : s.2 = bitsOf (qSrc s).1 4 ++ (qSrc s).2.2 := e2
  rw [← a2', ← b2', ← c2', ← d2']
  exact e2'
/-- What is read is written in just these bytes. -/
theorem parse_back (b : List Nat) (hs : ∀ c ∈ b, c < 256) (h : psErr (bitsAll b) = 0) : packed (evBits (psEv (bitsAll b))) = b ∧ ckE (psEv (bitsAll b)) = 0 := by
  obtain ⟨h1, h2⟩ := psErr_ok h
  obtain ⟨h3, h4⟩ := tkErr_ok h1
  rw [psEv_ok h, tkEv_ok h1]
  rw [tkRest_ok h1] at h2
  obtain ⟨p1, p2⟩ := endErrL_zero h2
  have hq : bitsAll b = evBits (qEvent (0, bitsAll b)).1 ++ (qEvent (0, bitsAll b)).2.2 := qEvent_back (s := (0, bitsAll b)) h3 h4
  refine ⟨packed_back b _ (qEvent (0, bitsAll b)).2.2.length hs p1 ?_, h4⟩
  rw [← p2]; exact hq
/-- Numbers that are read have place. -/
theorem qI_wf (s : Qs) : (Lit.int .i64 (qI s).1).wf = true := by
  unfold qI; split
  · exact numValL_wf _
  · rfl
theorem qAttr_wf (s : Qs) : (Lit.int .i64 (qAttr s).1.n).wf = true := by
  unfold qAttr qVal
  split
  · rfl
  · split
    · exact qI_wf _
    · split <;> rfl
theorem qGo_wf (s : Qs) : ∀ k, ∀ x ∈ (qGo s k).1, (Lit.int .i64 x.n).wf = true
  | 0, x, hx => by cases hx
  | k + 1, x, hx => by
    rcases List.mem_append.1 (show x ∈ (qGo s k).1 ++ [(qAttr (qGo s k).2).1] from hx) with hx | hx
    · exact qGo_wf s k x hx
    · rw [List.mem_singleton.1 hx]; exact qAttr_wf _
theorem psEv_wf (l : List Bool) : ∀ x ∈ (psEv l).ats, (Lit.int .i64 x.n).wf = true := by
  intro x hx
  by_cases h : psErr l = 0
  · rw [psEv_ok h, tkEv_ok (psErr_ok h).1] at hx
    have hx' : x ∈ (qAttrs (qTy (0, l)).2).1 := hx
    unfold qAttrs at hx'
    split at hx'
    · cases hx'
    · split at hx'
      · cases hx'
      · exact qGo_wf _ _ x hx'
  · rw [psEv_no h] at hx; cases hx
theorem psEv_ranges (l : List Bool) (hl : l.length ≤ 1125899906842624) : (∀ x ∈ (psEv l).ats, x.name.size ≤ maxLen ∧ x.s.size ≤ maxLen) ∧ (psEv l).ats.length * 48 ≤ 140737488355328 ∧ (psEv l).ty.size ≤ maxLen := by
  have hw : 8 * (qEvent (0, l)).1.ty.size ≤ l.length ∧ (∀ x ∈ (qEvent (0, l)).1.ats, 8 * x.name.size ≤ l.length ∧ 8 * x.s.size ≤ l.length) ∧ (qEvent (0, l)).1.ats.length ≤ 8 ∧ (qEvent (0, l)).2.2.length ≤ l.length := qEvent_wide (0, l)
  by_cases h : psErr l = 0
  · rw [psEv_ok h, tkEv_ok (psErr_ok h).1]
    exact ⟨fun x hx => by have := hw.2.1 x hx; unfold maxLen; omega, by omega, by unfold maxLen; omega⟩
  · rw [psEv_no h]; exact ⟨fun x hx => (by cases hx), by decide, by decide⟩
end Go.Proofs.Ytpbloplbpkedcaa

/- There and back: a partial match's bits are read as it was, and what is read is written in just these bits. -/
namespace Go.Proofs.Ytpbloplbpkedcaa
open Go Go.RowKit

def Rng (x : Bd) : Prop := ∀ a ∈ x.ev.ats, -9223372036854775808 ≤ a.n ∧ a.n ≤ 9223372036854775807
theorem rb_front (x : Bd) (rest : List Bool) (hv : x.var.size ≤ 32) (h : ckE x.ev = 0) (hn : Rng x) : rbErr (bdBits x ++ rest) = 0 ∧ rbBd (bdBits x ++ rest) = x ∧ rbRest (bdBits x ++ rest) = rest := by
  have hs : x.var.data.toList.length < 2 ^ 64 := by rw [← size_of_data]; omega
  have e : bdBits x ++ rest = textBits x.var.data.toList ++ (evBits x.ev ++ rest) := by unfold bdBits; rw [List.append_assoc]
  have hq := qEvent_front x.ev rest (EvOk.of h) hn
  have ht : tkErr (evBits x.ev ++ rest) = 0 := by rw [tkErr_ck (by rw [hq]), hq]; exact h
  have t1 := textErrL_front x.var.data.toList (evBits x.ev ++ rest) hs
  have t2 := textRestL_front x.var.data.toList (evBits x.ev ++ rest) hs
  have t3 := textStr_front x.var (evBits x.ev ++ rest) (by omega)
  rw [e]
  refine ⟨?_, ?_, ?_⟩
  · unfold rbErr; rw [t1, if_neg (by simp), t2, ht]
  · unfold rbBd; rw [t2, t3, tkEv_ok ht, hq]
  · unfold rbRest; rw [t2, tkRest_ok ht, hq]
theorem rdGo_front (l : List Bd) (hv : ∀ x ∈ l, x.var.size ≤ 32 ∧ ckE x.ev = 0 ∧ Rng x) (rest : List Bool) : ∀ k, k ≤ l.length → rdGo k (l.flatMap bdBits ++ rest) = (0, l.take k, (l.drop k).flatMap bdBits ++ rest)
  | 0, _ => by simp [rdGo]
  | k + 1, hk => by
    have ih := rdGo_front l hv rest k (by omega)
    have hd : l.drop k = l[k] :: l.drop (k + 1) := by rw [List.drop_eq_getElem_cons]
    obtain ⟨h1, h2, h3⟩ := hv l[k] (List.getElem_mem _)
    obtain ⟨r1, r2, r3⟩ := rb_front l[k] ((l.drop (k + 1)).flatMap bdBits ++ rest) h1 h2 h3
    have e : (l.drop k).flatMap bdBits ++ rest = bdBits l[k] ++ ((l.drop (k + 1)).flatMap bdBits ++ rest) := by rw [hd, List.flatMap_cons, List.append_assoc]
    rw [e] at ih
    rw [rdGo_go (by rw [ih]) (by rw [ih]; exact r1), ih]
    simp only
    rw [r2, r3, List.take_succ_eq_append_getElem (by omega)]
theorem rdP_front (l : List Bd) (h : Okl l) (hn : ∀ x ∈ l, Rng x) (rest : List Bool) : rdP (pmBits l ++ rest) = (0, l, rest) := by
  have e : pmBits l ++ rest = bitsOf l.length 4 ++ (l.flatMap bdBits ++ rest) := by unfold pmBits; rw [List.append_assoc]
  have h12 := h.len
  rw [e]
  have b1 := bitsErr_front l.length 4 (l.flatMap bdBits ++ rest) (by decide)
  have b2 := bitsVal_front l.length 4 (l.flatMap bdBits ++ rest) (by decide) (by omega)
  have b3 := bitsRest_front l.length 4 (l.flatMap bdBits ++ rest) (by decide)
  rw [rdP_go b1 (by rw [show ((4 : Nat) : Int) = 4 from rfl] at b2; rw [b2]; omega)]
  rw [show ((4 : Nat) : Int) = 4 from rfl] at b2 b3
  rw [b2, b3, rdGo_front l (fun x hx => ⟨nmB_len (h.nm x hx), h.ev x hx, hn x hx⟩) rest l.length (Nat.le_refl _)]
  simp
theorem pm_there (l : List Bd) (b : List Nat) (h : ckP l = 0) (hn : ∀ x ∈ l, Rng x) (hb : b = packed (pmBits l)) : ppErr (bitsAll b) = 0 ∧ ppL (bitsAll b) = l := by
  subst hb
  obtain ⟨pad, hp, hp8⟩ := bitsAll_packed (pmBits l)
  have hr := rdP_front l ((ckP_iff l).1 h) hn (List.replicate pad false)
  have ht : tpErr (pmBits l ++ List.replicate pad false) = 0 := by rw [tpErr_ck (by rw [hr]), hr]; exact h
  rw [hp]
  have h0 : ppErr (pmBits l ++ List.replicate pad false) = 0 := by
    rw [ppErr_end ht, tpRest_ok ht, hr]
    show ((endErrL (List.replicate pad false) : Nat) : Int) = 0
    rw [endErrL_pad pad hp8]; rfl
  exact ⟨h0, by rw [ppL_ok h0, tpL_ok ht, hr]⟩
theorem ev_back0 {m : List Bool} (h : tkErr m = 0) : m = evBits (tkEv m) ++ tkRest m := by
  have h3 := (tkErr_ok h).1
  have h4 := (tkErr_ok h).2
  rw [tkEv_ok h, tkRest_ok h]
  generalize hs : ((0, m) : Qs) = s at h3 h4 ⊢
  have e := qEvent_back h3 h4
  have hm : m = s.2 := by rw [← hs]
  rw [hm]
  exact e
theorem rbErr_ok {l : List Bool} (h : rbErr l = 0) : textErrL l = 0 ∧ tkErr (textRestL l) = 0 := by
  unfold rbErr at h
  generalize textErrL l = te at *
  generalize tkErr (textRestL l) = tk at *
  by_cases hc : te = 0
  · subst hc; exact ⟨rfl, by simpa using h⟩
  · rw [if_pos hc] at h; omega
theorem bdBits_mk (v : ByteArray) (e : Ev) : bdBits ⟨v, e⟩ = textBits v.data.toList ++ evBits e := by unfold bdBits; rfl
theorem rb_back {l : List Bool} (h : rbErr l = 0) : l = bdBits (rbBd l) ++ rbRest l := by
  obtain ⟨h1, h2⟩ := rbErr_ok h
  have e := ev_back0 h2
  have t := text_back l h1
  unfold rbBd rbRest
  rw [bdBits_mk, List.append_assoc, ← e]
  exact t
theorem rdGo_ok {n : Nat} {l : List Bool} (h : (rdGo (n + 1) l).1 = 0) : (rdGo n l).1 = 0 ∧ rbErr (rdGo n l).2.2 = 0 := by
  by_cases h1 : (rdGo n l).1 = 0
  · by_cases h2 : rbErr (rdGo n l).2.2 = 0
    · exact ⟨h1, h2⟩
    · have h3 := rdGo_bad h1 h2
      rw [h] at h3
      exact ⟨h1, h3.symm⟩
  · have h3 := rdGo_stays h1 (n + 1) (Nat.le_succ n)
    rw [h] at h3
    exact absurd h3.symm h1
theorem rdGo_back (l : List Bool) (n : Nat) : (rdGo n l).1 = 0 → l = (rdGo n l).2.1.flatMap bdBits ++ (rdGo n l).2.2 ∧ (rdGo n l).2.1.length = n := by
  induction n with
  | zero => intro _; simp [rdGo]
  | succ n ih =>
    intro h
    obtain ⟨h1, h2⟩ := rdGo_ok h
    obtain ⟨e1, e2⟩ := ih h1
    have hg := rdGo_go h1 h2
    have hb := rb_back h2
    generalize rdGo (n + 1) l = r2 at *
    generalize rdGo n l = r at *
    subst hg
    refine ⟨?_, by simp [e2]⟩
    simp only
    rw [List.flatMap_append, List.append_assoc]
    simp only [List.flatMap_cons, List.flatMap_nil, List.append_nil]
    rw [← hb]
    exact e1
theorem qB_ok0 (n : Nat) (l : List Bool) : qB n (0, l) = (bitsVal l n, (bitsErr n l.length, bitsRest l n)) := by unfold qB; rw [if_pos rfl]
theorem bits4_back {l : List Bool} (h : bitsErr 4 l.length = 0) : l = bitsOf (bitsVal l 4) 4 ++ bitsRest l 4 := by
  have hq : qB 4 (0, l) = (bitsVal l 4, (bitsErr 4 l.length, bitsRest l 4)) := qB_ok0 4 l
  have e := qB_back (n := 4) (s := (0, l)) (by decide) (by rw [hq]; exact h)
  rw [hq] at e
  exact e.2
theorem rdP_back {l : List Bool} (h : (rdP l).1 = 0) : l = pmBits (rdP l).2.1 ++ (rdP l).2.2 := by
  by_cases h1 : bitsErr 4 l.length = 0
  · by_cases h2 : 12 < bitsVal l 4
    · rw [rdP_many h1 h2] at h; exact absurd (show (100 : Int) = 0 from h) (by decide)
    · have hg := rdP_go h1 h2
      rw [hg] at h ⊢
      obtain ⟨e1, e2⟩ := rdGo_back _ _ h
      have e3 := bits4_back h1
      unfold pmBits
      rw [e2, List.append_assoc, ← e1]
      exact e3
  · rw [rdP_short h1] at h
    have h3 : ((bitsErr 4 l.length : Nat) : Int) = 0 := h
    omega
theorem pm_back (b : List Nat) (hs : ∀ c ∈ b, c < 256) (h : ppErr (bitsAll b) = 0) : packed (pmBits (ppL (bitsAll b))) = b ∧ ckP (ppL (bitsAll b)) = 0 := by
  have h1 : tpErr (bitsAll b) = 0 := by
    by_cases hc : tpErr (bitsAll b) = 0
    · exact hc
    · rw [ppErr_take hc] at h; exact h
  have h2 : endErrL (tpRest (bitsAll b)) = 0 := by
    rw [ppErr_end h1] at h
    generalize endErrL (tpRest (bitsAll b)) = z at *
    omega
  obtain ⟨h3, h4⟩ := tpErr_ok h1
  have e := rdP_back h3
  rw [ppL_ok h, tpL_ok h1]
  rw [tpRest_ok h1] at h2
  obtain ⟨h5, h6⟩ := endErrL_zero h2
  refine ⟨?_, h4⟩
  rw [h6] at e
  exact packed_back b _ _ hs h5 e
end Go.Proofs.Ytpbloplbpkedcaa

/- The walk of MatchBack. -/
namespace Go.Proofs.Ytpbloplbpkedcaa
open Go Go.RowKit

theorem Wx0.box {w0 : World} {P : Nat} {cs : Array Value} {va : Value} {x : List Bd} {rows : List (Value × List Nat)} {w : World} (h : Wx0 w0 P cs va x rows w) (o : Obj) : Wx0 w0 P cs va x rows (w.alloc o) := h.call ((Below.refl _ _).alloc (Nat.le_refl _) o)
theorem WfB.rng {ps : List Bd} (h : WfB ps) : ∀ x ∈ ps, Rng x := fun x hx a ha => by
  have := h x hx a ha
  simpa [Lit.wf, IntKind.min, IntKind.max, IntKind.signed, IntKind.bits] using this
theorem tk_wf (l : List Bool) : ∀ a ∈ (tkEv l).ats, (Lit.int .i64 a.n).wf = true := by
  intro x hx
  by_cases h : tkErr l = 0
  · rw [tkEv_ok h] at hx
    have hx' : x ∈ (qAttrs (qTy (0, l)).2).1 := hx
    unfold qAttrs at hx'
    split at hx'
    · cases hx'
    · split at hx'
      · cases hx'
      · exact qGo_wf _ _ x hx'
  · rw [tkEv_no h] at hx; cases hx
theorem rbBd_ats (l : List Bool) : (rbBd l).ev.ats = (tkEv (textRestL l)).ats := by
  unfold rbBd
  generalize tkEv (textRestL l) = e
  rfl
theorem wf_app {ps : List Bd} {l0 : List Bool} (h : WfB ps) : WfB (ps ++ [rbBd l0]) := by
  have ht := tk_wf (textRestL l0)
  rw [← rbBd_ats] at ht
  generalize rbBd l0 = x at *
  intro b hb a ha
  rcases List.mem_append.1 hb with hb | hb
  · exact h b hb a ha
  · rw [List.mem_singleton.1 hb] at ha
    exact ht a ha
theorem rdGo_off {n : Nat} {l : List Bool} (h : (rdGo n l).1 = 0) (h1 : rbErr (rdGo n l).2.2 ≠ 0) : (rdGo (n + 1) l).2 = (rdGo n l).2 := by
  rw [rdGo, if_neg (by simp [h]), if_pos h1]
theorem rdGo_out {n : Nat} {l : List Bool} (h : (rdGo n l).1 ≠ 0) : rdGo (n + 1) l = rdGo n l := by
  rw [rdGo, if_pos h]
theorem wf_of2 {r s : Int × List Bd × List Bool} (e : r.2 = s.2) (h : WfB s.2.1) : WfB r.2.1 := by rw [e]; exact h
theorem wf_of3 {r : Int × List Bd × List Bool} {a : Int} {b : List Bd} {c : List Bool} (e : r = (a, b, c)) (h : WfB b) : WfB r.2.1 := by rw [e]; exact h
theorem rdGo_wf (l : List Bool) : ∀ n, WfB (rdGo n l).2.1
  | 0 => fun b hb => by cases hb
  | n + 1 => by
    have ih := rdGo_wf l n
    by_cases h1 : (rdGo n l).1 = 0
    · by_cases h2 : rbErr (rdGo n l).2.2 = 0
      · exact wf_of3 (rdGo_go h1 h2) (wf_app ih)
      · exact wf_of2 (rdGo_off h1 h2) ih
    · exact wf_of2 (by rw [rdGo_out h1]) ih
theorem rdP_wf (l : List Bool) : WfB (rdP l).2.1 := by
  by_cases h1 : bitsErr 4 l.length = 0
  · by_cases h2 : 12 < bitsVal l 4
    · exact wf_of3 (rdP_many h1 h2) (fun b hb => by cases hb)
    · exact wf_of2 (by rw [rdP_go h1 h2]) (rdGo_wf (bitsRest l 4) (bitsVal l 4))
  · exact wf_of3 (rdP_short h1) (fun b hb => by cases hb)
theorem ppL_wf (l : List Bool) : WfB (ppL l) := by
  by_cases h : ppErr l = 0
  · rw [ppL_ok h]
    by_cases h2 : tpErr l = 0
    · rw [tpL_ok h2]; exact rdP_wf l
    · rw [tpL_no h2]; exact fun b hb => by cases hb
  · rw [ppL_no h]; exact fun b hb => by cases hb
theorem sameK (n : Nat) (ao : Option Addr) (cap : Nat) (ao2 : Option Addr) (cap2 : Nat) (m : List Bd) (u : World) {P Q : Nat} (hP : P ≤ u.heap.size) (h1 : BsV u P (.slice ao n cap) m) (h2 : BsO u Q (.slice ao2 n cap2) m) :
    Calls Try.prog 25 #[.agg #[.slice ao n cap], .agg #[.slice ao2 n cap2]] u fun e w' => e = .returned (.bool true) ∧ Below u.heap.size u w' := by
  have := r10Same_any P u.heap.size ao n cap ao2 n cap2 m m u h1 h2.bsv hP (Nat.le_refl _)
  rwa [decide_eq_true rfl] at this

set_option maxRecDepth 100000 in
set_option maxHeartbeats 3200000 in
theorem mback_walk (ps : List Bd) (bytes : List Nat) (ao : Option Addr) (n cap : Nat) (aob : Option Addr) (nb capb : Nat) (w : World) (hx : BsV w w.heap.size (.slice ao n cap) ps) (hn : WfB ps) (hb : Bv w w.heap.size (.slice aob nb capb) bytes) :
    Calls Try.prog 7 #[.agg #[.slice ao n cap], .slice aob nb capb] w fun e w' => e = .returned (.bool true) ∧ Below w.heap.size w w' := by
  have hnl := hx.num.1
  obtain ⟨P, hP⟩ : ∃ P, P = w.heap.size := ⟨_, rfl⟩
  obtain ⟨W, hW⟩ : ∃ W, W = w.alloc (.cells #[.slice ao n cap] 43) := ⟨_, rfl⟩
  have hbel : Below P w W := by rw [hW, hP]; exact (Below.refl _ _).alloc (Nat.le_refl _) _
  have HB0 : Hid (Wx0 w P #[.slice ao n cap] (.slice ao n cap) ps [(.slice aob nb capb, bytes)] W) :=
    hide ⟨hbel, by rw [hW, hP]; simp, by rw [hW, hP]; exact heap_alloc_new w _, (hx.mono (Nat.le_of_eq hP.symm)).below hbel (Nat.le_refl _), fun r hr => by
      simp only [List.mem_singleton] at hr; subst hr
      exact (hb.below hbel (by rw [hP]; exact Nat.le_refl _)).mono (by rw [hW]; simp)⟩
  obtain rfl : nb = bytes.length := hb.bytesIn.1
  have hbl := hb.len; have hbs := hb.small
  have CA := fun (w : World) (h1 : BsV w P (.slice ao n cap) ps) (h3 : P ≤ w.heap.size) => mBytes_any ps P ao n cap w h3 h1 hn
  have CC := fun (w : World) (h1 : BsV w P (.slice ao n cap) ps) (h3 : P ≤ w.heap.size) => mCheck_any P ao n cap ps w h1 h3
  have CP2 := fun (w : World) (h : Bv w w.heap.size (.slice aob bytes.length capb) bytes) => mParse_any aob capb bytes w hbl hbs h.bytesAt'
  have hsm := pmBytes_small ps
  have hel := pmBytes_len ps hn
  have hth : ckP ps = 0 → ppErr (bitsAll (pmBytes ps)) = 0 ∧ ppL (bitsAll (pmBytes ps)) = ps := fun hc => pm_there ps (pmBytes ps) hc hn.rng (pmBytes_ok hc)
  have CP1 := fun (a : Option Addr) (k : Nat) (w : World) (h : Bv w w.heap.size (.slice a (pmBytes ps).length k) (pmBytes ps)) => mParse_any a k (pmBytes ps) w (by omega) hsm h.bytesAt'
  have hwf : WfB (ppL (bitsAll bytes)) := ppL_wf (bitsAll bytes)
  have hbk := fun h => pm_back bytes hbs h
  obtain ⟨y, hy⟩ : ∃ y, y = ppL (bitsAll bytes) := ⟨_, rfl⟩
  obtain ⟨pe, hpe⟩ : ∃ pe, pe = ppErr (bitsAll bytes) := ⟨_, rfl⟩
  rw [← hy, ← hpe] at CP2
  rw [← hy] at hwf hbk
  rw [← hpe] at hbk
  have CA2 := fun (w : World) (a : Option Addr) (k : Nat) (h1 : BsV w w.heap.size (.slice a y.length k) y) => mBytes_any y w.heap.size a y.length k w (Nat.le_refl _) h1 hwf
  have hyb : pe = 0 → pmBytes y = bytes ∧ ckP y = 0 := fun h => ⟨by rw [pmBytes_ok (hbk h).2]; exact (hbk h).1, (hbk h).2⟩
  obtain ⟨ce, hce⟩ : ∃ ce, ce = ckP ps := ⟨_, rfl⟩
  obtain ⟨eb, heb⟩ : ∃ eb, eb = pmBytes ps := ⟨_, rfl⟩
  rw [← hce, ← heb] at CA
  rw [← hce] at CC hth
  rw [← heb] at CP1 hsm hel hth
  obtain ⟨yb, hyb2⟩ : ∃ yb, yb = pmBytes y := ⟨_, rfl⟩
  obtain ⟨cy, hcy⟩ : ∃ cy, cy = ckP y := ⟨_, rfl⟩
  have hysm := pmBytes_small y
  have hyel := pmBytes_len y hwf
  rw [← hyb2, ← hcy] at CA2 hyb
  rw [← hyb2] at hysm hyel
  have HCS := hide (fun (w : World) (a : Option Addr) (k Q : Nat) (h1 : BsV w P (.slice ao n cap) ps) (h2 : BsO w Q (.slice a n k) ps) (h3 : P ≤ w.heap.size) => sameK n ao cap a k ps w h3 h1 h2)
  have HCA := hide CA; have HCC := hide CC; have HCP2 := hide CP2; have HCA2 := hide CA2; have HCP1 := hide CP1; have HYB := hide hyb; have HTH := hide hth; have HSM := hide hsm; have HEL := hide hel; have HYSM := hide hysm; have HYEL := hide hyel
  have HW := hide hW; have HP := hide hP; have HBL := hide hbl; have HBS := hide hbs; have HNL := hide hnl
  rw [← hP]
  obtain ⟨NB, hNB⟩ : ∃ NB, NB = bytes.length := ⟨_, rfl⟩
  rw [← hNB] at HB0 HCP2 ⊢
  clear hbel hW hP hb hx hbl hbs CA CC CP2 CA2 CP1 hwf hbk hyb hth hsm hel hysm hyel hy hpe hce heb hyb2 hcy hNB hn hnl
  go_enter Try.func7, Try.ntmps7
  go_wp2_with fail
  rw [← HW.out, ← HP.out]
  refine (HCA.out _ HB0.out.hx (Nat.le_of_lt HB0.out.sz)).mono ?_
  rintro e w1 ⟨v1, rfl, ho1, b1⟩
  obtain ⟨ao1, k1, rfl⟩ := own_slice ho1
  have HB1 := hide (HB0.out.row b1 (Bv.of_own ho1 HSM.out (by have := HEL.out; omega)))
  clear ho1 b1
  go_wp2_with fail
  refine (begun10_any _).mono ?_
  rintro e w2 ⟨rfl, b2⟩
  have HB2 := hide (HB1.out.call b2)
  have c0 := cells_one0 HB2.out.bx
  clear b2
  by_cases hc : ce = 0
  · subst hc
    obtain ⟨ht1, ht2⟩ := HTH.out rfl
    go_wp2_with fail
    refine (HCC.out _ HB2.out.hx (Nat.le_of_lt HB2.out.sz)).mono ?_
    rintro e w3 ⟨rfl, b3⟩
    have HB3 := hide (HB2.out.call b3)
    have CP := HCP1.out ao1 k1 w3 (HB3.out.rows _ (List.mem_cons_self ..))
    rw [ht1, ht2] at CP
    have HCP := hide CP
    clear b3 CP ht1 ht2 c0
    go_wp2_with fail
    refine HCP.out.mono ?_
    rintro e w4 ⟨v4, rfl, ho4, b4⟩
    obtain ⟨ao4, k4, rfl⟩ := ho4.shape
    rw [← HNL.out] at ho4 ⊢
    have HB4 := hide ((HB3.out.call b4).box (.cells #[.slice ao4 n k4] 43))
    have d0 := cells_one0 (heap_alloc_new w4 (.cells #[.slice ao4 n k4] 43))
    have HAV := hide (ho4.call ((Below.refl w4.heap.size w4).alloc (Nat.le_refl _) (.cells #[.slice ao4 n k4] 43)))
    have c0 := cells_one0 HB4.out.bx
    clear ho4 b4
    go_wp2_with fail
    refine (HCS.out _ _ _ _ HB4.out.hx HAV.out (Nat.le_of_lt HB4.out.sz)).mono ?_
    rintro e w5 ⟨rfl, b5⟩
    have HB5 := hide (HB4.out.call b5)
    clear b5 c0 d0
    go_wp2_with fail
    refine (HCP2.out _ (HB5.out.rows _ (List.mem_cons_of_mem _ (List.mem_singleton.2 rfl)))).mono ?_
    rintro e w6 ⟨v6, rfl, ho6, b6⟩
    obtain ⟨ao6, k6, rfl⟩ := ho6.shape
    have HB6 := hide ((HB5.out.call b6).box (.cells #[.slice ao6 y.length k6] 43))
    have d0 := cells_one0 (heap_alloc_new w6 (.cells #[.slice ao6 y.length k6] 43))
    have HAV := hide (ho6.call ((Below.refl w6.heap.size w6).alloc (Nat.le_refl _) (.cells #[.slice ao6 y.length k6] 43))).bsv
    clear ho6 b6
    by_cases hp0 : pe = 0
    · obtain ⟨hy1, hy2⟩ := HYB.out hp0
      have HY1 := hide hy1
      subst hp0
      subst hy2
      clear hy1
      go_wp2_with fail
      refine (HCA2.out _ _ _ HAV.out).mono ?_
      rintro e w7 ⟨v7, rfl, ho7, b7⟩
      obtain ⟨ao7, k7, rfl⟩ := own_slice ho7
      have HB7 := hide (HB6.out.row b7 (Bv.of_own ho7 HYSM.out (by have := HYEL.out; omega)))
      have hbv := HB7.out.rows (.slice aob NB capb, bytes) (by simp)
      have hyv := HB7.out.rows (.slice ao7 yb.length k7, yb) (by simp)
      have CE := Bv.equal hbv hyv
      rw [HY1.out, decide_eq_true rfl] at CE
      rw [HY1.out]
      have HCE := hide CE
      clear ho7 b7 hbv hyv CE d0
      go_wp2_with fail
      refine HCE.out.mono ?_
      rintro e w8 ⟨rfl, rfl⟩
      go_wp2
      go_ret
      exact ⟨rfl, HB7.out.below⟩
    · have hpb : (pe != 0) = true := by simp [hp0]
      clear hp0
      go_wp2
      go_ret
      exact ⟨rfl, HB6.out.below⟩
  · have hcb : (ce == 0) = false := by simp [hc]
    have hcn := hide hc
    clear hc
    go_wp2_with fail
    refine (HCC.out _ HB2.out.hx (Nat.le_of_lt HB2.out.sz)).mono ?_
    rintro e w5 ⟨rfl, b3⟩
    have HB5 := hide (HB2.out.call b3)
    clear b3 c0
    go_wp2_with fail
    refine (HCP2.out _ (HB5.out.rows _ (List.mem_cons_of_mem _ (List.mem_singleton.2 rfl)))).mono ?_
    rintro e w6 ⟨v6, rfl, ho6, b6⟩
    obtain ⟨ao6, k6, rfl⟩ := ho6.shape
    have HB6 := hide ((HB5.out.call b6).box (.cells #[.slice ao6 y.length k6] 43))
    have d0 := cells_one0 (heap_alloc_new w6 (.cells #[.slice ao6 y.length k6] 43))
    have HAV := hide (ho6.call ((Below.refl w6.heap.size w6).alloc (Nat.le_refl _) (.cells #[.slice ao6 y.length k6] 43))).bsv
    clear ho6 b6
    by_cases hp0 : pe = 0
    · obtain ⟨hy1, hy2⟩ := HYB.out hp0
      have HY1 := hide hy1
      subst hp0
      subst hy2
      clear hy1
      go_wp2_with fail
      refine (HCA2.out _ _ _ HAV.out).mono ?_
      rintro e w7 ⟨v7, rfl, ho7, b7⟩
      obtain ⟨ao7, k7, rfl⟩ := own_slice ho7
      have HB7 := hide (HB6.out.row b7 (Bv.of_own ho7 HYSM.out (by have := HYEL.out; omega)))
      have hbv := HB7.out.rows (.slice aob NB capb, bytes) (by simp)
      have hyv := HB7.out.rows (.slice ao7 yb.length k7, yb) (by simp)
      have CE := Bv.equal hbv hyv
      rw [HY1.out, decide_eq_true rfl] at CE
      rw [HY1.out]
      have HCE := hide CE
      clear ho7 b7 hbv hyv CE d0
      go_wp2_with fail
      refine HCE.out.mono ?_
      rintro e w8 ⟨rfl, rfl⟩
      go_wp2
      go_ret
      exact ⟨rfl, HB7.out.below⟩
    · have hpb : (pe != 0) = true := by simp [hp0]
      clear hp0
      go_wp2
      go_ret
      exact ⟨rfl, HB6.out.below⟩
end Go.Proofs.Ytpbloplbpkedcaa
