/- Contracts: put of an attribute, of an event, into a sink that has room; how many bits an event has. -/
import Derived.Test.YtiljekpfkkocnaaFm4
import Derived.Test.YtiljekpfkkocnaaBg4
import Derived.Test.YtiljekpfkkocnaaPuts2
import Derived.Test.YtiljekpfkkocnaaOut
namespace Go.Proofs.Ytiljekpfkkocnaa
open Go Go.RowKit

theorem cell_of_four4 {w : World} {q : Nat} {c0 c1 c2 c3 : Value} {t : Nat} {fr : Nat × Nat} (h : w.heap[q]? = some (.cells #[c0, c1, c2, c3] t fr)) :
    w.cell? ⟨q, 0, none⟩ = some c0 ∧ w.cell? ⟨q, 1, none⟩ = some c1 ∧ w.cell? ⟨q, 2, none⟩ = some c2 ∧ w.cell? ⟨q, 3, none⟩ = some c3 := by
  refine ⟨?_, ?_, ?_, ?_⟩ <;> simp [World.cell?, h]

set_option maxRecDepth 100000 in
set_option maxHeartbeats 1600000 in
theorem ePutAttr_int (B q : Nat) (bs : List Bool) (nm s : ByteArray) (n : Int) (w : World) (hs : SinkIs w B q bs) (hB : B ≤ w.heap.size) (hn : (Lit.int .i64 n).wf = true)
    (hl : bs.length + ((2 * ahd nm.size + 1 + 8 * nm.size) + 2 + (2 * ahd (zigN n) + 1)) ≤ 1048576) :
    Calls Try.prog 104 #[.pointer (some ⟨q, 0, none⟩), .agg #[.string nm, .int .i64 1, .int .i64 n, .string s]] w
      fun e w' => e = .returned (.tuple #[]) ∧ SinkIs w' B q (bs ++ (textBits nm.data.toList ++ bitsOf 1 2 ++ natBits (zigN n))) ∧ Below B w w' := by
  obtain ⟨P, hP⟩ : ∃ P, P = w.heap.size := ⟨_, rfl⟩
  obtain ⟨W, hW⟩ : ∃ W, W = w.alloc (.cells #[.string nm, .int .i64 1, .int .i64 n, .string s] 91) := ⟨_, rfl⟩
  have hbel : Below B w W := by rw [hW]; exact (Below.refl _ _).alloc hB _
  have HSW := hide (by rw [hW]; exact hs.below ((Below.refl w.heap.size w).alloc (Nat.le_refl _) _) (Nat.le_refl _) : SinkIs W B q bs)
  have HPW := hide (by rw [hW, hP]; exact heap_alloc_new w _ : W.heap[P]? = some (.cells #[.string nm, .int .i64 1, .int .i64 n, .string s] 91 (0, 0)))
  have HBel := hide hbel; have HW := hide hW; have HP := hide hP
  have htl := textBits_len nm
  obtain ⟨L, hL⟩ : ∃ L, L = (textBits nm.data.toList).length := ⟨_, rfl⟩
  have CT := fun (w : World) (h : SinkIs w B q bs) => kText_fits B q nm bs w h (by omega)
  have CB := fun (w : World) (h : SinkIs w B q (bs ++ textBits nm.data.toList)) => kBits_fits B q 1 2 _ w h (by decide) (by decide) (by rw [List.length_append]; omega)
  have CN := fun (w : World) (h : SinkIs w B q (bs ++ textBits nm.data.toList ++ bitsOf 1 2)) => kNum_fits B q n _ w hn h (by rw [List.length_append, List.length_append, bitsOf_length]; omega)
  have HCT := hide CT; have HCB := hide CB; have HCN := hide CN
  clear hs hbel hW hP CT CB CN hl htl hL hn hB
  obtain ⟨c0, c1, c2, c3⟩ := cell_of_four4 HPW.out
  go_enter Try.func104, Try.ntmps104
  go_wp2_with fail
  rw [← HW.out, ← HP.out]
  refine (HCT.out _ HSW.out).mono ?_
  rintro e w1 ⟨rfl, hs1, k1⟩
  clear c0 c1 c2 c3
  have HP1 := hide (k1.typed _ _ _ _ HPW.out (by decide))
  obtain ⟨c0, c1, c2, c3⟩ := cell_of_four4 HP1.out
  have HS1 := hide hs1; have K1 := hide k1; clear hs1 k1
  go_wp2_with fail
  refine (HCB.out _ HS1.out).mono ?_
  rintro e w2 ⟨rfl, hs2, k2⟩
  clear c0 c1 c2 c3
  have HP2 := hide (k2.typed _ _ _ _ HP1.out (by decide))
  obtain ⟨c0, c1, c2, c3⟩ := cell_of_four4 HP2.out
  have HS2 := hide hs2; have K2 := hide (K1.out.trans k2); clear hs2 k2
  go_wp2_with fail
  refine (HCN.out _ HS2.out).mono ?_
  rintro e w3 ⟨rfl, hs3, k3⟩
  have HS3 := hide hs3; have K3 := hide (K2.out.trans k3); clear hs3 k3
  go_wp2
  go_end0
  refine ⟨rfl, ?_, HBel.out.trans K3.out.below⟩
  have := HS3.out
  rwa [List.append_assoc, List.append_assoc, ← List.append_assoc (textBits _)] at this

set_option maxRecDepth 100000 in
set_option maxHeartbeats 1600000 in
theorem ePutAttr_str (B q : Nat) (bs : List Bool) (nm s : ByteArray) (n : Int) (w : World) (hs : SinkIs w B q bs) (hB : B ≤ w.heap.size)
    (hl : bs.length + ((2 * ahd nm.size + 1 + 8 * nm.size) + 2 + (2 * ahd s.size + 1 + 8 * s.size)) ≤ 1048576) :
    Calls Try.prog 104 #[.pointer (some ⟨q, 0, none⟩), .agg #[.string nm, .int .i64 2, .int .i64 n, .string s]] w
      fun e w' => e = .returned (.tuple #[]) ∧ SinkIs w' B q (bs ++ (textBits nm.data.toList ++ bitsOf 2 2 ++ textBits s.data.toList)) ∧ Below B w w' := by
  obtain ⟨P, hP⟩ : ∃ P, P = w.heap.size := ⟨_, rfl⟩
  obtain ⟨W, hW⟩ : ∃ W, W = w.alloc (.cells #[.string nm, .int .i64 2, .int .i64 n, .string s] 91) := ⟨_, rfl⟩
  have hbel : Below B w W := by rw [hW]; exact (Below.refl _ _).alloc hB _
  have HSW := hide (by rw [hW]; exact hs.below ((Below.refl w.heap.size w).alloc (Nat.le_refl _) _) (Nat.le_refl _) : SinkIs W B q bs)
  have HPW := hide (by rw [hW, hP]; exact heap_alloc_new w _ : W.heap[P]? = some (.cells #[.string nm, .int .i64 2, .int .i64 n, .string s] 91 (0, 0)))
  have HBel := hide hbel; have HW := hide hW; have HP := hide hP
  have htl := textBits_len nm
  obtain ⟨L, hL⟩ : ∃ L, L = (textBits nm.data.toList).length := ⟨_, rfl⟩
  have CT := fun (w : World) (h : SinkIs w B q bs) => kText_fits B q nm bs w h (by omega)
  have CB := fun (w : World) (h : SinkIs w B q (bs ++ textBits nm.data.toList)) => kBits_fits B q 2 2 _ w h (by decide) (by decide) (by rw [List.length_append]; omega)
  have CN := fun (w : World) (h : SinkIs w B q (bs ++ textBits nm.data.toList ++ bitsOf 2 2)) => kText_fits B q s _ w h (by rw [List.length_append, List.length_append, bitsOf_length]; omega)
  have HCT := hide CT; have HCB := hide CB; have HCN := hide CN
  clear hs hbel hW hP CT CB CN hl htl hL hB
  obtain ⟨c0, c1, c2, c3⟩ := cell_of_four4 HPW.out
  go_enter Try.func104, Try.ntmps104
  go_wp2_with fail
  rw [← HW.out, ← HP.out]
  refine (HCT.out _ HSW.out).mono ?_
  rintro e w1 ⟨rfl, hs1, k1⟩
  clear c0 c1 c2 c3
  have HP1 := hide (k1.typed _ _ _ _ HPW.out (by decide))
  obtain ⟨c0, c1, c2, c3⟩ := cell_of_four4 HP1.out
  have HS1 := hide hs1; have K1 := hide k1; clear hs1 k1
  go_wp2_with fail
  refine (HCB.out _ HS1.out).mono ?_
  rintro e w2 ⟨rfl, hs2, k2⟩
  clear c0 c1 c2 c3
  have HP2 := hide (k2.typed _ _ _ _ HP1.out (by decide))
  obtain ⟨c0, c1, c2, c3⟩ := cell_of_four4 HP2.out
  have HS2 := hide hs2; have K2 := hide (K1.out.trans k2); clear hs2 k2
  go_wp2_with fail
  refine (HCN.out _ HS2.out).mono ?_
  rintro e w3 ⟨rfl, hs3, k3⟩
  have HS3 := hide hs3; have K3 := hide (K2.out.trans k3); clear hs3 k3
  go_wp2
  go_end0
  refine ⟨rfl, ?_, HBel.out.trans K3.out.below⟩
  have := HS3.out
  rwa [List.append_assoc, List.append_assoc, ← List.append_assoc (textBits _)] at this

def AtOk (x : At) : Prop := x.name.size ≤ 32 ∧ ((x.k = 1 ∧ x.s.size = 0) ∨ (x.k = 2 ∧ x.n = 0 ∧ x.s.size ≤ 64))
theorem ePutAttr_any (B q : Nat) (bs : List Bool) (x : At) (w : World) (hs : SinkIs w B q bs) (hB : B ≤ w.heap.size) (hx : AtOk x) (hn : (Lit.int .i64 x.n).wf = true) (hl : bs.length + (atBits x).length ≤ 1048576) :
    Calls Try.prog 104 #[.pointer (some ⟨q, 0, none⟩), .agg #[.string x.name, .int .i64 x.k, .int .i64 x.n, .string x.s]] w
      fun e w' => e = .returned (.tuple #[]) ∧ SinkIs w' B q (bs ++ atBits x) ∧ Below B w w' := by
  obtain ⟨nm, k, n, s⟩ := x
  obtain ⟨h1, h2⟩ := hx
  simp only at h1 h2 hn ⊢
  rw [atBits_len] at hl
  rcases h2 with ⟨rfl, h3⟩ | ⟨rfl, h3, h4⟩
  · rw [show atBits ⟨nm, 1, n, s⟩ = textBits nm.data.toList ++ bitsOf 1 2 ++ natBits (zigN n) from rfl]
    rw [show valBitsA ⟨nm, 1, n, s⟩ = natBits (zigN n) from rfl, natBits_length] at hl
    exact ePutAttr_int B q bs nm s n w hs hB hn hl
  · rw [show atBits ⟨nm, 2, n, s⟩ = textBits nm.data.toList ++ bitsOf 2 2 ++ textBits s.data.toList from rfl]
    rw [show valBitsA ⟨nm, 2, n, s⟩ = textBits s.data.toList from rfl, textBits_len] at hl
    exact ePutAttr_str B q bs nm s n w hs hB hl
end Go.Proofs.Ytiljekpfkkocnaa
namespace Go.Proofs.Ytiljekpfkkocnaa
open Go Go.RowKit

theorem take_flat (xs : List At) (k : Nat) (h : k < xs.length) : (xs.take (k + 1)).flatMap atBits = (xs.take k).flatMap atBits ++ atBits xs[k]! := by
  rw [List.take_succ_eq_append_getElem h, List.flatMap_append, getElem!_pos xs k h]; simp
theorem take_flat_le (xs : List At) (k : Nat) (h : k < xs.length) : ((xs.take k).flatMap atBits).length + (atBits xs[k]!).length ≤ (xs.flatMap atBits).length := by
  have e : xs.flatMap atBits = (xs.take (k + 1)).flatMap atBits ++ (xs.drop (k + 1)).flatMap atBits := by rw [← List.flatMap_append, List.take_append_drop]
  rw [e, take_flat xs k h, List.length_append, List.length_append]; omega

set_option maxRecDepth 100000 in
set_option maxHeartbeats 3200000 in
theorem eput_nat (B q S Q T : Nat) (bs : List Bool) (ty : ByteArray) (ats : List At) (ao : Option Addr) (n cap : Nat) (w : World) (hs : SinkIs w B q bs) (hB : B ≤ w.heap.size)
    (hv : Av w B (.slice ao n cap) ats) (hok : EvOk ⟨S, Q, T, ty, ats⟩) (hn : ∀ x ∈ ats, (Lit.int .i64 x.n).wf = true) (hl : bs.length + (evBits ⟨S, Q, T, ty, ats⟩).length ≤ 1048576) :
    Calls Try.prog 74 #[.pointer (some ⟨q, 0, none⟩), .agg #[.int .i64 (S : Int), .int .i64 (Q : Int), .int .i64 (T : Int), .string ty, .slice ao n cap]] w
      fun e w' => e = .returned (.tuple #[]) ∧ SinkIs w' B q (bs ++ evBits ⟨S, Q, T, ty, ats⟩) ∧ Below B w w' := by
  obtain ⟨P, hP⟩ : ∃ P, P = w.heap.size := ⟨_, rfl⟩
  obtain ⟨W, hW⟩ : ∃ W, W = w.alloc (.cells #[.int .i64 (S : Int), .int .i64 (Q : Int), .int .i64 (T : Int), .string ty, .slice ao n cap] 26) := ⟨_, rfl⟩
  have hbel : Below B w W := by rw [hW]; exact (Below.refl _ _).alloc hB _
  have HSW := hide (by rw [hW]; exact hs.below ((Below.refl w.heap.size w).alloc (Nat.le_refl _) _) (Nat.le_refl _) : SinkIs W B q bs)
  have HPW := hide (by rw [hW, hP]; exact heap_alloc_new w _ : W.heap[P]? = some (.cells #[.int .i64 (S : Int), .int .i64 (Q : Int), .int .i64 (T : Int), .string ty, .slice ao n cap] 26 (0, 0)))
  have HBel := hide hbel; have HW := hide hW; have HP := hide hP
  have hBP : B ≤ P := by omega
  obtain ⟨hnx, hn63⟩ := hv.num
  have hn8 : n ≤ 8 := by have := hok.ats; simp only at this; omega
  have hS := hok.src; have hQ := hok.seq; have hT := hok.time; have hty := hok.ty
  simp only at hS hQ hT hty
  have hS16 : S < 16 := by omega
  have hQ40 : Q ≤ 1099511627776 := by omega
  have hT40 : T ≤ 1099511627776 := by omega
  have hel : (evBits ⟨S, Q, T, ty, ats⟩).length = 4 + (2 * ahd Q + 1) + (2 * ahd T + 1) + (2 * ahd ty.size + 1 + 8 * ty.size) + 4 + (ats.flatMap atBits).length := by
    unfold evBits; rw [List.length_append, headE_len]; rfl
  rw [hel] at hl
  have htl := textBits_len ty
  have hql := natBits_length Q; have htl2 := natBits_length T
  obtain ⟨L, hL⟩ : ∃ L, L = (ats.flatMap atBits).length := ⟨_, rfl⟩
  rw [← hL] at hl
  have C1 := fun (w : World) (h : SinkIs w B q bs) => kBits_fits B q S 4 bs w h (by decide) (by omega) (by omega)
  have C2 := fun (w : World) (h : SinkIs w B q (bs ++ bitsOf S 4)) => kNat_fits B q Q _ w (by omega) h (by rw [List.length_append, bitsOf_length]; omega)
  have C3 := fun (w : World) (h : SinkIs w B q (bs ++ bitsOf S 4 ++ natBits Q)) => kNat_fits B q T _ w (by omega) h (by rw [List.length_append, List.length_append, bitsOf_length]; omega)
  have C4 := fun (w : World) (h : SinkIs w B q (bs ++ bitsOf S 4 ++ natBits Q ++ natBits T)) => kText_fits B q ty _ w h (by rw [List.length_append, List.length_append, List.length_append, bitsOf_length]; omega)
  have C5 := fun (w : World) (h : SinkIs w B q (bs ++ bitsOf S 4 ++ natBits Q ++ natBits T ++ textBits ty.data.toList)) => kBits_fits B q n 4 _ w h (by decide) (by omega) (by rw [List.length_append, List.length_append, List.length_append, List.length_append, bitsOf_length]; omega)
  obtain ⟨hd, hhd⟩ : ∃ hd, hd = bs ++ headE ⟨S, Q, T, ty, ats⟩ := ⟨_, rfl⟩
  have HHD : Hid (bs ++ bitsOf S 4 ++ natBits Q ++ natBits T ++ textBits ty.data.toList ++ bitsOf n 4 = hd) := by
    rw [hhd, hnx]; unfold headE; simp only [List.append_assoc]; rfl
  have HEV : Hid (hd ++ ats.flatMap atBits = bs ++ evBits ⟨S, Q, T, ty, ats⟩) := by rw [hhd]; exact List.append_assoc _ _ _
  have hhl : hd.length + L ≤ 1048576 := by rw [hhd, List.length_append, headE_len]; show _ + (4 + (2 * ahd Q + 1) + (2 * ahd T + 1) + (2 * ahd ty.size + 1 + 8 * ty.size) + 4) + L ≤ _; omega
  have CA := fun (w : World) (k : Nat) (hk : k < ats.length) (h : SinkIs w B q (hd ++ (ats.take k).flatMap atBits)) (hBw : B ≤ w.heap.size) => ePutAttr_any B q _ ats[k]! w h hBw (by rw [getElem!_pos ats k hk]; exact hok.each _ (List.getElem_mem _)) (by rw [getElem!_pos ats k hk]; exact hn _ (List.getElem_mem _)) (by rw [List.length_append]; have := take_flat_le ats k hk; omega)
  have HC1 := hide C1; have HC2 := hide C2; have HC3 := hide C3; have HC4 := hide C4; have HC5 := hide C5; have HCA := hide CA
  have HAV := hide (hv.below hbel (Nat.le_refl _))
  have HNX := hide hnx
  clear hs hbel hW hP C1 C2 C3 C4 C5 CA hl hel htl hql htl2 hL hn hok hv hhd hhl hQ hT hS hnx hB
  have hSw : (S : Int) < 16 := by omega
  have hQw : (Q : Int) ≤ 1099511627776 := by omega
  have hTw : (T : Int) ≤ 1099511627776 := by omega
  have hnw : (n : Int) ≤ 8 := by omega
  obtain ⟨c0, c1, c2, c3, c4⟩ := cell_of_five HPW.out
  go_enter Try.func74, Try.ntmps74
  go_wp2_with fail
  rw [← HW.out, ← HP.out]
  refine (HC1.out _ HSW.out).mono ?_
  rintro e w1 ⟨rfl, hs1, k1⟩
  clear c0 c1 c2 c3 c4
  have HP1 := hide (k1.typed _ _ _ _ HPW.out (by decide))
  obtain ⟨c0, c1, c2, c3, c4⟩ := cell_of_five HP1.out
  have HS1 := hide hs1; have K1 := hide k1; clear hs1 k1
  go_wp2_with fail
  refine (HC2.out _ HS1.out).mono ?_
  rintro e w2 ⟨rfl, hs2, k2⟩
  clear c0 c1 c2 c3 c4
  have HP2 := hide (k2.typed _ _ _ _ HP1.out (by decide))
  obtain ⟨c0, c1, c2, c3, c4⟩ := cell_of_five HP2.out
  have HS2 := hide hs2; have K2 := hide (K1.out.trans k2); clear hs2 k2
  go_wp2_with fail
  refine (HC3.out _ HS2.out).mono ?_
  rintro e w3 ⟨rfl, hs3, k3⟩
  clear c0 c1 c2 c3 c4
  have HP3 := hide (k3.typed _ _ _ _ HP2.out (by decide))
  obtain ⟨c0, c1, c2, c3, c4⟩ := cell_of_five HP3.out
  have HS3 := hide hs3; have K3 := hide (K2.out.trans k3); clear hs3 k3
  go_wp2_with fail
  refine (HC4.out _ HS3.out).mono ?_
  rintro e w4 ⟨rfl, hs4, k4⟩
  clear c0 c1 c2 c3 c4
  have HP4 := hide (k4.typed _ _ _ _ HP3.out (by decide))
  obtain ⟨c0, c1, c2, c3, c4⟩ := cell_of_five HP4.out
  have HS4 := hide hs4; have K4 := hide (K3.out.trans k4); clear hs4 k4
  go_wp2_with fail
  refine (HC5.out _ HS4.out).mono ?_
  rintro e w5 ⟨rfl, hs5, k5⟩
  rw [HHD.out] at hs5
  clear c0 c1 c2 c3 c4
  have HP5 := hide (k5.typed _ _ _ _ HP4.out (by decide))
  obtain ⟨c0, c1, c2, c3, c4⟩ := cell_of_five HP5.out
  have HS5 := hide hs5; have K5 := hide (HBel.out.trans (K4.out.trans k5).below)
  have HAV5 := hide (HAV.out.below (K4.out.trans k5).below (Nat.le_refl _))
  have HB5 := hide (show B ≤ w5.heap.size from Nat.le_of_lt (Nat.lt_of_le_of_lt hBP (lt_of_block HP5.out)))
  clear hs5 k5
  go_wp2_with fail
  go_loopw [36] (fun i wr => ∃ k : Nat, k ≤ n ∧ i = .int .i64 k ∧ Hid (SinkIs wr B q (hd ++ (ats.take k).flatMap atBits)) ∧ Hid (Below B w5 wr)) (fun i _ => n - (intOf i).toNat)
  case atStart => exact ⟨0, Nat.zero_le _, rfl, by simpa using HS5, Below.refl _ _⟩
  case round =>
    obtain ⟨k, hk, rfl, HSr, HKr⟩ := hrel
    by_cases hlt : k < n
    · have hkl : k < ats.length := by rw [← HNX.out]; exact hlt
      obtain ⟨b, o, rfl, hb, hnn, _, hcap, hcell⟩ := (HAV5.out.below HKr.out (Nat.le_refl _)).at (by omega)
      obtain ⟨x, hx⟩ : ∃ x, x = ats[k]! := ⟨_, rfl⟩
      obtain ⟨a0, a1, a2, a3⟩ := four_cells (w := wr) (b := b) (a := o + k * 4) (x := x) (fun i u hu => hcell k hkl i u (by rw [← hx]; exact hu))
      have HT := hide (take_flat ats k hkl)
      have hBr : B ≤ wr.heap.size := Nat.le_trans HB5.out HKr.out.size
      have hkz : (0 : Int) ≤ (k : Int) := by omega
      have CP := HCA.out (wr.alloc (.cells #[.string x.name, .int .i64 x.k, .int .i64 x.n, .string x.s] 91)) k hkl (HSr.out.below ((Below.refl wr.heap.size wr).alloc (Nat.le_refl _) _) (Nat.le_refl _)) (by simp; omega)
      rw [← hx] at CP HT
      have HCP := hide CP
      have HBR := hide hBr
      clear hcell hx hkl CP hb hnn
      go_wp2_with (go_at_call 104; (with_reducible refine (HCP.out).mono ?_); rintro e w7 ⟨rfl, hs7, hb7⟩; have HS7 := hide hs7; have HB7 := hide hb7; clear hs7 hb7)
      go_roundw
      case rel => exact ⟨k + 1, by omega, by go_num, by rw [HT.out, ← List.append_assoc]; exact HS7.out, (HKr.out.alloc HBR.out _).trans HB7.out⟩
      case measure => simp [intOf]; omega
    · go_wp2
      go_end0
      obtain rfl : k = n := by omega
      refine ⟨rfl, ?_, K5.out.trans HKr.out⟩
      have := HSr.out
      rwa [List.take_of_length_le (by rw [HNX.out]; exact Nat.le_refl _), HEV.out] at this
end Go.Proofs.Ytiljekpfkkocnaa
namespace Go.Proofs.Ytiljekpfkkocnaa
open Go Go.RowKit

theorem zig_ok {n : Int} (h : (Lit.int .i64 n).wf = true) : zigN n < 2 ^ 64 := zigN_lt n (by simpa [Lit.wf, IntKind.min, IntKind.max, IntKind.signed, IntKind.bits] using h)
def Wf (ats : List At) : Prop := ∀ x ∈ ats, (Lit.int .i64 x.n).wf = true

theorem eput_any (ev : Ev) (B q : Nat) (bs : List Bool) (ao : Option Addr) (n cap : Nat) (w : World) (hs : SinkIs w B q bs) (hB : B ≤ w.heap.size)
    (hv : Av w B (.slice ao n cap) ev.ats) (hok : EvOk ev) (hn : Wf ev.ats) (hl : bs.length + (evBits ev).length ≤ 1048576) :
    Calls Try.prog 74 #[.pointer (some ⟨q, 0, none⟩), evV ev (.slice ao n cap)] w
      fun e w' => e = .returned (.tuple #[]) ∧ SinkIs w' B q (bs ++ evBits ev) ∧ Below B w w' := by
  obtain ⟨s, sq, t, ty, ats⟩ := ev
  have h1 := hok.src0; have h2 := hok.seq0; have h3 := hok.time0
  simp only at h1 h2 h3
  obtain ⟨S, rfl⟩ := Int.eq_ofNat_of_zero_le h1
  obtain ⟨Q, rfl⟩ := Int.eq_ofNat_of_zero_le h2
  obtain ⟨T, rfl⟩ := Int.eq_ofNat_of_zero_le h3
  exact eput_nat B q S Q T bs ty ats ao n cap w hs hB hv hok hn hl

set_option maxRecDepth 100000 in
set_option maxHeartbeats 1600000 in
theorem eSize_any (ev : Ev) (B : Nat) (ao : Option Addr) (n cap : Nat) (w : World) (hB : B ≤ w.heap.size) (hv : Av w B (.slice ao n cap) ev.ats) (hok : EvOk ev) (hn : Wf ev.ats) :
    Calls Try.prog 73 #[evV ev (.slice ao n cap)] w fun e w' => e = .returned (.int .i64 ((evBits ev).length : Int)) ∧ Below w.heap.size w w' := by
  obtain ⟨P, hP⟩ : ∃ P, P = w.heap.size := ⟨_, rfl⟩
  obtain ⟨W, hW⟩ : ∃ W, W = w.alloc (.cells #[.int .i64 ev.src, .int .i64 ev.seq, .int .i64 ev.time, .string ev.ty, .slice ao n cap] 26) := ⟨_, rfl⟩
  have hbel : Below P w W := by rw [hW, hP]; exact (Below.refl _ _).alloc (Nat.le_refl _) _
  have hsz : P < W.heap.size := by rw [hW, hP]; simp
  have HPW := hide (by rw [hW, hP]; exact heap_alloc_new w _ : W.heap[P]? = some (.cells #[.int .i64 ev.src, .int .i64 ev.seq, .int .i64 ev.time, .string ev.ty, .slice ao n cap] 26 (0, 0)))
  have HBel := hide hbel; have HW := hide hW; have HP := hide hP
  have hle := evBits_le ev hok (fun x hx => zig_ok (hn x hx))
  have CP := fun (w : World) (q : Nat) (h : SinkIs w q q []) (hB : q ≤ w.heap.size) (hv : Av w q (.slice ao n cap) ev.ats) => eput_any ev q q [] ao n cap w h hB hv hok hn (by simp; omega)
  simp only [List.nil_append] at CP
  have HCP := hide CP
  have HAV := hide (hv.below hbel (by omega))
  obtain ⟨l, hlv⟩ : ∃ l, l = evBits ev := ⟨_, rfl⟩
  rw [← hlv] at hle HCP ⊢
  have HBP := hide (show B ≤ P by omega)
  have HSZ := hide hsz
  unfold evV at HCP ⊢
  rw [← hP]
  obtain ⟨s, sq, t, ty, ats⟩ := ev
  simp only at *
  have HLE := hide hle
  clear hbel hW hP CP hn hok hv hlv hB hle hsz
  go_enter Try.func73, Try.ntmps73
  go_wp2_with fail
  rw [← HW.out, ← HP.out]
  refine (newSink_any W).mono ?_
  obtain ⟨H1, hH1⟩ : ∃ H1, H1 = W.heap.size := ⟨_, rfl⟩
  rw [← hH1]
  have HH1 := hide hH1
  rintro e w1 ⟨rfl, hs1, k1⟩
  have h01 : P < H1 := by rw [hH1]; exact HSZ.out
  have hp1 := (k1.below.block P h01).trans HPW.out
  obtain ⟨c0, c1, c2, c3, c4⟩ := cell_of_five hp1
  have HS1 := hide hs1
  have HB1 := hide (HBel.out.trans (k1.below.mono (Nat.le_of_lt h01)))
  have HA1 := hide ((HAV.out.below k1.below (by have := HBP.out; omega)).mono (show B ≤ H1 by have := HBP.out; omega))
  have H1S := hide (show H1 ≤ w1.heap.size from Nat.le_of_lt hs1.lt)
  have H01 := hide h01
  clear hs1 k1 hH1 h01 hp1
  go_wp2_with fail
  refine (HCP.out w1 H1 HS1.out H1S.out HA1.out).mono ?_
  rintro e w2 ⟨rfl, hs2, hb2⟩
  have HB2 := hide (HB1.out.trans (hb2.mono (Nat.le_of_lt H01.out)))
  have CL := kLen_any H1 _ w2 hs2.made hs2.count
  clear hs2 hb2 c0 c1 c2 c3 c4
  go_wp2_with fail
  refine CL.mono ?_
  rintro e w3 ⟨rfl, rfl⟩
  go_wp2
  go_ret
  exact ⟨rfl, HB2.out⟩

/-- What Put answers of a sink that holds n bits. -/
def putErr (n : Nat) (ev : Ev) : Int := if ckE ev ≠ 0 then ckE ev else if 1048576 < n + (evBits ev).length then 3 else 0
def putBits (bs : List Bool) (ev : Ev) : List Bool := if putErr bs.length ev = 0 then bs ++ evBits ev else bs
theorem putErr_ck {n : Nat} {ev : Ev} (h : ckE ev ≠ 0) : putErr n ev = ckE ev := by unfold putErr; rw [if_pos h]
theorem putErr_long {n : Nat} {ev : Ev} (h : ckE ev = 0) (h2 : 1048576 < n + (evBits ev).length) : putErr n ev = 3 := by unfold putErr; rw [if_neg (by simpa using h), if_pos h2]
theorem putErr_ok {n : Nat} {ev : Ev} (h : ckE ev = 0) (h2 : ¬ 1048576 < n + (evBits ev).length) : putErr n ev = 0 := by unfold putErr; rw [if_neg (by simpa using h), if_neg h2]

set_option maxRecDepth 100000 in
set_option maxHeartbeats 3200000 in
theorem ePut_any (ev : Ev) (B q : Nat) (bs : List Bool) (ao : Option Addr) (n cap : Nat) (w : World) (hs : SinkIs w B q bs) (hB : B ≤ w.heap.size)
    (hv : Av w B (.slice ao n cap) ev.ats) (hty : ev.ty.size ≤ maxLen) (hn : Wf ev.ats) :
    Calls Try.prog 23 #[.pointer (some ⟨q, 0, none⟩), evV ev (.slice ao n cap)] w
      fun e w' => e = .returned (.int .i64 (putErr bs.length ev)) ∧ SinkIs w' B q (putBits bs ev) ∧ Below B w w' := by
  obtain ⟨P, hP⟩ : ∃ P, P = w.heap.size := ⟨_, rfl⟩
  obtain ⟨W, hW⟩ : ∃ W, W = w.alloc (.cells #[.int .i64 ev.src, .int .i64 ev.seq, .int .i64 ev.time, .string ev.ty, .slice ao n cap] 26) := ⟨_, rfl⟩
  have hbel : Below B w W := by rw [hW]; exact (Below.refl _ _).alloc hB _
  have hsz : P < W.heap.size := by rw [hW, hP]; simp
  have HPW := hide (by rw [hW, hP]; exact heap_alloc_new w _ : W.heap[P]? = some (.cells #[.int .i64 ev.src, .int .i64 ev.seq, .int .i64 ev.time, .string ev.ty, .slice ao n cap] 26 (0, 0)))
  have HSW := hide (by rw [hW]; exact hs.below ((Below.refl w.heap.size w).alloc (Nat.le_refl _) _) (Nat.le_refl _) : SinkIs W B q bs)
  have HBel := hide hbel; have HW := hide hW; have HP := hide hP
  have HBP := hide (show B ≤ P by omega)
  have hsl := hs.len
  have CB := fun (w : World) (h : SinkIs w B q bs) => kBits_fits B q 0 0 bs w h (by decide) (by decide) (by simpa using hsl)
  simp only [bitsOf_zero, List.append_nil] at CB
  have CC := fun (w : World) (h : Av w B (.slice ao n cap) ev.ats) (hB : B ≤ w.heap.size) => eCheck_any ev B ao n cap w h hB hty
  have HCB := hide CB
  have HAV := hide (hv.below hbel (Nat.le_refl _))
  by_cases hck : ckE ev = 0
  case neg =>
    rw [putErr_ck hck]
    rw [show putBits bs ev = bs by unfold putBits; rw [putErr_ck hck, if_neg hck]]
    obtain ⟨c, hc⟩ : ∃ c, c = ckE ev := ⟨_, rfl⟩
    rw [← hc] at CC hck ⊢
    have b1 : (c == 0) = false := by simp [hck]
    have b2 : (c != 0) = true := by simp [hck]
    have HCC := hide CC
    unfold evV at HCC ⊢
    obtain ⟨s, sq, t, ty, ats⟩ := ev
    simp only at *
    clear hs hbel hW hP CB CC hc hck hv hB hsz hn hty hsl
    go_enter Try.func23, Try.ntmps23
    go_wp2_with fail
    rw [← HW.out, ← HP.out]
    refine (HCB.out _ HSW.out).mono ?_
    rintro e w1 ⟨rfl, hs1, k1⟩
    have hp1 := k1.typed _ _ _ _ HPW.out (by decide)
    obtain ⟨c0, c1, c2, c3, c4⟩ := cell_of_five hp1
    have HS1 := hide hs1; have HB1 := hide (HBel.out.trans k1.below); have HA1 := hide (HAV.out.below k1.below (Nat.le_refl _))
    have HZ1 := hide (show B ≤ w1.heap.size from Nat.le_trans HBP.out (Nat.le_of_lt (lt_of_block hp1)))
    clear hs1 k1 hp1
    go_wp2_with fail
    refine (HCC.out _ HA1.out HZ1.out).mono ?_
    rintro e w2 ⟨rfl, hb2⟩
    have HS2 := hide (HS1.out.below hb2 (Nat.le_refl _)); have HB2 := hide (HB1.out.trans (hb2.mono HZ1.out))
    clear hb2 c0 c1 c2 c3 c4
    go_wp2
    go_ret
    exact ⟨rfl, HS2.out, HB2.out⟩
  have hok := EvOk.of hck
  rw [hck] at CC
  have HCC := hide CC
  have CS := fun (w : World) (h : Av w B (.slice ao n cap) ev.ats) (hB : B ≤ w.heap.size) => eSize_any ev B ao n cap w hB h hok hn
  obtain ⟨l, hlv⟩ : ∃ l, l = (evBits ev).length := ⟨_, rfl⟩
  obtain ⟨m, hm⟩ : ∃ m, m = bs.length := ⟨_, rfl⟩
  rw [← hlv] at CS
  have HCS := hide CS
  have CL := fun (w : World) (h : SinkIs w B q bs) => kLen_any q _ w h.made h.count
  rw [← hm] at CL hsl
  have HCL := hide CL
  by_cases hfit : 1048576 < m + l
  · rw [putErr_long hck (by rw [← hm, ← hlv]; exact hfit)]
    rw [show putBits bs ev = bs by unfold putBits; rw [putErr_long hck (by rw [← hm, ← hlv]; exact hfit), if_neg (by decide)]]
    have hd : decide (1048576 - (m : Int) < (l : Int)) = true := by simp; omega
    have hm0 : (0 : Int) ≤ (m : Int) := by omega
    have hm1 : (m : Int) ≤ 1048576 := by omega
    unfold evV at HCC HCS ⊢
    obtain ⟨s, sq, t, ty, ats⟩ := ev
    simp only at *
    clear hs hbel hW hP CB CC CS CL hck hv hB hsz hn hty hsl hok hlv hm hfit
    go_enter Try.func23, Try.ntmps23
    go_wp2_with fail
    rw [← HW.out, ← HP.out]
    refine (HCB.out _ HSW.out).mono ?_
    rintro e w1 ⟨rfl, hs1, k1⟩
    have HP1 := hide (k1.typed _ _ _ _ HPW.out (by decide))
    obtain ⟨c0, c1, c2, c3, c4⟩ := cell_of_five HP1.out
    have HS1 := hide hs1; have HB1 := hide (HBel.out.trans k1.below); have HA1 := hide (HAV.out.below k1.below (Nat.le_refl _))
    have HZ1 := hide (show B ≤ w1.heap.size from Nat.le_trans HBP.out (Nat.le_of_lt (lt_of_block HP1.out)))
    clear hs1 k1
    go_wp2_with fail
    refine (HCC.out _ HA1.out HZ1.out).mono ?_
    rintro e w2 ⟨rfl, hb2⟩
    have HS2 := hide (HS1.out.below hb2 (Nat.le_refl _)); have HB2 := hide (HB1.out.trans (hb2.mono HZ1.out)); have HA2 := hide (HA1.out.below hb2 HZ1.out)
    have HZ2 := hide (Nat.le_trans HZ1.out hb2.size)
    have HP2 := hide ((hb2.block P (lt_of_block HP1.out)).trans HP1.out)
    clear hb2 c0 c1 c2 c3 c4
    obtain ⟨c0, c1, c2, c3, c4⟩ := cell_of_five HP2.out
    go_wp2_with fail
    refine (HCS.out _ HA2.out HZ2.out).mono ?_
    rintro e w3 ⟨rfl, hb3⟩
    have HS3 := hide (HS2.out.below hb3 (Nat.le_refl _)); have HB3 := hide (HB2.out.trans (hb3.mono HZ2.out))
    clear hb3 c0 c1 c2 c3 c4
    go_wp2_with fail
    refine (HCL.out _ HS3.out).mono ?_
    rintro e w4 ⟨rfl, rfl⟩
    go_wp2
    go_ret
    exact ⟨rfl, HS3.out, HB3.out⟩
  · rw [putErr_ok hck (by rw [← hm, ← hlv]; exact hfit)]
    rw [show putBits bs ev = bs ++ evBits ev by unfold putBits; rw [putErr_ok hck (by rw [← hm, ← hlv]; exact hfit), if_pos rfl]]
    have CP := fun (w : World) (h : SinkIs w B q bs) (hB : B ≤ w.heap.size) (hv : Av w B (.slice ao n cap) ev.ats) => eput_any ev B q bs ao n cap w h hB hv hok hn (by rw [← hm, ← hlv]; omega)
    have HCP := hide CP
    have hd : decide (1048576 - (m : Int) < (l : Int)) = false := by simp; omega
    have hm0 : (0 : Int) ≤ (m : Int) := by omega
    have hm1 : (m : Int) ≤ 1048576 := by omega
    obtain ⟨eb, heb⟩ : ∃ eb, eb = evBits ev := ⟨_, rfl⟩
    rw [← heb] at HCP ⊢
    unfold evV at HCC HCS HCP ⊢
    obtain ⟨s, sq, t, ty, ats⟩ := ev
    simp only at *
    clear hs hbel hW hP CB CC CS CL CP hck hv hB hsz hn hty hsl hok hlv hm hfit heb
    go_enter Try.func23, Try.ntmps23
    go_wp2_with fail
    rw [← HW.out, ← HP.out]
    refine (HCB.out _ HSW.out).mono ?_
    rintro e w1 ⟨rfl, hs1, k1⟩
    have HP1 := hide (k1.typed _ _ _ _ HPW.out (by decide))
    obtain ⟨c0, c1, c2, c3, c4⟩ := cell_of_five HP1.out
    have HS1 := hide hs1; have HB1 := hide (HBel.out.trans k1.below); have HA1 := hide (HAV.out.below k1.below (Nat.le_refl _))
    have HZ1 := hide (show B ≤ w1.heap.size from Nat.le_trans HBP.out (Nat.le_of_lt (lt_of_block HP1.out)))
    clear hs1 k1
    go_wp2_with fail
    refine (HCC.out _ HA1.out HZ1.out).mono ?_
    rintro e w2 ⟨rfl, hb2⟩
    have HS2 := hide (HS1.out.below hb2 (Nat.le_refl _)); have HB2 := hide (HB1.out.trans (hb2.mono HZ1.out)); have HA2 := hide (HA1.out.below hb2 HZ1.out)
    have HZ2 := hide (Nat.le_trans HZ1.out hb2.size)
    have HP2 := hide ((hb2.block P (lt_of_block HP1.out)).trans HP1.out)
    clear hb2 c0 c1 c2 c3 c4
    obtain ⟨c0, c1, c2, c3, c4⟩ := cell_of_five HP2.out
    go_wp2_with fail
    refine (HCS.out _ HA2.out HZ2.out).mono ?_
    rintro e w3 ⟨rfl, hb3⟩
    have HS3 := hide (HS2.out.below hb3 (Nat.le_refl _)); have HB3 := hide (HB2.out.trans (hb3.mono HZ2.out)); have HA3 := hide (HA2.out.below hb3 HZ2.out)
    have HZ3 := hide (Nat.le_trans HZ2.out hb3.size)
    have HP3 := hide ((hb3.block P (lt_of_block HP2.out)).trans HP2.out)
    clear hb3 c0 c1 c2 c3 c4
    obtain ⟨c0, c1, c2, c3, c4⟩ := cell_of_five HP3.out
    go_wp2_with fail
    refine (HCL.out _ HS3.out).mono ?_
    rintro e w4 ⟨rfl, rfl⟩
    go_wp2_with fail
    refine (HCP.out _ HS3.out HZ3.out HA3.out).mono ?_
    rintro e w5 ⟨rfl, hs5, hb5⟩
    have HS5 := hide hs5; have HB5 := hide (HB3.out.trans hb5)
    clear hs5 hb5 c0 c1 c2 c3 c4
    go_wp2
    go_ret
    exact ⟨rfl, HS5.out, HB5.out⟩
end Go.Proofs.Ytiljekpfkkocnaa
namespace Go.Proofs.Ytiljekpfkkocnaa
open Go Go.RowKit

def evBytes (ev : Ev) : List Nat := if ckE ev = 0 then packed (evBits ev) else []
theorem evBytes_no {ev : Ev} (h : ckE ev ≠ 0) : evBytes ev = [] := by unfold evBytes; rw [if_neg h]
theorem evBytes_ok {ev : Ev} (h : ckE ev = 0) : evBytes ev = packed (evBits ev) := by unfold evBytes; rw [if_pos h]

set_option maxRecDepth 100000 in
set_option maxHeartbeats 3200000 in
theorem eBytes_any (ev : Ev) (B : Nat) (ao : Option Addr) (n cap : Nat) (w : World) (hB : B ≤ w.heap.size)
    (hv : Av w B (.slice ao n cap) ev.ats) (hty : ev.ty.size ≤ maxLen) (hn : Wf ev.ats) :
    Calls Try.prog 19 #[evV ev (.slice ao n cap)] w
      fun e w' => ∃ v, e = .returned (.tuple #[v, .int .i64 (ckE ev)]) ∧ w'.ownsRow w.heap.size 5 1 v (evBytes ev).length (byteVs (evBytes ev)) ∧ Below w.heap.size w w' := by
  obtain ⟨P, hP⟩ : ∃ P, P = w.heap.size := ⟨_, rfl⟩
  obtain ⟨W, hW⟩ : ∃ W, W = w.alloc (.cells #[.int .i64 ev.src, .int .i64 ev.seq, .int .i64 ev.time, .string ev.ty, .slice ao n cap] 26) := ⟨_, rfl⟩
  have hbel : Below P w W := by rw [hW, hP]; exact (Below.refl _ _).alloc (Nat.le_refl _) _
  have hsz : P < W.heap.size := by rw [hW, hP]; simp
  have HPW := hide (by rw [hW, hP]; exact heap_alloc_new w _ : W.heap[P]? = some (.cells #[.int .i64 ev.src, .int .i64 ev.seq, .int .i64 ev.time, .string ev.ty, .slice ao n cap] 26 (0, 0)))
  have HBel := hide hbel; have HW := hide hW; have HP := hide hP
  have HBP := hide (show B ≤ P by omega)
  have CP := fun (w : World) (q : Nat) (h : SinkIs w q q []) (hB : q ≤ w.heap.size) (hv : Av w q (.slice ao n cap) ev.ats) => ePut_any ev q q [] ao n cap w h hB hv hty hn
  have HAV := hide (hv.below hbel (by omega))
  have HSZ := hide hsz
  rw [← hP]
  by_cases hck : ckE ev = 0
  · have hok := EvOk.of hck
    have hle := evBits_le ev hok (fun x hx => zig_ok (hn x hx))
    have hpe : putErr ([] : List Bool).length ev = 0 := putErr_ok hck (by simp; omega)
    simp only [hpe, putBits, if_true, List.nil_append] at CP
    rw [evBytes_ok hck, hck]
    obtain ⟨l, hl⟩ : ∃ l, l = evBits ev := ⟨_, rfl⟩
    rw [← hl] at CP ⊢
    have HCP := hide CP
    unfold evV at HCP ⊢
    obtain ⟨s, sq, t, ty, ats⟩ := ev
    simp only at *
    clear hbel hW hP CP hn hv hB hsz hck hok hle hpe hl hty
    go_enter Try.func19, Try.ntmps19
    go_wp2_with fail
    rw [← HW.out, ← HP.out]
    refine (newSink_any W).mono ?_
    obtain ⟨H1, hH1⟩ : ∃ H1, H1 = W.heap.size := ⟨_, rfl⟩
    rw [← hH1]
    rintro e w1 ⟨rfl, hs1, k1⟩
    have h01 : P < H1 := by rw [hH1]; exact HSZ.out
    have hp1 := (k1.below.block P h01).trans HPW.out
    obtain ⟨c0, c1, c2, c3, c4⟩ := cell_of_five hp1
    have HS1 := hide hs1
    have HB1 := hide (HBel.out.trans (k1.below.mono (Nat.le_of_lt h01)))
    have HA1 := hide ((HAV.out.below k1.below (by have := HBP.out; omega)).mono (show B ≤ H1 by have := HBP.out; omega))
    have H1S := hide (show H1 ≤ w1.heap.size from Nat.le_of_lt hs1.lt)
    have H01 := hide h01
    clear hs1 k1 hH1 h01 hp1
    go_wp2_with fail
    refine (HCP.out w1 H1 HS1.out H1S.out HA1.out).mono ?_
    rintro e w2 ⟨rfl, hs2, hb2⟩
    have HB2 := hide (HB1.out.trans (hb2.mono (Nat.le_of_lt H01.out)))
    have HS2 := hide hs2
    clear hs2 hb2 c0 c1 c2 c3 c4
    go_wp2_with fail
    refine (kOut_any H1 H1 l w2 HS2.out).mono ?_
    rintro e w3 ⟨v3, rfl, ho3, hb3⟩
    have HO3 := hide ho3; have HB3 := hide hb3
    have hsz2 : P ≤ w2.heap.size := by have := HB2.out.size; rw [← HP.out] at this; exact this
    have HSZ2 := hide hsz2
    clear ho3 hb3 hsz2
    go_wp2
    go_ret2
    exact ⟨_, rfl, ownsRow_lower HO3.out HSZ2.out, HB2.out.trans (HB3.out.mono HSZ2.out)⟩
  · have hpe : putErr ([] : List Bool).length ev = ckE ev := putErr_ck hck
    simp only [hpe] at CP
    rw [evBytes_no hck]
    obtain ⟨c, hc⟩ : ∃ c, c = ckE ev := ⟨_, rfl⟩
    rw [← hc] at CP hck ⊢
    have b1 : (c == 0) = false := by simp [hck]
    have b2 : (c != 0) = true := by simp [hck]
    have HCP := hide CP
    unfold evV at HCP ⊢
    obtain ⟨s, sq, t, ty, ats⟩ := ev
    simp only at *
    clear hbel hW hP CP hn hv hB hsz hck hpe hc hty
    go_enter Try.func19, Try.ntmps19
    go_wp2_with fail
    rw [← HW.out, ← HP.out]
    refine (newSink_any W).mono ?_
    obtain ⟨H1, hH1⟩ : ∃ H1, H1 = W.heap.size := ⟨_, rfl⟩
    rw [← hH1]
    rintro e w1 ⟨rfl, hs1, k1⟩
    have h01 : P < H1 := by rw [hH1]; exact HSZ.out
    have hp1 := (k1.below.block P h01).trans HPW.out
    obtain ⟨c0, c1, c2, c3, c4⟩ := cell_of_five hp1
    have HS1 := hide hs1
    have HB1 := hide (HBel.out.trans (k1.below.mono (Nat.le_of_lt h01)))
    have HA1 := hide ((HAV.out.below k1.below (by have := HBP.out; omega)).mono (show B ≤ H1 by have := HBP.out; omega))
    have H1S := hide (show H1 ≤ w1.heap.size from Nat.le_of_lt hs1.lt)
    have H01 := hide h01
    clear hs1 k1 hH1 h01 hp1
    go_wp2_with fail
    refine (HCP.out w1 H1 HS1.out H1S.out HA1.out).mono ?_
    rintro e w2 ⟨rfl, hs2, hb2⟩
    have HB2 := hide (HB1.out.trans (hb2.mono (Nat.le_of_lt H01.out)))
    clear hs2 hb2 c0 c1 c2 c3 c4
    go_wp2
    go_ret2
    exact ⟨_, rfl, World.ownsRow_nil _ _ _ _, HB2.out⟩
end Go.Proofs.Ytiljekpfkkocnaa
