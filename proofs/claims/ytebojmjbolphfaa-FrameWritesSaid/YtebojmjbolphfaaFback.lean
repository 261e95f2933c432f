/- The walk of FrameBack. -/
import Derived.Test.YtebojmjbolphfaaBkm
import Derived.Test.YtebojmjbolphfaaFsm
import Derived.Test.YtebojmjbolphfaaBeg
namespace Go.Proofs.Ytebojmjbolphfaa
open Go Go.RowKit Crc

/-- How things stand within a law over one datagram: its box at block P, its body. -/
structure Bo (w0 : World) (P : Nat) (cs : Array Value) (va : Value) (x : List Nat) (w : World) : Prop where
  below : Below P w0 w
  sz : P < w.heap.size
  bx : w.heap[P]? = some (.cells cs 24 (0, 0))
  hx : Bv w P va x
theorem Bo.call {w0 : World} {P : Nat} {cs : Array Value} {va : Value} {x : List Nat} {w w' : World} (h : Bo w0 P cs va x w) (hb : Below w.heap.size w w') : Bo w0 P cs va x w' := by
  have h1 := h.sz
  exact ⟨h.below.trans (hb.mono (by omega)), Nat.lt_of_lt_of_le h.sz hb.size, (hb.block P h.sz).trans h.bx, h.hx.below hb (by omega)⟩
theorem Bo.alloc {w0 : World} {P : Nat} {cs : Array Value} {va : Value} {x : List Nat} {w : World} (h : Bo w0 P cs va x w) (o : Obj) : Bo w0 P cs va x (w.alloc o) := h.call ((Below.refl _ _).alloc (Nat.le_refl _) o)
theorem Bo.new {w : World} {cs : Array Value} {va : Value} {x : List Nat} (hx : Bv w w.heap.size va x) : Bo w w.heap.size cs va x (w.alloc (.cells cs 24)) :=
  ⟨(Below.refl _ _).alloc (Nat.le_refl _) _, by simp, heap_alloc_new _ _, hx.below ((Below.refl w.heap.size w).alloc (Nat.le_refl _) _) (Nat.le_refl _)⟩

set_option maxRecDepth 100000 in
set_option maxHeartbeats 1600000 in
theorem fback_no (f t k s a : Int) (ao : Option Addr) (n cap : Nat) (x : List Nat) (w : World) (hx : Bv w w.heap.size (.slice ao n cap) x) (hc : ckB f t k s a n = false) :
    Calls Try.prog 7 #[.agg #[.int .i64 f, .int .i64 t, .int .i64 k, .int .i64 s, .int .i64 a, .slice ao n cap]] w fun e w' => e = .returned (.bool true) ∧ Below w.heap.size w w' := by
  have hn : n ≤ 140737488355328 := by have := hx.bytesIn.1; have := hx.len; omega
  have HB := hide (Bo.new (cs := #[.int .i64 f, .int .i64 t, .int .i64 k, .int .i64 s, .int .i64 a, .slice ao n cap]) hx)
  have CE := fEncode_no f t k s a ao n cap (w.alloc (.cells #[.int .i64 f, .int .i64 t, .int .i64 k, .int .i64 s, .int .i64 a, .slice ao n cap] 24)) hn hc
  have HC := hide (fun w => fCheck_any f t k s a ao n cap w hn)
  rw [ckErr_no hc] at HC
  clear hx hc hn
  go_enter Try.func7, Try.ntmps7
  go_wp2_with fail
  refine CE.mono ?_
  clear CE
  rintro e w1 ⟨rfl, hb⟩
  have HB := hide (HB.out.call hb)
  clear hb
  go_wp2_with fail
  refine (begun_any _).mono ?_
  rintro e w2 ⟨rfl, hb⟩
  have HB := hide (HB.out.call hb)
  obtain ⟨c0, c1, c2, c3, c4, c5⟩ := cell_of_six HB.out.bx
  clear hb
  go_wp2_with fail
  refine (HC.out _).mono ?_
  rintro e w3 ⟨rfl, hb⟩
  have HB := hide (HB.out.call hb)
  clear hb c0 c1 c2 c3 c4 c5
  go_wp2
  go_ret
  exact ⟨rfl, HB.out.below⟩

set_option maxRecDepth 100000 in
set_option maxHeartbeats 1600000 in
theorem fback_ok (F T K S A : Nat) (ao : Option Addr) (n cap : Nat) (x : List Nat) (w : World) (hx : Bv w w.heap.size (.slice ao n cap) x) (hc : ckB F T K S A n = true)
    (hF : F < 16) (hT : T < 16) (hK : K = 1 ∨ K = 2) (hS : S ≤ 1099511627776) (hA : A ≤ 1099511627776) (hn : n ≤ 16384) (h2 : K = 2 → S = 0 ∧ n = 0) :
    Calls Try.prog 7 #[.agg #[.int .i64 (F : Int), .int .i64 (T : Int), .int .i64 (K : Int), .int .i64 (S : Int), .int .i64 (A : Int), .slice ao n cap]] w fun e w' => e = .returned (.bool true) ∧ Below w.heap.size w w' := by
  have hxn := hx.bytesIn.1
  have HB := hide (Bo.new (cs := #[.int .i64 (F : Int), .int .i64 (T : Int), .int .i64 (K : Int), .int .i64 (S : Int), .int .i64 (A : Int), .slice ao n cap]) hx)
  have CE := fEncode_ok F T K S A ao n cap w.heap.size x (w.alloc (.cells #[.int .i64 (F : Int), .int .i64 (T : Int), .int .i64 (K : Int), .int .i64 (S : Int), .int .i64 (A : Int), .slice ao n cap] 24)) HB.out.hx (by simp) hc hF hT hK hS hA hn
  have HC := hide (fun w => fCheck_any F T K S A ao n cap w (by omega))
  rw [ckErr_ok hc] at HC
  obtain ⟨e0, e1, e2, e3, e4, e5, e6⟩ := dec_form F T K S A x hF hT hK hS hA (by omega) hx.small (fun h => ⟨(h2 h).1, List.length_eq_zero_iff.1 (by have := (h2 h).2; omega)⟩) (by rw [← hxn]; exact hc)
  have hfs : ∀ c ∈ formN F T K S A x, c < 256 := sealed_small _ (packed_small _)
  have hfl : (formN F T K S A x).length ≤ 140000 := by
    have := formBits_le F T K S A x hS hA (by omega)
    unfold formN headN; rw [sealed_length, packed_length]; omega
  obtain ⟨b, hb0⟩ : ∃ b, b = formN F T K S A x := ⟨_, rfl⟩
  rw [← hb0] at CE e0 e1 e2 e3 e4 e5 e6 hfs hfl
  have HDec := hide (fun (w' : World) (B : Nat) (v : Value) (h : Bv w' B v b) (h2 : B ≤ w'.heap.size) => fDecode_any B v b w' h h2)
  unfold DecPost at HDec
  rw [e0, e1, e2, e3, e4, e5, e6] at HDec
  have HFs := hide hfs; have HFl := hide hfl; have Hxs := hide hx.small; have Hxl := hide hx.len
  obtain ⟨nb, hnb⟩ : ∃ nb, nb = b.length := ⟨_, rfl⟩
  have HNb := hide hnb
  rw [← hnb] at CE HFl
  have HSame1 := hide (fun (w' : World) (ao2 : Option Addr) (cap2 : Nat) (h0 : Bv w' w'.heap.size (.slice ao2 x.length cap2) x) (h1 : Bv w' w.heap.size (.slice ao n cap) x) (h3 : w.heap.size ≤ w'.heap.size) => fSame_any F T K S A F T K S A ao2 ao x.length cap2 n cap w'.heap.size w.heap.size x x w' h0 h1 (Nat.le_refl _) h3)
  have HSame2 := hide (fun (w' : World) (ao2 : Option Addr) (cap2 : Nat) (h0 : Bv w' w'.heap.size (.slice ao2 x.length cap2) x) (h1 : Bv w' w.heap.size (.slice ao n cap) x) (h3 : w.heap.size ≤ w'.heap.size) => r2Same_any F T K S A F T K S A ao2 ao x.length cap2 n cap w'.heap.size w.heap.size x x w' h0 h1 (Nat.le_refl _) h3)
  simp only [sameB_refl] at HSame1 HSame2
  clear hx hc hn hF hT hK hS hA h2 hxn e0 e1 e2 e3 e4 e5 e6 hfs hfl hb0 hnb
  obtain ⟨X, hX⟩ : ∃ X, X = x.length := ⟨_, rfl⟩
  rw [← hX] at HDec HSame1 HSame2 Hxl
  have HX := hide hX
  clear hX
  go_enter Try.func7, Try.ntmps7
  go_wp2_with fail
  refine CE.mono ?_
  clear CE
  rintro e w1 ⟨v1, rfl, ho, hb⟩
  obtain ⟨ao1, cap1, rfl⟩ := own_slice ho
  rw [HNb.out] at ho
  have HV := hide (Bv.of_own ho HFs.out (by have := HFl.out; have := HNb.out; omega))
  rw [← HNb.out] at HV
  have HB := hide (HB.out.call hb)
  clear ho hb
  go_wp2_with fail
  refine (begun_any _).mono ?_
  rintro e w2 ⟨rfl, hb⟩
  have HV := hide ((HV.out.below hb (Nat.le_refl _)).mono hb.size)
  have HB := hide (HB.out.call hb)
  obtain ⟨c0, c1, c2, c3, c4, c5⟩ := cell_of_six HB.out.bx
  clear hb
  go_wp2_with fail
  refine (HC.out _).mono ?_
  rintro e w3 ⟨rfl, hb⟩
  have HV := hide ((HV.out.below hb (Nat.le_refl _)).mono hb.size)
  have HB := hide (HB.out.call hb)
  clear hb c0 c1 c2 c3 c4 c5
  go_wp2_with fail
  refine (HDec.out _ _ _ HV.out (Nat.le_refl _)).mono ?_
  rintro e w4 ⟨v4, rfl, ho, hb⟩
  obtain ⟨ao4, cap4, rfl⟩ := own_slice ho
  have HB := hide ((HB.out.call hb).alloc (.cells #[.int .i64 (F : Int), .int .i64 (T : Int), .int .i64 (K : Int), .int .i64 (S : Int), .int .i64 (A : Int), .slice ao4 X cap4] 24))
  have HO4 := hide (ho.alloc (.cells #[.int .i64 (F : Int), .int .i64 (T : Int), .int .i64 (K : Int), .int .i64 (S : Int), .int .i64 (A : Int), .slice ao4 X cap4] 24))
  rw [HX.out] at HO4
  have HV4 := hide (Bv.of_own HO4.out Hxs.out (by have := Hxl.out; have := HX.out; omega))
  rw [← HX.out] at HV4
  have HD4 := hide (heap_alloc_new w4 (.cells #[.int .i64 (F : Int), .int .i64 (T : Int), .int .i64 (K : Int), .int .i64 (S : Int), .int .i64 (A : Int), .slice ao4 X cap4] 24))
  obtain ⟨c0, c1, c2, c3, c4, c5⟩ := cell_of_six HB.out.bx
  obtain ⟨d0, d1, d2, d3, d4, d5⟩ := cell_of_six HD4.out
  clear ho hb
  go_wp2_with fail
  refine (HSame1.out _ _ _ HV4.out HB.out.hx (Nat.le_of_lt HB.out.sz)).mono ?_
  rintro e w5 ⟨rfl, hb⟩
  have HV4 := hide ((HV4.out.below hb (Nat.le_refl _)).mono hb.size)
  have hd5 := (hb.block _ (lt_of_block HD4.out)).trans HD4.out
  have HB := hide (HB.out.call hb)
  clear hb c0 c1 c2 c3 c4 c5 d0 d1 d2 d3 d4 d5
  obtain ⟨c0, c1, c2, c3, c4, c5⟩ := cell_of_six HB.out.bx
  obtain ⟨d0, d1, d2, d3, d4, d5⟩ := cell_of_six hd5
  clear hd5
  go_wp2_with fail
  refine (HSame2.out _ _ _ HV4.out HB.out.hx (Nat.le_of_lt HB.out.sz)).mono ?_
  rintro e w6 ⟨rfl, hb⟩
  have HB := hide (HB.out.call hb)
  clear hb c0 c1 c2 c3 c4 c5 d0 d1 d2 d3 d4 d5
  go_wp2
  go_ret
  exact ⟨rfl, HB.out.below⟩

theorem fback_walk (f t k s a : Int) (ao : Option Addr) (n cap : Nat) (x : List Nat) (w : World) (hx : Bv w w.heap.size (.slice ao n cap) x) :
    Calls Try.prog 7 #[.agg #[.int .i64 f, .int .i64 t, .int .i64 k, .int .i64 s, .int .i64 a, .slice ao n cap]] w fun e w' => e = .returned (.bool true) ∧ Below w.heap.size w w' := by
  cases hc : ckB f t k s a n with
  | false => exact fback_no f t k s a ao n cap x w hx hc
  | true =>
    obtain ⟨F, T, K, S, A, rfl, rfl, rfl, rfl, rfl, hF, hT, _, hK, hS, hA, hn, h2⟩ := ck_nat hc
    exact fback_ok F T K S A ao n cap x w hx hc hF hT hK hS hA hn h2
end Go.Proofs.Ytebojmjbolphfaa
