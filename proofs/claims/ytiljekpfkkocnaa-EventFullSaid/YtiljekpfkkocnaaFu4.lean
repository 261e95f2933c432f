/- The walk of EventFull. -/
import Derived.Test.YtiljekpfkkocnaaWr4
import Derived.IntWalk
namespace Go.Proofs.Ytiljekpfkkocnaa
open Go Go.RowKit

def sinkLeft (q : Nat) (w : World) : Nat := match w.cell? ⟨q, 3, none⟩ with | some (.int _ n) => (1048576 - n).toNat | _ => 0
theorem sinkLeft_is {w : World} {B q : Nat} {bs : List Bool} (h : SinkIs w B q bs) : sinkLeft q w = 1048576 - bs.length := by
  unfold sinkLeft
  rw [h.count]
  simp only
  omega

set_option maxRecDepth 100000 in
set_option maxHeartbeats 3200000 in
theorem full_walk (ev : Ev) (h : Nat) (ao : Option Addr) (n cap : Nat) (w : World) (hx : Av w w.heap.size (.slice ao n cap) ev.ats) (hty : ev.ty.size ≤ maxLen) (hn : Wf ev.ats) (hh : h < 65536) :
    Calls Try.prog 5 #[evV ev (.slice ao n cap), .int .u16 (h : Int)] w fun e w' => e = .returned (.bool true) ∧ Below w.heap.size w w' := by
  obtain ⟨P, hP⟩ : ∃ P, P = w.heap.size := ⟨_, rfl⟩
  obtain ⟨W, hW⟩ : ∃ W, W = w.alloc (.cells #[.int .i64 ev.src, .int .i64 ev.seq, .int .i64 ev.time, .string ev.ty, .slice ao n cap] 26) := ⟨_, rfl⟩
  have hbel : Below P w W := by rw [hW, hP]; exact (Below.refl _ _).alloc (Nat.le_refl _) _
  have HB0 : Hid (Wx4 w P #[.int .i64 ev.src, .int .i64 ev.seq, .int .i64 ev.time, .string ev.ty, .slice ao n cap] (.slice ao n cap) ev.ats [] W) :=
    hide ⟨hbel, by rw [hW, hP]; simp, by rw [hW, hP]; exact heap_alloc_new w _, (hx.mono (Nat.le_of_eq hP.symm)).below hbel (Nat.le_refl _), (fun r hr => by cases hr)⟩
  have HW := hide hW; have HP := hide hP
  obtain ⟨R, hR⟩ : ∃ R : Nat, R = h % 2000 := ⟨_, rfl⟩
  have hR2 : R < 2000 := by omega
  have eR : ((h : Int) % 2000) = (R : Int) := by omega
  have CC := fun (w : World) (h1 : Av w P (.slice ao n cap) ev.ats) (h3 : P ≤ w.heap.size) => r4Check_any ev P ao n cap w h1 h3 hty
  have CP := fun (w : World) (q : Nat) (bs : List Bool) (hs : SinkIs w q q bs) (hB : q ≤ w.heap.size) (h1 : Av w q (.slice ao n cap) ev.ats) => ePut_any ev q q bs ao n cap w hs hB h1 hty hn
  have CL := fun (w : World) (q : Nat) (bs : List Bool) (hs : SinkIs w q q bs) => kLen_any q _ w hs.made hs.count
  have HCL := hide CL; have HCC0 := hide CC; have HCP := hide CP
  have hR0 : (0 : Int) ≤ (R : Int) := by omega
  have hR1 : (R : Int) ≤ 1999 := by omega
  have HTY := hide hty; have HN := hide hn
  rw [← hP]
  unfold evV
  clear CC CP CL hbel hW hP hx hty hn hR
  go_enter Try.func5, Try.ntmps5
  go_wp2_with fail
  rw [← HW.out, ← HP.out]
  refine (newSink_any W).mono ?_
  obtain ⟨q, hq⟩ : ∃ q, q = W.heap.size := ⟨_, rfl⟩
  rw [← hq]
  have HQ := hide hq
  rintro e w1 ⟨rfl, hs, k1⟩
  have HS1 := hide hs
  have HK1 := hide (show Below W.heap.size W w1 by rw [← hq]; exact k1.below)
  clear hs k1 hq
  go_wp2_with fail
  refine (begun4_any w1).mono ?_
  rintro e w2 ⟨rfl, hb⟩
  have HS2 := hide (HS1.out.below hb (Nat.le_refl _))
  have HK2 := hide (HK1.out.trans (hb.mono HK1.out.size))
  clear hb
  go_wp2_with fail
  rw [eR]
  clear eR
  go_loopw [] (fun wr => ∃ bs : List Bool, bs.length + R ≤ 1048576 ∧ Hid (SinkIs wr q q bs) ∧ Hid (Below W.heap.size W wr)) (fun wr => sinkLeft q wr)
  case atStart => exact ⟨[], by simp; omega, HS2, HK2⟩
  case round =>
    obtain ⟨bs, hbl, HSr, HKr⟩ := hrel
    have CL1 := HCL.out wr q bs HSr.out
    obtain ⟨m, hm⟩ : ∃ m, m = bs.length := ⟨_, rfl⟩
    rw [← hm] at CL1 hbl
    have HM := hide hm
    have HCL1 := hide CL1
    have HSL := hide (sinkLeft_is HSr.out)
    have hm0 : (0 : Int) ≤ (m : Int) := by omega
    have hm1 : (m : Int) ≤ 1048576 := by omega
    clear hm CL1
    by_cases hlt : (m : Int) < 1048576 - (R : Int)
    · obtain ⟨d, hd⟩ : ∃ d : Nat, d = min 64 (1048576 - R - m) := ⟨_, rfl⟩
      have hd1 : 1 ≤ d := by omega
      have hd2 : d ≤ 64 := by omega
      have hd3 : m + d + R ≤ 1048576 := by omega
      have CK := kBits_fits q q 0 d bs wr HSr.out hd2 (Nat.pos_of_ne_zero (by simp)) (by rw [← HM.out]; omega)
      have HCK := hide CK
      have hdi : min (64 : Int) (1048576 - (R : Int) - (m : Int)) = (d : Int) := by omega
      have HD3 := hide hd3
      clear CK hd
      go_wp2_with fail
      refine HCL1.out.mono ?_
      rintro e w' ⟨rfl, rfl⟩
      go_wp2_with fail
      refine HCL1.out.mono ?_
      rintro e w' ⟨rfl, rfl⟩
      go_wp2_with fail
      refine HCK.out.mono ?_
      rintro e w' ⟨rfl, hs, k'⟩
      have HS' := hide hs
      have HK' := hide (HKr.out.trans (by have := k'.below; rwa [HQ.out] at this))
      have hms : sinkLeft q w' < sinkLeft q wr := by
        rw [HSL.out, sinkLeft_is hs, List.length_append, bitsOf_length, ← HM.out]; omega
      have HMS := hide hms
      clear hs k' hms
      go_wp2
      go_roundw
      case rel => exact ⟨bs ++ bitsOf 0 d, by rw [List.length_append, bitsOf_length, ← HM.out]; have := HD3.out; omega, HS'.out, HK'.out⟩
      case measure => exact HMS.out
    · have hmR : m + R = 1048576 := by omega
      have HB2 := hide (HB0.out.call HKr.out)
      have HQP := hide (show P ≤ q by rw [HQ.out]; exact Nat.le_of_lt HB0.out.sz)
      have CP := HCP.out wr q bs HSr.out (by rw [HQ.out]; exact HKr.out.size) (HB2.out.hx.mono HQP.out)
      rw [← HM.out] at CP
      unfold evV at CP
      have HCP2 := hide CP
      have HRM := hide hmR
      clear CP
      go_wp2_with fail
      refine HCL1.out.mono ?_
      rintro e w' ⟨rfl, rfl⟩
      go_wp2_with fail
      refine HCL1.out.mono ?_
      rintro e w' ⟨rfl, rfl⟩
      obtain ⟨c0, c1, c2, c3, c4⟩ := cell_of_five HB2.out.bx
      go_wp2_with fail
      refine HCP2.out.mono ?_
      rintro e w3 ⟨rfl, hs3, hb3⟩
      have HK3 := hide (HKr.out.trans (by rwa [HQ.out] at hb3))
      have HB3 := hide (HB0.out.call HK3.out)
      have HS3 := hide hs3
      clear hs3 hb3 c0 c1 c2 c3 c4
      obtain ⟨c0, c1, c2, c3, c4⟩ := cell_of_five HB3.out.bx
      have CC := HCC0.out w3 HB3.out.hx (Nat.le_of_lt HB3.out.sz)
      unfold evV at CC
      have HCC := hide CC
      clear CC
      by_cases hck : ckE ev = 0
      · have hok := EvOk.of hck
        have CF := fun (w : World) (h : Av w P (.slice ao n cap) ev.ats) (hB : P ≤ w.heap.size) => r4Form_any ev P ao n cap w hB h hok HN.out
        unfold evV at CF
        have hpos : 0 < (evBits ev).length := by unfold evBits; rw [List.length_append, headE_len]; omega
        obtain ⟨l, hl⟩ : ∃ l, l = (evBits ev).length := ⟨_, rfl⟩
        have HCF := hide CF; have HPOS := hide hpos; have HL := hide hl
        have hle := evBits_le ev hok (fun x hx => zig_ok (HN.out x hx))
        rw [← hl] at hle
        have hcc := HCC.out
        rw [hck] at hcc
        have HCC := hide hcc
        by_cases hfit : 1048576 < m + l
        · have hpe : putErr m ev = 3 := putErr_long hck (by rw [← hl]; exact hfit)
          have hpb : putBits bs ev = bs := by unfold putBits; rw [← HM.out, hpe, if_neg (by decide)]
          rw [hpe]
          have hs3 := HS3.out
          rw [hpb] at hs3
          have hlR : (R : Int) < (l : Int) := by omega
          have HCL3 := hide (HCL.out w3 q bs hs3)
          have hcl3 := HCL3.out
          rw [← HM.out] at hcl3
          have HS3b := hide hs3
          clear CF hpos hl hok hck hcc hpe hpb hfit hle hs3 hcl3
          go_wp2_with fail
          refine HCC.out.mono ?_
          rintro e w4 ⟨rfl, hb⟩
          have HB4 := hide (HB3.out.call hb)
          have HS4 := hide (HS3b.out.below hb (Nat.le_refl _))
          clear hb c0 c1 c2 c3 c4
          obtain ⟨c0, c1, c2, c3, c4⟩ := cell_of_five HB4.out.bx
          go_wp2_with fail
          refine (HCF.out w4 HB4.out.hx (Nat.le_of_lt HB4.out.sz)).mono ?_
          rintro e w5 ⟨v5, rfl, hf, hb⟩
          obtain ⟨g5, k5, rfl⟩ := flags_pos hf HPOS.out
          rw [← HL.out]
          have HB5 := hide (HB4.out.call hb)
          have CL5 := HCL.out w5 q bs (HS4.out.below hb (Nat.le_refl _))
          rw [← HM.out] at CL5
          have HCL5 := hide CL5
          clear hf hb c0 c1 c2 c3 c4 CL5
          go_wp2_with (go_at_call 27; (with_reducible refine (HCL5.out).mono ?_); rintro e w' ⟨rfl, rfl⟩)
          go_ret
          exact ⟨rfl, HB5.out.below⟩
        · have hpe : putErr m ev = 0 := putErr_ok hck (by rw [← hl]; exact hfit)
          have hpb : putBits bs ev = bs ++ evBits ev := by unfold putBits; rw [← HM.out, hpe, if_pos rfl]
          rw [hpe]
          have hs3 := HS3.out
          rw [hpb] at hs3
          have hlR : ¬ (R : Int) < (l : Int) := by omega
          have hl0 : (0 : Int) ≤ (l : Int) := by omega
          have hl1 : (l : Int) ≤ 8192 := by omega
          have hlen : (bs ++ evBits ev).length = m + l := by rw [List.length_append, ← HM.out, ← hl]
          have HLEN := hide hlen
          have HS3b := hide hs3
          clear CF hpos hl hok hck hcc hpe hpb hfit hle hs3 hlen
          go_wp2_with fail
          refine HCC.out.mono ?_
          rintro e w4 ⟨rfl, hb⟩
          have HB4 := hide (HB3.out.call hb)
          have HS4 := hide (HS3b.out.below hb (Nat.le_refl _))
          clear hb c0 c1 c2 c3 c4
          obtain ⟨c0, c1, c2, c3, c4⟩ := cell_of_five HB4.out.bx
          go_wp2_with fail
          refine (HCF.out w4 HB4.out.hx (Nat.le_of_lt HB4.out.sz)).mono ?_
          rintro e w5 ⟨v5, rfl, hf, hb⟩
          obtain ⟨g5, k5, rfl⟩ := flags_pos hf HPOS.out
          rw [← HL.out]
          have HB5 := hide (HB4.out.call hb)
          have CL5 := HCL.out w5 q _ (HS4.out.below hb (Nat.le_refl _))
          rw [HLEN.out, Int.natCast_add] at CL5
          have HCL5 := hide CL5
          clear hf hb c0 c1 c2 c3 c4 CL5
          go_wp2_with (go_at_call 27; (with_reducible refine (HCL5.out).mono ?_); rintro e w' ⟨rfl, rfl⟩)
          go_ret
          exact ⟨rfl, HB5.out.below⟩
      · have hpe : putErr m ev = ckE ev := putErr_ck hck
        have hpb : putBits bs ev = bs := by unfold putBits; rw [← HM.out, hpe, if_neg hck]
        have hs3 := HS3.out
        rw [hpb] at hs3
        have hcc := HCC.out
        rw [hpe]
        obtain ⟨c, hc⟩ : ∃ c, c = ckE ev := ⟨_, rfl⟩
        rw [← hc] at hcc hck ⊢
        have b1 : (c == 0) = false := by simp [hck]
        have b2 : (c != 0) = true := by simp [hck]
        have HCC := hide hcc
        have HS3b := hide hs3
        clear hcc hc hpe hpb hck hs3
        go_wp2_with fail
        refine HCC.out.mono ?_
        rintro e w4 ⟨rfl, hb⟩
        have HB4 := hide (HB3.out.call hb)
        have CL4 := HCL.out w4 q bs (HS3b.out.below hb (Nat.le_refl _))
        rw [← HM.out] at CL4
        have HCL4 := hide CL4
        clear hb c0 c1 c2 c3 c4 CL4
        go_wp2_with (go_at_call 27; (with_reducible refine (HCL4.out).mono ?_); rintro e w' ⟨rfl, rfl⟩)
        go_ret
        exact ⟨rfl, HB4.out.below⟩

theorem full_u16 (ev : Ev) (h : Int) (ao : Option Addr) (n cap : Nat) (w : World) (hx : Av w w.heap.size (.slice ao n cap) ev.ats) (hty : ev.ty.size ≤ maxLen) (hn : Wf ev.ats) (hh : (Lit.int .u16 h).wf = true) :
    Calls Try.prog 5 #[evV ev (.slice ao n cap), .int .u16 h] w fun e w' => e = .returned (.bool true) ∧ Below w.heap.size w w' := by
  have hb : 0 ≤ h ∧ h ≤ 65535 := by simpa [Lit.wf, IntKind.min, IntKind.max, IntKind.signed, IntKind.bits] using hh
  obtain ⟨H, rfl⟩ := Int.eq_ofNat_of_zero_le hb.1
  exact full_walk ev H ao n cap w hx hty hn (by omega)
end Go.Proofs.Ytiljekpfkkocnaa
