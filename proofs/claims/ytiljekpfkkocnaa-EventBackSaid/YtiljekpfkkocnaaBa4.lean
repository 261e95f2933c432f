/- The walk of EventBack. -/
import Derived.Test.YtiljekpfkkocnaaWx4
import Derived.Test.YtiljekpfkkocnaaTk
import Derived.Test.YtiljekpfkkocnaaBk4
import Derived.Test.YtiljekpfkkocnaaBg4
namespace Go.Proofs.Ytiljekpfkkocnaa
open Go Go.RowKit

theorem Wx4.box {w0 : World} {P : Nat} {cs : Array Value} {va : Value} {x : List At} {rows : List (Value × List Nat)} {w : World} (h : Wx4 w0 P cs va x rows w) (o : Obj) : Wx4 w0 P cs va x rows (w.alloc o) := h.call ((Below.refl _ _).alloc (Nat.le_refl _) o)
theorem wf_range {ats : List At} (h : Wf ats) : ∀ x ∈ ats, -9223372036854775808 ≤ x.n ∧ x.n ≤ 9223372036854775807 := fun x hx => by
  have := h x hx
  simpa [Lit.wf, IntKind.min, IntKind.max, IntKind.signed, IntKind.bits] using this

set_option maxRecDepth 100000 in
set_option maxHeartbeats 3200000 in
theorem back4_walk (ev : Ev) (bytes : List Nat) (ao : Option Addr) (n cap : Nat) (aob : Option Addr) (nb capb : Nat) (w : World) (hx : Av w w.heap.size (.slice ao n cap) ev.ats) (hty : ev.ty.size ≤ maxLen) (hn : Wf ev.ats) (hb : Bv w w.heap.size (.slice aob nb capb) bytes) :
    Calls Try.prog 7 #[evV ev (.slice ao n cap), .slice aob nb capb] w fun e w' => e = .returned (.bool true) ∧ Below w.heap.size w w' := by
  obtain ⟨P, hP⟩ : ∃ P, P = w.heap.size := ⟨_, rfl⟩
  obtain ⟨W, hW⟩ : ∃ W, W = w.alloc (.cells #[.int .i64 ev.src, .int .i64 ev.seq, .int .i64 ev.time, .string ev.ty, .slice ao n cap] 26) := ⟨_, rfl⟩
  have hbel : Below P w W := by rw [hW, hP]; exact (Below.refl _ _).alloc (Nat.le_refl _) _
  have HB0 : Hid (Wx4 w P #[.int .i64 ev.src, .int .i64 ev.seq, .int .i64 ev.time, .string ev.ty, .slice ao n cap] (.slice ao n cap) ev.ats [(.slice aob nb capb, bytes)] W) :=
    hide ⟨hbel, by rw [hW, hP]; simp, by rw [hW, hP]; exact heap_alloc_new w _, (hx.mono (Nat.le_of_eq hP.symm)).below hbel (Nat.le_refl _), fun r hr => by
      simp only [List.mem_singleton] at hr; subst hr
      exact (hb.below hbel (by rw [hP]; exact Nat.le_refl _)).mono (by rw [hW]; simp)⟩
  obtain rfl : nb = bytes.length := hb.bytesIn.1
  have hbl := hb.len; have hbs := hb.small
  have CA := fun (w : World) (h1 : Av w P (.slice ao n cap) ev.ats) (h3 : P ≤ w.heap.size) => eBytes_any ev P ao n cap w h3 h1 hty hn
  have CC := fun (w : World) (h1 : Av w P (.slice ao n cap) ev.ats) (h3 : P ≤ w.heap.size) => eCheck_any ev P ao n cap w h1 h3 hty
  have CP2 := fun (w : World) (h : Bv w w.heap.size (.slice aob bytes.length capb) bytes) => eParse_any aob capb bytes w hbl hbs h.bytesAt'
  have hsm := evBytes_small ev
  have hel := evBytes_len ev hn
  have hth : ckE ev = 0 → psErr (bitsAll (evBytes ev)) = 0 ∧ psEv (bitsAll (evBytes ev)) = ev := fun hc => parse_there ev (evBytes ev) hc (wf_range hn) (evBytes_ok hc)
  have CP1 := fun (a : Option Addr) (k : Nat) (w : World) (h : Bv w w.heap.size (.slice a (evBytes ev).length k) (evBytes ev)) => eParse_any a k (evBytes ev) w (by omega) hsm h.bytesAt'
  have hrg := psEv_ranges (bitsAll bytes) (by rw [bitsAll_length]; omega)
  have hwf : Wf (psEv (bitsAll bytes)).ats := psEv_wf (bitsAll bytes)
  have hbk := fun h => parse_back bytes hbs h
  obtain ⟨y, hy⟩ : ∃ y, y = psEv (bitsAll bytes) := ⟨_, rfl⟩
  obtain ⟨pe, hpe⟩ : ∃ pe, pe = psErr (bitsAll bytes) := ⟨_, rfl⟩
  rw [← hy, ← hpe] at CP2
  rw [← hy] at hrg hwf hbk
  rw [← hpe] at hbk
  have CA2 := fun (w : World) (a : Option Addr) (k : Nat) (h1 : Av w w.heap.size (.slice a y.ats.length k) y.ats) => eBytes_any y w.heap.size a y.ats.length k w (Nat.le_refl _) h1 hrg.2.2 hwf
  have hyb : pe = 0 → evBytes y = bytes ∧ ckE y = 0 := fun h => ⟨by rw [evBytes_ok (hbk h).2]; exact (hbk h).1, (hbk h).2⟩
  obtain ⟨ce, hce⟩ : ∃ ce, ce = ckE ev := ⟨_, rfl⟩
  obtain ⟨eb, heb⟩ : ∃ eb, eb = evBytes ev := ⟨_, rfl⟩
  rw [← hce, ← heb] at CA
  rw [← hce] at CC hth
  rw [← heb] at CP1 hsm hel hth
  obtain ⟨yb, hyb2⟩ : ∃ yb, yb = evBytes y := ⟨_, rfl⟩
  obtain ⟨cy, hcy⟩ : ∃ cy, cy = ckE y := ⟨_, rfl⟩
  have hysm := evBytes_small y
  have hyel := evBytes_len y hwf
  rw [← hyb2, ← hcy] at CA2 hyb
  rw [← hyb2] at hysm hyel
  have CS := fun (w : World) (a : Option Addr) (k : Nat) (h1 : Av w P (.slice ao n cap) ev.ats) (h2 : Av w w.heap.size (.slice a ev.ats.length k) ev.ats) (h3 : P ≤ w.heap.size) => r4Same_any ev ev P w.heap.size ao n cap a ev.ats.length k w h1 h2 h3 (Nat.le_refl _)
  rw [sameE_refl] at CS
  have HHX := hide hx.wide; have HXL := hide hx.len
  unfold evV at CA CC CP2 CA2 CS ⊢
  obtain ⟨ys, yq, yt, yty, yats⟩ := y
  simp only at CP2 CA2 hrg
  have HCA := hide CA; have HCC := hide CC; have HCP2 := hide CP2; have HCA2 := hide CA2; have HCP1 := hide CP1; have HCS := hide CS; have HRG := hide hrg; have HYB := hide hyb; have HTH := hide hth; have HSM := hide hsm; have HEL := hide hel; have HYSM := hide hysm; have HYEL := hide hyel
  have HW := hide hW; have HP := hide hP; have HBL := hide hbl; have HBS := hide hbs
  rw [← hP]
  obtain ⟨NB, hNB⟩ : ∃ NB, NB = bytes.length := ⟨_, rfl⟩
  rw [← hNB] at HB0 HCP2 ⊢
  clear hbel hW hP hb hx hbl hbs CA CC CP2 CA2 CP1 CS hrg hwf hbk hyb hth hsm hel hysm hyel hy hpe hce heb hyb2 hcy hNB hty hn
  go_enter Try.func7, Try.ntmps7
  go_wp2_with fail
  rw [← HW.out, ← HP.out]
  refine (HCA.out _ HB0.out.hx (Nat.le_of_lt HB0.out.sz)).mono ?_
  rintro e w1 ⟨v1, rfl, ho1, b1⟩
  obtain ⟨ao1, k1, rfl⟩ := own_slice ho1
  have HB1 := hide (HB0.out.row b1 (Bv.of_own ho1 HSM.out (by have := HEL.out; omega)))
  clear ho1 b1
  go_wp2_with fail
  refine (begun4_any _).mono ?_
  rintro e w2 ⟨rfl, b2⟩
  have HB2 := hide (HB1.out.call b2)
  obtain ⟨c0, c1, c2, c3, c4⟩ := cell_of_five HB2.out.bx
  clear b2
  by_cases hc : ce = 0
  · subst hc
    obtain ⟨ht1, ht2⟩ := HTH.out rfl
    go_wp2_with fail
    refine (HCC.out _ HB2.out.hx (Nat.le_of_lt HB2.out.sz)).mono ?_
    rintro e w3 ⟨rfl, b3⟩
    have HB3 := hide (HB2.out.call b3)
    have CP := HCP1.out ao1 k1 w3 (HB3.out.rows _ (List.mem_cons_self ..))
    rw [ht1, ht2] at CP
    unfold evV at CP
    have HCP := hide CP
    clear b3 CP ht1 ht2 c0 c1 c2 c3 c4
    go_wp2_with fail
    refine HCP.out.mono ?_
    rintro e w4 ⟨v4, rfl, ho4, b4⟩
    obtain ⟨ao4, k4, rfl⟩ := own_slice ho4
    have HB4 := hide ((HB3.out.call b4).box (.cells #[.int .i64 ev.src, .int .i64 ev.seq, .int .i64 ev.time, .string ev.ty, .slice ao4 ev.ats.length k4] 26))
    have hx4 := heap_alloc_new w4 (.cells #[.int .i64 ev.src, .int .i64 ev.seq, .int .i64 ev.time, .string ev.ty, .slice ao4 ev.ats.length k4] 26)
    have hav := Av.of_own (ho4.alloc (.cells #[.int .i64 ev.src, .int .i64 ev.seq, .int .i64 ev.time, .string ev.ty, .slice ao4 ev.ats.length k4] 26)) HHX.out HXL.out
    have HAV := hide hav
    obtain ⟨c0, c1, c2, c3, c4⟩ := cell_of_five HB4.out.bx
    obtain ⟨d0, d1, d2, d3, d4⟩ := cell_of_five hx4
    clear ho4 b4 hx4 hav
    go_wp2_with fail
    refine (HCS.out _ _ _ HB4.out.hx HAV.out (Nat.le_of_lt HB4.out.sz)).mono ?_
    rintro e w5 ⟨rfl, b5⟩
    have HB5 := hide (HB4.out.call b5)
    clear b5 c0 c1 c2 c3 c4 d0 d1 d2 d3 d4
    go_wp2_with fail
    refine (HCP2.out _ (HB5.out.rows _ (List.mem_cons_of_mem _ (List.mem_singleton.2 rfl)))).mono ?_
    rintro e w6 ⟨v6, rfl, ho6, b6⟩
    obtain ⟨ao6, k6, rfl⟩ := own_slice ho6
    have HB6 := hide ((HB5.out.call b6).box (.cells #[.int .i64 ys, .int .i64 yq, .int .i64 yt, .string yty, .slice ao6 yats.length k6] 26))
    have hx6 := heap_alloc_new w6 (.cells #[.int .i64 ys, .int .i64 yq, .int .i64 yt, .string yty, .slice ao6 yats.length k6] 26)
    have hav := Av.of_own (ho6.alloc (.cells #[.int .i64 ys, .int .i64 yq, .int .i64 yt, .string yty, .slice ao6 yats.length k6] 26)) HRG.out.1 HRG.out.2.1
    have HAV := hide hav
    obtain ⟨d0, d1, d2, d3, d4⟩ := cell_of_five hx6
    clear ho6 b6 hx6 hav
    by_cases hp0 : pe = 0
    · obtain ⟨hy1, hy2⟩ := HYB.out hp0
      have HY1 := hide hy1
      subst hp0
      subst hy2
      clear hy1
      go_wp2_with fail
      refine (HCA2.out _ _ _ HAV.out).mono ?_
      rintro e w7 ⟨v7, rfl, ho7, b7⟩
      obtain ⟨ao7, k7, rfl⟩ := own_slice ho7
      have HB7 := hide (HB6.out.row b7 (Bv.of_own ho7 HYSM.out (by have := HYEL.out; omega)))
      have hbv := HB7.out.rows (.slice aob NB capb, bytes) (by simp)
      have hyv := HB7.out.rows (.slice ao7 yb.length k7, yb) (by simp)
      have CE := Bv.equal hbv hyv
      rw [HY1.out, decide_eq_true rfl] at CE
      rw [HY1.out]
      have HCE := hide CE
      clear ho7 b7 hbv hyv CE d0 d1 d2 d3 d4
      go_wp2_with fail
      refine HCE.out.mono ?_
      rintro e w8 ⟨rfl, rfl⟩
      go_wp2
      go_ret
      exact ⟨rfl, HB7.out.below⟩
    · have hpb : (pe != 0) = true := by simp [hp0]
      clear hp0
      go_wp2
      go_ret
      exact ⟨rfl, HB6.out.below⟩
  · have hcb : (ce == 0) = false := by simp [hc]
    have hcn := hide hc
    clear hc
    go_wp2_with fail
    refine (HCC.out _ HB2.out.hx (Nat.le_of_lt HB2.out.sz)).mono ?_
    rintro e w5 ⟨rfl, b3⟩
    have HB5 := hide (HB2.out.call b3)
    clear b3 c0 c1 c2 c3 c4
    go_wp2_with fail
    refine (HCP2.out _ (HB5.out.rows _ (List.mem_cons_of_mem _ (List.mem_singleton.2 rfl)))).mono ?_
    rintro e w6 ⟨v6, rfl, ho6, b6⟩
    obtain ⟨ao6, k6, rfl⟩ := own_slice ho6
    have HB6 := hide ((HB5.out.call b6).box (.cells #[.int .i64 ys, .int .i64 yq, .int .i64 yt, .string yty, .slice ao6 yats.length k6] 26))
    have hx6 := heap_alloc_new w6 (.cells #[.int .i64 ys, .int .i64 yq, .int .i64 yt, .string yty, .slice ao6 yats.length k6] 26)
    have hav := Av.of_own (ho6.alloc (.cells #[.int .i64 ys, .int .i64 yq, .int .i64 yt, .string yty, .slice ao6 yats.length k6] 26)) HRG.out.1 HRG.out.2.1
    have HAV := hide hav
    obtain ⟨d0, d1, d2, d3, d4⟩ := cell_of_five hx6
    clear ho6 b6 hx6 hav
    by_cases hp0 : pe = 0
    · obtain ⟨hy1, hy2⟩ := HYB.out hp0
      have HY1 := hide hy1
      subst hp0
      subst hy2
      clear hy1
      go_wp2_with fail
      refine (HCA2.out _ _ _ HAV.out).mono ?_
      rintro e w7 ⟨v7, rfl, ho7, b7⟩
      obtain ⟨ao7, k7, rfl⟩ := own_slice ho7
      have HB7 := hide (HB6.out.row b7 (Bv.of_own ho7 HYSM.out (by have := HYEL.out; omega)))
      have hbv := HB7.out.rows (.slice aob NB capb, bytes) (by simp)
      have hyv := HB7.out.rows (.slice ao7 yb.length k7, yb) (by simp)
      have CE := Bv.equal hbv hyv
      rw [HY1.out, decide_eq_true rfl] at CE
      rw [HY1.out]
      have HCE := hide CE
      clear ho7 b7 hbv hyv CE d0 d1 d2 d3 d4
      go_wp2_with fail
      refine HCE.out.mono ?_
      rintro e w8 ⟨rfl, rfl⟩
      go_wp2
      go_ret
      exact ⟨rfl, HB7.out.below⟩
    · have hpb : (pe != 0) = true := by simp [hp0]
      clear hp0
      go_wp2
      go_ret
      exact ⟨rfl, HB6.out.below⟩
end Go.Proofs.Ytiljekpfkkocnaa
