/- Contracts of the document's own answers: Fits, Num, Text, Pack. -/
import Derived.Test.YtlibfbfhleijlaaPuts2
namespace Go.Proofs.Ytlibfbfhleijlaa
open Go Go.RowKit

set_option maxRecDepth 100000 in
theorem rFits_any (u : Nat) (n : Int) (w : World) (hu : u < 2 ^ 64) (hn : (Lit.int .i64 n).wf = true) :
    Calls Try.prog 35 #[.int .u64 (u : Int), .int .i64 n] w fun e w' => e = .returned (.bool (fitsB u n)) ∧ w = w' := by
  have hw2 : -9223372036854775808 ≤ n ∧ n ≤ 9223372036854775807 := by simpa [Lit.wf, IntKind.min, IntKind.max, IntKind.signed, IntKind.bits] using hn
  by_cases h1 : n < 0
  · have hf : fitsB u n = false := by unfold fitsB; simp; omega
    rw [hf]
    clear hf hn hu
    have h1' : ¬ 0 ≤ n := by omega
    go_enter Try.func35, Try.ntmps35
    go_wp2
    go_ret
    exact ⟨rfl, rfl⟩
  by_cases h2 : 64 < n
  · have hf : fitsB u n = false := by unfold fitsB; simp; omega
    rw [hf]
    clear hf hn hu
    have h1' : 0 ≤ n := by omega
    have h2' : ¬ n ≤ 64 := by omega
    go_enter Try.func35, Try.ntmps35
    go_wp2
    go_ret
    exact ⟨rfl, rfl⟩
  obtain ⟨m, rfl⟩ : ∃ m : Nat, n = m := ⟨n.toNat, by omega⟩
  have hm64 : m ≤ 64 := by omega
  have hu' : (u : Int) ≤ 18446744073709551615 := by omega
  by_cases h3 : m = 64
  · subst h3
    have hf : fitsB u ((64 : Nat) : Int) = true := by unfold fitsB; simp; omega
    rw [hf]
    clear hf hn hu
    go_enter Try.func35, Try.ntmps35
    go_wp2
    go_ret
    exact ⟨rfl, rfl⟩
  · have hb : (((u : Int) / 2 ^ m) == 0) = fitsB u (m : Int) := by
      have := shr_zero u m
      rw [bne, Bool.not_inj_iff] at this
      rw [this]
      unfold fitsB
      by_cases h : u < 2 ^ m <;> simp [h] <;> omega
    have h3' : ((m : Int) == 64) = false := by simp; omega
    obtain ⟨F, hF⟩ : ∃ F, F = fitsB u (m : Int) := ⟨_, rfl⟩
    rw [← hF] at hb ⊢
    have H3 := hide h3
    clear hF hn hu h3
    go_enter Try.func35, Try.ntmps35
    go_wp2
    go_ret
    exact ⟨rfl, rfl⟩

set_option maxRecDepth 100000 in
theorem rZig_any (n : Int) (w : World) (hn : (Lit.int .i64 n).wf = true) :
    Calls Try.prog 55 #[.int .i64 n] w fun e w' => e = .returned (.int .u64 ((zigN n : Nat) : Int)) ∧ w = w' := by
  have hw2 : -9223372036854775808 ≤ n ∧ n ≤ 9223372036854775807 := by simpa [Lit.wf, IntKind.min, IntKind.max, IntKind.signed, IntKind.bits] using hn
  by_cases h : 0 ≤ n
  · have hz : ((zigN n : Nat) : Int) = n * 2 := by unfold zigN; rw [if_pos h]; omega
    rw [hz]
    clear hz hn
    go_enter Try.func55, Try.ntmps55
    go_wp2
    go_ret
    exact ⟨rfl, rfl⟩
  · have hz : ((zigN n : Nat) : Int) = -(n + 1) * 2 + 1 := by unfold zigN; rw [if_neg h]; omega
    rw [hz]
    clear hz hn
    go_enter Try.func55, Try.ntmps55
    go_wp2
    go_ret
    exact ⟨rfl, rfl⟩

theorem rNum_any (n : Int) (w : World) (hn : (Lit.int .i64 n).wf = true) :
    Calls Try.prog 36 #[.int .i64 n] w fun e w' => ∃ v, e = .returned v ∧ Flags w' w.heap.size v (natBits (zigN n)) ∧ Below w.heap.size w w' := by
  have hw2 : -9223372036854775808 ≤ n ∧ n ≤ 9223372036854775807 := by simpa [Lit.wf, IntKind.min, IntKind.max, IntKind.signed, IntKind.bits] using hn
  have Z := rZig_any n w hn
  have C := rNat_any (zigN n) w (zigN_lt n hw2)
  clear hn hw2
  go_enter Try.func36, Try.ntmps36
  go_wp2_with fail
  refine Z.mono ?_
  rintro e w' ⟨rfl, rfl⟩
  go_wp2_with fail
  refine C.mono ?_
  rintro e w' ⟨v, rfl, hf, hb⟩
  obtain ⟨g, cp, rfl⟩ := flags_nat' hf
  go_wp2
  go_ret
  exact ⟨_, rfl, hf, hb⟩

set_option maxRecDepth 100000 in
set_option maxHeartbeats 800000 in
theorem rText_any (s : ByteArray) (w : World) (hbig : s.size ≤ 1048576) :
    Calls Try.prog 37 #[.string s] w fun e w' => ∃ v, e = .returned v ∧ Flags w' w.heap.size v (textBits s.data.toList) ∧ Below w.heap.size w w' := by
  obtain ⟨i0, hi, hz0, hz1, hz2⟩ := info_parts Try.info4
  have C := rNat_any s.size w (by omega)
  have hdl : s.data.toList.length = s.size := Array.length_toList
  have HD := hide hdl; clear hdl
  have ha := ahd_le s.size (by omega)
  obtain ⟨H0, hH0⟩ : ∃ H0, H0 = w.heap.size := ⟨_, rfl⟩
  rw [← hH0] at C ⊢
  have HH := hide hH0; clear hH0
  go_enter Try.func37, Try.ntmps37
  go_wp2_with fail
  refine C.mono ?_
  clear C
  rintro e w1 ⟨v, rfl, hf, hb⟩
  obtain ⟨g, cp, rfl⟩ := flags_nat' hf
  have HF := hide hf; have HB := hide hb; clear hf hb
  obtain ⟨A, hA⟩ : ∃ A, A = ahd s.size := ⟨_, rfl⟩
  rw [← hA] at ha
  have HA := hide hA
  rw [← hA]
  clear hA
  go_wp2_with fail
  go_loopw [3, 4] (fun v i wr => ∃ k : Nat, k ≤ s.size ∧ i = .int .i64 k ∧ wr.ownsRow H0 4 1 v (2 * A + 1 + 8 * k) (boolVs (natBits s.size ++ (s.data.toList.take k).flatMap (fun c => bitsOf c.toNat 8))) ∧ Below H0 w wr) (fun _ i _ => s.size - (intOf i).toNat)
  case atStart =>
    refine ⟨0, Nat.zero_le _, rfl, ?_, HB.out⟩
    have := HF.out
    unfold Flags at this
    rw [natBits_length, ← HA.out] at this
    simpa using this
  case round =>
    obtain ⟨k, hk, rfl, hown, hbe⟩ := hrel
    have HO := hide hown; have HBe := hide hbe; clear hown hbe
    by_cases hlt : k < s.size
    · obtain ⟨g3, c3, rfl⟩ := own_shape_pos' HO.out (by omega)
      have hft := flat_take_succ s.data.toList k (by rw [HD.out]; exact hlt)
      obtain ⟨c, hcc⟩ : ∃ c, c = s[k] := ⟨_, rfl⟩
      have hce : s.data.toList[k]'(by rw [HD.out]; exact hlt) = c := by rw [hcc]; rfl
      rw [hce] at hft
      have hc256 : c.toNat < 256 := UInt8.toNat_lt c
      have CL := rLow_any c.toNat 8 wr (by omega) (by omega)
      have hH0r : H0 ≤ wr.heap.size := by have := HBe.out.size; rw [HH.out]; exact this
      have HFt := hide hft
      have hcw : IntKind.u64.wrap ((s[k].toNat : Nat) : Int) = ((c.toNat : Nat) : Int) := by rw [← hcc, IntKind.wrap_u64]; omega
      clear hft hce hcc
      go_wp2_with (first | (go_at_call 34; refine CL.mono ?_; rintro e w2 ⟨v2, rfl, hf2, hb2⟩; obtain ⟨g2, c2, rfl⟩ := flags_shape (n := 7) hf2; have HF2 := hide hf2; have HB2 := hide hb2; have HO2 := hide (ownsRow_below HO.out hb2 (Nat.le_refl _)); clear hf2 hb2) | (at_builtin; refine wpList_append_own _ rfl (.tmp 15) (.tmp 20) 26 rfl H0 4 i0 (.bool false) 1 1 Try.underlying26 hi hz0 hz1 hz2 rfl (by decide) _ (2 * A + 1 + 8 * k) _ rfl HO2.out ⟨g2, 0, none⟩ 8 c2 (boolVs (bitsOf c.toNat 8)) rfl (by rw [boolVs_length, bitsOf_length]) (HF2.out.cells (g := g2) rfl) (boolVs_one _) (by unfold maxLen; omega) (by omega) (by have := HB2.out.size; omega) ?_; intro v3 w3 hown3 hgrow3 hnil3; clear hnil3; have HO3 := hide hown3; have HG3 := hide hgrow3; clear hown3 hgrow3))
      go_roundw
      case rel =>
        refine ⟨k + 1, by omega, by go_num, ?_, (HBe.out.trans (HB2.out.mono hH0r)).grown HG3.out (by have := HB2.out.size; omega) (fun j hj => (HO2.out.lt j hj).1)⟩
        rw [HFt.out, ← List.append_assoc, boolVs_append, show 2 * A + 1 + 8 * (k + 1) = 2 * A + 1 + 8 * k + 8 by omega]
        exact HO3.out
      case measure => simp [intOf]; omega
    · go_wp2
      go_ret
      obtain rfl : k = s.size := by omega
      refine ⟨_, rfl, ?_, HBe.out⟩
      have := HO.out
      rw [List.take_of_length_le (by rw [HD.out]; omega)] at this
      unfold Flags
      rw [textBits_length, HD.out, ← HA.out]
      unfold textBits
      rw [HD.out]
      exact this
end Go.Proofs.Ytlibfbfhleijlaa
