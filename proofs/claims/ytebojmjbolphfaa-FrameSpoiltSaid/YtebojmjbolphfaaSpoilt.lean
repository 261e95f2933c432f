/- The walk of FrameSpoilt. -/
import Derived.Test.YtebojmjbolphfaaSpm
import Derived.Test.YtebojmjbolphfaaOwnw
import Derived.Laws.BitsAllLaws
namespace Go.Proofs.Ytebojmjbolphfaa
open Go Go.RowKit Crc

theorem Row.drew {W : World} {base n : Nat} {v : Value} {ys : List Nat} {w : World} (h : Row W base v n ys w) : Row W base v n ys w.drew :=
  ⟨h.small, h.len, ownsRow_drew h.own, ⟨h.grown.os, h.grown.tape, h.grown.output, h.grown.size, h.grown.block⟩⟩
theorem dec_seen {f t k s a : Int} {x c : List Nat} {fi W : Nat} (hc : ckB f t k s a x.length = true) (ht : Turned (encN f t k s a x) c fi W 32) (hfi : fi < 8 * (encN f t k s a x).length)
    (hs : turnedB (encN f t k s a x).length fi W 32 = true) : decErr c ≠ 0 := by
  have hx : num32 (tail4 c) ≠ sumN (told c) := by
    unfold encN at ht hfi hs
    rw [hc] at ht hfi hs
    simp only [if_true] at ht hfi hs
    exact turned_seen (packed_small _) ht hfi hs
  intro h
  exact hx (openErr_ok (decErr_ok h).1).2.1
theorem enc_pos {f t k s a : Int} {x : List Nat} (hc : ckB f t k s a x.length = true) : 0 < (encN f t k s a x).length := by
  unfold encN; rw [hc]
  simp only [if_true]
  unfold formN; rw [sealed_length]; omega
theorem and_bit32 (x k : Nat) (hx : x < 2 ^ 32) : (bits BinOp.and IntKind.u32 ((x : Int) / 2 ^ k) 1 == 1) = x.testBit k := by
  have e : (x : Int) / 2 ^ k = ((x / 2 ^ k : Nat) : Int) := by push_cast; rfl
  have h := u32_and_nat (x / 2 ^ k) 1 (Nat.lt_of_le_of_lt (Nat.div_le_self _ _) hx) (by decide)
  rw [Nat.and_one_is_mod] at h
  rw [e, show (1 : Int) = ((1 : Nat) : Int) from rfl, h, Nat.testBit_eq_decide_div_mod_eq]
  rcases Nat.mod_two_eq_zero_or_one (x / 2 ^ k) with h | h <;> simp [h]
theorem turn_byte (d p : Nat) (hd : d < 256) : bits BinOp.xor IntKind.u8 (d : Int) (128 / 2 ^ (p % 8)) = ((d ^^^ 2 ^ (7 - p % 8) : Nat) : Int) := by
  have hq : p % 8 < 8 := Nat.mod_lt _ (by omega)
  have e : (128 : Int) / 2 ^ (p % 8) = ((2 ^ (7 - p % 8) : Nat) : Int) := by
    have h : ∀ q : Fin 8, (128 : Int) / 2 ^ q.val = ((2 ^ (7 - q.val) : Nat) : Int) := by decide
    exact h ⟨p % 8, hq⟩
  rw [e]
  have h : 2 ^ (7 - p % 8) < 2 ^ 8 := Nat.pow_lt_pow_right (by omega) (by omega)
  exact u8_xor_nat d _ hd h

set_option maxRecDepth 100000 in
set_option maxHeartbeats 3200000 in
theorem spoilt_walk (f t k s a : Int) (at_ wt : Nat) (ao : Option Addr) (n cap : Nat) (x : List Nat) (w : World) (hx : Bv w w.heap.size (.slice ao n cap) x) (hat : at_ < 65536) (hwt : wt < 4294967296) :
    Calls Try.prog 8 #[.agg #[.int .i64 f, .int .i64 t, .int .i64 k, .int .i64 s, .int .i64 a, .slice ao n cap], .int .u16 (at_ : Int), .int .u32 (wt : Int)] w fun e w' => e = .returned (.bool true) ∧ Below w.heap.size w w' := by
  have HB := hide (Bo.new (cs := #[.int .i64 f, .int .i64 t, .int .i64 k, .int .i64 s, .int .i64 a, .slice ao n cap]) hx)
  have hxn := hx.bytesIn.1
  have CE := fEncode_any f t k s a ao n cap w.heap.size x (w.alloc (.cells #[.int .i64 f, .int .i64 t, .int .i64 k, .int .i64 s, .int .i64 a, .slice ao n cap] 24)) HB.out.hx (by simp)
  have hbs := enc_small f t k s a x
  have hbl := enc_len f t k s a x
  have hz : ckErr f t k s a n = 0 → 0 < (encN f t k s a x).length ∧ decErr (encN f t k s a x) = 0 ∧ ∀ (c : List Nat) (fi W : Nat), Turned (encN f t k s a x) c fi W 32 → fi < 8 * (encN f t k s a x).length → turnedB (encN f t k s a x).length fi W 32 = true → decErr c ≠ 0 := fun h => by
    have hc : ckB f t k s a x.length = true := by
      rw [← hxn]
      cases hc : ckB f t k s a n with
      | false => rw [ckErr_no hc] at h; omega
      | true => rfl
    exact ⟨enc_pos hc, (dec_enc hx.small hc).1, fun c fi W h1 h2 h3 => dec_seen hc h1 h2 h3⟩
  obtain ⟨b, hb0⟩ : ∃ b, b = encN f t k s a x := ⟨_, rfl⟩
  rw [← hb0] at CE hbs hbl hz
  obtain ⟨er, her⟩ : ∃ er, er = ckErr f t k s a n := ⟨_, rfl⟩
  rw [← her] at CE hz
  obtain ⟨nb, hnb⟩ : ∃ nb, nb = b.length := ⟨_, rfl⟩
  rw [← hnb] at CE hbl hz
  have HZ := hide hz; have HBs := hide hbs; have HNb := hide hnb
  clear hx hxn hb0 her hbs hz hnb
  go_enter Try.func8, Try.ntmps8
  go_wp2_with fail
  refine CE.mono ?_
  clear CE
  rintro e w1 ⟨v1, rfl, ho, hb⟩
  obtain ⟨ab, capb, rfl⟩ := own_slice ho
  have hv : Bv w1 w1.heap.size (.slice ab nb capb) b := by
    rw [HNb.out] at ho ⊢
    exact Bv.of_own ho HBs.out (by have := HNb.out; omega)
  have HV := hide hv; have HB := hide (HB.out.call hb)
  clear ho hb hv
  by_cases h0 : er = 0
  · by_cases hw0 : wt = 0
    · subst h0 hw0
      rw [show ((0 : Nat) : Int) = 0 from rfl]
      clear HZ
      go_wp2_with fail
      refine (begun_any _).mono ?_
      rintro e w2 ⟨rfl, hb⟩
      have HB := hide (HB.out.call hb)
      clear hb
      go_wp2_with fail
      refine (begun_any _).mono ?_
      rintro e w3 ⟨rfl, hb⟩
      have HB := hide (HB.out.call hb)
      clear hb
      go_wp2_with fail
      go_ret
      exact ⟨rfl, HB.out.below⟩
    · obtain ⟨hpos, hde, hseen⟩ := HZ.out h0
      subst h0
      have HDe := hide hde; have HSeen := hide hseen
      have hwi : ¬ ((wt : Int) = 0) := by omega
      clear hde hseen HZ
      go_wp2_with fail
      refine (begun_any _).mono ?_
      rintro e w2 ⟨rfl, hb⟩
      have HB := hide (HB.out.call hb)
      have HV := hide ((HV.out.below hb (Nat.le_refl _)).mono hb.size)
      clear hb
      go_wp2_with fail
      refine (cloneB_any _ _ _ _ _ b HV.out).mono ?_
      rintro e w3 ⟨vc, rfl, ho, hb⟩
      obtain ⟨ac, capc, rfl⟩ := own_slice ho
      obtain ⟨B2, hB2⟩ : ∃ B2, B2 = w2.heap.size := ⟨_, rfl⟩
      have hPB : w.heap.size ≤ B2 := by rw [hB2]; exact Nat.le_of_lt HB.out.sz
      rw [← hB2] at ho
      have HB := hide (HB.out.call hb)
      have hr := Row.new ho HBs.out
      have hBl2 := hb.size
      rw [← hB2] at hBl2
      rw [← HNb.out] at hr ⊢
      have HR := hide hr; have HPB := hide hPB; have HBl2 := hide hBl2
      clear ho hb hB2 hr HV hPB hBl2
      go_wp2_with fail
      obtain ⟨fi, hfi⟩ : ∃ fi, fi = at_ % (8 * nb) := ⟨_, rfl⟩
      have hfl : fi < 8 * nb := by rw [hfi]; exact Nat.mod_lt _ (by omega)
      rw [show ((at_ : Int) % (8 * (nb : Int))) = (fi : Int) by rw [hfi]; push_cast; rfl]
      clear hfi
      go_loopw [11, 38] (fun ch i wr => ∃ (j : Nat) (c : List Nat), j ≤ 32 ∧ i = .int .i64 j ∧ ch = .bool (turnedB nb fi wt j) ∧ Turned b c fi wt j ∧ Row w3 B2 (.slice ac nb capc) nb c wr) (fun _ i _ => 32 - (intOf i).toNat)
      case atStart => exact ⟨0, b, Nat.zero_le _, rfl, rfl, turned_zero b HBs.out _ _, HR.out⟩
      case round =>
        obtain ⟨j, c, hj, rfl, rfl, htr, hr⟩ := hrel
        by_cases hlt : j < 32
        · have HTs := hide (turnedB_succ nb fi wt j)
          have e1 := and_bit32 wt j (by omega)
          obtain ⟨tb, htb⟩ : ∃ tb, tb = wt.testBit j := ⟨_, rfl⟩
          rw [← htb] at e1
          have HTb := hide htb; have HTr := hide htr; have Hr := hide hr
          clear htb htr hr
          obtain ⟨ch, hch⟩ : ∃ ch, ch = turnedB nb fi wt j := ⟨_, rfl⟩
          rw [← hch]
          have HCh := hide hch
          clear hch
          by_cases hin : fi + j < 8 * nb
          · have hin' : (fi : Int) + j < 8 * nb := by omega
            cases tb with
            | false =>
              go_wp2_with fail
              go_roundw
              case rel =>
                refine ⟨j + 1, c, by omega, by go_num, ?_, turned_skip HTr.out (fun h => by rw [← HTb.out] at h; exact absurd h.2 (by simp)), Hr.out⟩
                rw [HTs.out, ← HCh.out, ← HTb.out]; simp
              case measure => simp [intOf]; omega
            | true =>
              obtain ⟨p, hp⟩ : ∃ p, p = fi + j := ⟨_, rfl⟩
              have hpn : p / 8 < nb := by omega
              obtain ⟨g, rfl, hg, hcj, hfj, hsm, hst⟩ := Hr.out.at hpn
              obtain ⟨d, hd⟩ : ∃ d, d = c.getD (p / 8) 0 := ⟨_, rfl⟩
              rw [← hd] at hcj hsm
              have HP := hide hp; have HD := hide hd; have HSt := hide hst; have Hsm := hide hsm
              clear hp hd hst hsm hg
              go_wp2_with fail
              rw [show ((fi : Int) + (j : Int)) = (p : Int) by rw [HP.out]; push_cast; rfl]
              go_region
              rw [turn_byte d p Hsm.out]
              go_wp2_with fail
              go_roundw
              case rel =>
                refine ⟨j + 1, _, by omega, by go_num, ?_, ?_, (HSt.out (d ^^^ 2 ^ (7 - p % 8)) (Nat.xor_lt_two_pow (n := 8) Hsm.out (Nat.pow_lt_pow_right (by omega) (by omega)))).drew⟩
                · rw [HTs.out, ← HTb.out, decide_eq_true hin]; simp
                · have h := turned_flip HTr.out (by rw [← HNb.out]; exact hin) HTb.out.symm
                  rw [← HP.out, ← HD.out] at h
                  exact h
              case measure => simp [intOf]; omega
          · have hin' : ¬ ((fi : Int) + j < 8 * nb) := by omega
            go_wp2_with fail
            go_roundw
            case rel =>
              refine ⟨j + 1, c, by omega, by go_num, ?_, turned_skip HTr.out (fun h => hin (by rw [HNb.out]; exact h.1)), Hr.out⟩
              rw [HTs.out, ← HCh.out, decide_eq_false hin]; simp
            case measure => simp [intOf]; omega
        · obtain rfl : j = 32 := by omega
          have hb1 : Below w.heap.size w wr := HB.out.below.grown hr.grown (by have := HPB.out; have := HBl2.out; omega) (fun k hk => by have := (own_ge hr.own hk).1; have := HPB.out; omega)
          have hv : Bv wr wr.heap.size (.slice ac nb capc) c := by
            have h := hr.own
            have hn : nb = c.length := hr.len.symm
            rw [hn] at h ⊢
            exact Bv.of_own h hr.small (by omega)
          have C := fDecode_any _ _ c wr hv (Nat.le_refl _)
          unfold DecPost at C
          have hfin : ((((decErr c : Nat) : Int) == 0) != turnedB nb fi wt 32) = true := by
            cases hch : turnedB nb fi wt 32 with
            | false =>
              have h1 := turned_none HBs.out htr hwt (by rw [← HNb.out]; exact hch)
              rw [h1, HDe.out]; rfl
            | true =>
              have h1 := HSeen.out c fi wt htr hfl hch
              have h2 : ((((decErr c : Nat) : Int) == 0)) = false := by simpa using h1
              rw [h2]; rfl
          obtain ⟨ch, hch⟩ : ∃ ch, ch = turnedB nb fi wt 32 := ⟨_, rfl⟩
          obtain ⟨de, hde⟩ : ∃ de : Int, de = ((decErr c : Nat) : Int) := ⟨_, rfl⟩
          rw [← hde] at C hfin
          rw [← hch] at hfin ⊢
          have HF := hide hfin; have HB1 := hide hb1
          clear hch hde hfin hb1 hv hr htr
          go_wp2_with fail
          refine C.mono ?_
          clear C
          rintro e w4 ⟨v4, rfl, ho, hb⟩
          have HBd := hide hb
          clear ho hb
          go_wp2_with fail
          go_ret
          refine ⟨?_, HB1.out.trans (HBd.out.mono HB1.out.size)⟩
          exact congrArg (fun b => Ending.returned (Value.bool b)) HF.out
  · clear HZ
    go_wp2_with fail
    refine (begun_any _).mono ?_
    rintro e w2 ⟨rfl, hb⟩
    have HB := hide (HB.out.call hb)
    clear hb
    go_wp2_with fail
    refine (begun_any _).mono ?_
    rintro e w3 ⟨rfl, hb⟩
    have HB := hide (HB.out.call hb)
    clear hb
    go_wp2_with fail
    go_ret
    exact ⟨rfl, HB.out.below⟩

theorem spoilt_any (f t k s a m u : Int) (ao : Option Addr) (n cap : Nat) (x : List Nat) (w : World) (hx : Bv w w.heap.size (.slice ao n cap) x) (hm : (Lit.int .u16 m).wf = true) (hu : (Lit.int .u32 u).wf = true) :
    Calls Try.prog 8 #[.agg #[.int .i64 f, .int .i64 t, .int .i64 k, .int .i64 s, .int .i64 a, .slice ao n cap], .int .u16 m, .int .u32 u] w fun e w' => e = .returned (.bool true) ∧ Below w.heap.size w w' := by
  have h0 : 0 ≤ m ∧ m ≤ 65535 := by simpa [Lit.wf, IntKind.min, IntKind.max, IntKind.signed, IntKind.bits] using hm
  have h1 : 0 ≤ u ∧ u ≤ 4294967295 := by simpa [Lit.wf, IntKind.min, IntKind.max, IntKind.signed, IntKind.bits] using hu
  obtain ⟨M, rfl⟩ := Int.eq_ofNat_of_zero_le h0.1
  obtain ⟨U, rfl⟩ := Int.eq_ofNat_of_zero_le h1.1
  exact spoilt_walk f t k s a M U ao n cap x w hx (by omega) (by omega)
end Go.Proofs.Ytebojmjbolphfaa
