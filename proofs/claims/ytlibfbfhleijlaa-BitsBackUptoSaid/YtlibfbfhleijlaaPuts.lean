/- The walk of BitsPuts. -/
import Derived.Test.YtlibfbfhleijlaaLput3
import Derived.Test.YtlibfbfhleijlaaArgs
namespace Go.Proofs.Ytlibfbfhleijlaa
open Go Go.RowKit

def partNew (kind : Int) (u : Nat) (n : Int) (s : ByteArray) : List Bool :=
  if kind = 0 then bitsOf u (clampN n) else if kind = 1 then natBits u else if kind = 2 then natBits (zigN (wrap64 (u : Int))) else if kind = 3 then textBits s.data.toList else [decide (0 < n), decide ((0 : Int) < u)]
def partMay (kind : Int) (u : Nat) (n : Int) : Bool := if kind = 0 then fitsB u n else true

/-- What put leaves. -/
def PutOut (w : World) (B q : Nat) (bs new : List Bool) (may : Bool) (e : Ending) (w' : World) : Prop :=
  ∃ (v : Value) (err : Nat) (bs' : List Bool), e = .returned (.tuple #[v, .bool may, .int .i64 (err : Int)]) ∧ Flags w' w.heap.size v new ∧ SinkIs w' B q bs' ∧ Kept B sinkT w w' ∧
    ((may = false ∧ err = 1 ∧ bs' = bs) ∨ (may = true ∧ 1048576 < bs.length + new.length ∧ err = 3 ∧ bs' = bs) ∨ (may = true ∧ bs.length + new.length ≤ 1048576 ∧ err = 0 ∧ bs' = bs ++ new))

theorem lput_any (B q u : Nat) (kind n : Int) (s : ByteArray) (bs : List Bool) (w : World) (hs : SinkIs w B q bs) (hu : u < 2 ^ 64) (hn : (Lit.int .i64 n).wf = true) (hsb : s.size ≤ 1048576) :
    Calls Try.prog 10 #[.pointer (some ⟨q, 0, none⟩), .agg #[.int .i64 kind, .int .u64 (u : Int), .int .i64 n, .string s]] w (PutOut w B q bs (partNew kind u n s) (partMay kind u n)) := by
  unfold PutOut partNew partMay
  by_cases h0 : kind = 0
  · subst h0
    rw [if_pos rfl, if_pos rfl]
    have hlen : (bitsOf u (clampN n)).length = clampN n := bitsOf_length _ _
    cases hf : fitsB u n with
    | false => exact (lput_bits_unfit B q u 0 n s bs w hs hu hn hf).mono fun e w' ⟨v, h1, h2, h3, h4⟩ => ⟨v, 1, bs, h1, h2, h3, h4, .inl ⟨rfl, rfl, rfl⟩⟩
    | true =>
      by_cases hl : bs.length + clampN n ≤ 1048576
      · exact (lput_bits_fits B q u 0 n s bs w hs hu hn hf hl).mono fun e w' ⟨v, h1, h2, h3, h4⟩ => ⟨v, 0, _, h1, h2, h3, h4, .inr (.inr ⟨rfl, by omega, rfl, rfl⟩)⟩
      · exact (lput_bits_long B q u 0 n s bs w hs hu hn hf (by omega)).mono fun e w' ⟨v, h1, h2, h3, h4⟩ => ⟨v, 3, bs, h1, h2, h3, h4, .inr (.inl ⟨rfl, by omega, rfl, rfl⟩)⟩
  rw [if_neg h0, if_neg h0]
  by_cases h1 : kind = 1
  · subst h1
    rw [if_pos rfl]
    have hlen := natBits_length u
    by_cases hl : bs.length + (2 * ahd u + 1) ≤ 1048576
    · exact (lput_nat_fits B q u 1 n s bs w hs hu hn hl).mono fun e w' ⟨v, h1, h2, h3, h4⟩ => ⟨v, 0, _, h1, h2, h3, h4, .inr (.inr ⟨rfl, by omega, rfl, rfl⟩)⟩
    · exact (lput_nat_long B q u 1 n s bs w hs hu hn (by omega)).mono fun e w' ⟨v, h1, h2, h3, h4⟩ => ⟨v, 3, bs, h1, h2, h3, h4, .inr (.inl ⟨rfl, by omega, rfl, rfl⟩)⟩
  rw [if_neg h1]
  by_cases h2 : kind = 2
  · subst h2
    rw [if_pos rfl]
    have hlen := natBits_length (zigN (wrap64 (u : Int)))
    by_cases hl : bs.length + (2 * ahd (zigN (wrap64 (u : Int))) + 1) ≤ 1048576
    · exact (lput_num_fits B q u 2 n s bs w hs hu hn _ rfl hl).mono fun e w' ⟨v, h1, h2, h3, h4⟩ => ⟨v, 0, _, h1, h2, h3, h4, .inr (.inr ⟨rfl, by omega, rfl, rfl⟩)⟩
    · exact (lput_num_long B q u 2 n s bs w hs hu hn _ rfl (by omega)).mono fun e w' ⟨v, h1, h2, h3, h4⟩ => ⟨v, 3, bs, h1, h2, h3, h4, .inr (.inl ⟨rfl, by omega, rfl, rfl⟩)⟩
  rw [if_neg h2]
  by_cases h3 : kind = 3
  · subst h3
    rw [if_pos rfl]
    have hlen := textBits_length s.data.toList
    have hd : s.data.toList.length = s.size := Array.length_toList
    rw [hd] at hlen
    by_cases hl : bs.length + (2 * ahd s.size + 1 + 8 * s.size) ≤ 1048576
    · exact (lput_text_fits B q u 3 n s bs w hs hu hn hsb hl).mono fun e w' ⟨v, h1, h2, h3, h4⟩ => ⟨v, 0, _, h1, h2, h3, h4, .inr (.inr ⟨rfl, by omega, rfl, rfl⟩)⟩
    · exact (lput_text_long B q u 3 n s bs w hs hu hn hsb (by omega)).mono fun e w' ⟨v, h1, h2, h3, h4⟩ => ⟨v, 3, bs, h1, h2, h3, h4, .inr (.inl ⟨rfl, by omega, rfl, rfl⟩)⟩
  rw [if_neg h3]
  by_cases hl : bs.length + 2 ≤ 1048576
  · exact (lput_flags_fits B q u kind n s bs w hs h0 h1 h2 h3 hl).mono fun e w' ⟨v, h1, h2, h3, h4⟩ => ⟨v, 0, _, h1, h2, h3, h4, .inr (.inr ⟨rfl, hl, rfl, rfl⟩)⟩
  · exact (lput_flags_long B q u kind n s bs w hs h0 h1 h2 h3 (by omega)).mono fun e w' ⟨v, h1, h2, h3, h4⟩ => ⟨v, 3, bs, h1, h2, h3, h4, .inr (.inl ⟨rfl, by simp only [List.length_cons, List.length_nil]; omega, rfl, rfl⟩)⟩

theorem partNew_le (kind : Int) (u : Nat) (n : Int) (s : ByteArray) (hu : u < 2 ^ 64) (hsb : s.size ≤ 1048576) : (partNew kind u n s).length ≤ 8388800 := by
  unfold partNew
  by_cases h0 : kind = 0
  · rw [if_pos h0, bitsOf_length]; have := clampN_le n; omega
  rw [if_neg h0]
  by_cases h1 : kind = 1
  · rw [if_pos h1, natBits_length]; have := ahd_le u hu; omega
  rw [if_neg h1]
  by_cases h2 : kind = 2
  · have hz : zigN (wrap64 (u : Int)) < 2 ^ 64 := zigN_lt _ (by unfold wrap64; omega)
    rw [if_pos h2, natBits_length]; have := ahd_le _ hz; omega
  rw [if_neg h2]
  by_cases h3 : kind = 3
  · have hd : s.data.toList.length = s.size := Array.length_toList
    rw [if_pos h3, textBits_length, hd]; have := ahd_le s.size (by omega); omega
  rw [if_neg h3]; simp

theorem slice_shape {w : World} {B e size n : Nat} {v : Value} {xs : List Value} (h : w.ownsRow B e size v n xs) : ∃ ao cap, v = .slice ao n cap := by
  rcases h.2 with ⟨hv, hn0⟩ | ⟨g, cap, cur, hv, _⟩
  · exact ⟨none, 0, by rw [hv, hn0]⟩
  · exact ⟨some ⟨g, 0, none⟩, cap, hv⟩
theorem SinkIs.grown {w w' : World} {B q : Nat} {bs : List Bool} (h : SinkIs w B q bs) {B0 e size n : Nat} {v : Value} {xs : List Value} (hown : w.ownsRow B0 e size v n xs) (he1 : 62 ≠ e) (he2 : 5 ≠ e) (hg : w.grownBy w' v.ownBlock) : SinkIs w' B q bs := by
  obtain ⟨x, hq, ho⟩ := h.row
  refine ⟨h.from_, h.len, x, grow_keeps hq hown he1 hg rfl, ho.1, ?_⟩
  rcases ho.2 with hn | ⟨g, cap, cur, rfl, hb, hgg, rest⟩
  · exact .inl hn
  · exact .inr ⟨g, cap, cur, rfl, hb, grow_keeps hgg hown he2 hg rfl, rest⟩

set_option maxRecDepth 100000 in
set_option maxHeartbeats 3200000 in
theorem puts_walk (ao : Option Addr) (N c : Nat) (w : World) (hN : N ≤ 1048576) (hl : PartsAt w ao N) :
    Calls Try.prog 3 #[.slice ao N c] w fun e w' => e = .returned (.bool true) ∧ Below w.heap.size w w' := by
  obtain ⟨i0, hi, hz0, hz1, hz2⟩ := info_parts Try.info4
  have HL := hide hl; clear hl
  obtain ⟨H0, hH0⟩ : ∃ H0, H0 = w.heap.size := ⟨_, rfl⟩
  have HH := hide hH0
  rw [← hH0]
  go_enter Try.func3, Try.ntmps3
  go_wp2_with fail
  refine (newSink_any w).mono ?_
  rw [← hH0]
  clear hH0
  rintro e w1 ⟨rfl, hs1, k1⟩
  go_wp2_with fail
  refine (live_any w1).mono ?_
  rintro e w2 ⟨rfl, b2⟩
  have hsz1 : H0 ≤ w1.heap.size := by have := k1.below.size; rw [HH.out]; exact this
  have hS2 : SinkIs w2 H0 H0 [] := hs1.below b2 (Nat.le_refl _)
  have hB2 : Below H0 w w2 := k1.below.trans (b2.mono hsz1)
  have HS2 := hide hS2; have HB2 := hide hB2
  clear hS2 hB2 hs1 k1 b2 hsz1
  go_wp2_with fail
  go_loopw [4, 19] (fun v i wr => ∃ (k : Nat) (bs : List Bool), k ≤ N ∧ i = .int .i64 k ∧ SinkIs wr H0 H0 bs ∧ wr.ownsRow H0 4 1 v bs.length (boolVs bs) ∧ Below H0 w wr) (fun _ i _ => N - (intOf i).toNat)
  case atStart => exact ⟨0, [], Nat.zero_le _, rfl, HS2.out, World.ownsRow_nil _ _ _ _, HB2.out⟩
  case round =>
    obtain ⟨k, bs, hk, rfl, hsr, hown, hbr⟩ := hrel
    have HSr := hide hsr; have HO := hide hown; have HBr := hide hbr
    have hlen := hsr.len
    clear hsr hown hbr
    obtain ⟨aow, cw, rfl⟩ := slice_shape HO.out
    by_cases hlt : k < N
    · obtain ⟨b2, o2, rfl, hb2, hp⟩ := HL.out (by omega)
      obtain ⟨kind, u', n, s, p0, p1, p2, p3, wn, wu, wk, hsz⟩ := hp k hlt
      have hu2 : 0 ≤ u' ∧ u' ≤ 18446744073709551615 := by simpa [Lit.wf, IntKind.min, IntKind.max, IntKind.signed, IntKind.bits] using wu
      obtain ⟨u, rfl⟩ : ∃ u : Nat, u' = u := ⟨u'.toNat, by omega⟩
      have hu : u < 2 ^ 64 := by omega
      have hb2' : b2 < H0 := by rw [HH.out]; exact hb2
      have r0 := (HBr.out.cell (p := ⟨b2, o2 + k * 4, none⟩) hb2').trans p0
      have r1 := (HBr.out.cell (p := ⟨b2, o2 + k * 4 + 1, none⟩) hb2').trans p1
      have r2 := (HBr.out.cell (p := ⟨b2, o2 + k * 4 + 2, none⟩) hb2').trans p2
      have r3 := (HBr.out.cell (p := ⟨b2, o2 + k * 4 + 3, none⟩) hb2').trans p3
      have hH0r : H0 ≤ wr.heap.size := by have := HBr.out.size; rw [HH.out]; exact this
      have hnl := partNew_le kind u n s hu hsz
      have CP := fun W (hs : SinkIs W H0 H0 bs) => lput_any H0 H0 u kind n s bs W hs hu wn hsz
      obtain ⟨new, hnew⟩ : ∃ new, new = partNew kind u n s := ⟨_, rfl⟩
      obtain ⟨may, hmay⟩ : ∃ may, may = partMay kind u n := ⟨_, rfl⟩
      rw [← hnew, ← hmay] at CP
      rw [← hnew] at hnl
      have HSW := hide (HSr.out.below ((Below.refl wr.heap.size wr).alloc (Nat.le_refl _) (.cells #[.int .i64 kind, .int .u64 (u : Int), .int .i64 n, .string s] 29)) (Nat.le_refl _))
      have HOW := hide (HO.out.alloc (.cells #[.int .i64 kind, .int .u64 (u : Int), .int .i64 n, .string s] 29))
      have HBW := hide (HBr.out.alloc hH0r (.cells #[.int .i64 kind, .int .u64 (u : Int), .int .i64 n, .string s] 29))
      have hszW : H0 ≤ (wr.alloc (.cells #[.int .i64 kind, .int .u64 (u : Int), .int .i64 n, .string s] 29)).heap.size := by simp; omega
      have HszW := hide hszW
      clear p0 p1 p2 p3 hb2 hp wu wk hnew hmay hu2 hu wn hsz hszW
      go_wp2_with fail
      refine (CP _ HSW.out).mono ?_
      clear CP
      rintro e w3 ⟨v, err, bs', rfl, hf3, hs3, k3, hcase⟩
      have HB3 := hide (HBW.out.trans k3.below)
      have HO3 := hide (k3.ownsRow HOW.out (by decide))
      have HF3 := hide hf3; have HS3 := hide hs3
      have hH03 : H0 ≤ w3.heap.size := Nat.le_trans HszW.out k3.below.size
      clear hf3 hs3 k3
      obtain ⟨aov, cv, rfl⟩ := slice_shape HF3.out
      rcases hcase with ⟨rfl, rfl, rfl⟩ | ⟨rfl, hlong, rfl, rfl⟩ | ⟨rfl, hfit, rfl, rfl⟩
      · have CL := kLen_any _ _ w3 HS3.out.made HS3.out.count
        go_wp2_with fail
        refine CL.mono ?_
        rintro e w' ⟨rfl, rfl⟩
        go_wp2
        go_roundw
        case rel => exact ⟨k + 1, _, by omega, by go_num, HS3.out, HO3.out, HB3.out⟩
        case measure => simp [intOf]; omega
      · have CL := kLen_any _ _ w3 HS3.out.made HS3.out.count
        go_wp2_with fail
        refine CL.mono ?_
        rintro e w' ⟨rfl, rfl⟩
        go_wp2
        go_roundw
        case rel => exact ⟨k + 1, _, by omega, by go_num, HS3.out, HO3.out, HB3.out⟩
        case measure => simp [intOf]; omega
      · rcases HF3.out.2 with ⟨hv, hn0⟩ | ⟨g, cap, cur, hv, hg, hgg, hgn, hcapm, hcsz, htake⟩
        · simp only [Value.slice.injEq] at hv
          obtain ⟨rfl, hv0, rfl⟩ := hv
          obtain rfl : new = [] := List.length_eq_zero_iff.1 hv0
          have CL := kLen_any _ _ w3 HS3.out.made HS3.out.count
          rw [List.append_nil] at CL
          clear hv0 hn0
          go_wp2_with (first | (at_builtin; refine wpList_append_own_none rfl (.tmp 30) (.tmp 31) 26 rfl H0 4 i0 1 Try.underlying26 hi _ bs.length _ rfl HO3.out rfl ?_) | (go_at_call 11; refine CL.mono ?_; rintro e w' ⟨rfl, rfl⟩))
          go_roundw
          case rel => exact ⟨k + 1, bs, by omega, by go_num, by simpa using HS3.out, HO3.out, HB3.out⟩
          case measure => simp [intOf]; omega
        · simp only [Value.slice.injEq, true_and] at hv
          obtain ⟨rfl, rfl⟩ := hv
          clear hgg hcsz htake hg
          go_wp2_with (at_builtin; refine wpList_append_own _ rfl (.tmp 30) (.tmp 31) 26 rfl H0 4 i0 (.bool false) 1 1 Try.underlying26 hi hz0 hz1 hz2 rfl (by decide) _ bs.length _ rfl HO3.out ⟨g, 0, none⟩ new.length cv (boolVs new) rfl (by rw [boolVs_length, Nat.mul_one]) (HF3.out.cells (g := g) rfl) (boolVs_one _) (by unfold maxLen; omega) (by omega) hH03 ?_; intro v4 w4 hown4 hgrow4 hnil4; clear hnil4; have HO4 := hide hown4; have HG4 := hide hgrow4; obtain ⟨ao4, cw4, rfl⟩ := slice_shape HO4.out; have HS4 := hide (HS3.out.grown HO3.out (by decide) (by decide) hgrow4); have hc4 := HS4.out.count; have hm4 := HS4.out.made; rw [List.length_append] at hc4; clear hown4 hgrow4)
          have CL := kLen_any _ _ w4 hm4 hc4
          clear hc4 hm4
          refine CL.mono ?_
          rintro e w' ⟨rfl, rfl⟩
          clear CL
          go_wp2
          go_roundw
          case rel =>
            refine ⟨k + 1, bs ++ new, by omega, by go_num, HS4.out, ?_, HB3.out.grown HG4.out hH03 (fun j hj => (HO3.out.lt j hj).1)⟩
            rw [List.length_append, boolVs_append]
            exact HO4.out
          case measure => simp [intOf]; omega
    · go_wp2_with fail
      refine (kOut_any _ _ _ _ HSr.out).mono ?_
      rintro e w3 ⟨v3, rfl, ho3, b3⟩
      have HO3 := hide ho3; have HB3 := hide b3
      have hF3 : Flags w3 H0 (.slice aow bs.length cw) bs := ownsRow_below HO.out b3 (Nat.le_refl _)
      clear ho3 b3
      go_wp2_with fail
      refine (rPack_any _ _ _ _ (by omega) hF3).mono ?_
      clear hF3
      rintro e w4 ⟨v4, rfl, ho4, b4⟩
      obtain ⟨ao3, c3, rfl, hi3⟩ := bytesIn_own (ownsRow_below HO3.out b4 (Nat.le_refl _))
      obtain ⟨ao4, c4, rfl, hi4⟩ := bytesIn_own ho4
      have HB4 := hide b4
      have CE := Try.bytes_Equal_all ao3 ao4 (packed bs).length c3 (packed bs).length c4 _ _ w4 (by simp) (by simp) hi3 hi4
      clear ho4 b4 hi3 hi4
      go_wp2_with fail
      refine CE.mono ?_
      rintro e w5 ⟨rfl, hw5⟩
      have HW5 := hide hw5; clear hw5 CE
      go_wp2
      go_ret
      refine ⟨?_, ?_⟩
      · simp
      · rw [HW5.out]
        have h1 : H0 ≤ wr.heap.size := by have := HBr.out.size; rw [HH.out]; exact this
        exact (HBr.out.trans (HB3.out.mono h1)).trans (HB4.out.mono (Nat.le_trans h1 HB3.out.size))
end Go.Proofs.Ytlibfbfhleijlaa
