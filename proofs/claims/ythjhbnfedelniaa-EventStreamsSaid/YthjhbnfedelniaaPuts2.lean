/- Contracts: a sink takes a text, two flags; the document's own bits of a number, of a text. -/
import Derived.Test.YthjhbnfedelniaaBase
namespace Go.Proofs.Ythjhbnfedelniaa
open Go Go.RowKit

/-- Does the number u have place in n bits. -/
def fitsB (u : Nat) (n : Int) : Bool := decide (0 ≤ n ∧ n ≤ 64 ∧ u < 2 ^ n.toNat)
theorem shr_zero (u n : Nat) : (((u : Int) / 2 ^ n) != 0) = !decide (u < 2 ^ n) := by
  have e : ((u : Int) / 2 ^ n) = ((u / 2 ^ n : Nat) : Int) := by push_cast; rfl
  rw [e]
  by_cases h : u < 2 ^ n
  · rw [Nat.div_eq_of_lt h]; simp [h]
  · have : 0 < u / 2 ^ n := Nat.div_pos (by omega) (Nat.two_pow_pos n)
    have h2 : ((u / 2 ^ n : Nat) : Int) ≠ 0 := by omega
    rw [show decide (u < 2 ^ n) = false by simp; omega]
    simp
    exact_mod_cast h2

set_option maxRecDepth 100000 in
theorem kBits_unfit (B q : Nat) (u : Nat) (n : Int) (bs : List Bool) (w : World) (hs : SinkIs w B q bs) (hf : fitsB u n = false) (hu : u < 2 ^ 64) (hn : (Lit.int .i64 n).wf = true) :
    Calls Try.prog 44 #[.pointer (some ⟨q, 0, none⟩), .int .u64 (u : Int), .int .i64 n] w fun e w' => e = .returned (.int .i64 1) ∧ w = w' := by
  have hm := hs.made
  have hw2 : -9223372036854775808 ≤ n ∧ n ≤ 9223372036854775807 := by simpa [Lit.wf, IntKind.min, IntKind.max, IntKind.signed, IntKind.bits] using hn
  clear hs hn
  by_cases h1 : n < 0
  · clear hf
    go_enter Try.func44, Try.ntmps44
    go_wp2_with (go_at_call 65; refine (isMade_any q _ hm).mono ?_; rintro e w' ⟨rfl, rfl⟩)
    go_ret
    exact ⟨rfl, rfl⟩
  by_cases h2 : 64 < n
  · clear hf
    go_enter Try.func44, Try.ntmps44
    go_wp2_with (go_at_call 65; refine (isMade_any q _ hm).mono ?_; rintro e w' ⟨rfl, rfl⟩)
    go_ret
    exact ⟨rfl, rfl⟩
  obtain ⟨m, rfl⟩ : ∃ m : Nat, n = m := ⟨n.toNat, by omega⟩
  have hb : (((u : Int) / 2 ^ m) != 0) = true := by
    rw [shr_zero]
    unfold fitsB at hf
    simp at hf ⊢
    exact hf (by omega)
  have hm64 : m ≤ 64 := by omega
  have hu' : (u : Int) ≤ 18446744073709551615 := by omega
  clear hf hu
  go_enter Try.func44, Try.ntmps44
  go_wp2_with (go_at_call 65; refine (isMade_any q _ hm).mono ?_; rintro e w' ⟨rfl, rfl⟩)
  go_ret
  exact ⟨rfl, rfl⟩

theorem fitsB_nat {u : Nat} {n : Int} (h : fitsB u n = true) : ∃ m : Nat, n = m ∧ m ≤ 64 ∧ u < 2 ^ m := by
  unfold fitsB at h
  simp only [decide_eq_true_eq] at h
  obtain ⟨h1, h2, h3⟩ := h
  exact ⟨n.toNat, by omega, by omega, h3⟩

set_option maxRecDepth 100000 in
theorem kBits_long (B q : Nat) (u m : Nat) (bs : List Bool) (w : World) (hs : SinkIs w B q bs) (hm64 : m ≤ 64) (hf : u < 2 ^ m) (hl : 1048576 < bs.length + m) :
    Calls Try.prog 44 #[.pointer (some ⟨q, 0, none⟩), .int .u64 (u : Int), .int .i64 (m : Int)] w fun e w' => e = .returned (.int .i64 3) ∧ w = w' := by
  have hm := hs.made
  have hc := hs.count
  have hsl := hs.len
  have hb : (((u : Int) / 2 ^ m) != 0) = false := by rw [shr_zero]; simp [hf]
  have hd : decide ((m : Int) ≤ 1048576 - ((bs.length : Nat) : Int)) = false := by simp; omega
  clear hf hs
  go_enter Try.func44, Try.ntmps44
  go_wp2_with fail
  refine (isMade_any q _ hm).mono ?_
  rintro e w' ⟨rfl, rfl⟩
  go_wp2_with fail
  refine (hasRoom_any q _ _ _ (by omega) (by omega) hc).mono ?_
  rw [hd]
  rintro e w' ⟨rfl, rfl⟩
  go_wp2
  go_ret
  exact ⟨rfl, rfl⟩

set_option maxRecDepth 100000 in
theorem kBits_fits (B q : Nat) (u m : Nat) (bs : List Bool) (w : World) (hs : SinkIs w B q bs) (hm64 : m ≤ 64) (hf : u < 2 ^ m) (hl : bs.length + m ≤ 1048576) :
    Calls Try.prog 44 #[.pointer (some ⟨q, 0, none⟩), .int .u64 (u : Int), .int .i64 (m : Int)] w fun e w' => e = .returned (.int .i64 0) ∧ SinkIs w' B q (bs ++ bitsOf u m) ∧ Kept B sinkT w w' := by
  have hm := hs.made
  have hc := hs.count
  have hsl := hs.len
  have hb : (((u : Int) / 2 ^ m) != 0) = false := by rw [shr_zero]; simp [hf]
  have hd : decide ((m : Int) ≤ 1048576 - ((bs.length : Nat) : Int)) = true := by simp; omega
  have hu : u < 2 ^ 64 := Nat.lt_of_lt_of_le hf (Nat.pow_le_pow_right (by omega) hm64)
  have C := kPut_any B q u m bs w hu hm64 hs hl
  clear hf hs hu
  go_enter Try.func44, Try.ntmps44
  go_wp2_with fail
  refine (isMade_any q _ hm).mono ?_
  rintro e w' ⟨rfl, rfl⟩
  go_wp2_with fail
  refine (hasRoom_any q _ _ _ (by omega) (by omega) hc).mono ?_
  rw [hd]
  rintro e w' ⟨rfl, rfl⟩
  go_wp2_with fail
  refine C.mono ?_
  rintro e w' ⟨rfl, hs', hk'⟩
  go_wp2
  go_ret
  exact ⟨rfl, hs', hk'⟩

theorem zigN_lt (n : Int) (h : -9223372036854775808 ≤ n ∧ n ≤ 9223372036854775807) : zigN n < 2 ^ 64 := by
  unfold zigN; split <;> omega

set_option maxRecDepth 100000 in
theorem fold_any (n : Int) (w : World) (hn : (Lit.int .i64 n).wf = true) :
    Calls Try.prog 87 #[.int .i64 n] w fun e w' => e = .returned (.int .u64 ((zigN n : Nat) : Int)) ∧ w = w' := by
  have hw2 : -9223372036854775808 ≤ n ∧ n ≤ 9223372036854775807 := by simpa [Lit.wf, IntKind.min, IntKind.max, IntKind.signed, IntKind.bits] using hn
  by_cases h : 0 ≤ n
  · have hz : ((zigN n : Nat) : Int) = 2 * n := by unfold zigN; rw [if_pos h]; omega
    rw [hz]
    clear hz hn
    go_enter Try.func87, Try.ntmps87
    go_wp2
    go_ret
    exact ⟨rfl, rfl⟩
  · have hz : ((zigN n : Nat) : Int) = 2 * (-(n + 1)) + 1 := by unfold zigN; rw [if_neg h]; omega
    rw [hz]
    clear hz hn
    go_enter Try.func87, Try.ntmps87
    go_wp2
    go_ret
    exact ⟨rfl, rfl⟩

theorem kNum_fits (B q : Nat) (n : Int) (bs : List Bool) (w : World) (hn : (Lit.int .i64 n).wf = true) (hs : SinkIs w B q bs) (hl : bs.length + (2 * ahd (zigN n) + 1) ≤ 1048576) :
    Calls Try.prog 83 #[.pointer (some ⟨q, 0, none⟩), .int .i64 n] w fun e w' => e = .returned (.int .i64 0) ∧ SinkIs w' B q (bs ++ natBits (zigN n)) ∧ Kept B sinkT w w' := by
  have hw2 : -9223372036854775808 ≤ n ∧ n ≤ 9223372036854775807 := by simpa [Lit.wf, IntKind.min, IntKind.max, IntKind.signed, IntKind.bits] using hn
  have F := fold_any n w hn
  have C := kNat_fits B q (zigN n) bs w (zigN_lt n hw2) hs hl
  clear hn hw2 hs hl
  go_enter Try.func83, Try.ntmps83
  go_wp2_with fail
  refine F.mono ?_
  rintro e w' ⟨rfl, rfl⟩
  go_wp2_with fail
  refine C.mono ?_
  rintro e w' ⟨rfl, hs', hk'⟩
  go_wp2
  go_ret
  exact ⟨rfl, hs', hk'⟩
theorem kNum_long (B q : Nat) (n : Int) (bs : List Bool) (w : World) (hn : (Lit.int .i64 n).wf = true) (hs : SinkIs w B q bs) (hl : 1048576 < bs.length + (2 * ahd (zigN n) + 1)) :
    Calls Try.prog 83 #[.pointer (some ⟨q, 0, none⟩), .int .i64 n] w fun e w' => e = .returned (.int .i64 3) ∧ w = w' := by
  have hw2 : -9223372036854775808 ≤ n ∧ n ≤ 9223372036854775807 := by simpa [Lit.wf, IntKind.min, IntKind.max, IntKind.signed, IntKind.bits] using hn
  have F := fold_any n w hn
  have C := kNat_long B q (zigN n) bs w (zigN_lt n hw2) hs hl
  clear hn hw2 hs hl
  go_enter Try.func83, Try.ntmps83
  go_wp2_with fail
  refine F.mono ?_
  rintro e w' ⟨rfl, rfl⟩
  go_wp2_with fail
  refine C.mono ?_
  rintro e w' ⟨rfl, rfl⟩
  go_wp2
  go_ret
  exact ⟨rfl, rfl⟩
end Go.Proofs.Ythjhbnfedelniaa
namespace Go.Proofs.Ythjhbnfedelniaa
open Go Go.RowKit

theorem own_shape_pos' {w : World} {base e size n : Nat} {v : Value} {xs : List Value} (h : w.ownsRow base e size v n xs) (hn : 0 < n) : ∃ g cap, v = .slice (some ⟨g, 0, none⟩) n cap := by
  rcases h.2 with ⟨_, h0⟩ | ⟨g, cap, cur, hv, _⟩
  · omega
  · exact ⟨g, cap, hv⟩
theorem flags_nat' {w : World} {B u : Nat} {v : Value} (h : Flags w B v (natBits u)) : ∃ g cap, v = .slice (some ⟨g, 0, none⟩) (2 * ahd u + 1) cap := by
  unfold Flags at h
  rw [natBits_length] at h
  exact own_shape h
theorem textBits_length (l : List UInt8) : (textBits l).length = 2 * ahd l.length + 1 + 8 * l.length := by
  unfold textBits
  rw [List.length_append, natBits_length]
  congr 1
  induction l with
  | nil => simp
  | cons c l ih => simp only [List.flatMap_cons, List.length_append, bitsOf_length, ih, List.length_cons]; omega
theorem flat_take_succ (l : List UInt8) (k : Nat) (h : k < l.length) : (l.take (k + 1)).flatMap (fun c => bitsOf c.toNat 8) = (l.take k).flatMap (fun c => bitsOf c.toNat 8) ++ bitsOf l[k].toNat 8 := by
  rw [List.take_succ_eq_append_getElem h, List.flatMap_append]
  simp
theorem flat_length (l : List UInt8) : (l.flatMap fun c => bitsOf c.toNat 8).length = 8 * l.length := by
  induction l with
  | nil => simp
  | cons c l ih => simp only [List.flatMap_cons, List.length_append, bitsOf_length, ih, List.length_cons]; omega

set_option maxRecDepth 100000 in
theorem kText_long (B q : Nat) (s : ByteArray) (bs : List Bool) (w : World) (hs : SinkIs w B q bs) (hbig : s.size ≤ 1048576) (hl : 1048576 < bs.length + (2 * ahd s.size + 1 + 8 * s.size)) :
    Calls Try.prog 70 #[.pointer (some ⟨q, 0, none⟩), .string s] w fun e w' => e = .returned (.int .i64 3) ∧ w = w' := by
  have hm := hs.made
  have hc := hs.count
  have hsl := hs.len
  clear hs
  by_cases h1 : 131072 < s.size
  · clear hl
    go_enter Try.func70, Try.ntmps70
    go_wp2_with (go_at_call 65; refine (isMade_any q _ hm).mono ?_; rintro e w' ⟨rfl, rfl⟩)
    go_ret
    exact ⟨rfl, rfl⟩
  · have C := Size_any s.size (by omega) w
    have ha := ahd_le s.size (by omega)
    obtain ⟨A, hA⟩ : ∃ A, A = ahd s.size := ⟨_, rfl⟩
    rw [← hA] at hl C ha
    clear hA
    have hd : decide (2 * (A : Int) + 1 + 8 * (s.size : Int) ≤ 1048576 - ((bs.length : Nat) : Int)) = false := by simp; omega
    go_enter Try.func70, Try.ntmps70
    go_wp2_with fail
    refine (isMade_any q _ hm).mono ?_
    rintro e w' ⟨rfl, rfl⟩
    go_wp2_with fail
    refine C.mono ?_
    rintro e w' ⟨rfl, rfl⟩
    go_wp2_with fail
    refine (hasRoom_any q _ _ _ (by omega) (by omega) hc).mono ?_
    rw [hd]
    rintro e w' ⟨rfl, rfl⟩
    go_wp2
    go_ret
    exact ⟨rfl, rfl⟩

set_option maxRecDepth 100000 in
set_option maxHeartbeats 800000 in
theorem kText_fits (B q : Nat) (s : ByteArray) (bs : List Bool) (w : World) (hs : SinkIs w B q bs) (hl : bs.length + (2 * ahd s.size + 1 + 8 * s.size) ≤ 1048576) :
    Calls Try.prog 70 #[.pointer (some ⟨q, 0, none⟩), .string s] w fun e w' => e = .returned (.int .i64 0) ∧ SinkIs w' B q (bs ++ textBits s.data.toList) ∧ Kept B sinkT w w' := by
  have hm := hs.made
  have hc := hs.count
  have hsl := hs.len
  have hsz : s.size ≤ 131072 := by omega
  have C := Size_any s.size (by omega) w
  have CN := kPutNat_any B q s.size bs w (by omega) hs (by omega)
  have ha := ahd_le s.size (by omega)
  have hnl := natBits_length s.size
  obtain ⟨A, hA⟩ : ∃ A, A = ahd s.size := ⟨_, rfl⟩
  rw [← hA] at hl C ha hnl
  clear hA hs
  have hdl : s.data.toList.length = s.size := Array.length_toList
  have HD := hide hdl; clear hdl
  have hd : decide (2 * (A : Int) + 1 + 8 * (s.size : Int) ≤ 1048576 - ((bs.length : Nat) : Int)) = true := by simp; omega
  go_enter Try.func70, Try.ntmps70
  go_wp2_with fail
  refine (isMade_any q _ hm).mono ?_
  rintro e w' ⟨rfl, rfl⟩
  go_wp2_with fail
  refine C.mono ?_
  rintro e w' ⟨rfl, rfl⟩
  go_wp2_with fail
  refine (hasRoom_any q _ _ _ (by omega) (by omega) hc).mono ?_
  rw [hd]
  rintro e w' ⟨rfl, rfl⟩
  go_wp2_with fail
  refine CN.mono ?_
  rintro e w1 ⟨rfl, hs1, k1⟩
  have HS1 := hide hs1; have HK1 := hide k1; have HNL := hide hnl
  clear hs1 k1 CN C hm hc hnl
  go_wp2_with fail
  go_loopw [32] (fun i wr => ∃ k : Nat, k ≤ s.size ∧ i = .int .i64 k ∧ SinkIs wr B q (bs ++ natBits s.size ++ (s.data.toList.take k).flatMap (fun c => bitsOf c.toNat 8)) ∧ Kept B sinkT w1 wr) (fun i _ => s.size - (intOf i).toNat)
  case atStart => exact ⟨0, Nat.zero_le _, rfl, by simpa using HS1.out, Kept.refl _ _ _⟩
  case round =>
    obtain ⟨k, hk, rfl, hsr, hkr⟩ := hrel
    have HSr := hide hsr; have HKr := hide hkr; clear hsr hkr
    by_cases hlt : k < s.size
    · have hft := flat_take_succ s.data.toList k (by rw [HD.out]; exact hlt)
      obtain ⟨c, hcc⟩ : ∃ c, c = s[k] := ⟨_, rfl⟩
      have hce : s.data.toList[k]'(by rw [HD.out]; exact hlt) = c := by rw [hcc]; rfl
      rw [hce] at hft
      have hc256 : c.toNat < 256 := UInt8.toNat_lt c
      have hlen2 : (bs ++ natBits s.size ++ (s.data.toList.take k).flatMap (fun c => bitsOf c.toNat 8)).length + 8 ≤ 1048576 := by
        rw [List.length_append, List.length_append, HNL.out, flat_length, List.length_take, HD.out]; omega
      have CP := kPut_any B q c.toNat 8 _ wr (by omega) (by omega) HSr.out hlen2
      have HF := hide hft
      have hcw : IntKind.u64.wrap ((s[k].toNat : Nat) : Int) = ((c.toNat : Nat) : Int) := by rw [← hcc, IntKind.wrap_u64]; omega
      clear hft hce hlen2 hcc
      go_wp2_with fail
      refine CP.mono ?_
      rintro e w2 ⟨rfl, hs2, k2⟩
      have HS2 := hide hs2; have HK2 := hide k2; clear hs2 k2
      go_wp2
      go_roundw
      case rel => exact ⟨k + 1, by omega, by go_num, by rw [HF.out, ← List.append_assoc]; exact HS2.out, HKr.out.trans HK2.out⟩
      case measure => simp [intOf]; omega
    · go_wp2
      go_ret
      obtain rfl : k = s.size := by omega
      refine ⟨rfl, ?_, HK1.out.trans HKr.out⟩
      have := HSr.out
      rw [List.take_of_length_le (by rw [HD.out]; omega)] at this
      unfold textBits
      rw [HD.out, ← List.append_assoc]
      exact this

end Go.Proofs.Ythjhbnfedelniaa
