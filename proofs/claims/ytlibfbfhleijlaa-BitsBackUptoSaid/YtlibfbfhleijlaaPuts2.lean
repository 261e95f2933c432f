/- Contracts: a sink takes a text, two flags; the document's own bits of a number, of a text. -/
import Derived.Test.YtlibfbfhleijlaaPuts1
import Derived.Test.YtlibfbfhleijlaaRnat
namespace Go.Proofs.Ytlibfbfhleijlaa
open Go Go.RowKit

theorem own_shape_pos' {w : World} {base e size n : Nat} {v : Value} {xs : List Value} (h : w.ownsRow base e size v n xs) (hn : 0 < n) : ∃ g cap, v = .slice (some ⟨g, 0, none⟩) n cap := by
  rcases h.2 with ⟨_, h0⟩ | ⟨g, cap, cur, hv, _⟩
  · omega
  · exact ⟨g, cap, hv⟩
theorem flags_nat' {w : World} {B u : Nat} {v : Value} (h : Flags w B v (natBits u)) : ∃ g cap, v = .slice (some ⟨g, 0, none⟩) (2 * ahd u + 1) cap := by
  unfold Flags at h
  rw [natBits_length] at h
  exact own_shape h
theorem textBits_length (l : List UInt8) : (textBits l).length = 2 * ahd l.length + 1 + 8 * l.length := by
  unfold textBits
  rw [List.length_append, natBits_length]
  congr 1
  induction l with
  | nil => simp
  | cons c l ih => simp only [List.flatMap_cons, List.length_append, bitsOf_length, ih, List.length_cons]; omega
theorem flat_take_succ (l : List UInt8) (k : Nat) (h : k < l.length) : (l.take (k + 1)).flatMap (fun c => bitsOf c.toNat 8) = (l.take k).flatMap (fun c => bitsOf c.toNat 8) ++ bitsOf l[k].toNat 8 := by
  rw [List.take_succ_eq_append_getElem h, List.flatMap_append]
  simp
theorem flat_length (l : List UInt8) : (l.flatMap fun c => bitsOf c.toNat 8).length = 8 * l.length := by
  induction l with
  | nil => simp
  | cons c l ih => simp only [List.flatMap_cons, List.length_append, bitsOf_length, ih, List.length_cons]; omega

set_option maxRecDepth 100000 in
theorem kText_long (B q : Nat) (s : ByteArray) (bs : List Bool) (w : World) (hs : SinkIs w B q bs) (hbig : s.size ≤ 1048576) (hl : 1048576 < bs.length + (2 * ahd s.size + 1 + 8 * s.size)) :
    Calls Try.prog 31 #[.pointer (some ⟨q, 0, none⟩), .string s] w fun e w' => e = .returned (.int .i64 3) ∧ w = w' := by
  have hm := hs.made
  have hc := hs.count
  have hsl := hs.len
  clear hs
  by_cases h1 : 131072 < s.size
  · clear hl
    go_enter Try.func31, Try.ntmps31
    go_wp2_with (go_at_call 38; refine (isMade_any q _ hm).mono ?_; rintro e w' ⟨rfl, rfl⟩)
    go_ret
    exact ⟨rfl, rfl⟩
  · have C := Size_any s.size (by omega) w
    have ha := ahd_le s.size (by omega)
    obtain ⟨A, hA⟩ : ∃ A, A = ahd s.size := ⟨_, rfl⟩
    rw [← hA] at hl C ha
    clear hA
    have hd : decide (2 * (A : Int) + 1 + 8 * (s.size : Int) ≤ 1048576 - ((bs.length : Nat) : Int)) = false := by simp; omega
    go_enter Try.func31, Try.ntmps31
    go_wp2_with fail
    refine (isMade_any q _ hm).mono ?_
    rintro e w' ⟨rfl, rfl⟩
    go_wp2_with fail
    refine C.mono ?_
    rintro e w' ⟨rfl, rfl⟩
    go_wp2_with fail
    refine (hasRoom_any q _ _ _ (by omega) (by omega) hc).mono ?_
    rw [hd]
    rintro e w' ⟨rfl, rfl⟩
    go_wp2
    go_ret
    exact ⟨rfl, rfl⟩

set_option maxRecDepth 100000 in
set_option maxHeartbeats 800000 in
theorem kText_fits (B q : Nat) (s : ByteArray) (bs : List Bool) (w : World) (hs : SinkIs w B q bs) (hl : bs.length + (2 * ahd s.size + 1 + 8 * s.size) ≤ 1048576) :
    Calls Try.prog 31 #[.pointer (some ⟨q, 0, none⟩), .string s] w fun e w' => e = .returned (.int .i64 0) ∧ SinkIs w' B q (bs ++ textBits s.data.toList) ∧ Kept B sinkT w w' := by
  have hm := hs.made
  have hc := hs.count
  have hsl := hs.len
  have hsz : s.size ≤ 131072 := by omega
  have C := Size_any s.size (by omega) w
  have CN := kPutNat_any B q s.size bs w (by omega) hs (by omega)
  have ha := ahd_le s.size (by omega)
  have hnl := natBits_length s.size
  obtain ⟨A, hA⟩ : ∃ A, A = ahd s.size := ⟨_, rfl⟩
  rw [← hA] at hl C ha hnl
  clear hA hs
  have hdl : s.data.toList.length = s.size := Array.length_toList
  have HD := hide hdl; clear hdl
  have hd : decide (2 * (A : Int) + 1 + 8 * (s.size : Int) ≤ 1048576 - ((bs.length : Nat) : Int)) = true := by simp; omega
  go_enter Try.func31, Try.ntmps31
  go_wp2_with fail
  refine (isMade_any q _ hm).mono ?_
  rintro e w' ⟨rfl, rfl⟩
  go_wp2_with fail
  refine C.mono ?_
  rintro e w' ⟨rfl, rfl⟩
  go_wp2_with fail
  refine (hasRoom_any q _ _ _ (by omega) (by omega) hc).mono ?_
  rw [hd]
  rintro e w' ⟨rfl, rfl⟩
  go_wp2_with fail
  refine CN.mono ?_
  rintro e w1 ⟨rfl, hs1, k1⟩
  have HS1 := hide hs1; have HK1 := hide k1; have HNL := hide hnl
  clear hs1 k1 CN C hm hc hnl
  go_wp2_with fail
  go_loopw [32] (fun i wr => ∃ k : Nat, k ≤ s.size ∧ i = .int .i64 k ∧ SinkIs wr B q (bs ++ natBits s.size ++ (s.data.toList.take k).flatMap (fun c => bitsOf c.toNat 8)) ∧ Kept B sinkT w1 wr) (fun i _ => s.size - (intOf i).toNat)
  case atStart => exact ⟨0, Nat.zero_le _, rfl, by simpa using HS1.out, Kept.refl _ _ _⟩
  case round =>
    obtain ⟨k, hk, rfl, hsr, hkr⟩ := hrel
    have HSr := hide hsr; have HKr := hide hkr; clear hsr hkr
    by_cases hlt : k < s.size
    · have hft := flat_take_succ s.data.toList k (by rw [HD.out]; exact hlt)
      obtain ⟨c, hcc⟩ : ∃ c, c = s[k] := ⟨_, rfl⟩
      have hce : s.data.toList[k]'(by rw [HD.out]; exact hlt) = c := by rw [hcc]; rfl
      rw [hce] at hft
      have hc256 : c.toNat < 256 := UInt8.toNat_lt c
      have hlen2 : (bs ++ natBits s.size ++ (s.data.toList.take k).flatMap (fun c => bitsOf c.toNat 8)).length + 8 ≤ 1048576 := by
        rw [List.length_append, List.length_append, HNL.out, flat_length, List.length_take, HD.out]; omega
      have CP := kPut_any B q c.toNat 8 _ wr (by omega) (by omega) HSr.out hlen2
      have HF := hide hft
      have hcw : IntKind.u64.wrap ((s[k].toNat : Nat) : Int) = ((c.toNat : Nat) : Int) := by rw [← hcc, IntKind.wrap_u64]; omega
      clear hft hce hlen2 hcc
      go_wp2_with fail
      refine CP.mono ?_
      rintro e w2 ⟨rfl, hs2, k2⟩
      have HS2 := hide hs2; have HK2 := hide k2; clear hs2 k2
      go_wp2
      go_roundw
      case rel => exact ⟨k + 1, by omega, by go_num, by rw [HF.out, ← List.append_assoc]; exact HS2.out, HKr.out.trans HK2.out⟩
      case measure => simp [intOf]; omega
    · go_wp2
      go_ret
      obtain rfl : k = s.size := by omega
      refine ⟨rfl, ?_, HK1.out.trans HKr.out⟩
      have := HSr.out
      rw [List.take_of_length_le (by rw [HD.out]; omega)] at this
      unfold textBits
      rw [HD.out, ← List.append_assoc]
      exact this

set_option maxRecDepth 100000 in
theorem kFlags_long (B q g : Nat) (bs : List Bool) (w : World) (hs : SinkIs w B q bs) (hl : 1048576 < bs.length + 2) :
    Calls Try.prog 32 #[.pointer (some ⟨q, 0, none⟩), .slice (some ⟨g, 0, none⟩) 2 2] w fun e w' => e = .returned (.int .i64 3) ∧ w = w' := by
  have hm := hs.made
  have hc := hs.count
  have hsl := hs.len
  have hd : decide ((2 : Int) ≤ 1048576 - ((bs.length : Nat) : Int)) = false := by simp; omega
  clear hs
  go_enter Try.func32, Try.ntmps32
  go_wp2_with fail
  refine (isMade_any q _ hm).mono ?_
  rintro e w' ⟨rfl, rfl⟩
  go_wp2_with fail
  refine (hasRoom_any q _ _ _ (by omega) (by omega) hc).mono ?_
  rw [hd]
  rintro e w' ⟨rfl, rfl⟩
  go_wp2
  go_ret
  exact ⟨rfl, rfl⟩

set_option maxRecDepth 100000 in
theorem kFlags_fits (B q g : Nat) (a b : Bool) (bs : List Bool) (w : World) (hs : SinkIs w B q bs) (hg : w.heap[g]? = some (.cells #[.bool a, .bool b] 4 (0, 0))) (hl : bs.length + 2 ≤ 1048576) :
    Calls Try.prog 32 #[.pointer (some ⟨q, 0, none⟩), .slice (some ⟨g, 0, none⟩) 2 2] w fun e w' => e = .returned (.int .i64 0) ∧ SinkIs w' B q (bs ++ [a, b]) ∧ Kept B sinkT w w' := by
  have hm := hs.made
  have hc := hs.count
  have hsl := hs.len
  have hd : decide ((2 : Int) ≤ 1048576 - ((bs.length : Nat) : Int)) = true := by simp; omega
  have b1 : bitsOf 1 1 = [true] := by decide +kernel
  have b0 : bitsOf 0 1 = [false] := by decide +kernel
  have P1 : ∀ (cs : List Bool) (w : World) (x : Bool), SinkIs w B q cs → cs.length + 1 ≤ 1048576 → x = true → Calls Try.prog 53 #[.pointer (some ⟨q, 0, none⟩), .int .u64 1, .int .i64 1] w fun e w' => e = .returned (.tuple #[]) ∧ SinkIs w' B q (cs ++ [x]) ∧ Kept B sinkT w w' := by
    intro cs w x h1 h2 h3
    subst h3
    have := kPut_any B q 1 1 cs w (by decide) (by decide) h1 h2
    rwa [b1] at this
  have P0 : ∀ (cs : List Bool) (w : World) (x : Bool), SinkIs w B q cs → cs.length + 1 ≤ 1048576 → x = false → Calls Try.prog 53 #[.pointer (some ⟨q, 0, none⟩), .int .u64 0, .int .i64 1] w fun e w' => e = .returned (.tuple #[]) ∧ SinkIs w' B q (cs ++ [x]) ∧ Kept B sinkT w w' := by
    intro cs w x h1 h2 h3
    subst h3
    have := kPut_any B q 0 1 cs w (by decide) (by decide) h1 h2
    rwa [b0] at this
  have HS := hide hs; have HG := hide hg
  clear hs hg b1 b0
  go_enter Try.func32, Try.ntmps32
  go_wp2_with fail
  refine (isMade_any q _ hm).mono ?_
  rintro e w' ⟨rfl, rfl⟩
  go_wp2_with fail
  refine (hasRoom_any q _ _ _ (by omega) (by omega) hc).mono ?_
  rw [hd]
  rintro e w' ⟨rfl, rfl⟩
  go_wp2_with fail
  go_loopw [17] (fun i wr => ∃ k : Nat, k ≤ 2 ∧ i = .int .i64 k ∧ SinkIs wr B q (bs ++ [a, b].take k) ∧ Kept B sinkT w wr) (fun i _ => 2 - (intOf i).toNat)
  case atStart => exact ⟨0, Nat.zero_le _, rfl, by simpa using HS.out, Kept.refl _ _ _⟩
  case round =>
    obtain ⟨k, hk, rfl, hsr, hkr⟩ := hrel
    have hgr := hkr.typed _ _ _ _ HG.out (by decide)
    have c0 : wr.cell? ⟨g, 0, none⟩ = some (.bool a) := by simp [World.cell?, hgr]
    have c1 : wr.cell? ⟨g, 1, none⟩ = some (.bool b) := by simp [World.cell?, hgr]
    have HKr := hide hkr; have HSr := hide hsr; clear hgr hkr hsr
    rcases (show k = 0 ∨ k = 1 ∨ k = 2 by omega) with rfl | rfl | rfl
    · cases a with
      | true =>
        have CP := P1 (bs ++ [true, b].take 0) wr true HSr.out (by simp; omega) rfl
        go_wp2_with fail
        refine CP.mono ?_
        rintro e w2 ⟨rfl, hs2, k2⟩
        have HS2 := hide hs2; have HK2 := hide k2; clear hs2 k2
        go_wp2
        go_roundw
        case rel => exact ⟨1, by omega, rfl, by simpa using HS2.out, HKr.out.trans HK2.out⟩
        case measure => simp [intOf]
      | false =>
        have CP := P0 (bs ++ [false, b].take 0) wr false HSr.out (by simp; omega) rfl
        go_wp2_with fail
        refine CP.mono ?_
        rintro e w2 ⟨rfl, hs2, k2⟩
        have HS2 := hide hs2; have HK2 := hide k2; clear hs2 k2
        go_wp2
        go_roundw
        case rel => exact ⟨1, by omega, rfl, by simpa using HS2.out, HKr.out.trans HK2.out⟩
        case measure => simp [intOf]
    · cases b with
      | true =>
        have CP := P1 (bs ++ [a, true].take 1) wr true HSr.out (by simp; omega) rfl
        go_wp2_with fail
        refine CP.mono ?_
        rintro e w2 ⟨rfl, hs2, k2⟩
        have HS2 := hide hs2; have HK2 := hide k2; clear hs2 k2
        go_wp2
        go_roundw
        case rel => exact ⟨2, by omega, rfl, by simpa using HS2.out, HKr.out.trans HK2.out⟩
        case measure => simp [intOf]
      | false =>
        have CP := P0 (bs ++ [a, false].take 1) wr false HSr.out (by simp; omega) rfl
        go_wp2_with fail
        refine CP.mono ?_
        rintro e w2 ⟨rfl, hs2, k2⟩
        have HS2 := hide hs2; have HK2 := hide k2; clear hs2 k2
        go_wp2
        go_roundw
        case rel => exact ⟨2, by omega, rfl, by simpa using HS2.out, HKr.out.trans HK2.out⟩
        case measure => simp [intOf]
    · go_wp2
      go_ret
      exact ⟨rfl, by simpa using HSr.out, HKr.out⟩
end Go.Proofs.Ytlibfbfhleijlaa
