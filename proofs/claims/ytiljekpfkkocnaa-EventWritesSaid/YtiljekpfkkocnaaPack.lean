/- Contract of Pack of the document's own answers. -/
import Derived.Test.YtiljekpfkkocnaaPuts2
import Derived.Test.YtiljekpfkkocnaaPackm
namespace Go.Proofs.Ytiljekpfkkocnaa
open Go Go.RowKit

set_option maxRecDepth 100000 in
theorem rZig_any (n : Int) (w : World) (hn : (Lit.int .i64 n).wf = true) :
    Calls Try.prog 106 #[.int .i64 n] w fun e w' => e = .returned (.int .u64 ((zigN n : Nat) : Int)) ∧ w = w' := by
  have hw2 : -9223372036854775808 ≤ n ∧ n ≤ 9223372036854775807 := by simpa [Lit.wf, IntKind.min, IntKind.max, IntKind.signed, IntKind.bits] using hn
  by_cases h : 0 ≤ n
  · have hz : ((zigN n : Nat) : Int) = n * 2 := by unfold zigN; rw [if_pos h]; omega
    rw [hz]
    clear hz hn
    go_enter Try.func106, Try.ntmps106
    go_wp2
    go_ret
    exact ⟨rfl, rfl⟩
  · have hz : ((zigN n : Nat) : Int) = -(n + 1) * 2 + 1 := by unfold zigN; rw [if_neg h]; omega
    rw [hz]
    clear hz hn
    go_enter Try.func106, Try.ntmps106
    go_wp2
    go_ret
    exact ⟨rfl, rfl⟩

theorem rNum_any (n : Int) (w : World) (hn : (Lit.int .i64 n).wf = true) :
    Calls Try.prog 77 #[.int .i64 n] w fun e w' => ∃ v, e = .returned v ∧ Flags w' w.heap.size v (natBits (zigN n)) ∧ Below w.heap.size w w' := by
  have hw2 : -9223372036854775808 ≤ n ∧ n ≤ 9223372036854775807 := by simpa [Lit.wf, IntKind.min, IntKind.max, IntKind.signed, IntKind.bits] using hn
  have Z := rZig_any n w hn
  have C := rNat_any (zigN n) w (zigN_lt n hw2)
  clear hn hw2
  go_enter Try.func77, Try.ntmps77
  go_wp2_with fail
  refine Z.mono ?_
  rintro e w' ⟨rfl, rfl⟩
  go_wp2_with fail
  refine C.mono ?_
  rintro e w' ⟨v, rfl, hf, hb⟩
  obtain ⟨g, cp, rfl⟩ := flags_nat' hf
  go_wp2
  go_ret
  exact ⟨_, rfl, hf, hb⟩

set_option maxRecDepth 100000 in
set_option maxHeartbeats 800000 in
theorem rText_any (s : ByteArray) (w : World) (hbig : s.size ≤ 1048576) :
    Calls Try.prog 76 #[.string s] w fun e w' => ∃ v, e = .returned v ∧ Flags w' w.heap.size v (textBits s.data.toList) ∧ Below w.heap.size w w' := by
  obtain ⟨i0, hi, hz0, hz1, hz2⟩ := info_parts Try.info4
  have C := rNat_any s.size w (by omega)
  have hdl : s.data.toList.length = s.size := Array.length_toList
  have HD := hide hdl; clear hdl
  have ha := ahd_le s.size (by omega)
  obtain ⟨H0, hH0⟩ : ∃ H0, H0 = w.heap.size := ⟨_, rfl⟩
  rw [← hH0] at C ⊢
  have HH := hide hH0; clear hH0
  go_enter Try.func76, Try.ntmps76
  go_wp2_with fail
  refine C.mono ?_
  clear C
  rintro e w1 ⟨v, rfl, hf, hb⟩
  obtain ⟨g, cp, rfl⟩ := flags_nat' hf
  have HF := hide hf; have HB := hide hb; clear hf hb
  obtain ⟨A, hA⟩ : ∃ A, A = ahd s.size := ⟨_, rfl⟩
  rw [← hA] at ha
  have HA := hide hA
  rw [← hA]
  clear hA
  go_wp2_with fail
  go_loopw [3, 4] (fun v i wr => ∃ k : Nat, k ≤ s.size ∧ i = .int .i64 k ∧ wr.ownsRow H0 4 1 v (2 * A + 1 + 8 * k) (boolVs (natBits s.size ++ (s.data.toList.take k).flatMap (fun c => bitsOf c.toNat 8))) ∧ Below H0 w wr) (fun _ i _ => s.size - (intOf i).toNat)
  case atStart =>
    refine ⟨0, Nat.zero_le _, rfl, ?_, HB.out⟩
    have := HF.out
    unfold Flags at this
    rw [natBits_length, ← HA.out] at this
    simpa using this
  case round =>
    obtain ⟨k, hk, rfl, hown, hbe⟩ := hrel
    have HO := hide hown; have HBe := hide hbe; clear hown hbe
    by_cases hlt : k < s.size
    · obtain ⟨g3, c3, rfl⟩ := own_shape_pos' HO.out (by omega)
      have hft := flat_take_succ s.data.toList k (by rw [HD.out]; exact hlt)
      obtain ⟨c, hcc⟩ : ∃ c, c = s[k] := ⟨_, rfl⟩
      have hce : s.data.toList[k]'(by rw [HD.out]; exact hlt) = c := by rw [hcc]; rfl
      rw [hce] at hft
      have hc256 : c.toNat < 256 := UInt8.toNat_lt c
      have CL := rLow_any c.toNat 8 wr (by omega) (by omega)
      have hH0r : H0 ≤ wr.heap.size := by have := HBe.out.size; rw [HH.out]; exact this
      have HFt := hide hft
      have hcw : IntKind.u64.wrap ((s[k].toNat : Nat) : Int) = ((c.toNat : Nat) : Int) := by rw [← hcc, IntKind.wrap_u64]; omega
      clear hft hce hcc
      go_wp2_with (first | (go_at_call 24; refine CL.mono ?_; rintro e w2 ⟨v2, rfl, hf2, hb2⟩; obtain ⟨g2, c2, rfl⟩ := flags_shape (n := 7) hf2; have HF2 := hide hf2; have HB2 := hide hb2; have HO2 := hide (ownsRow_below HO.out hb2 (Nat.le_refl _)); clear hf2 hb2) | (at_builtin; refine wpList_append_own _ rfl (.tmp 15) (.tmp 20) 41 rfl H0 4 i0 (.bool false) 1 1 Try.underlying41 hi hz0 hz1 hz2 rfl (by decide) _ (2 * A + 1 + 8 * k) _ rfl HO2.out ⟨g2, 0, none⟩ 8 c2 (boolVs (bitsOf c.toNat 8)) rfl (by rw [boolVs_length, bitsOf_length]) (HF2.out.cells (g := g2) rfl) (boolVs_one _) (by unfold maxLen; omega) (by omega) (by have := HB2.out.size; omega) ?_; intro v3 w3 hown3 hgrow3 hnil3; clear hnil3; have HO3 := hide hown3; have HG3 := hide hgrow3; clear hown3 hgrow3))
      go_roundw
      case rel =>
        refine ⟨k + 1, by omega, by go_num, ?_, (HBe.out.trans (HB2.out.mono hH0r)).grown HG3.out (by have := HB2.out.size; omega) (fun j hj => (HO2.out.lt j hj).1)⟩
        rw [HFt.out, ← List.append_assoc, boolVs_append, show 2 * A + 1 + 8 * (k + 1) = 2 * A + 1 + 8 * k + 8 by omega]
        exact HO3.out
      case measure => simp [intOf]; omega
    · go_wp2
      go_ret
      obtain rfl : k = s.size := by omega
      refine ⟨_, rfl, ?_, HBe.out⟩
      have := HO.out
      rw [List.take_of_length_le (by rw [HD.out]; omega)] at this
      unfold Flags
      rw [textBits_length, HD.out, ← HA.out]
      unfold textBits
      rw [HD.out]
      exact this
end Go.Proofs.Ytiljekpfkkocnaa
namespace Go.Proofs.Ytiljekpfkkocnaa
open Go Go.RowKit

theorem made_bytes' (w : World) (k : Nat) (hk : k ≤ 140737488355328) : (w.alloc (.cells (madeCells #[.int .u8 0] k) 5)).ownsRow w.heap.size 5 1 (.slice (some ⟨w.heap.size, 0, none⟩) k k) k (byteVs (List.replicate k 0)) := by
  have e' : (madeCells #[.int .u8 0] k).toList = byteVs (List.replicate k 0) := by rw [toList_madeCells_one]; simp [byteVs]
  have hs : (madeCells #[Value.int .u8 0] k).size = k := by rw [size_madeCells]
  refine ⟨by simp [byteVs_length], .inr ⟨w.heap.size, k, _, rfl, Nat.le_refl _, heap_alloc_new _ _, Nat.le_refl _, by unfold maxLen; omega, by rw [hs]; omega, ?_⟩⟩
  rw [Nat.mul_one, List.take_of_length_le (by rw [Array.length_toList, hs]; omega)]
  exact e'
theorem shr_128 (k : Nat) (hk : k < 8) : (128 : Int) / 2 ^ k = ((2 ^ (7 - k) : Nat) : Int) := by
  have h : ∀ k : Fin 8, (128 : Int) / 2 ^ k.val = ((2 ^ (7 - k.val) : Nat) : Int) := by decide
  exact h ⟨k, hk⟩

set_option maxRecDepth 100000 in
set_option maxHeartbeats 1600000 in
theorem rPack_some (g cap : Nat) (l : List Bool) (w : World) (hbig : l.length ≤ 1048576) (hgw : g < w.heap.size) (hc : ∀ j, j < l.length → w.cell? ⟨g, j, none⟩ = some (.bool (l.getD j false))) :
    Calls Try.prog 29 #[.slice (some ⟨g, 0, none⟩) l.length cap] w fun e w' => ∃ v, e = .returned v ∧ w'.ownsRow w.heap.size 5 1 v (packed l).length (byteVs (packed l)) ∧ Below w.heap.size w w' := by
  obtain ⟨N, hN⟩ : ∃ N, N = l.length := ⟨_, rfl⟩
  rw [← hN] at hbig ⊢
  have HN := hide hN; clear hN
  have HC := hide hc; clear hc
  obtain ⟨n, hn⟩ : ∃ n, n = (N + 7) / 8 := ⟨_, rfl⟩
  have hni : ((N : Int) + 7) / 8 = (n : Int) := by omega
  have hn2 : n ≤ 131073 := by omega
  have hn3 : N ≤ 8 * n := by omega
  have hmk := run_make_row' (P := Try.prog) 33 5 (.int .u8 0) 1 Try.underlying33 Try.info5 rfl .i64 .i64 n (by omega) (by omega)
  have HP : Hid (packed l = packN l n) := by rw [packed_packN, ← HN.out, ← hn]; rfl
  obtain ⟨H0, hH0⟩ : ∃ H0, H0 = w.heap.size := ⟨_, rfl⟩
  rw [← hH0] at hgw
  have HH := hide hH0
  clear hn
  go_enter Try.func29, Try.ntmps29
  go_wp2_with fail
  rw [← hH0]
  clear hH0 hmk
  go_loopw [4] (fun i wr => ∃ k : Nat, k ≤ N ∧ i = .int .i64 k ∧ wr.ownsRow H0 5 1 (.slice (some ⟨H0, 0, none⟩) n n) n (byteVs (packN (l.take k) n)) ∧ Below H0 w wr) (fun i _ => N - (intOf i).toNat)
  case atStart =>
    refine ⟨0, Nat.zero_le _, rfl, ?_, (Below.refl _ _).alloc (by rw [HH.out]; exact Nat.le_refl _) _⟩
    rw [List.take_zero, packN_zero, HH.out]
    exact made_bytes' w n (by omega)
  case round =>
    obtain ⟨k, hk, rfl, hown, hbe⟩ := hrel
    have HO := hide hown; have HBe := hide hbe
    by_cases hlt : k < N
    · have hcell := (hbe.cell (p := ⟨g, k, none⟩) hgw).trans (HC.out k (by rw [← HN.out]; exact hlt))
      clear hown hbe
      have htl : (l.take k).length = k := by rw [List.length_take, ← HN.out]; omega
      have hts : l.take (k + 1) = l.take k ++ [l.getD k false] := by
        have hk' : k < l.length := by rw [← HN.out]; exact hlt
        rw [List.take_succ_eq_append_getElem hk']; simp [List.getD, hk']
      have HTS := hide hts
      have hidx : k / 8 < n := by omega
      have hset := packN_set (l.take k) (l.getD k false) n (by rw [htl]; omega)
      rw [htl] at hset
      have HSet := hide hset
      have hcl := HO.out.cells (g := H0) rfl (k / 8) (.int .u8 ((packByte (l.take k) (k / 8) : Nat) : Int)) (by simp [byteVs, packN, hidx])
      rw [add_off] at hcl
      have hpl := packByte_lt (l.take (k + 1)) (k / 8)
      have hpt := packByte_this (l.take k) (l.getD k false)
      rw [htl, ← hts] at hpt
      have hfr : wr.frozen? ⟨H0, k / 8, none⟩ = false := by
        rcases HO.out.2 with ⟨h, _⟩ | ⟨g', cap, cur, h, _, hgg, _⟩
        · cases h
        · simp only [Value.slice.injEq, Option.some.injEq, Addr.mk.injEq, and_true, true_and] at h
          obtain ⟨rfl, _⟩ := h
          simp [World.frozen?, hgg]
      obtain ⟨x, hx⟩ : ∃ x, x = packByte (l.take k) (k / 8) := ⟨_, rfl⟩
      rw [← hx] at hcl hpt hset
      have es := shr_128 (k % 8) (by omega)
      obtain ⟨y, hy⟩ : ∃ y : Nat, y = 2 ^ (7 - k % 8) := ⟨_, rfl⟩
      rw [← hy] at es hpt hset
      have HX := hide hx; have HY := hide hy
      clear hx hy htl hts
      cases hb : l.getD k false with
      | true =>
        rw [hb] at hcell hpt
        have hxy : x + y ≤ 255 := by simp at hpt; omega
        have HB := hide hb
        clear hb hpt hpl hset
        have hxw : IntKind.u8.wrap ((x : Int) + (y : Int)) = (x : Int) + (y : Int) := by rw [IntKind.wrap_u8]; omega
        go_wp2_with fail
        go_region
        all_goals go_wp2
        all_goals go_roundw
        all_goals try (case' measure => simp [intOf]; omega)
        all_goals
          have h1 := HSet.out
          rw [HB.out, ← HX.out, ← HY.out] at h1
          have h2 := (HO.out.stored (k / 8) (.int .u8 ((x : Int) + (y : Int)))).1
          have exy : ((x : Int) + (y : Int)) = ((x + (true).toNat * y : Nat) : Int) := by simp
          rw [exy, h1, ← exy] at h2
          refine ⟨k + 1, by omega, by go_num, ?_, (HBe.out.setCell (p := ⟨H0, k / 8, none⟩) (Nat.le_refl _) _).drew⟩
          rw [HTS.out, HB.out]
          exact h2
      | false =>
        rw [hb] at hcell
        have HB := hide hb
        clear hb hpt hpl hset
        go_wp2
        go_roundw
        case rel =>
          refine ⟨k + 1, by omega, by go_num, ?_, HBe.out⟩
          have h1 := HSet.out
          rw [HB.out] at h1
          have h2 := (HO.out.stored (k / 8) (.int .u8 ((packByte (l.take k) (k / 8) : Nat) : Int))).1
          simp only [Bool.toNat_false, Nat.zero_mul, Nat.add_zero] at h1
          rw [HTS.out, HB.out, ← h1]
          have h3 : (byteVs (packN (l.take k) n)).set (k / 8) (.int .u8 ((packByte (l.take k) (k / 8) : Nat) : Int)) = byteVs (packN (l.take k) n) := by
            apply List.ext_getElem
            · simp
            · intro i g1 g2
              rw [List.getElem_set]
              split
              · rename_i he; subst he; simp [byteVs, packN]
              · rfl
          rw [h3]; exact HO.out
        case measure => simp [intOf]; omega
    · go_wp2
      go_ret
      obtain rfl : k = N := by omega
      rw [← HH.out]
      refine ⟨_, rfl, ?_, HBe.out⟩
      have := HO.out
      rw [List.take_of_length_le (by rw [← HN.out]; omega)] at this
      rw [HP.out, packN_length]
      exact this

theorem rPack_nil (ao : Option Addr) (cap : Nat) (w : World) :
    Calls Try.prog 29 #[.slice ao 0 cap] w fun e w' => ∃ v, e = .returned v ∧ w'.ownsRow w.heap.size 5 1 v (packed []).length (byteVs (packed [])) ∧ Below w.heap.size w w' := by
  have hmk : ∀ w : World, (Instr.makeSlice 33 (.int .i64 0) (.int .i64 0)).run Try.prog w = .ok (.slice (some ⟨w.heap.size, 0, none⟩) 0 0) (w.alloc (.cells (madeCells #[.int .u8 0] 0) 5)) := run_make_row' (P := Try.prog) 33 5 (.int .u8 0) 1 Try.underlying33 Try.info5 rfl .i64 .i64 0 (by omega) (by omega)
  go_enter Try.func29, Try.ntmps29
  go_wp2
  refine wp_loop_rounds 1 ?_
  rw [rounds_succ]
  go_wp2
  go_ret
  exact ⟨_, rfl, made_bytes' w 0 (by omega), (Below.refl _ _).alloc (Nat.le_refl _) _⟩
theorem rPack_any (v : Value) (B : Nat) (l : List Bool) (w : World) (hbig : l.length ≤ 1048576) (h : Flags w B v l) :
    Calls Try.prog 29 #[v] w fun e w' => ∃ v, e = .returned v ∧ w'.ownsRow w.heap.size 5 1 v (packed l).length (byteVs (packed l)) ∧ Below w.heap.size w w' := by
  rcases h.2 with ⟨hv, hn0⟩ | ⟨g, cap, cur, hv, hg, hgg, hgn, hcapm, hcsz, htake⟩
  · obtain rfl : l = [] := List.length_eq_zero_iff.1 hn0
    rw [hv]; exact rPack_nil none 0 w
  · subst hv
    refine rPack_some g cap l w hbig (lt_of_block hgg) (fun j hj => ?_)
    have := World.ownsRow.cells h (g := g) rfl j (.bool (l.getD j false)) (by simp [boolVs, hj])
    rwa [add_off] at this
end Go.Proofs.Ytiljekpfkkocnaa
