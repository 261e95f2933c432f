/- Contracts: the program's Sum, and the document's. -/
import Derived.Test.YtebojmjbolphfaaSum
import Derived.Test.YtebojmjbolphfaaBv
namespace Go.Proofs.Ytebojmjbolphfaa
open Go Go.RowKit Crc

/-- In w the block g holds slices that read as the given lists of bytes. -/
def ListsAt (w : World) (g : Nat) (L : List (Value × List Nat)) : Prop := ∀ j (h : j < L.length), w.cell? ⟨g, j, none⟩ = some L[j].1 ∧ ∃ B, Bv w B L[j].1 L[j].2

theorem flat2_succ (L : List (Value × List Nat)) (k : Nat) (h : k < L.length) : (L.take (k + 1)).flatMap (·.2) = (L.take k).flatMap (·.2) ++ L[k].2 := by
  rw [List.take_succ_eq_append_getElem h, List.flatMap_append]; simp
theorem onBytes_take (s : BitVec 32) (l : List Nat) (j : Nat) (h : j < l.length) : onBytes s (l.take (j + 1)) = onByte (onBytes s (l.take j)) (l.getD j 0) := by
  rw [List.take_succ_eq_append_getElem h, onBytes_snoc]; simp [List.getD, h]

set_option maxRecDepth 100000 in
set_option maxHeartbeats 800000 in
theorem sum_any (g cap : Nat) (L : List (Value × List Nat)) (w : World) (hL : ListsAt w g L) (hlen : L.length ≤ 1048576) :
    Calls Try.prog 20 #[.slice (some ⟨g, 0, none⟩) L.length cap] w fun e w' => e = .returned (.int .u32 ((sumN (L.flatMap (·.2)) : Nat) : Int)) ∧ w = w' := by
  have HLs := hide hL; clear hL
  obtain ⟨N, hN⟩ : ∃ N, N = L.length := ⟨_, rfl⟩
  rw [← hN] at hlen ⊢
  have HN := hide hN; clear hN
  go_enter Try.func20, Try.ntmps20
  go_wp2
  go_loop [3, 10] (fun v i => ∃ k : Nat, k ≤ N ∧ i = .int .i64 k ∧ v = .int .u32 ((onBytes 0xFFFFFFFF#32 ((L.take k).flatMap (·.2))).toNat : Int)) (fun _ i => N - (intOf i).toNat)
  case atStart => exact ⟨0, Nat.zero_le _, rfl, rfl⟩
  case round =>
    obtain ⟨k, hk, rfl, rfl⟩ := hrel
    by_cases hlt : k < N
    · have hk' : k < L.length := by rw [← HN.out]; exact hlt
      obtain ⟨hc, B, hb⟩ := HLs.out k hk'
      have HT := hide (flat2_succ L k hk')
      obtain ⟨bytes, hbytes⟩ : ∃ bytes, bytes = L[k].2 := ⟨_, rfl⟩
      rw [← hbytes] at hb
      have HBy := hide hbytes; clear hbytes
      obtain ⟨ao, cap1, h1, h2, h2', h2n, h3⟩ := hb.row
      rw [h1] at hc
      have HSm := hide hb.small; have HLn := hb.len; have HR := hide h3
      clear h1 hb h3 h2 h2' h2n
      obtain ⟨n, hn⟩ : ∃ n, n = bytes.length := ⟨_, rfl⟩
      rw [← hn] at hc HLn
      have Hn := hide hn; clear hn
      obtain ⟨s0, hs0⟩ : ∃ s0, s0 = onBytes 0xFFFFFFFF#32 ((L.take k).flatMap (·.2)) := ⟨_, rfl⟩
      rw [← hs0]
      have HS0 := hide hs0; clear hs0
      go_wp2
      go_loop [3, 16] (fun v i => ∃ j : Nat, j ≤ n ∧ i = .int .i64 j ∧ v = .int .u32 ((onBytes s0 (bytes.take j)).toNat : Int)) (fun _ i => n - (intOf i).toNat)
      case atStart => exact ⟨0, Nat.zero_le _, rfl, rfl⟩
      case round =>
        obtain ⟨j, hj, rfl, rfl⟩ := hrel
        by_cases hltj : j < n
        · have hj' : j < bytes.length := by rw [← Hn.out]; exact hltj
          obtain ⟨b, o, rfl, _, hcell⟩ := HR.out (by omega)
          have hcj := hcell j hj'
          have hsm : bytes.getD j 0 < 256 := by
            rw [List.getD, List.getElem?_eq_getElem hj']; exact HSm.out _ (List.getElem_mem _)
          have HO := hide (onBytes_take s0 bytes j hj')
          obtain ⟨c, hcc⟩ : ∃ c, c = bytes.getD j 0 := ⟨_, rfl⟩
          rw [← hcc] at hcj hsm
          have HC := hide hcc; clear hcc hcell hj'
          obtain ⟨t, ht⟩ : ∃ t, t = onBytes s0 (bytes.take j) := ⟨_, rfl⟩
          rw [← ht]
          have HTt := hide ht; clear ht
          go_wp2_with (go_at_call 36; refine (sumOn_any t c _ hsm).mono ?_; rintro e w' ⟨rfl, rfl⟩)
          go_round
          case rel => exact ⟨j + 1, by omega, by go_num, by rw [HO.out, ← HTt.out, ← HC.out]⟩
          case measure => simp [intOf]; omega
        · go_wp2
          go_round
          case rel =>
            obtain rfl : j = n := by omega
            refine ⟨k + 1, by omega, by go_num, ?_⟩
            rw [HT.out, onBytes_append, ← HS0.out, ← HBy.out, List.take_of_length_le (by rw [← Hn.out]; omega)]
          case measure => simp [intOf]; omega
    · have HX := hide (xor_all (onBytes 0xFFFFFFFF#32 ((L.take k).flatMap (·.2))))
      obtain ⟨t, ht⟩ : ∃ t : Int, t = ((onBytes 0xFFFFFFFF#32 ((L.take k).flatMap (·.2))).toNat : Int) := ⟨_, rfl⟩
      rw [← ht]
      have HTt := hide ht; clear ht
      go_wp2
      go_ret
      obtain rfl : k = N := by omega
      refine ⟨?_, rfl⟩
      show Ending.returned (Value.int .u32 (bits BinOp.xor IntKind.u32 IntKind.u32.max t)) = _
      rw [HTt.out, HX.out, List.take_of_length_le (by rw [← HN.out]; omega)]
      rfl

set_option maxRecDepth 100000 in
set_option maxHeartbeats 800000 in
theorem r2Sum_any (B : Nat) (v : Value) (bytes : List Nat) (w : World) (hb : Bv w B v bytes) :
    Calls Try.prog 21 #[v] w fun e w' => e = .returned (.int .u32 ((sumN bytes : Nat) : Int)) ∧ w = w' := by
  obtain ⟨ao, cap1, rfl, h2, h2', h2n, h3⟩ := hb.row
  have HSm := hide hb.small; have HLn := hb.len; have HR := hide h3
  clear hb h3 h2 h2' h2n
  obtain ⟨n, hn⟩ : ∃ n, n = bytes.length := ⟨_, rfl⟩
  rw [← hn] at HLn ⊢
  have Hn := hide hn; clear hn
  go_enter Try.func21, Try.ntmps21
  go_wp2
  go_loop [3, 4] (fun v i => ∃ j : Nat, j ≤ n ∧ i = .int .i64 j ∧ v = .int .u32 ((onBytes 0xFFFFFFFF#32 (bytes.take j)).toNat : Int)) (fun _ i => n - (intOf i).toNat)
  case atStart => exact ⟨0, Nat.zero_le _, rfl, rfl⟩
  case round =>
    obtain ⟨j, hj, rfl, rfl⟩ := hrel
    by_cases hltj : j < n
    · have hj' : j < bytes.length := by rw [← Hn.out]; exact hltj
      obtain ⟨b, o, rfl, _, hcell⟩ := HR.out (by omega)
      have hcj := hcell j hj'
      have hsm : bytes.getD j 0 < 256 := by
        rw [List.getD, List.getElem?_eq_getElem hj']; exact HSm.out _ (List.getElem_mem _)
      have HO := hide (onBytes_take 0xFFFFFFFF#32 bytes j hj')
      obtain ⟨c, hcc⟩ : ∃ c, c = bytes.getD j 0 := ⟨_, rfl⟩
      rw [← hcc] at hcj hsm
      have HC := hide hcc; clear hcc hcell hj'
      obtain ⟨s, hs⟩ : ∃ s, s = onBytes 0xFFFFFFFF#32 (bytes.take j) := ⟨_, rfl⟩
      rw [← hs]
      have HSs := hide hs; clear hs
      have e1 := xor_byte s c hsm
      have hs0 := s.isLt
      obtain ⟨s0, hs0'⟩ : ∃ s0, s0 = s ^^^ BitVec.ofNat 32 (c * 16777216) := ⟨_, rfl⟩
      rw [← hs0'] at e1
      have HS := hide hs0'; clear hs0'
      obtain ⟨S, hS⟩ : ∃ S : Int, S = (s.toNat : Int) := ⟨_, rfl⟩
      rw [← hS] at e1 ⊢
      have hS1 : 0 ≤ S := by omega
      have hS2 : S ≤ 4294967295 := by omega
      clear hs0 hS
      go_wp2
      clear e1
      go_loop [3, 5] (fun v i => ∃ k : Nat, k ≤ 8 ∧ i = .int .i64 k ∧ v = .int .u32 ((steps k s0).toNat : Int)) (fun _ i => 8 - (intOf i).toNat)
      case atStart => exact ⟨0, Nat.zero_le _, rfl, rfl⟩
      case round =>
        obtain ⟨k, hk, rfl, rfl⟩ := hrel
        by_cases hlt : k < 8
        · have HT := hide (steps_succ k s0)
          obtain ⟨t, ht⟩ : ∃ t, t = steps k s0 := ⟨_, rfl⟩
          rw [← ht]
          have hti := t.isLt
          have es := shl_one t
          have hmi := msb_iff t
          obtain ⟨T, hT⟩ : ∃ T : Int, T = (t.toNat : Int) := ⟨_, rfl⟩
          have hT0 : 0 ≤ T := by omega
          have hT1 : T ≤ 4294967295 := by omega
          cases hm : t.msb with
          | true =>
            rw [hm] at hmi
            have hge : 2147483648 ≤ T := by have := of_decide_eq_true hmi.symm; omega
            have ep := xor_poly (t <<< 1)
            rw [← step_true t hm, ht, ← HT.out, ← ht, ← es] at ep
            rw [← hT] at ep ⊢
            have HP := hide ep
            clear hT ht hm hti es ep hmi
            go_wp2
            go_round
            case rel => exact ⟨k + 1, by omega, by go_num, congrArg (Value.int .u32) HP.out⟩
            case measure => simp [intOf]; omega
          | false =>
            rw [hm] at hmi
            have hge : ¬ 2147483648 ≤ T := by have := of_decide_eq_false hmi.symm; omega
            rw [← step_false t hm, ht, ← HT.out, ← ht] at es
            rw [← hT] at es ⊢
            have es' : T * 2 = ((steps (k + 1) s0).toNat : Int) := by omega
            have HP := hide es'
            clear hT ht hm hti es es' hmi
            go_wp2
            go_round
            case rel => exact ⟨k + 1, by omega, by go_num, congrArg (Value.int .u32) HP.out⟩
            case measure => simp [intOf]; omega
        · go_wp2
          go_round
          case rel =>
            obtain rfl : k = 8 := by omega
            exact ⟨j + 1, by omega, by go_num, by rw [HO.out, ← HSs.out, ← HC.out, HS.out]; rfl⟩
          case measure => simp [intOf]; omega
    · have HX := hide (xor_all (onBytes 0xFFFFFFFF#32 (bytes.take j)))
      obtain ⟨t, ht⟩ : ∃ t : Int, t = ((onBytes 0xFFFFFFFF#32 (bytes.take j)).toNat : Int) := ⟨_, rfl⟩
      rw [← ht]
      have HTt := hide ht; clear ht
      go_wp2
      go_ret
      obtain rfl : j = n := by omega
      refine ⟨?_, rfl⟩
      show Ending.returned (Value.int .u32 (bits BinOp.xor IntKind.u32 IntKind.u32.max t)) = _
      rw [HTt.out, HX.out, List.take_of_length_le (by rw [← Hn.out]; omega)]
      rfl
end Go.Proofs.Ytebojmjbolphfaa
