/- Contract: begun answers true: an ack is written and read, and the sum of the example is right. -/
import Derived.Test.YtebojmjbolphfaaDec2
import Derived.Test.YtebojmjbolphfaaFsz
import Derived.Lib.SmallJoins
namespace Go.Proofs.Ytebojmjbolphfaa
open Go Go.RowKit Crc

def ackN : List Nat := formN 0 1 2 0 0 []
theorem ack_len : ackN.length = 6 := by decide +kernel
theorem ack_0 : ackN.getD 0 0 = 128 := by decide +kernel
theorem ack_1 : ackN.getD 1 0 = 96 := by decide +kernel
theorem ack_err : decErr ackN = 0 := by decide +kernel
theorem ack_t : decT ackN = 1 := by decide +kernel
theorem ack_small : ∀ c ∈ ackN, c < 256 := by decide +kernel
theorem sum_ex : sumN [49, 50, 51, 52, 53, 54, 55, 56, 57] = 4236843288 := by decide +kernel
theorem ack_ck : ckB (0 : Nat) (1 : Nat) (2 : Nat) (0 : Nat) (0 : Nat) 0 = true := by decide

theorem cell_alloc_two (w : World) (n : Nat) (hn : n = w.heap.size) (a b : Value) (t : Nat) (j : Nat) {v : Value} (hv : [a, b][j]? = some v) : (w.alloc (.cells #[a, b] t)).cell? ⟨n, j, none⟩ = some v := by
  subst hn
  obtain ⟨h0, h1⟩ := cell_of_two (heap_alloc_new w (.cells #[a, b] t))
  match j, hv with
  | 0, hv => simp at hv; rw [h0, hv]
  | 1, hv => simp at hv; rw [h1, hv]
  | k + 2, hv => simp at hv

set_option maxRecDepth 100000 in
set_option maxHeartbeats 1600000 in
theorem begun_any (w : World) : Calls Try.prog 10 #[] w fun e w' => e = .returned (.bool true) ∧ Below w.heap.size w w' := by
  have CE := fEncode_ok 0 1 2 0 0 none 0 0 0 [] w (Bv.nil _ _) (Nat.zero_le _) ack_ck (by decide) (by decide) (by decide) (by decide) (by decide) (by decide)
  rw [show formN 0 1 2 0 0 [] = ackN from rfl, ack_len] at CE
  obtain ⟨H0, hH0⟩ : ∃ H0, H0 = w.heap.size := ⟨_, rfl⟩
  rw [← hH0] at CE ⊢
  have HH := hide hH0
  clear hH0
  go_enter Try.func10, Try.ntmps10
  go_wp2_with fail
  refine CE.mono ?_
  clear CE
  rintro e w1 ⟨v, rfl, ho, hb⟩
  obtain ⟨ao, cap, rfl⟩ := own_slice ho
  have hl := ack_len
  rw [← hl] at ho
  have hv := Bv.of_own ho ack_small (by rw [ack_len]; decide)
  rw [hl] at ho hv
  have CD := fDecode_any _ _ ackN w1 hv (Nat.le_refl _)
  have HV := hide hv; have HB := hide hb; have HO := hide ho
  clear ho hb hl hv
  go_wp2_with fail
  refine CD.mono ?_
  clear CD
  rintro e w2 ⟨v2, rfl, ho2, hb2⟩
  obtain ⟨ao2, cap2, rfl⟩ := own_slice ho2
  rw [ack_err, ack_t]
  obtain ⟨vf, hvf⟩ : ∃ vf, vf = decF ackN := ⟨_, rfl⟩
  obtain ⟨vk, hvk⟩ : ∃ vk, vk = decK ackN := ⟨_, rfl⟩
  obtain ⟨vs, hvs⟩ : ∃ vs, vs = decS ackN := ⟨_, rfl⟩
  obtain ⟨va, hva⟩ : ∃ va, va = decA ackN := ⟨_, rfl⟩
  obtain ⟨nx, hnx⟩ : ∃ nx, nx = (decX ackN).length := ⟨_, rfl⟩
  rw [← hvf, ← hvk, ← hvs, ← hva, ← hnx]
  have hv2 := HV.out.below hb2 (Nat.le_refl _)
  have h02 : H0 ≤ w1.heap.size := HB.out.size |> fun h => by rw [HH.out]; exact h
  have hv3 := hv2.below ((Below.refl w2.heap.size w2).alloc (Nat.le_refl _) (.cells #[.int .i64 vf, .int .i64 1, .int .i64 vk, .int .i64 vs, .int .i64 va, .slice ao2 nx cap2] 24)) hb2.size
  obtain ⟨aoX, capX, h1, _, _, _, h3⟩ := hv3.row
  simp only [Value.slice.injEq] at h1
  obtain ⟨rfl, hnn, rfl⟩ := h1
  clear hnn
  obtain ⟨bk, o, rfl, _, hcell⟩ := h3 (by rw [ack_len]; decide)
  have c0 := hcell 0 (by rw [ack_len]; decide)
  have c1 := hcell 1 (by rw [ack_len]; decide)
  rw [ack_0, Nat.add_zero] at c0; rw [ack_1] at c1
  have HB2 := hide ((HB.out.trans (hb2.mono h02)).alloc (Nat.le_trans h02 hb2.size) (.cells #[.int .i64 vf, .int .i64 1, .int .i64 vk, .int .i64 vs, .int .i64 va, .slice ao2 nx cap2] 24))
  clear hvf hvk hvs hva hnx hv2 hv3 h3 hcell ho2 hb2 h02
  have kc1 := Joins.run_convert_bytes_const_at (P := Try.prog) (w2.alloc (.cells #[.int .i64 vf, .int .i64 1, .int .i64 vk, .int .i64 vs, .int .i64 va, .slice ao2 nx cap2] 24)) 22 5 #[.int .u8 49, .int .u8 50, .int .u8 51, .int .u8 52, .int .u8 53] 5 5 (w2.heap.size + 1) (by simp) Try.underlying22 Try.underlying5
  have kc2 := Joins.run_convert_bytes_const_at (P := Try.prog) ((w2.alloc (.cells #[.int .i64 vf, .int .i64 1, .int .i64 vk, .int .i64 vs, .int .i64 va, .slice ao2 nx cap2] 24)).alloc (.cells #[.int .u8 49, .int .u8 50, .int .u8 51, .int .u8 52, .int .u8 53] 5 (5, 6))) 22 5 #[.int .u8 54, .int .u8 55, .int .u8 56, .int .u8 57] 4 4 (w2.heap.size + 2) (by simp) Try.underlying22 Try.underlying5
  have HBX := hide (((HB2.out.alloc (by rw [HH.out]; exact HB2.out.size) (.cells #[.int .u8 49, .int .u8 50, .int .u8 51, .int .u8 52, .int .u8 53] 5 (5, 6))).alloc (by have := HB2.out.size; rw [← HH.out] at this; simp at this ⊢; omega) (.cells #[.int .u8 54, .int .u8 55, .int .u8 56, .int .u8 57] 5 (4, 5))).alloc (by have := HB2.out.size; rw [← HH.out] at this; simp at this ⊢; omega) (.cells #[.slice (some ⟨w2.heap.size + 1, 0, none⟩) 5 5, .slice (some ⟨w2.heap.size + 2, 0, none⟩) 4 4] 22))
  have hv1 : Bv ((((w2.alloc (.cells #[.int .i64 vf, .int .i64 1, .int .i64 vk, .int .i64 vs, .int .i64 va, .slice ao2 nx cap2] 24)).alloc (.cells #[.int .u8 49, .int .u8 50, .int .u8 51, .int .u8 52, .int .u8 53] 5 (5, 6))).alloc (.cells #[.int .u8 54, .int .u8 55, .int .u8 56, .int .u8 57] 5 (4, 5))).alloc (.cells #[.slice (some ⟨w2.heap.size + 1, 0, none⟩) 5 5, .slice (some ⟨w2.heap.size + 2, 0, none⟩) 4 4] 22)) (w2.heap.size + 2) (.slice (some ⟨w2.heap.size + 1, 0, none⟩) 5 5) [49, 50, 51, 52, 53] := ⟨by decide, by decide, _, 5, rfl, by decide, by decide, (fun h => by cases h), fun _ => ⟨_, 0, rfl, by omega, fun i hi => by
    have h : (((((w2.alloc (.cells #[.int .i64 vf, .int .i64 1, .int .i64 vk, .int .i64 vs, .int .i64 va, .slice ao2 nx cap2] 24)).alloc (.cells #[.int .u8 49, .int .u8 50, .int .u8 51, .int .u8 52, .int .u8 53] 5 (5, 6))).alloc (.cells #[.int .u8 54, .int .u8 55, .int .u8 56, .int .u8 57] 5 (4, 5))).alloc (.cells #[.slice (some ⟨w2.heap.size + 1, 0, none⟩) 5 5, .slice (some ⟨w2.heap.size + 2, 0, none⟩) 4 4] 22))).heap[w2.heap.size + 1]? = some (.cells #[.int .u8 49, .int .u8 50, .int .u8 51, .int .u8 52, .int .u8 53] 5 (5, 6)) := heap_alloc_keeps (heap_alloc_keeps (heap_alloc_at (by simp) rfl) _) _
    rw [Nat.zero_add, Joins.cell_of_block h i]
    match i, hi with
    | 0, _ => rfl
    | 1, _ => rfl
    | 2, _ => rfl
    | 3, _ => rfl
    | 4, _ => rfl⟩⟩
  have hv2 : Bv ((((w2.alloc (.cells #[.int .i64 vf, .int .i64 1, .int .i64 vk, .int .i64 vs, .int .i64 va, .slice ao2 nx cap2] 24)).alloc (.cells #[.int .u8 49, .int .u8 50, .int .u8 51, .int .u8 52, .int .u8 53] 5 (5, 6))).alloc (.cells #[.int .u8 54, .int .u8 55, .int .u8 56, .int .u8 57] 5 (4, 5))).alloc (.cells #[.slice (some ⟨w2.heap.size + 1, 0, none⟩) 5 5, .slice (some ⟨w2.heap.size + 2, 0, none⟩) 4 4] 22)) (w2.heap.size + 3) (.slice (some ⟨w2.heap.size + 2, 0, none⟩) 4 4) [54, 55, 56, 57] := ⟨by decide, by decide, _, 4, rfl, by decide, by decide, (fun h => by cases h), fun _ => ⟨_, 0, rfl, by omega, fun i hi => by
    have h : (((((w2.alloc (.cells #[.int .i64 vf, .int .i64 1, .int .i64 vk, .int .i64 vs, .int .i64 va, .slice ao2 nx cap2] 24)).alloc (.cells #[.int .u8 49, .int .u8 50, .int .u8 51, .int .u8 52, .int .u8 53] 5 (5, 6))).alloc (.cells #[.int .u8 54, .int .u8 55, .int .u8 56, .int .u8 57] 5 (4, 5))).alloc (.cells #[.slice (some ⟨w2.heap.size + 1, 0, none⟩) 5 5, .slice (some ⟨w2.heap.size + 2, 0, none⟩) 4 4] 22))).heap[w2.heap.size + 2]? = some (.cells #[.int .u8 54, .int .u8 55, .int .u8 56, .int .u8 57] 5 (4, 5)) := heap_alloc_keeps (heap_alloc_at (by simp) rfl) _
    rw [Nat.zero_add, Joins.cell_of_block h i]
    match i, hi with
    | 0, _ => rfl
    | 1, _ => rfl
    | 2, _ => rfl
    | 3, _ => rfl⟩⟩
  have CS := sum_any (w2.heap.size + 3) 2 [(.slice (some ⟨w2.heap.size + 1, 0, none⟩) 5 5, [49, 50, 51, 52, 53]), (.slice (some ⟨w2.heap.size + 2, 0, none⟩) 4 4, [54, 55, 56, 57])] ((((w2.alloc (.cells #[.int .i64 vf, .int .i64 1, .int .i64 vk, .int .i64 vs, .int .i64 va, .slice ao2 nx cap2] 24)).alloc (.cells #[.int .u8 49, .int .u8 50, .int .u8 51, .int .u8 52, .int .u8 53] 5 (5, 6))).alloc (.cells #[.int .u8 54, .int .u8 55, .int .u8 56, .int .u8 57] 5 (4, 5))).alloc (.cells #[.slice (some ⟨w2.heap.size + 1, 0, none⟩) 5 5, .slice (some ⟨w2.heap.size + 2, 0, none⟩) 4 4] 22)) (fun j hj => by
    match j, hj with
    | 0, _ => exact ⟨cell_alloc_two _ _ (by simp) _ _ _ 0 rfl, _, hv1⟩
    | 1, _ => exact ⟨cell_alloc_two _ _ (by simp) _ _ _ 1 rfl, _, hv2⟩) (by simp)
  have e9 : ([(Value.slice (some ⟨w2.heap.size + 1, 0, none⟩) 5 5, [49, 50, 51, 52, 53]), (Value.slice (some ⟨w2.heap.size + 2, 0, none⟩) 4 4, [54, 55, 56, 57])] : List (Value × List Nat)).flatMap (fun x => x.2) = [49, 50, 51, 52, 53, 54, 55, 56, 57] := rfl
  rw [e9, sum_ex] at CS
  clear e9
  have HCS := hide CS
  clear CS hv1 hv2
  go_wp2_with fail
  refine HCS.out.mono ?_
  rintro e w' ⟨rfl, rfl⟩
  go_wp2
  go_ret
  exact ⟨rfl, HBX.out⟩
end Go.Proofs.Ytebojmjbolphfaa
