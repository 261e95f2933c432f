/- The walk of FrameReads. -/
import Derived.Test.YtebojmjbolphfaaRde
import Derived.Test.YtebojmjbolphfaaBeg
import Derived.Test.YtebojmjbolphfaaFsm
namespace Go.Proofs.Ytebojmjbolphfaa
open Go Go.RowKit Crc

theorem rdBody_small (s : St) : ∀ c ∈ (rdBody s).1, c < 256 := by
  intro c hc
  unfold rdBody at hc
  by_cases h1 : 16384 < (rdN s).1
  · rw [if_pos h1] at hc; cases hc
  rw [if_neg h1] at hc
  by_cases h2 : (rdN s).2.1 = 0
  · rw [if_pos h2] at hc
    by_cases h3 : (rdN s).2.2.length < 8 * (rdN s).1
    · rw [if_pos h3] at hc; cases hc
    · rw [if_neg h3] at hc
      obtain ⟨i, _, rfl⟩ := List.mem_map.1 hc
      exact chunk_lt _ _
  · rw [if_neg h2] at hc; cases hc
theorem dX_small (l : List Bool) : ∀ c ∈ dX l, c < 256 := by
  intro c hc
  unfold dX at hc
  by_cases h : (r1 l).1 = 1
  · rw [if_pos h] at hc; exact rdBody_small _ c hc
  · rw [if_neg h] at hc; cases hc
theorem decX_small (b : List Nat) : ∀ c ∈ decX b, c < 256 := by
  intro c hc
  unfold decX at hc
  by_cases h : decErr b = 0
  · rw [if_pos h] at hc; exact dX_small _ c hc
  · rw [if_neg h] at hc; cases hc
theorem decX_le (b : List Nat) : (decX b).length ≤ 16384 := by
  unfold decX
  split
  · exact dX_le _
  · simp

set_option maxRecDepth 100000 in
set_option maxHeartbeats 1600000 in
theorem reads_walk (B : Nat) (v : Value) (b : List Nat) (w : World) (hb : Bv w B v b) (hB : B ≤ w.heap.size) (hbig : b.length ≤ 1048576) :
    Calls Try.prog 5 #[v] w fun e w' => e = .returned (.bool true) ∧ Below w.heap.size w w' := by
  have C1 := fDecode_any B v b w hb hB
  have HC2 := hide (fun (w' : World) (h : Bv w' B v b) (h2 : B ≤ w'.heap.size) => r2Decode_any B v b w' h h2 (by omega))
  have HV := hide hb
  obtain ⟨H0, hH0⟩ : ∃ H0, H0 = w.heap.size := ⟨_, rfl⟩
  have HH := hide hH0
  obtain ⟨ao, cap, rfl⟩ := hb.shape
  obtain ⟨nb, hnb⟩ : ∃ nb, nb = b.length := ⟨_, rfl⟩
  rw [← hnb] at C1 HV HC2 ⊢
  rw [← hH0] at hB ⊢
  have hdx := decX_small b
  have hdl := decX_le b
  obtain ⟨X, hX⟩ : ∃ X, X = decX b := ⟨_, rfl⟩
  obtain ⟨vf, hvf⟩ : ∃ vf, vf = decF b := ⟨_, rfl⟩
  obtain ⟨vt, hvt⟩ : ∃ vt, vt = decT b := ⟨_, rfl⟩
  obtain ⟨vk, hvk⟩ : ∃ vk, vk = decK b := ⟨_, rfl⟩
  obtain ⟨vs, hvs⟩ : ∃ vs, vs = decS b := ⟨_, rfl⟩
  obtain ⟨va, hva⟩ : ∃ va, va = decA b := ⟨_, rfl⟩
  obtain ⟨er, her⟩ : ∃ er, er = decErr b := ⟨_, rfl⟩
  unfold DecPost at C1 HC2
  rw [← hX, ← hvf, ← hvt, ← hvk, ← hvs, ← hva, ← her] at C1 HC2
  rw [← hX] at hdx hdl
  have HDx := hide hdx; have HDl := hide hdl
  clear hb hbig hH0 hnb hX hvf hvt hvk hvs hva her hdx hdl
  go_enter Try.func5, Try.ntmps5
  go_wp2_with fail
  refine C1.mono ?_
  clear C1
  rintro e w1 ⟨v1, rfl, ho1, b1⟩
  obtain ⟨ao1, cap1, rfl⟩ := own_slice ho1
  rw [← HH.out] at b1
  have h01 : H0 ≤ w1.heap.size := by have := b1.size; rw [HH.out]; exact this
  have hbA := b1.alloc h01 (.cells #[.int .i64 vf, .int .i64 vt, .int .i64 vk, .int .i64 vs, .int .i64 va, .slice ao1 X.length cap1] 24)
  have hvA := HV.out.below hbA hB
  have hsA : B ≤ (w1.alloc (.cells #[.int .i64 vf, .int .i64 vt, .int .i64 vk, .int .i64 vs, .int .i64 va, .slice ao1 X.length cap1] 24)).heap.size := by simp; omega
  have C2 := HC2.out _ hvA hsA
  have HBA := hide hbA
  have HD1 := hide (heap_alloc_new w1 (.cells #[.int .i64 vf, .int .i64 vt, .int .i64 vk, .int .i64 vs, .int .i64 va, .slice ao1 X.length cap1] 24))
  have HO1 := hide (ho1.alloc (.cells #[.int .i64 vf, .int .i64 vt, .int .i64 vk, .int .i64 vs, .int .i64 va, .slice ao1 X.length cap1] 24))
  have HsA := hide (show H0 ≤ (w1.alloc (.cells #[.int .i64 vf, .int .i64 vt, .int .i64 vk, .int .i64 vs, .int .i64 va, .slice ao1 X.length cap1] 24)).heap.size by simp; omega)
  clear ho1 b1 h01 hbA hvA hsA
  go_wp2_with fail
  refine C2.mono ?_
  clear C2
  rintro e w2 ⟨v2, rfl, ho2, b2⟩
  obtain ⟨ao2, cap2, rfl⟩ := own_slice ho2
  have hb2 := HBA.out.trans (b2.mono HsA.out)
  have hd1 := (b2.block _ (lt_of_block HD1.out)).trans HD1.out
  have ho1 := ownsRow_below HO1.out b2 (Nat.le_refl _)
  have hs2 := Nat.le_trans HsA.out b2.size
  have HB2 := hide (hb2.alloc hs2 (.cells #[.int .i64 vf, .int .i64 vt, .int .i64 vk, .int .i64 vs, .int .i64 va, .slice ao2 X.length cap2] 24))
  have HD1b := hide (heap_alloc_keeps hd1 (.cells #[.int .i64 vf, .int .i64 vt, .int .i64 vk, .int .i64 vs, .int .i64 va, .slice ao2 X.length cap2] 24))
  have HD2 := hide (heap_alloc_new w2 (.cells #[.int .i64 vf, .int .i64 vt, .int .i64 vk, .int .i64 vs, .int .i64 va, .slice ao2 X.length cap2] 24))
  have HO1b := hide (ho1.alloc (.cells #[.int .i64 vf, .int .i64 vt, .int .i64 vk, .int .i64 vs, .int .i64 va, .slice ao2 X.length cap2] 24))
  have HO2 := hide (ho2.alloc (.cells #[.int .i64 vf, .int .i64 vt, .int .i64 vk, .int .i64 vs, .int .i64 va, .slice ao2 X.length cap2] 24))
  have Hs3 := hide (show H0 ≤ (w2.alloc (.cells #[.int .i64 vf, .int .i64 vt, .int .i64 vk, .int .i64 vs, .int .i64 va, .slice ao2 X.length cap2] 24)).heap.size by simp; omega)
  clear ho2 b2 hb2 hd1 ho1 hs2
  go_wp2_with fail
  refine (begun_any _).mono ?_
  rintro e w3 ⟨rfl, b3⟩
  obtain ⟨c0, c1, c2, c3, c4, c5⟩ := cell_of_six ((b3.block _ (lt_of_block HD1b.out)).trans HD1b.out)
  obtain ⟨d0, d1, d2, d3, d4, d5⟩ := cell_of_six ((b3.block _ (lt_of_block HD2.out)).trans HD2.out)
  have hx := Bv.of_own (ownsRow_below HO1b.out b3 (Nat.le_refl _)) HDx.out (by have := HDl.out; omega)
  have hy := Bv.of_own (ownsRow_below HO2.out b3 (Nat.le_refl _)) HDx.out (by have := HDl.out; omega)
  have CS := r2Same_any vf vt vk vs va vf vt vk vs va ao1 ao2 X.length cap1 X.length cap2 _ _ X X w3 hx hy (Nat.le_refl _) (Nat.le_refl _)
  rw [sameB_refl] at CS
  have HB3 := hide (HB2.out.trans (b3.mono Hs3.out))
  have Hs4 := hide (Nat.le_trans Hs3.out b3.size)
  clear b3 hx hy
  go_wp2_with fail
  refine CS.mono ?_
  clear CS
  rintro e w4 ⟨rfl, b4⟩
  have HB4 := hide (HB3.out.trans (b4.mono Hs4.out))
  clear b4
  go_wp2
  go_ret
  exact ⟨rfl, HB4.out⟩
end Go.Proofs.Ytebojmjbolphfaa
