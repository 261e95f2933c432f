/- put of the statements at two flags. -/
import Derived.Test.YtlibfbfhleijlaaLput2
namespace Go.Proofs.Ytlibfbfhleijlaa
open Go Go.RowKit

theorem flags_two {w : World} {B g : Nat} {a b : Bool} (hB : B ≤ g) (hg : w.heap[g]? = some (.cells #[.bool a, .bool b] 4 (0, 0))) : Flags w B (.slice (some ⟨g, 0, none⟩) 2 2) [a, b] :=
  ⟨rfl, .inr ⟨g, 2, _, rfl, hB, hg, Nat.le_refl _, by unfold maxLen; omega, rfl, rfl⟩⟩

set_option maxRecDepth 100000 in
set_option maxHeartbeats 1600000 in
theorem lput_flags_fits (B q u : Nat) (kind n : Int) (s : ByteArray) (bs : List Bool) (w : World) (hs : SinkIs w B q bs) (h0 : kind ≠ 0) (h1 : kind ≠ 1) (h2 : kind ≠ 2) (h3 : kind ≠ 3) (hl : bs.length + 2 ≤ 1048576) :
    Calls Try.prog 10 #[.pointer (some ⟨q, 0, none⟩), .agg #[.int .i64 kind, .int .u64 (u : Int), .int .i64 n, .string s]] w fun e w' => ∃ v, e = .returned (.tuple #[v, .bool true, .int .i64 0]) ∧ Flags w' w.heap.size v [decide (0 < n), decide ((0 : Int) < u)] ∧ SinkIs w' B q (bs ++ [decide (0 < n), decide ((0 : Int) < u)]) ∧ Kept B sinkT w w' := by
  obtain ⟨P, hP⟩ : ∃ P, P = w.heap.size := ⟨_, rfl⟩
  obtain ⟨W, hW⟩ : ∃ W, W = w.alloc (.cells #[.int .i64 kind, .int .u64 (u : Int), .int .i64 n, .string s] 29) := ⟨_, rfl⟩
  have hPb : W.heap[P]? = some (.cells #[.int .i64 kind, .int .u64 (u : Int), .int .i64 n, .string s] 29 (0, 0)) := by rw [hW, hP]; exact heap_alloc_new _ _
  have hSW : SinkIs W B q bs := by rw [hW]; exact hs.below ((Below.refl w.heap.size w).alloc (Nat.le_refl _) _) (Nat.le_refl _)
  have hBW : Below w.heap.size w W := by rw [hW]; exact (Below.refl _ _).alloc (Nat.le_refl _) _
  have hsz : w.heap.size + 1 ≤ W.heap.size := by rw [hW]; simp
  have hBq : B ≤ w.heap.size := by have h1 := hs.from_; have h2 := hs.lt; omega
  have HPb := hide hPb; have HSW := hide hSW; have HBW := hide hBW; have HBq := hide hBq
  obtain ⟨p0, p1, p2, p3⟩ := cell_of_four hPb
  have b0 : (kind == 0) = false := by simp [h0]
  have b1 : (kind == 1) = false := by simp [h1]
  have b2 : (kind == 2) = false := by simp [h2]
  have b3 : (kind == 3) = false := by simp [h3]
  obtain ⟨a, ha⟩ : ∃ a, a = decide (0 < n) := ⟨_, rfl⟩
  obtain ⟨b, hb⟩ : ∃ b, b = decide ((0 : Int) < u) := ⟨_, rfl⟩
  rw [← ha, ← hb]
  have ha' := ha.symm; have hb' := hb.symm
  have hb2' : decide (0 < u) = b := by rw [hb]; simp
  have HA2 := hide (HSW.out.below ((Below.refl W.heap.size W).alloc (Nat.le_refl _) (.cells #[.bool a, .bool b] 4)) (Nat.le_refl _))
  have HA3 := hide (HA2.out.below ((Below.refl (W.alloc (.cells #[.bool a, .bool b] 4)).heap.size _).alloc (Nat.le_refl _) (.cells #[.bool a, .bool b] 4)) (Nat.le_refl _))
  have hg0 : (W.alloc (.cells #[.bool a, .bool b] 4)).drew.heap[W.heap.size]? = some (.cells #[.bool a, .bool b] 4 (0, 0)) := heap_alloc_new _ _
  have hg1 : ((W.alloc (.cells #[.bool a, .bool b] 4)).alloc (.cells #[.bool a, .bool b] 4)).drew.heap[W.heap.size]? = some (.cells #[.bool a, .bool b] 4 (0, 0)) := heap_alloc_keeps (heap_alloc_new _ _) _
  have hg2 : ((W.alloc (.cells #[.bool a, .bool b] 4)).alloc (.cells #[.bool a, .bool b] 4)).drew.heap[W.heap.size + 1]? = some (.cells #[.bool a, .bool b] 4 (0, 0)) := by
    have := heap_alloc_new (W.alloc (.cells #[.bool a, .bool b] 4)) (.cells #[.bool a, .bool b] 4)
    rw [World.size_alloc] at this
    exact this
  have HG0 := hide hg0; have HG1 := hide hg1; have HG2 := hide hg2
  have hs2 : SinkIs (W.alloc (.cells #[.bool a, .bool b] 4)).drew B q bs := HA2.out.drew
  have hs3 : SinkIs ((W.alloc (.cells #[.bool a, .bool b] 4)).alloc (.cells #[.bool a, .bool b] 4)).drew B q bs := HA3.out.drew
  have hp2 : (W.alloc (.cells #[.bool a, .bool b] 4)).drew.heap[P]? = some (.cells #[.int .i64 kind, .int .u64 (u : Int), .int .i64 n, .string s] 29 (0, 0)) := heap_alloc_keeps HPb.out _
  have hp3 : ((W.alloc (.cells #[.bool a, .bool b] 4)).alloc (.cells #[.bool a, .bool b] 4)).drew.heap[P]? = some (.cells #[.int .i64 kind, .int .u64 (u : Int), .int .i64 n, .string s] 29 (0, 0)) := heap_alloc_keeps (heap_alloc_keeps HPb.out _) _
  have HS2 := hide hs2; have HS3 := hide hs3; have HP2 := hide hp2; have HP3 := hide hp3
  have hb2w : Below w.heap.size w (W.alloc (.cells #[.bool a, .bool b] 4)).drew := (hBW.alloc (by omega) _).drew
  have hb3w : Below w.heap.size w ((W.alloc (.cells #[.bool a, .bool b] 4)).alloc (.cells #[.bool a, .bool b] 4)).drew := ((hBW.alloc (by omega) _).alloc (by simp; omega) _).drew
  have HB2 := hide hb2w; have HB3 := hide hb3w
  have HSz := hide hsz
  clear hg0 hg1 hg2 hs2 hs3 hp2 hp3 hb2w hb3w
  clear hPb hSW hBW hBq hs h0 h1 h2 h3 ha hb
  go_enter Try.func10, Try.ntmps10
  go_wp2_with fail
  rw [← hW, ← hP]
  have HP := hide hP
  clear hW hP
  go_region_held3 (fun w' => w'.cell? ⟨P, 1, none⟩ = some (.int .u64 (u : Int)) ∧ w'.cell? ⟨P, 2, none⟩ = some (.int .i64 n)) (first | exact ⟨p1, p2⟩ | exact ⟨d1, d2⟩ | go_keep) (first | (go_at_call 32; (with_reducible refine (kFlags_fits B q _ a b bs _ (by first | exact HS3.out | exact HS2.out) (by first | exact HG2.out | exact HG1.out | exact HG0.out) hl).mono ?_); rintro e w3 ⟨rfl, hs3, hk3⟩; have HPc := hide (hk3.typed P _ _ _ (by first | exact HP3.out | exact HP2.out) (by decide)); have d1 := (cell_of_four HPc.out).2.1; have d2 := (cell_of_four HPc.out).2.2.1; have HSk := hide hs3; have HK3 := hide hk3; clear hs3 hk3))
  all_goals go_wp2
  all_goals go_ret3
  · refine ⟨_, rfl, ?_, HSk.out, (kept_of_below HB3.out HBq.out).trans HK3.out⟩
    exact flags_two (by have := HSz.out; omega) (HK3.out.typed _ _ _ _ HG1.out (by decide))
  · refine ⟨_, rfl, ?_, HSk.out, (kept_of_below HB3.out HBq.out).trans HK3.out⟩
    exact flags_two (by have := HSz.out; omega) (HK3.out.typed _ _ _ _ HG2.out (by decide))
  · have hw3 : w.heap.size ≤ w3.heap.size := Nat.le_trans HB2.out.size HK3.out.below.size
    refine ⟨_, rfl, flags_two hw3 (heap_alloc_new _ _), HSk.out.below ((Below.refl w3.heap.size w3).alloc (Nat.le_refl _) _) (Nat.le_refl _), ((kept_of_below HB2.out HBq.out).trans HK3.out).alloc (Nat.le_trans HBq.out hw3) _⟩
set_option maxRecDepth 100000 in
set_option maxHeartbeats 1600000 in
theorem lput_flags_long (B q u : Nat) (kind n : Int) (s : ByteArray) (bs : List Bool) (w : World) (hs : SinkIs w B q bs) (h0 : kind ≠ 0) (h1 : kind ≠ 1) (h2 : kind ≠ 2) (h3 : kind ≠ 3) (hl : 1048576 < bs.length + 2) :
    Calls Try.prog 10 #[.pointer (some ⟨q, 0, none⟩), .agg #[.int .i64 kind, .int .u64 (u : Int), .int .i64 n, .string s]] w fun e w' => ∃ v, e = .returned (.tuple #[v, .bool true, .int .i64 3]) ∧ Flags w' w.heap.size v [decide (0 < n), decide ((0 : Int) < u)] ∧ SinkIs w' B q bs ∧ Kept B sinkT w w' := by
  obtain ⟨P, hP⟩ : ∃ P, P = w.heap.size := ⟨_, rfl⟩
  obtain ⟨W, hW⟩ : ∃ W, W = w.alloc (.cells #[.int .i64 kind, .int .u64 (u : Int), .int .i64 n, .string s] 29) := ⟨_, rfl⟩
  have hPb : W.heap[P]? = some (.cells #[.int .i64 kind, .int .u64 (u : Int), .int .i64 n, .string s] 29 (0, 0)) := by rw [hW, hP]; exact heap_alloc_new _ _
  have hSW : SinkIs W B q bs := by rw [hW]; exact hs.below ((Below.refl w.heap.size w).alloc (Nat.le_refl _) _) (Nat.le_refl _)
  have hBW : Below w.heap.size w W := by rw [hW]; exact (Below.refl _ _).alloc (Nat.le_refl _) _
  have hsz : w.heap.size + 1 ≤ W.heap.size := by rw [hW]; simp
  have hBq : B ≤ w.heap.size := by have h1 := hs.from_; have h2 := hs.lt; omega
  have HPb := hide hPb; have HSW := hide hSW; have HBW := hide hBW; have HBq := hide hBq
  obtain ⟨p0, p1, p2, p3⟩ := cell_of_four hPb
  have b0 : (kind == 0) = false := by simp [h0]
  have b1 : (kind == 1) = false := by simp [h1]
  have b2 : (kind == 2) = false := by simp [h2]
  have b3 : (kind == 3) = false := by simp [h3]
  obtain ⟨a, ha⟩ : ∃ a, a = decide (0 < n) := ⟨_, rfl⟩
  obtain ⟨b, hb⟩ : ∃ b, b = decide ((0 : Int) < u) := ⟨_, rfl⟩
  rw [← ha, ← hb]
  have ha' := ha.symm; have hb' := hb.symm
  have hb2' : decide (0 < u) = b := by rw [hb]; simp
  have HA2 := hide (HSW.out.below ((Below.refl W.heap.size W).alloc (Nat.le_refl _) (.cells #[.bool a, .bool b] 4)) (Nat.le_refl _))
  have HA3 := hide (HA2.out.below ((Below.refl (W.alloc (.cells #[.bool a, .bool b] 4)).heap.size _).alloc (Nat.le_refl _) (.cells #[.bool a, .bool b] 4)) (Nat.le_refl _))
  have hg0 : (W.alloc (.cells #[.bool a, .bool b] 4)).drew.heap[W.heap.size]? = some (.cells #[.bool a, .bool b] 4 (0, 0)) := heap_alloc_new _ _
  have hg1 : ((W.alloc (.cells #[.bool a, .bool b] 4)).alloc (.cells #[.bool a, .bool b] 4)).drew.heap[W.heap.size]? = some (.cells #[.bool a, .bool b] 4 (0, 0)) := heap_alloc_keeps (heap_alloc_new _ _) _
  have hg2 : ((W.alloc (.cells #[.bool a, .bool b] 4)).alloc (.cells #[.bool a, .bool b] 4)).drew.heap[W.heap.size + 1]? = some (.cells #[.bool a, .bool b] 4 (0, 0)) := by
    have := heap_alloc_new (W.alloc (.cells #[.bool a, .bool b] 4)) (.cells #[.bool a, .bool b] 4)
    rw [World.size_alloc] at this
    exact this
  have HG0 := hide hg0; have HG1 := hide hg1; have HG2 := hide hg2
  have hs2 : SinkIs (W.alloc (.cells #[.bool a, .bool b] 4)).drew B q bs := HA2.out.drew
  have hs3 : SinkIs ((W.alloc (.cells #[.bool a, .bool b] 4)).alloc (.cells #[.bool a, .bool b] 4)).drew B q bs := HA3.out.drew
  have hp2 : (W.alloc (.cells #[.bool a, .bool b] 4)).drew.heap[P]? = some (.cells #[.int .i64 kind, .int .u64 (u : Int), .int .i64 n, .string s] 29 (0, 0)) := heap_alloc_keeps HPb.out _
  have hp3 : ((W.alloc (.cells #[.bool a, .bool b] 4)).alloc (.cells #[.bool a, .bool b] 4)).drew.heap[P]? = some (.cells #[.int .i64 kind, .int .u64 (u : Int), .int .i64 n, .string s] 29 (0, 0)) := heap_alloc_keeps (heap_alloc_keeps HPb.out _) _
  have HS2 := hide hs2; have HS3 := hide hs3; have HP2 := hide hp2; have HP3 := hide hp3
  have hb2w : Below w.heap.size w (W.alloc (.cells #[.bool a, .bool b] 4)).drew := (hBW.alloc (by omega) _).drew
  have hb3w : Below w.heap.size w ((W.alloc (.cells #[.bool a, .bool b] 4)).alloc (.cells #[.bool a, .bool b] 4)).drew := ((hBW.alloc (by omega) _).alloc (by simp; omega) _).drew
  have HB2 := hide hb2w; have HB3 := hide hb3w
  have HSz := hide hsz
  clear hg0 hg1 hg2 hs2 hs3 hp2 hp3 hb2w hb3w
  clear hPb hSW hBW hBq hs h0 h1 h2 h3 ha hb
  go_enter Try.func10, Try.ntmps10
  go_wp2_with fail
  rw [← hW, ← hP]
  have HP := hide hP
  clear hW hP
  go_region_held3 (fun w' => w'.cell? ⟨P, 1, none⟩ = some (.int .u64 (u : Int)) ∧ w'.cell? ⟨P, 2, none⟩ = some (.int .i64 n)) (first | exact ⟨p1, p2⟩ | go_keep) (first | (go_at_call 32; (with_reducible refine (kFlags_long B q _ bs _ (by first | exact HS3.out | exact HS2.out) hl).mono ?_); rintro e w' ⟨rfl, rfl⟩))
  all_goals go_wp2
  all_goals go_ret3
  · exact ⟨_, rfl, flags_two (by have := HSz.out; omega) HG1.out, HS3.out, kept_of_below HB3.out HBq.out⟩
  · exact ⟨_, rfl, flags_two (by have := HSz.out; omega) HG2.out, HS3.out, kept_of_below HB3.out HBq.out⟩
  · exact ⟨_, rfl, flags_two (by have := HSz.out; omega) HG2.out, HS3.out, kept_of_below HB3.out HBq.out⟩
end Go.Proofs.Ytlibfbfhleijlaa
