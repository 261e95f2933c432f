/- More contracts of put of the statements. -/
import Derived.Test.YtlibfbfhleijlaaLput
namespace Go.Proofs.Ytlibfbfhleijlaa
open Go Go.RowKit

set_option maxRecDepth 100000 in
set_option maxHeartbeats 1600000 in
theorem lput_bits_long (B q u : Nat) (kind n : Int) (s : ByteArray) (bs : List Bool) (w : World) (hs : SinkIs w B q bs) (hu : u < 2 ^ 64) (hn : (Lit.int .i64 n).wf = true) (hf : fitsB u n = true) (hl : 1048576 < bs.length + clampN n) :
    Calls Try.prog 10 #[.pointer (some ⟨q, 0, none⟩), .agg #[.int .i64 0, .int .u64 (u : Int), .int .i64 n, .string s]] w fun e w' => ∃ v, e = .returned (.tuple #[v, .bool true, .int .i64 3]) ∧ Flags w' w.heap.size v (bitsOf u (clampN n)) ∧ SinkIs w' B q (bs) ∧ Kept B sinkT w w' := by
  obtain ⟨m, rfl, hm64, hfm⟩ := fitsB_nat hf
  rw [clampN_eq m hm64]
  rw [clampN_eq m hm64] at hl
  have emin : min (max (m : Int) 0) 64 = ((m : Nat) : Int) := by omega
  have emin2 : min (m : Int) 64 = (m : Int) := by omega
  have emax : max (m : Int) 0 = (m : Int) := by omega
  have CL := fun w => rLow_any u m w hu hm64
  have CF := fun w => rFits_any u (m : Int) w hu hn
  rw [hf] at CF
  obtain ⟨P, hP⟩ : ∃ P, P = w.heap.size := ⟨_, rfl⟩
  obtain ⟨W, hW⟩ : ∃ W, W = w.alloc (.cells #[.int .i64 0, .int .u64 (u : Int), .int .i64 (m : Int), .string s] 29) := ⟨_, rfl⟩
  have hPb : W.heap[P]? = some (.cells #[.int .i64 0, .int .u64 (u : Int), .int .i64 (m : Int), .string s] 29 (0, 0)) := by rw [hW, hP]; exact heap_alloc_new _ _
  have hSW : SinkIs W B q bs := by rw [hW]; exact hs.below ((Below.refl w.heap.size w).alloc (Nat.le_refl _) _) (Nat.le_refl _)
  have hBW : Below w.heap.size w W := by rw [hW]; exact (Below.refl _ _).alloc (Nat.le_refl _) _
  have hsz : w.heap.size + 1 ≤ W.heap.size := by rw [hW]; simp
  have hBq : B ≤ w.heap.size := by have h1 := hs.from_; have h2 := hs.lt; omega
  have CB := fun w (hs : SinkIs w B q bs) => kBits_long B q u m bs w hs hm64 hfm hl
  have HPb := hide hPb; have HSW := hide hSW; have HBW := hide hBW; have HBq := hide hBq
  obtain ⟨p0, p1, p2, p3⟩ := cell_of_four hPb
  clear hPb hSW hBW hBq hs hu hn hf hl hfm
  go_enter Try.func10, Try.ntmps10
  go_wp2_with fail
  rw [← hW, ← hP]
  have HP := hide hP
  clear hW hP
  go_region_held3 (fun w' => w'.cell? ⟨P, 1, none⟩ = some (.int .u64 (u : Int)) ∧ w'.cell? ⟨P, 2, none⟩ = some (.int .i64 (m : Int))) (first | exact ⟨c1, c2⟩ | exact ⟨p1, p2⟩ | go_keep) (first | (go_at_call 34; (with_reducible refine (CL _).mono ?_); rintro e w2 ⟨v, rfl, hf2, hb2⟩; have HF2 := hide hf2; have HB2 := hide hb2; have hs2 := HSW.out.drew.below hb2 (Nat.le_refl _); have c1 := (cell_of_four ((hb2.block P (by have := lt_of_block HPb.out; simpa using this)).trans HPb.out)).2.1; have c2 := (cell_of_four ((hb2.block P (by have := lt_of_block HPb.out; simpa using this)).trans HPb.out)).2.2.1; have HPc := hide ((hb2.block P (by have := lt_of_block HPb.out; simpa using this)).trans HPb.out); have HS2 := hide hs2; clear hf2 hb2 hs2) | (go_at_call 35; refine (CF _).mono ?_; rintro e w' ⟨rfl, rfl⟩) | (go_at_call 29; refine (CB _ HS2.out).mono ?_; rintro e w' ⟨rfl, rfl⟩))
  go_wp2
  go_ret3
  have b2 : Below w.heap.size w w2 := HBW.out.drew.trans (HB2.out.mono (by simp; omega))
  have hBw : B ≤ w.heap.size := HBq.out
  exact ⟨v, rfl, HF2.out.lower (by simp; omega), HS2.out, kept_of_below b2 hBw⟩

set_option maxRecDepth 100000 in
set_option maxHeartbeats 1600000 in
theorem lput_bits_fits (B q u : Nat) (kind n : Int) (s : ByteArray) (bs : List Bool) (w : World) (hs : SinkIs w B q bs) (hu : u < 2 ^ 64) (hn : (Lit.int .i64 n).wf = true) (hf : fitsB u n = true) (hl : bs.length + clampN n ≤ 1048576) :
    Calls Try.prog 10 #[.pointer (some ⟨q, 0, none⟩), .agg #[.int .i64 0, .int .u64 (u : Int), .int .i64 n, .string s]] w fun e w' => ∃ v, e = .returned (.tuple #[v, .bool true, .int .i64 0]) ∧ Flags w' w.heap.size v (bitsOf u (clampN n)) ∧ SinkIs w' B q (bs ++ bitsOf u (clampN n)) ∧ Kept B sinkT w w' := by
  obtain ⟨m, rfl, hm64, hfm⟩ := fitsB_nat hf
  rw [clampN_eq m hm64]
  rw [clampN_eq m hm64] at hl
  have emin : min (max (m : Int) 0) 64 = ((m : Nat) : Int) := by omega
  have emin2 : min (m : Int) 64 = (m : Int) := by omega
  have emax : max (m : Int) 0 = (m : Int) := by omega
  have CL := fun w => rLow_any u m w hu hm64
  have CF := fun w => rFits_any u (m : Int) w hu hn
  rw [hf] at CF
  obtain ⟨P, hP⟩ : ∃ P, P = w.heap.size := ⟨_, rfl⟩
  obtain ⟨W, hW⟩ : ∃ W, W = w.alloc (.cells #[.int .i64 0, .int .u64 (u : Int), .int .i64 (m : Int), .string s] 29) := ⟨_, rfl⟩
  have hPb : W.heap[P]? = some (.cells #[.int .i64 0, .int .u64 (u : Int), .int .i64 (m : Int), .string s] 29 (0, 0)) := by rw [hW, hP]; exact heap_alloc_new _ _
  have hSW : SinkIs W B q bs := by rw [hW]; exact hs.below ((Below.refl w.heap.size w).alloc (Nat.le_refl _) _) (Nat.le_refl _)
  have hBW : Below w.heap.size w W := by rw [hW]; exact (Below.refl _ _).alloc (Nat.le_refl _) _
  have hsz : w.heap.size + 1 ≤ W.heap.size := by rw [hW]; simp
  have hBq : B ≤ w.heap.size := by have h1 := hs.from_; have h2 := hs.lt; omega
  have CB := fun w (hs : SinkIs w B q bs) => kBits_fits B q u m bs w hs hm64 hfm hl
  have HPb := hide hPb; have HSW := hide hSW; have HBW := hide hBW; have HBq := hide hBq
  obtain ⟨p0, p1, p2, p3⟩ := cell_of_four hPb
  clear hPb hSW hBW hBq hs hu hn hf hl hfm
  go_enter Try.func10, Try.ntmps10
  go_wp2_with fail
  rw [← hW, ← hP]
  have HP := hide hP
  clear hW hP
  go_region_held3 (fun w' => w'.cell? ⟨P, 1, none⟩ = some (.int .u64 (u : Int)) ∧ w'.cell? ⟨P, 2, none⟩ = some (.int .i64 (m : Int))) (first | exact ⟨c1, c2⟩ | exact ⟨p1, p2⟩ | exact ⟨d1, d2⟩ | go_keep) (first | (go_at_call 34; (with_reducible refine (CL _).mono ?_); rintro e w2 ⟨v, rfl, hf2, hb2⟩; have HF2 := hide hf2; have HB2 := hide hb2; have hs2 := HSW.out.drew.below hb2 (Nat.le_refl _); have c1 := (cell_of_four ((hb2.block P (by have := lt_of_block HPb.out; simpa using this)).trans HPb.out)).2.1; have c2 := (cell_of_four ((hb2.block P (by have := lt_of_block HPb.out; simpa using this)).trans HPb.out)).2.2.1; have HPc := hide ((hb2.block P (by have := lt_of_block HPb.out; simpa using this)).trans HPb.out); have HS2 := hide hs2; clear hf2 hb2 hs2) | (go_at_call 35; refine (CF _).mono ?_; rintro e w' ⟨rfl, rfl⟩) | (go_at_call 29; refine (CB _ HS2.out).mono ?_; rintro e w3 ⟨rfl, hs3, hk3⟩; have d1 := (cell_of_four (hk3.typed _ _ _ _ HPc.out (by decide))).2.1; have d2 := (cell_of_four (hk3.typed _ _ _ _ HPc.out (by decide))).2.2.1; have HS3 := hide hs3; have HK3 := hide hk3; clear hs3 hk3))
  go_wp2
  go_ret3
  have b2 : Below w.heap.size w w2 := HBW.out.drew.trans (HB2.out.mono (by simp; omega))
  have hBw : B ≤ w.heap.size := HBq.out
  exact ⟨v, rfl, Flags.sink (HF2.out.lower (by simp; omega)) HK3.out, HS3.out, (kept_of_below b2 hBw).trans HK3.out⟩

set_option maxRecDepth 100000 in
set_option maxHeartbeats 1600000 in
theorem lput_num_long (B q u : Nat) (kind n : Int) (s : ByteArray) (bs : List Bool) (w : World) (hs : SinkIs w B q bs) (hu : u < 2 ^ 64) (hn : (Lit.int .i64 n).wf = true) (z : Int) (hzz : z = wrap64 (u : Int)) (hl : 1048576 < bs.length + (2 * ahd (zigN z) + 1)) :
    Calls Try.prog 10 #[.pointer (some ⟨q, 0, none⟩), .agg #[.int .i64 2, .int .u64 (u : Int), .int .i64 n, .string s]] w fun e w' => ∃ v, e = .returned (.tuple #[v, .bool true, .int .i64 3]) ∧ Flags w' w.heap.size v (natBits (zigN z)) ∧ SinkIs w' B q (bs) ∧ Kept B sinkT w w' := by
  obtain ⟨P, hP⟩ : ∃ P, P = w.heap.size := ⟨_, rfl⟩
  obtain ⟨W, hW⟩ : ∃ W, W = w.alloc (.cells #[.int .i64 2, .int .u64 (u : Int), .int .i64 n, .string s] 29) := ⟨_, rfl⟩
  have hPb : W.heap[P]? = some (.cells #[.int .i64 2, .int .u64 (u : Int), .int .i64 n, .string s] 29 (0, 0)) := by rw [hW, hP]; exact heap_alloc_new _ _
  have hSW : SinkIs W B q bs := by rw [hW]; exact hs.below ((Below.refl w.heap.size w).alloc (Nat.le_refl _) _) (Nat.le_refl _)
  have hBW : Below w.heap.size w W := by rw [hW]; exact (Below.refl _ _).alloc (Nat.le_refl _) _
  have hsz : w.heap.size + 1 ≤ W.heap.size := by rw [hW]; simp
  have hBq : B ≤ w.heap.size := by have h1 := hs.from_; have h2 := hs.lt; omega
  have hz : (Lit.int .i64 z).wf = true := by rw [hzz]; exact wrap64_wf _
  have hw1 : IntKind.i64.wrap (u : Int) = z := by rw [hzz]; exact IntWalk.i64_left _
  have hw2 : wrap64 (u : Int) = z := hzz.symm
  have CL := fun w => rNum_any z w hz
  have CB := fun w (hs : SinkIs w B q bs) => kNum_long B q z bs w hz hs hl
  have HPb := hide hPb; have HSW := hide hSW; have HBW := hide hBW; have HBq := hide hBq
  obtain ⟨p0, p1, p2, p3⟩ := cell_of_four hPb
  clear hPb hSW hBW hBq hs hu hn hl hz hzz
  go_enter Try.func10, Try.ntmps10
  go_wp2_with fail
  rw [← hW, ← hP]
  have HP := hide hP
  clear hW hP
  go_region_held3 (fun w' => w'.cell? ⟨P, 1, none⟩ = some (.int .u64 (u : Int))) (first | exact c1 | exact p1 | go_keep) (first | (go_at_call 36; (with_reducible refine (CL _).mono ?_); rintro e w2 ⟨v, rfl, hf2, hb2⟩; have HF2 := hide hf2; have HB2 := hide hb2; have hs2 := HSW.out.drew.below hb2 (Nat.le_refl _); have c1 := (cell_of_four ((hb2.block P (by have := lt_of_block HPb.out; simpa using this)).trans HPb.out)).2.1; have HPc := hide ((hb2.block P (by have := lt_of_block HPb.out; simpa using this)).trans HPb.out); have HS2 := hide hs2; clear hf2 hb2 hs2) | (go_at_call 30; refine (CB _ HS2.out).mono ?_; rintro e w' ⟨rfl, rfl⟩))
  go_wp2
  go_ret3
  have b2 : Below w.heap.size w w2 := HBW.out.drew.trans (HB2.out.mono (by simp; omega))
  have hBw : B ≤ w.heap.size := HBq.out
  exact ⟨v, rfl, HF2.out.lower (by simp; omega), HS2.out, kept_of_below b2 hBw⟩

set_option maxRecDepth 100000 in
set_option maxHeartbeats 1600000 in
theorem lput_num_fits (B q u : Nat) (kind n : Int) (s : ByteArray) (bs : List Bool) (w : World) (hs : SinkIs w B q bs) (hu : u < 2 ^ 64) (hn : (Lit.int .i64 n).wf = true) (z : Int) (hzz : z = wrap64 (u : Int)) (hl : bs.length + (2 * ahd (zigN z) + 1) ≤ 1048576) :
    Calls Try.prog 10 #[.pointer (some ⟨q, 0, none⟩), .agg #[.int .i64 2, .int .u64 (u : Int), .int .i64 n, .string s]] w fun e w' => ∃ v, e = .returned (.tuple #[v, .bool true, .int .i64 0]) ∧ Flags w' w.heap.size v (natBits (zigN z)) ∧ SinkIs w' B q (bs ++ natBits (zigN z)) ∧ Kept B sinkT w w' := by
  obtain ⟨P, hP⟩ : ∃ P, P = w.heap.size := ⟨_, rfl⟩
  obtain ⟨W, hW⟩ : ∃ W, W = w.alloc (.cells #[.int .i64 2, .int .u64 (u : Int), .int .i64 n, .string s] 29) := ⟨_, rfl⟩
  have hPb : W.heap[P]? = some (.cells #[.int .i64 2, .int .u64 (u : Int), .int .i64 n, .string s] 29 (0, 0)) := by rw [hW, hP]; exact heap_alloc_new _ _
  have hSW : SinkIs W B q bs := by rw [hW]; exact hs.below ((Below.refl w.heap.size w).alloc (Nat.le_refl _) _) (Nat.le_refl _)
  have hBW : Below w.heap.size w W := by rw [hW]; exact (Below.refl _ _).alloc (Nat.le_refl _) _
  have hsz : w.heap.size + 1 ≤ W.heap.size := by rw [hW]; simp
  have hBq : B ≤ w.heap.size := by have h1 := hs.from_; have h2 := hs.lt; omega
  have hz : (Lit.int .i64 z).wf = true := by rw [hzz]; exact wrap64_wf _
  have hw1 : IntKind.i64.wrap (u : Int) = z := by rw [hzz]; exact IntWalk.i64_left _
  have hw2 : wrap64 (u : Int) = z := hzz.symm
  have CL := fun w => rNum_any z w hz
  have CB := fun w (hs : SinkIs w B q bs) => kNum_fits B q z bs w hz hs hl
  have HPb := hide hPb; have HSW := hide hSW; have HBW := hide hBW; have HBq := hide hBq
  obtain ⟨p0, p1, p2, p3⟩ := cell_of_four hPb
  clear hPb hSW hBW hBq hs hu hn hl hz hzz
  go_enter Try.func10, Try.ntmps10
  go_wp2_with fail
  rw [← hW, ← hP]
  have HP := hide hP
  clear hW hP
  go_region_held3 (fun w' => w'.cell? ⟨P, 1, none⟩ = some (.int .u64 (u : Int))) (first | exact c1 | exact p1 | exact d1 | go_keep) (first | (go_at_call 36; (with_reducible refine (CL _).mono ?_); rintro e w2 ⟨v, rfl, hf2, hb2⟩; have HF2 := hide hf2; have HB2 := hide hb2; have hs2 := HSW.out.drew.below hb2 (Nat.le_refl _); have c1 := (cell_of_four ((hb2.block P (by have := lt_of_block HPb.out; simpa using this)).trans HPb.out)).2.1; have HPc := hide ((hb2.block P (by have := lt_of_block HPb.out; simpa using this)).trans HPb.out); have HS2 := hide hs2; clear hf2 hb2 hs2) | (go_at_call 30; refine (CB _ HS2.out).mono ?_; rintro e w3 ⟨rfl, hs3, hk3⟩; have d1 := (cell_of_four (hk3.typed _ _ _ _ HPc.out (by decide))).2.1; have HS3 := hide hs3; have HK3 := hide hk3; clear hs3 hk3))
  go_wp2
  go_ret3
  have b2 : Below w.heap.size w w2 := HBW.out.drew.trans (HB2.out.mono (by simp; omega))
  have hBw : B ≤ w.heap.size := HBq.out
  exact ⟨v, rfl, Flags.sink (HF2.out.lower (by simp; omega)) HK3.out, HS3.out, (kept_of_below b2 hBw).trans HK3.out⟩

end Go.Proofs.Ytlibfbfhleijlaa
