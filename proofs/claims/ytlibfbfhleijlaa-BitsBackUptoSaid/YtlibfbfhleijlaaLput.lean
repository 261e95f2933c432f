/- Contracts of put of the statements: a part is put into a sink, and the document's own bits of it are told. -/
import Derived.Test.YtlibfbfhleijlaaPack
import Derived.Deep.RegionHeld3
namespace Go.Proofs.Ytlibfbfhleijlaa
open Go Go.RowKit

/-- How many bits a part of the kind Bits asks for, from 0 to 64. -/
def clampN (n : Int) : Nat := (min (max n 0) 64).toNat
theorem clampN_le (n : Int) : clampN n ≤ 64 := by unfold clampN; omega
theorem clampN_eq (m : Nat) (h : m ≤ 64) : clampN (m : Int) = m := by unfold clampN; omega

/-- What a sink is after a call with this outcome. -/
theorem Flags.sink {w w' : World} {B B' : Nat} {v : Value} {bs : List Bool} (h : Flags w B v bs) (hk : Kept B' sinkT w w') : Flags w' B v bs := hk.ownsRow h (by decide)

theorem kept_of_below {B : Nat} {T : Nat → Bool} {w w' : World} (h : Below w.heap.size w w') (hB : B ≤ w.heap.size) : Kept B T w w' :=
  ⟨h.mono hB, fun k cs e fr hk _ => by rw [h.block k (lt_of_block hk)]; exact hk⟩
theorem kept_size {B : Nat} {T : Nat → Bool} {w w' : World} (h : Kept B T w w') : w.heap.size ≤ w'.heap.size := h.below.size

set_option maxRecDepth 100000 in
set_option maxHeartbeats 1600000 in
theorem lput_bits_unfit (B q u : Nat) (kind n : Int) (s : ByteArray) (bs : List Bool) (w : World) (hs : SinkIs w B q bs) (hu : u < 2 ^ 64) (hn : (Lit.int .i64 n).wf = true) (hf : fitsB u n = false) :
    Calls Try.prog 10 #[.pointer (some ⟨q, 0, none⟩), .agg #[.int .i64 0, .int .u64 (u : Int), .int .i64 n, .string s]] w fun e w' => ∃ v, e = .returned (.tuple #[v, .bool false, .int .i64 1]) ∧ Flags w' w.heap.size v (bitsOf u (clampN n)) ∧ SinkIs w' B q (bs) ∧ Kept B sinkT w w' := by
  obtain ⟨P, hP⟩ : ∃ P, P = w.heap.size := ⟨_, rfl⟩
  obtain ⟨W, hW⟩ : ∃ W, W = w.alloc (.cells #[.int .i64 0, .int .u64 (u : Int), .int .i64 n, .string s] 29) := ⟨_, rfl⟩
  have hPb : W.heap[P]? = some (.cells #[.int .i64 0, .int .u64 (u : Int), .int .i64 n, .string s] 29 (0, 0)) := by rw [hW, hP]; exact heap_alloc_new _ _
  have hSW : SinkIs W B q bs := by rw [hW]; exact hs.below ((Below.refl w.heap.size w).alloc (Nat.le_refl _) _) (Nat.le_refl _)
  have hBW : Below w.heap.size w W := by rw [hW]; exact (Below.refl _ _).alloc (Nat.le_refl _) _
  have hsz : w.heap.size + 1 ≤ W.heap.size := by rw [hW]; simp
  have hBq : B ≤ w.heap.size := by have h1 := hs.from_; have h2 := hs.lt; omega
  have emin : min (max n 0) 64 = ((clampN n : Nat) : Int) := by unfold clampN; omega
  have CL := fun w => rLow_any u (clampN n) w hu (clampN_le n)
  have CF := fun w => rFits_any u n w hu hn
  have CB := fun w (hs : SinkIs w B q bs) => kBits_unfit B q u n bs w hs hf hu hn
  rw [hf] at CF
  have HPb := hide hPb; have HSW := hide hSW; have HBW := hide hBW; have HBq := hide hBq
  obtain ⟨p0, p1, p2, p3⟩ := cell_of_four hPb
  clear hPb hSW hBW hBq hs hu hn hf
  go_enter Try.func10, Try.ntmps10
  go_wp2_with fail
  rw [← hW, ← hP]
  have HP := hide hP
  clear hW hP
  go_region_held3 (fun w' => w'.cell? ⟨P, 1, none⟩ = some (.int .u64 (u : Int)) ∧ w'.cell? ⟨P, 2, none⟩ = some (.int .i64 n)) (first | exact ⟨c1, c2⟩ | exact ⟨p1, p2⟩ | go_keep) (first | (go_at_call 34; (with_reducible refine (CL _).mono ?_); rintro e w2 ⟨v, rfl, hf2, hb2⟩; have HF2 := hide hf2; have HB2 := hide hb2; have hs2 := HSW.out.drew.below hb2 (Nat.le_refl _); have c1 := (cell_of_four ((hb2.block P (by have := lt_of_block HPb.out; simpa using this)).trans HPb.out)).2.1; have c2 := (cell_of_four ((hb2.block P (by have := lt_of_block HPb.out; simpa using this)).trans HPb.out)).2.2.1; have HPc := hide ((hb2.block P (by have := lt_of_block HPb.out; simpa using this)).trans HPb.out); have HS2 := hide hs2; clear hf2 hb2 hs2) | (go_at_call 35; refine (CF _).mono ?_; rintro e w' ⟨rfl, rfl⟩) | (go_at_call 29; refine (CB _ HS2.out).mono ?_; rintro e w' ⟨rfl, rfl⟩))
  go_wp2
  go_ret3
  have b2 : Below w.heap.size w w2 := HBW.out.drew.trans (HB2.out.mono (by simp; omega))
  have hBw : B ≤ w.heap.size := HBq.out
  exact ⟨v, rfl, HF2.out.lower (by simp; omega), HS2.out, kept_of_below b2 hBw⟩

set_option maxRecDepth 100000 in
set_option maxHeartbeats 1600000 in
theorem lput_nat_long (B q u : Nat) (kind n : Int) (s : ByteArray) (bs : List Bool) (w : World) (hs : SinkIs w B q bs) (hu : u < 2 ^ 64) (hn : (Lit.int .i64 n).wf = true) (hl : 1048576 < bs.length + (2 * ahd u + 1)) :
    Calls Try.prog 10 #[.pointer (some ⟨q, 0, none⟩), .agg #[.int .i64 1, .int .u64 (u : Int), .int .i64 n, .string s]] w fun e w' => ∃ v, e = .returned (.tuple #[v, .bool true, .int .i64 3]) ∧ Flags w' w.heap.size v (natBits u) ∧ SinkIs w' B q (bs) ∧ Kept B sinkT w w' := by
  obtain ⟨P, hP⟩ : ∃ P, P = w.heap.size := ⟨_, rfl⟩
  obtain ⟨W, hW⟩ : ∃ W, W = w.alloc (.cells #[.int .i64 1, .int .u64 (u : Int), .int .i64 n, .string s] 29) := ⟨_, rfl⟩
  have hPb : W.heap[P]? = some (.cells #[.int .i64 1, .int .u64 (u : Int), .int .i64 n, .string s] 29 (0, 0)) := by rw [hW, hP]; exact heap_alloc_new _ _
  have hSW : SinkIs W B q bs := by rw [hW]; exact hs.below ((Below.refl w.heap.size w).alloc (Nat.le_refl _) _) (Nat.le_refl _)
  have hBW : Below w.heap.size w W := by rw [hW]; exact (Below.refl _ _).alloc (Nat.le_refl _) _
  have hsz : w.heap.size + 1 ≤ W.heap.size := by rw [hW]; simp
  have hBq : B ≤ w.heap.size := by have h1 := hs.from_; have h2 := hs.lt; omega
  have CL := fun w => rNat_any u w hu
  have CB := fun w (hs : SinkIs w B q bs) => kNat_long B q u bs w hu hs hl
  have HPb := hide hPb; have HSW := hide hSW; have HBW := hide hBW; have HBq := hide hBq
  obtain ⟨p0, p1, p2, p3⟩ := cell_of_four hPb
  clear hPb hSW hBW hBq hs hu hn hl
  go_enter Try.func10, Try.ntmps10
  go_wp2_with fail
  rw [← hW, ← hP]
  have HP := hide hP
  clear hW hP
  go_region_held3 (fun w' => w'.cell? ⟨P, 1, none⟩ = some (.int .u64 (u : Int))) (first | exact c1 | exact p1 | go_keep) (first | (go_at_call 26; (with_reducible refine (CL _).mono ?_); rintro e w2 ⟨v, rfl, hf2, hb2⟩; have HF2 := hide hf2; have HB2 := hide hb2; have hs2 := HSW.out.drew.below hb2 (Nat.le_refl _); have c1 := (cell_of_four ((hb2.block P (by have := lt_of_block HPb.out; simpa using this)).trans HPb.out)).2.1; have HPc := hide ((hb2.block P (by have := lt_of_block HPb.out; simpa using this)).trans HPb.out); have HS2 := hide hs2; clear hf2 hb2 hs2) | (go_at_call 28; refine (CB _ HS2.out).mono ?_; rintro e w' ⟨rfl, rfl⟩))
  go_wp2
  go_ret3
  have b2 : Below w.heap.size w w2 := HBW.out.drew.trans (HB2.out.mono (by simp; omega))
  have hBw : B ≤ w.heap.size := HBq.out
  exact ⟨v, rfl, HF2.out.lower (by simp; omega), HS2.out, kept_of_below b2 hBw⟩

set_option maxRecDepth 100000 in
set_option maxHeartbeats 1600000 in
theorem lput_nat_fits (B q u : Nat) (kind n : Int) (s : ByteArray) (bs : List Bool) (w : World) (hs : SinkIs w B q bs) (hu : u < 2 ^ 64) (hn : (Lit.int .i64 n).wf = true) (hl : bs.length + (2 * ahd u + 1) ≤ 1048576) :
    Calls Try.prog 10 #[.pointer (some ⟨q, 0, none⟩), .agg #[.int .i64 1, .int .u64 (u : Int), .int .i64 n, .string s]] w fun e w' => ∃ v, e = .returned (.tuple #[v, .bool true, .int .i64 0]) ∧ Flags w' w.heap.size v (natBits u) ∧ SinkIs w' B q (bs ++ natBits u) ∧ Kept B sinkT w w' := by
  obtain ⟨P, hP⟩ : ∃ P, P = w.heap.size := ⟨_, rfl⟩
  obtain ⟨W, hW⟩ : ∃ W, W = w.alloc (.cells #[.int .i64 1, .int .u64 (u : Int), .int .i64 n, .string s] 29) := ⟨_, rfl⟩
  have hPb : W.heap[P]? = some (.cells #[.int .i64 1, .int .u64 (u : Int), .int .i64 n, .string s] 29 (0, 0)) := by rw [hW, hP]; exact heap_alloc_new _ _
  have hSW : SinkIs W B q bs := by rw [hW]; exact hs.below ((Below.refl w.heap.size w).alloc (Nat.le_refl _) _) (Nat.le_refl _)
  have hBW : Below w.heap.size w W := by rw [hW]; exact (Below.refl _ _).alloc (Nat.le_refl _) _
  have hsz : w.heap.size + 1 ≤ W.heap.size := by rw [hW]; simp
  have hBq : B ≤ w.heap.size := by have h1 := hs.from_; have h2 := hs.lt; omega
  have CL := fun w => rNat_any u w hu
  have CB := fun w (hs : SinkIs w B q bs) => kNat_fits B q u bs w hu hs hl
  have HPb := hide hPb; have HSW := hide hSW; have HBW := hide hBW; have HBq := hide hBq
  obtain ⟨p0, p1, p2, p3⟩ := cell_of_four hPb
  clear hPb hSW hBW hBq hs hu hn hl
  go_enter Try.func10, Try.ntmps10
  go_wp2_with fail
  rw [← hW, ← hP]
  have HP := hide hP
  clear hW hP
  go_region_held3 (fun w' => w'.cell? ⟨P, 1, none⟩ = some (.int .u64 (u : Int))) (first | exact c1 | exact p1 | exact d1 | go_keep) (first | (go_at_call 26; (with_reducible refine (CL _).mono ?_); rintro e w2 ⟨v, rfl, hf2, hb2⟩; have HF2 := hide hf2; have HB2 := hide hb2; have hs2 := HSW.out.drew.below hb2 (Nat.le_refl _); have c1 := (cell_of_four ((hb2.block P (by have := lt_of_block HPb.out; simpa using this)).trans HPb.out)).2.1; have HPc := hide ((hb2.block P (by have := lt_of_block HPb.out; simpa using this)).trans HPb.out); have HS2 := hide hs2; clear hf2 hb2 hs2) | (go_at_call 28; refine (CB _ HS2.out).mono ?_; rintro e w3 ⟨rfl, hs3, hk3⟩; have d1 := (cell_of_four (hk3.typed _ _ _ _ HPc.out (by decide))).2.1; have HS3 := hide hs3; have HK3 := hide hk3; clear hs3 hk3))
  go_wp2
  go_ret3
  have b2 : Below w.heap.size w w2 := HBW.out.drew.trans (HB2.out.mono (by simp; omega))
  have hBw : B ≤ w.heap.size := HBq.out
  exact ⟨v, rfl, Flags.sink (HF2.out.lower (by simp; omega)) HK3.out, HS3.out, (kept_of_below b2 hBw).trans HK3.out⟩

set_option maxRecDepth 100000 in
set_option maxHeartbeats 1600000 in
theorem lput_text_long (B q u : Nat) (kind n : Int) (s : ByteArray) (bs : List Bool) (w : World) (hs : SinkIs w B q bs) (hu : u < 2 ^ 64) (hn : (Lit.int .i64 n).wf = true) (hsb : s.size ≤ 1048576) (hl : 1048576 < bs.length + (2 * ahd s.size + 1 + 8 * s.size)) :
    Calls Try.prog 10 #[.pointer (some ⟨q, 0, none⟩), .agg #[.int .i64 3, .int .u64 (u : Int), .int .i64 n, .string s]] w fun e w' => ∃ v, e = .returned (.tuple #[v, .bool true, .int .i64 3]) ∧ Flags w' w.heap.size v (textBits s.data.toList) ∧ SinkIs w' B q (bs) ∧ Kept B sinkT w w' := by
  obtain ⟨P, hP⟩ : ∃ P, P = w.heap.size := ⟨_, rfl⟩
  obtain ⟨W, hW⟩ : ∃ W, W = w.alloc (.cells #[.int .i64 3, .int .u64 (u : Int), .int .i64 n, .string s] 29) := ⟨_, rfl⟩
  have hPb : W.heap[P]? = some (.cells #[.int .i64 3, .int .u64 (u : Int), .int .i64 n, .string s] 29 (0, 0)) := by rw [hW, hP]; exact heap_alloc_new _ _
  have hSW : SinkIs W B q bs := by rw [hW]; exact hs.below ((Below.refl w.heap.size w).alloc (Nat.le_refl _) _) (Nat.le_refl _)
  have hBW : Below w.heap.size w W := by rw [hW]; exact (Below.refl _ _).alloc (Nat.le_refl _) _
  have hsz : w.heap.size + 1 ≤ W.heap.size := by rw [hW]; simp
  have hBq : B ≤ w.heap.size := by have h1 := hs.from_; have h2 := hs.lt; omega
  have CL := fun w => rText_any s w hsb
  have CB := fun w (hs : SinkIs w B q bs) => kText_long B q s bs w hs hsb hl
  have HPb := hide hPb; have HSW := hide hSW; have HBW := hide hBW; have HBq := hide hBq
  obtain ⟨p0, p1, p2, p3⟩ := cell_of_four hPb
  clear hPb hSW hBW hBq hs hu hn hl
  go_enter Try.func10, Try.ntmps10
  go_wp2_with fail
  rw [← hW, ← hP]
  have HP := hide hP
  clear hW hP
  go_region_held3 (fun w' => w'.cell? ⟨P, 3, none⟩ = some (.string s)) (first | exact c3 | exact p3 | go_keep) (first | (go_at_call 37; (with_reducible refine (CL _).mono ?_); rintro e w2 ⟨v, rfl, hf2, hb2⟩; have HF2 := hide hf2; have HB2 := hide hb2; have hs2 := HSW.out.drew.below hb2 (Nat.le_refl _); have c3 := (cell_of_four ((hb2.block P (by have := lt_of_block HPb.out; simpa using this)).trans HPb.out)).2.2.2; have HPc := hide ((hb2.block P (by have := lt_of_block HPb.out; simpa using this)).trans HPb.out); have HS2 := hide hs2; clear hf2 hb2 hs2) | (go_at_call 31; refine (CB _ HS2.out).mono ?_; rintro e w' ⟨rfl, rfl⟩))
  go_wp2
  go_ret3
  have b2 : Below w.heap.size w w2 := HBW.out.drew.trans (HB2.out.mono (by simp; omega))
  have hBw : B ≤ w.heap.size := HBq.out
  exact ⟨v, rfl, HF2.out.lower (by simp; omega), HS2.out, kept_of_below b2 hBw⟩

set_option maxRecDepth 100000 in
set_option maxHeartbeats 1600000 in
theorem lput_text_fits (B q u : Nat) (kind n : Int) (s : ByteArray) (bs : List Bool) (w : World) (hs : SinkIs w B q bs) (hu : u < 2 ^ 64) (hn : (Lit.int .i64 n).wf = true) (hsb : s.size ≤ 1048576) (hl : bs.length + (2 * ahd s.size + 1 + 8 * s.size) ≤ 1048576) :
    Calls Try.prog 10 #[.pointer (some ⟨q, 0, none⟩), .agg #[.int .i64 3, .int .u64 (u : Int), .int .i64 n, .string s]] w fun e w' => ∃ v, e = .returned (.tuple #[v, .bool true, .int .i64 0]) ∧ Flags w' w.heap.size v (textBits s.data.toList) ∧ SinkIs w' B q (bs ++ textBits s.data.toList) ∧ Kept B sinkT w w' := by
  obtain ⟨P, hP⟩ : ∃ P, P = w.heap.size := ⟨_, rfl⟩
  obtain ⟨W, hW⟩ : ∃ W, W = w.alloc (.cells #[.int .i64 3, .int .u64 (u : Int), .int .i64 n, .string s] 29) := ⟨_, rfl⟩
  have hPb : W.heap[P]? = some (.cells #[.int .i64 3, .int .u64 (u : Int), .int .i64 n, .string s] 29 (0, 0)) := by rw [hW, hP]; exact heap_alloc_new _ _
  have hSW : SinkIs W B q bs := by rw [hW]; exact hs.below ((Below.refl w.heap.size w).alloc (Nat.le_refl _) _) (Nat.le_refl _)
  have hBW : Below w.heap.size w W := by rw [hW]; exact (Below.refl _ _).alloc (Nat.le_refl _) _
  have hsz : w.heap.size + 1 ≤ W.heap.size := by rw [hW]; simp
  have hBq : B ≤ w.heap.size := by have h1 := hs.from_; have h2 := hs.lt; omega
  have CL := fun w => rText_any s w hsb
  have CB := fun w (hs : SinkIs w B q bs) => kText_fits B q s bs w hs hl
  have HPb := hide hPb; have HSW := hide hSW; have HBW := hide hBW; have HBq := hide hBq
  obtain ⟨p0, p1, p2, p3⟩ := cell_of_four hPb
  clear hPb hSW hBW hBq hs hu hn hl
  go_enter Try.func10, Try.ntmps10
  go_wp2_with fail
  rw [← hW, ← hP]
  have HP := hide hP
  clear hW hP
  go_region_held3 (fun w' => w'.cell? ⟨P, 3, none⟩ = some (.string s)) (first | exact c3 | exact p3 | exact d3 | go_keep) (first | (go_at_call 37; (with_reducible refine (CL _).mono ?_); rintro e w2 ⟨v, rfl, hf2, hb2⟩; have HF2 := hide hf2; have HB2 := hide hb2; have hs2 := HSW.out.drew.below hb2 (Nat.le_refl _); have c3 := (cell_of_four ((hb2.block P (by have := lt_of_block HPb.out; simpa using this)).trans HPb.out)).2.2.2; have HPc := hide ((hb2.block P (by have := lt_of_block HPb.out; simpa using this)).trans HPb.out); have HS2 := hide hs2; clear hf2 hb2 hs2) | (go_at_call 31; refine (CB _ HS2.out).mono ?_; rintro e w3 ⟨rfl, hs3, hk3⟩; have d3 := (cell_of_four (hk3.typed _ _ _ _ HPc.out (by decide))).2.2.2; have HS3 := hide hs3; have HK3 := hide hk3; clear hs3 hk3))
  go_wp2
  go_ret3
  have b2 : Below w.heap.size w w2 := HBW.out.drew.trans (HB2.out.mono (by simp; omega))
  have hBw : B ≤ w.heap.size := HBq.out
  exact ⟨v, rfl, Flags.sink (HF2.out.lower (by simp; omega)) HK3.out, HS3.out, (kept_of_below b2 hBw).trans HK3.out⟩

end Go.Proofs.Ytlibfbfhleijlaa
