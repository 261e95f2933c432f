/- The walk of BitsTakes. -/
import Derived.Test.YtlibfbfhleijlaaTake
namespace Go.Proofs.Ytlibfbfhleijlaa
open Go Go.RowKit

theorem rNew_any (ao : Option Addr) (cap : Nat) (bytes : List Nat) (w : World) (hbig : bytes.length ≤ 1048576) (hsm : ∀ c ∈ bytes, c < 256) (h : BytesAt w ao bytes) :
    Calls Try.prog 16 #[.slice ao bytes.length cap] w fun e w' => ∃ q, e = .returned (.pointer (some ⟨q, 0, none⟩)) ∧ RefIs w' w.heap.size q (bitsAll bytes) ∧ Below w.heap.size w w' := by
  rcases Nat.eq_zero_or_pos bytes.length with hl | hl
  · obtain rfl : bytes = [] := List.length_eq_zero_iff.1 hl
    exact rNew_nil ao cap w
  · cases ao with
    | none => have := h.1 rfl; omega
    | some a =>
      obtain ⟨b, o, s⟩ := a
      have h0 := h.2 _ rfl 0 hl
      obtain rfl : s = none := by simpa [Addr.add] using World.cell?_spot h0
      have hb : b < w.heap.size := World.block_lt_of_cell? _ _ h0
      refine rNew_some b o cap bytes w hbig hsm (by simpa [Addr.add] using hb) (fun j hj => ?_)
      have := h.2 _ rfl j hj
      rwa [Go.WideShapes.add_plain] at this

theorem RefIs.drew {w : World} {B q : Nat} {l : List Bool} (h : RefIs w B q l) : RefIs w.drew B q l := ⟨h.from_, h.len, h.row⟩
theorem Both.drew {w : World} {B q q' : Nat} {bytes : List Nat} (h : Both w B q q' bytes) : Both w.drew B q q' bytes := by
  obtain ⟨p, h1, h2⟩ := h
  exact ⟨p, h1.drew, h2.drew⟩
theorem Both.below {w w' : World} {B B' q q' : Nat} {bytes : List Nat} (h : Both w B q q' bytes) (hb : Below B' w w') (hB : w.heap.size ≤ B') : Both w' B q q' bytes := by
  obtain ⟨p, h1, h2⟩ := h
  exact ⟨p, h1.below hb hB, h2.below hb hB⟩
/-- Where the part i of a slice of parts lies, and that it is one. -/
def PartAt (w : World) (b o i : Nat) : Prop := ∃ (kind u n : Int) (s : ByteArray), w.cell? ⟨b, o + i * 4, none⟩ = some (.int .i64 kind) ∧ w.cell? ⟨b, o + i * 4 + 1, none⟩ = some (.int .u64 u) ∧
  w.cell? ⟨b, o + i * 4 + 2, none⟩ = some (.int .i64 n) ∧ w.cell? ⟨b, o + i * 4 + 3, none⟩ = some (.string s) ∧ (Lit.int .i64 n).wf = true ∧ (Lit.int .u64 u).wf = true ∧ (Lit.int .i64 kind).wf = true ∧ s.size ≤ 1048576
def PartsAt (w : World) (ao : Option Addr) (N : Nat) : Prop := 0 < N → ∃ b o, ao = some ⟨b, o, none⟩ ∧ b < w.heap.size ∧ ∀ i, i < N → PartAt w b o i

theorem RefIs.cell0 {w : World} {B q : Nat} {bytes : List Nat} {p : Nat} (h : RefIs w B q (leftL bytes p)) : ∃ ao cap, w.cell? ⟨q, 0, none⟩ = some (.slice ao (8 * bytes.length - p) cap) := by
  obtain ⟨ao, cap, hq, _⟩ := h.row
  rw [leftL_length] at hq
  exact ⟨ao, cap, cell_of_one hq⟩

set_option maxRecDepth 100000 in
set_option maxHeartbeats 1600000 in
theorem takes_walk (ao1 ao2 : Option Addr) (c1 N c2 : Nat) (bytes : List Nat) (w : World) (hbig : bytes.length ≤ 1048576) (hsm : ∀ c ∈ bytes, c < 256) (hb1 : BytesAt w ao1 bytes) (hN : N ≤ 1048576) (hl : PartsAt w ao2 N) :
    Calls Try.prog 4 #[.slice ao1 bytes.length c1, .slice ao2 N c2] w fun e w' => e = .returned (.bool true) ∧ Below w.heap.size w w' := by
  have C1 := newSource_any ao1 c1 bytes w (by omega) hsm hb1
  have HL := hide hl; have HB1 := hide hb1; have HSm := hide hsm; have HBig := hide hbig
  clear hl hb1 hsm hbig
  obtain ⟨H0, hH0⟩ : ∃ H0, H0 = w.heap.size := ⟨_, rfl⟩
  rw [← hH0] at C1
  have HH := hide hH0
  rw [← hH0]
  clear hH0
  go_enter Try.func4, Try.ntmps4
  go_wp2_with fail
  refine C1.mono ?_
  clear C1
  rintro e w1 ⟨q, rfl, hs1, b1⟩
  have hb1' : BytesAt w1 ao1 bytes := by
    refine ⟨HB1.out.1, fun a ha j hj => ?_⟩
    have h := HB1.out.2 a ha j hj
    have hlt := World.block_lt_of_cell? _ _ h
    exact (b1.cell (by rw [HH.out]; exact hlt)).trans h
  go_wp2_with fail
  refine (rNew_any ao1 c1 bytes w1 HBig.out HSm.out hb1').mono ?_
  rintro e w2 ⟨q', rfl, hr2, b2⟩
  go_wp2_with fail
  refine (live_any w2).mono ?_
  rintro e w3 ⟨rfl, b3⟩
  have hsz1 : H0 ≤ w1.heap.size := by have := b1.size; rw [HH.out]; exact this
  have hsz2 : w1.heap.size ≤ w2.heap.size := b2.size
  have hS : SrcIs w3 H0 q bytes 0 := (hs1.below b2 (Nat.le_refl _)).below b3 (Nat.le_refl _)
  have hR : RefIs w3 H0 q' (leftL bytes 0) := (hr2.below b3 (Nat.le_refl _)).lower hsz1
  have hB3 : Below H0 w w3 := (b1.trans (b2.mono hsz1)).trans (b3.mono (Nat.le_trans hsz1 hsz2))
  have HBo : Hid (Both w3 H0 q q' bytes) := ⟨0, hS, hR⟩
  have HB3 := hide hB3
  clear hS hR hB3 hs1 hr2 b1 b2 b3 hb1' hsz1 hsz2
  go_wp2_with fail
  go_loopw [21] (fun i wr => ∃ k : Nat, k ≤ N ∧ i = .int .i64 k ∧ Both wr H0 q q' bytes ∧ Below H0 w wr) (fun i _ => N - (intOf i).toNat)
  case atStart => exact ⟨0, Nat.zero_le _, rfl, HBo.out, HB3.out⟩
  case round =>
    obtain ⟨k, hk, rfl, hbo, hbr⟩ := hrel
    have HBr := hide hbr; have HBt := hide hbo; clear hbr hbo
    by_cases hlt : k < N
    · obtain ⟨b2, o2, rfl, hb2, hp⟩ := HL.out (by omega)
      obtain ⟨kind, u, n, s, p0, p1, p2, p3, wn, wu, wk, hsz⟩ := hp k hlt
      have hb2' : b2 < H0 := by rw [HH.out]; exact hb2
      have r0 := (HBr.out.cell (p := ⟨b2, o2 + k * 4, none⟩) hb2').trans p0
      have r1 := (HBr.out.cell (p := ⟨b2, o2 + k * 4 + 1, none⟩) hb2').trans p1
      have r2 := (HBr.out.cell (p := ⟨b2, o2 + k * 4 + 2, none⟩) hb2').trans p2
      have r3 := (HBr.out.cell (p := ⟨b2, o2 + k * 4 + 3, none⟩) hb2').trans p3
      clear p0 p1 p2 p3 hb2 hp wu wk hsz
      have HWn := hide wn; clear wn
      go_wp2_with fail
      obtain ⟨P, hP⟩ : ∃ P, P = wr.heap.size := ⟨_, rfl⟩
      obtain ⟨W, hW⟩ : ∃ W, W = wr.alloc (.cells #[.int .i64 kind, .int .u64 u, .int .i64 n, .string s] 29) := ⟨_, rfl⟩
      have hPb : W.heap[P]? = some (.cells #[.int .i64 kind, .int .u64 u, .int .i64 n, .string s] 29 (0, 0)) := by rw [hW, hP]; exact heap_alloc_new _ _
      have hH0r : H0 ≤ wr.heap.size := by have := HBr.out.size; rw [HH.out]; exact this
      have hBW : Below H0 w W := by rw [hW]; exact HBr.out.alloc hH0r _
      have hBoW : Both W H0 q q' bytes := by rw [hW]; exact HBt.out.below ((Below.refl wr.heap.size wr).alloc (Nat.le_refl _) _) (Nat.le_refl _)
      have hH0W : H0 ≤ W.heap.size := by rw [hW]; simp; omega
      rw [← hW, ← hP]
      obtain ⟨s0, s1, s2, s3⟩ := cell_of_four hPb
      have HBoW := hide hBoW; have HBW := hide hBW
      clear hW hP hPb hBW hBoW r0 r1 r2 r3
      go_region_law (first | (go_simp; first | (go_at_call 17; refine (take_any H0 q q' bytes kind n u s _ HBoW.out.drew hH0W HWn.out).mono ?_; rintro e w2 ⟨rfl, hbo2, k2⟩; obtain ⟨p2, hs2, hr2⟩ := hbo2; obtain ⟨ao3, c3, hz2⟩ := hr2.cell0; have HS2 := hide hs2; have HR2 := hide hr2; have HK2 := hide k2; clear hs2 hr2 k2) | (go_at_call 18; refine (sLeft_k H0 q bytes p2 _ HS2.out).mono ?_; rintro e w3 ⟨rfl, hs3, k3⟩; have HR3 := hide (HR2.out.kept k3 (by decide) (by decide)); obtain ⟨ao4, c4, hz3⟩ := HR3.out.cell0; have HS3 := hide hs3; have HK3 := hide k3; clear hs3 k3) | (go_at_call 19; refine (sEnd_left H0 q bytes p2 _ HS3.out).mono ?_; rintro e w4 ⟨rfl, hs4, k4⟩; have HR4 := hide (HR3.out.kept k4 (by decide) (by decide)); have HS4 := hide hs4; have HK4 := hide k4; clear hs4 k4) | (go_at_call 20; refine (rsEnd_any H0 q' _ _ HR4.out).mono ?_; rintro e w' ⟨rfl, rfl⟩)))
      all_goals go_wp2
      all_goals go_roundw
      all_goals try (case' measure => simp [intOf]; omega)
      all_goals exact ⟨k + 1, by omega, by go_num, ⟨p2, HS4.out, HR4.out⟩, ((HBW.out.drew.trans HK2.out.below).trans HK3.out.below).trans HK4.out.below⟩
    · go_wp2
      go_ret
      exact ⟨rfl, HBr.out⟩
end Go.Proofs.Ytlibfbfhleijlaa
