/- The walk of BitsNone. -/
import Derived.Test.YtlibfbfhleijlaaNone1
namespace Go.Proofs.Ytlibfbfhleijlaa
open Go Go.RowKit

theorem clone_any (ao : Option Addr) (c : Nat) (bytes : List Nat) (w : World) (hbig : bytes.length ≤ 140737488355328) (h : BytesAt w ao bytes) :
    Calls Try.prog 33 #[.slice ao bytes.length c] w fun e w' => ∃ v, e = .returned v ∧ w'.ownsRow w.heap.size 5 1 v bytes.length (byteVs bytes) ∧ Below w.heap.size w w' := by
  cases ao with
  | none =>
    obtain rfl : bytes = [] := List.length_eq_zero_iff.1 (h.1 rfl)
    exact (Try.bytes_Clone_nil 0 c w).mono fun e w' ⟨he, hw⟩ => ⟨_, he, by rw [hw]; exact World.ownsRow_nil _ _ _ _, by rw [hw]; exact Below.refl _ _⟩
  | some a =>
    have C := Try.bytes_Clone_at a bytes.length c (bytes.map fun x : Nat => (x : Int)) w (by simp) hbig (fun i hi => by rw [h.2 a rfl i hi]; simp [List.getD, hi])
    rw [byteVs_ints] at C
    exact C.mono fun e w' ⟨v, he, ho, _, hb⟩ => ⟨v, he, ho, hb⟩
theorem bytesAt_own {w : World} {B : Nat} {v : Value} {bytes : List Nat} (h : w.ownsRow B 5 1 v bytes.length (byteVs bytes)) : ∃ ao cap, v = .slice ao bytes.length cap ∧ BytesAt w ao bytes := by
  rcases h.2 with ⟨hv, hn0⟩ | ⟨g, cap, cur, hv, hg, hgg, hgn, hcapm, hcsz, htake⟩
  · exact ⟨none, 0, by rw [hv, hn0], fun _ => hn0, fun a ha => by cases ha⟩
  · refine ⟨some ⟨g, 0, none⟩, cap, hv, (fun h => by cases h), fun a ha j hj => ?_⟩
    simp only [Option.some.injEq] at ha
    subst ha
    subst hv
    exact h.cells (g := g) rfl j _ (by simp [byteVs, hj])

theorem xor_255 (x : Nat) (hx : x < 256) : bits BinOp.xor IntKind.u8 (x : Int) 255 = ((255 - x : Nat) : Int) := by
  have h : ∀ x : Fin 256, bits BinOp.xor IntKind.u8 ((x.val : Nat) : Int) 255 = ((255 - x.val : Nat) : Int) := by decide +kernel
  exact h ⟨x, hx⟩
theorem SrcIs.lower {w : World} {B B' q : Nat} {bytes : List Nat} {p : Nat} (h : SrcIs w B q bytes p) (hB : B' ≤ B) : SrcIs w B' q bytes p := by
  obtain ⟨v, h1, h2⟩ := h.row
  exact ⟨Nat.le_trans hB h.from_, h.len, h.at_, h.small, v, h1, ownsRow_lower h2 hB⟩

set_option maxRecDepth 1000000 in
set_option maxHeartbeats 6400000 in
theorem none_walk (ao : Option Addr) (c : Nat) (kind u n : Int) (s : ByteArray) (bytes : List Nat) (w : World) (hbig : bytes.length ≤ 1048576) (hsm : ∀ c ∈ bytes, c < 256) (hb1 : BytesAt w ao bytes) (hn : (Lit.int .i64 n).wf = true) :
    Calls Try.prog 7 #[.agg #[.int .i64 kind, .int .u64 u, .int .i64 n, .string s], .slice ao bytes.length c] w fun e w' => e = .returned (.bool true) ∧ Below w.heap.size w w' := by
  have HB1 := hide hb1; have HSm := hide hsm; have HBig := hide hbig; have HWn := hide hn
  clear hb1 hsm hbig hn
  obtain ⟨H0, hH0⟩ : ∃ H0, H0 = w.heap.size := ⟨_, rfl⟩
  have HH := hide hH0
  rw [← hH0]
  clear hH0
  go_enter Try.func7, Try.ntmps7
  go_wp2_with fail
  obtain ⟨P, hP⟩ : ∃ P, P = w.heap.size := ⟨_, rfl⟩
  obtain ⟨Z, hZ⟩ : ∃ Z, Z = w.heap.size + 1 := ⟨_, rfl⟩
  obtain ⟨A, hA⟩ : ∃ A, A = w.heap.size + 1 + 1 := ⟨_, rfl⟩
  obtain ⟨W1, hW1⟩ : ∃ W1, W1 = ((w.alloc (.cells #[.int .i64 kind, .int .u64 u, .int .i64 n, .string s] 29)).alloc (.cells #[.bool false, .slice none 0 0, .int .u8 0, .int .i64 0] 62)).alloc (.cells #[.pointer none, .pointer (some ⟨w.heap.size + 1, 0, none⟩)] 23) := ⟨_, rfl⟩
  rw [← hW1, ← hA, ← hZ, ← hP]
  have pb : W1.heap[P]? = some (.cells #[.int .i64 kind, .int .u64 u, .int .i64 n, .string s] 29 (0, 0)) := by
    rw [hW1, hP]; exact heap_alloc_keeps (heap_alloc_keeps (heap_alloc_new _ _) _) _
  have zb : W1.heap[Z]? = some (.cells #[.bool false, .slice none 0 0, .int .u8 0, .int .i64 0] 62 (0, 0)) := by
    rw [hW1, hZ]; exact heap_alloc_keeps (by have := heap_alloc_new (w.alloc (.cells #[.int .i64 kind, .int .u64 u, .int .i64 n, .string s] 29)) (.cells #[.bool false, .slice none 0 0, .int .u8 0, .int .i64 0] 62); simpa using this) _
  have ab : W1.heap[A]? = some (.cells #[.pointer none, .pointer (some ⟨Z, 0, none⟩)] 23 (0, 0)) := by
    rw [hW1, hA, hZ]
    have := heap_alloc_new ((w.alloc (.cells #[.int .i64 kind, .int .u64 u, .int .i64 n, .string s] 29)).alloc (.cells #[.bool false, .slice none 0 0, .int .u8 0, .int .i64 0] 62)) (.cells #[.pointer none, .pointer (some ⟨w.heap.size + 1, 0, none⟩)] 23)
    simpa using this
  have hB1 : Below H0 w W1 := by
    rw [hW1]
    exact (((Below.refl _ _).alloc (by rw [HH.out]; exact Nat.le_refl _) _).alloc (by rw [HH.out]; simp) _).alloc (by rw [HH.out]; simp; omega) _
  have HPb := hide pb; have HZb := hide zb; have HAb := hide ab; have HB1' := hide hB1
  clear pb zb ab hB1 hW1 hP hZ hA
  obtain ⟨M, hM⟩ : ∃ M, M = W1.heap.size := ⟨_, rfl⟩
  have hPM : P < M := by rw [hM]; exact lt_of_block HPb.out
  have hZM : Z < M := by rw [hM]; exact lt_of_block HZb.out
  have hAM : A < M := by rw [hM]; exact lt_of_block HAb.out
  have HMM := hide hM; clear hM
  go_loopw [27] (fun i wr => ∃ k : Nat, k ≤ 2 ∧ i = .int .i64 k ∧ Below M W1 wr) (fun i _ => 2 - (intOf i).toNat)
  case atStart => exact ⟨0, Nat.zero_le _, rfl, Below.refl _ _⟩
  case round =>
    obtain ⟨k, hk, rfl, hbr⟩ := hrel
    have HBr := hide hbr; clear hbr
    have hMr : M ≤ wr.heap.size := by have := HBr.out.size; rw [HMM.out]; exact this
    have HPr := hide ((HBr.out.block P hPM).trans HPb.out)
    have HZr := hide ((HBr.out.block Z hZM).trans HZb.out)
    have HAr := hide ((HBr.out.block A hAM).trans HAb.out)
    obtain ⟨p0, p1, p2, p3⟩ := cell_of_four HPr.out
    have a0 : wr.cell? ⟨A, 0, none⟩ = some (.pointer none) := by simp [World.cell?, HAr.out]
    have a1 : wr.cell? ⟨A, 1, none⟩ = some (.pointer (some ⟨Z, 0, none⟩)) := by simp [World.cell?, HAr.out]
    rcases (show k = 0 ∨ k = 1 ∨ k = 2 by omega) with rfl | rfl | rfl
    · have HU : Hid (Unmade wr none) := .inl rfl
      have HUa : Hid (∀ o, Unmade (wr.alloc o) none) := fun _ => .inl rfl
      go_wp2_with (first | (go_at_call 29; refine (kBits_no _ _ _ _ HU.out).mono ?_; rintro e w' ⟨rfl, rfl⟩) | (go_at_call 28; refine (kNat_no _ _ _ HU.out).mono ?_; rintro e w' ⟨rfl, rfl⟩) | (go_at_call 30; refine (kNum_no _ _ HU.out).mono ?_; rintro e w' ⟨rfl, rfl⟩) | (go_at_call 31; refine (kText_no _ _ _ HU.out).mono ?_; rintro e w' ⟨rfl, rfl⟩) | (go_at_call 32; refine (kFlags_no _ _ _ (HUa.out _)).mono ?_; rintro e w' ⟨rfl, rfl⟩) | (go_at_call 11; refine (kLen_no _ _ (HUa.out _)).mono ?_; rintro e w' ⟨rfl, rfl⟩) | (go_at_call 13; refine (kOut_no _ _ (HUa.out _)).mono ?_; rintro e w' ⟨rfl, rfl⟩))
      go_roundw
      case rel => exact ⟨1, by omega, rfl, HBr.out.alloc hMr _⟩
      case measure => simp [intOf]
    · have HU : Hid (Unmade wr (some ⟨Z, 0, none⟩)) := .inr ⟨Z, rfl, (cell_of_four HZr.out).1⟩
      have HUa : Hid (∀ o, Unmade (wr.alloc o) (some ⟨Z, 0, none⟩)) := fun o => .inr ⟨Z, rfl, (cell_of_four (heap_alloc_keeps HZr.out o)).1⟩
      go_wp2_with (first | (go_at_call 29; refine (kBits_no _ _ _ _ HU.out).mono ?_; rintro e w' ⟨rfl, rfl⟩) | (go_at_call 28; refine (kNat_no _ _ _ HU.out).mono ?_; rintro e w' ⟨rfl, rfl⟩) | (go_at_call 30; refine (kNum_no _ _ HU.out).mono ?_; rintro e w' ⟨rfl, rfl⟩) | (go_at_call 31; refine (kText_no _ _ _ HU.out).mono ?_; rintro e w' ⟨rfl, rfl⟩) | (go_at_call 32; refine (kFlags_no _ _ _ (HUa.out _)).mono ?_; rintro e w' ⟨rfl, rfl⟩) | (go_at_call 11; refine (kLen_no _ _ (HUa.out _)).mono ?_; rintro e w' ⟨rfl, rfl⟩) | (go_at_call 13; refine (kOut_no _ _ (HUa.out _)).mono ?_; rintro e w' ⟨rfl, rfl⟩))
      go_roundw
      case rel => exact ⟨2, by omega, rfl, HBr.out.alloc hMr _⟩
      case measure => simp [intOf]
    · rw [show ((2 : Nat) : Int) = 2 from rfl]
      go_wp2_with fail
      clear p0 p1 p2 p3 a0 a1
      obtain ⟨Z2, hZ2⟩ : ∃ Z2, Z2 = wr.heap.size := ⟨_, rfl⟩
      obtain ⟨A2, hA2⟩ : ∃ A2, A2 = wr.heap.size + 1 := ⟨_, rfl⟩
      obtain ⟨W2, hW2⟩ : ∃ W2, W2 = (wr.alloc (.cells #[.bool false, .slice none 0 0, .int .i64 0] 69)).alloc (.cells #[.pointer none, .pointer (some ⟨wr.heap.size, 0, none⟩)] 39) := ⟨_, rfl⟩
      rw [← hW2, ← hA2, ← hZ2]
      have pb : W2.heap[P]? = some (.cells #[.int .i64 kind, .int .u64 u, .int .i64 n, .string s] 29 (0, 0)) := by
        rw [hW2]; exact heap_alloc_keeps (heap_alloc_keeps HPr.out _) _
      have zb : W2.heap[Z2]? = some (.cells #[.bool false, .slice none 0 0, .int .i64 0] 69 (0, 0)) := by
        rw [hW2, hZ2]; exact heap_alloc_keeps (heap_alloc_new _ _) _
      have ab : W2.heap[A2]? = some (.cells #[.pointer none, .pointer (some ⟨Z2, 0, none⟩)] 39 (0, 0)) := by
        rw [hW2, hA2, hZ2]
        have := heap_alloc_new (wr.alloc (.cells #[.bool false, .slice none 0 0, .int .i64 0] 69)) (.cells #[.pointer none, .pointer (some ⟨wr.heap.size, 0, none⟩)] 39)
        simpa using this
      have hH0M : H0 ≤ M := by have := HB1'.out.size; rw [HH.out, HMM.out]; exact this
      have hB2 : Below H0 w W2 := by
        rw [hW2]
        exact ((HB1'.out.trans (HBr.out.mono hH0M)).alloc (by omega) _).alloc (by simp; omega) _
      have HB2 := hide hB2; have HZ2 := hide zb
      obtain ⟨p0, p1, p2, p3⟩ := cell_of_four pb
      have a0 : W2.cell? ⟨A2, 0, none⟩ = some (.pointer none) := by simp [World.cell?, ab]
      have a1 : W2.cell? ⟨A2, 1, none⟩ = some (.pointer (some ⟨Z2, 0, none⟩)) := by simp [World.cell?, ab]
      have z0 : W2.cell? ⟨Z2, 0, none⟩ = some (.bool false) := (cell_of_three zb).1
      have hH0W2 : H0 ≤ W2.heap.size := by have := hB2.size; rw [HH.out]; exact this
      clear hW2 hA2 hZ2 pb zb ab hB2
      have HZc := hide z0; clear z0
      go_loopw [79] (fun i wr2 => ∃ k : Nat, k ≤ 2 ∧ i = .int .i64 k ∧ W2 = wr2) (fun i _ => 2 - (intOf i).toNat)
      case atStart => exact ⟨0, Nat.zero_le _, rfl, rfl⟩
      case round =>
        obtain ⟨k, hk, rfl, hw2⟩ := hrel
        subst hw2
        rcases (show k = 0 ∨ k = 1 ∨ k = 2 by omega) with rfl | rfl | rfl
        · have HU : Hid (Unmade W2 none) := .inl rfl
          go_wp2_with (first | (go_at_call 21; refine (sBits_no _ _ _ HU.out).mono ?_; rintro e w' ⟨rfl, rfl⟩) | (go_at_call 22; refine (sNat_no _ _ HU.out).mono ?_; rintro e w' ⟨rfl, rfl⟩) | (go_at_call 23; refine (sNum_no _ _ HU.out).mono ?_; rintro e w' ⟨rfl, rfl⟩) | (go_at_call 24; refine (sText_no _ _ HU.out).mono ?_; rintro e w' ⟨rfl, rfl⟩) | (go_at_call 25; refine (sFlag_no _ _ HU.out).mono ?_; rintro e w' ⟨rfl, rfl⟩) | (go_at_call 18; refine (sLeft_no _ _ HU.out).mono ?_; rintro e w' ⟨rfl, rfl⟩) | (go_at_call 19; refine (sEnd_no _ _ HU.out).mono ?_; rintro e w' ⟨rfl, rfl⟩))
          go_roundw
          case rel => exact ⟨1, by omega, rfl, by trivial⟩
          case measure => simp [intOf]
        · have HU : Hid (Unmade W2 (some ⟨Z2, 0, none⟩)) := .inr ⟨Z2, rfl, HZc.out⟩
          go_wp2_with (first | (go_at_call 21; refine (sBits_no _ _ _ HU.out).mono ?_; rintro e w' ⟨rfl, rfl⟩) | (go_at_call 22; refine (sNat_no _ _ HU.out).mono ?_; rintro e w' ⟨rfl, rfl⟩) | (go_at_call 23; refine (sNum_no _ _ HU.out).mono ?_; rintro e w' ⟨rfl, rfl⟩) | (go_at_call 24; refine (sText_no _ _ HU.out).mono ?_; rintro e w' ⟨rfl, rfl⟩) | (go_at_call 25; refine (sFlag_no _ _ HU.out).mono ?_; rintro e w' ⟨rfl, rfl⟩) | (go_at_call 18; refine (sLeft_no _ _ HU.out).mono ?_; rintro e w' ⟨rfl, rfl⟩) | (go_at_call 19; refine (sEnd_no _ _ HU.out).mono ?_; rintro e w' ⟨rfl, rfl⟩))
          go_roundw
          case rel => exact ⟨2, by omega, rfl, by trivial⟩
          case measure => simp [intOf]
        · rw [show ((2 : Nat) : Int) = 2 from rfl]
          go_wp2_with fail
          have hb2 : BytesAt W2 ao bytes := by
            refine ⟨HB1.out.1, fun a ha j hj => ?_⟩
            have h := HB1.out.2 a ha j hj
            have hlt := World.block_lt_of_cell? _ _ h
            exact (HB2.out.cell (by rw [HH.out]; exact hlt)).trans h
          refine (clone_any ao c bytes W2 (by have := HBig.out; omega) hb2).mono ?_
          rintro e w3 ⟨v, rfl, hown3, b3⟩
          obtain ⟨aom, cm, rfl, hat3⟩ := bytesAt_own hown3
          go_wp2_with fail
          refine (newSource_any aom cm bytes w3 (by have := HBig.out; omega) HSm.out hat3).mono ?_
          rintro e w4 ⟨q, rfl, hs4, b4⟩
          go_wp2_with fail
          refine (live_any w4).mono ?_
          rintro e w5 ⟨rfl, b5⟩
          go_wp2_with fail
          have hsz3 : W2.heap.size ≤ w3.heap.size := b3.size
          have hsz4 : w3.heap.size ≤ w4.heap.size := b4.size
          have hsz5 : w4.heap.size ≤ w5.heap.size := b5.size
          have hS5 : SrcIs w5 w3.heap.size q bytes 0 := hs4.below b5 (Nat.le_refl _)
          obtain ⟨vq, hat5⟩ : ∃ vq, SrcAt w5 w3.heap.size q bytes 0 vq := by
            obtain ⟨vq, h1, h2⟩ := hS5.row
            exact ⟨vq, h1, h2⟩
          have hown5 : w5.ownsRow W2.heap.size 5 1 (.slice aom bytes.length cm) bytes.length (byteVs bytes) := ownsRow_below (ownsRow_below hown3 b4 (Nat.le_refl _)) b5 (Nat.le_refl _)
          have hgm : ∀ g, (Value.slice aom bytes.length cm).ownBlock = some g → W2.heap.size ≤ g ∧ g < w3.heap.size := fun g hg => hown3.lt g hg
          have hB5 : Below H0 w w5 := ((HB2.out.trans (b3.mono hH0W2)).trans (b4.mono (Nat.le_trans hH0W2 hsz3))).trans (b5.mono (by omega))
          have HS5 := hide hS5; have HA5 := hide hat5; have HO5 := hide hown5; have HGm := hide hgm; have HB5 := hide hB5
          have hM3 : H0 ≤ w3.heap.size := by omega
          have hlen0 := HBig.out
          obtain ⟨N, hN⟩ : ∃ N, N = bytes.length := ⟨_, rfl⟩
          rw [← hN] at hlen0 ⊢
          have HN := hide hN
          clear hS5 hat5 hown5 hgm hB5 hs4 hown3 hat3 hb2 b3 b4 b5 hN a0 a1 p0 p1 p2 p3
          go_loopw [170] (fun i wr => ∃ (k : Nat) (xs : List Nat), k ≤ N ∧ i = .int .i64 k ∧ xs.length = N ∧ (∀ x ∈ xs, x < 256) ∧ wr.ownsRow W2.heap.size 5 1 (.slice aom N cm) N (byteVs xs) ∧ SrcAt wr w3.heap.size q bytes 0 vq ∧ Below H0 w wr) (fun i _ => N - (intOf i).toNat)
          case atStart =>
            refine ⟨0, bytes, Nat.zero_le _, rfl, HN.out.symm, HSm.out, ?_, HA5.out, HB5.out⟩
            have := HO5.out
            rwa [← HN.out] at this
          case round =>
            obtain ⟨k, xs, hk, rfl, hxl, hxs, hown, hsa, hbe⟩ := hrel
            have HO := hide hown; have HSa := hide hsa; have HBe := hide hbe; have HXl := hide hxl; have HXs := hide hxs
            clear hown hsa hbe hxl hxs
            by_cases hlt : k < N
            · obtain ⟨g, cm', hgv⟩ := own_shape_pos HO.out (by omega)
              simp only [Value.slice.injEq, true_and] at hgv
              obtain ⟨rfl, rfl⟩ := hgv
              obtain ⟨x, hx⟩ : ∃ x, x = xs.getD k 0 := ⟨_, rfl⟩
              have hkx : k < xs.length := by rw [HXl.out]; exact hlt
              have hx256 : x < 256 := by
                rw [hx, List.getD, List.getElem?_eq_getElem hkx]
                exact HXs.out _ (List.getElem_mem _)
              have hcl := HO.out.cells (g := g) rfl k (.int .u8 (x : Int)) (by rw [hx]; simp [byteVs, hkx])
              rw [add_off] at hcl
              have hfr : wr.frozen? ⟨g, k, none⟩ = false := by
                rcases HO.out.2 with ⟨h, _⟩ | ⟨g', cap, cur, h, _, hgg, _⟩
                · cases h
                · simp only [Value.slice.injEq, Option.some.injEq, Addr.mk.injEq, and_true, true_and] at h
                  obtain ⟨rfl, _⟩ := h
                  simp [World.frozen?, hgg]
              have hxor := xor_255 x hx256
              have HX := hide hx
              have hkb : (k : Int) ≤ 1048576 := by omega
              clear hx hkx
              go_wp2
              go_roundw
              case rel =>
                have hst := (HO.out.stored k (.int .u8 ((255 - x : Nat) : Int))).1
                have hset : (byteVs xs).set k (.int .u8 ((255 - x : Nat) : Int)) = byteVs (xs.set k (255 - x)) := by simp [byteVs, List.map_set]
                rw [hset] at hst
                have hg2 := HGm.out g (by simp [Value.ownBlock])
                refine ⟨k + 1, xs.set k (255 - x), by omega, by go_num, by rw [List.length_set, HXl.out], ?_, hst, ?_, HBe.out.setCell (p := ⟨g, k, none⟩) (by simp; omega) _⟩
                · intro y hy
                  rcases List.mem_or_eq_of_mem_set hy with h | h
                  · exact HXs.out y h
                  · omega
                · have hq := HS5.out.from_
                  refine HSa.out.other _ (by omega) ?_
                  intro hvg
                  have := HA5.out.2.lt g hvg
                  omega
              case measure => simp [intOf]; omega
            · go_wp2_with fail
              have hb3 : BytesAt wr ao bytes := by
                refine ⟨HB1.out.1, fun a ha j hj => ?_⟩
                have h := HB1.out.2 a ha j hj
                have hlt := World.block_lt_of_cell? _ _ h
                exact (HBe.out.cell (by rw [HH.out]; exact hlt)).trans h
              have CN := rNew_any ao c bytes wr HBig.out HSm.out hb3
              rw [← HN.out] at CN
              refine CN.mono ?_
              clear CN hb3
              rintro e w6 ⟨q2, rfl, hr6, b6⟩
              have hszr : w3.heap.size ≤ wr.heap.size := by
                have h1 := lt_of_block HSa.out.1
                have h2 := HS5.out.from_
                omega
              have hBo : Both w6 H0 q q2 bytes := ⟨0, (((HSa.out.is HS5.out (Nat.zero_le _)).below b6 (Nat.le_refl _)).lower hM3), hr6.lower (by omega)⟩
              have hH06 : H0 ≤ w6.heap.size := by have := b6.size; omega
              have hB6 : Below H0 w w6 := HBe.out.trans (b6.mono (by omega))
              have HBo6 := hide hBo; have HB6 := hide hB6
              clear hBo hB6 hr6 b6
              go_wp2_with fail
              clear HPb HZb HAb hPM hZM hAM HMM HBr hMr HPr HZr HAr hH0M HB2 HZ2 HZc HS5 HA5 HO5 HGm HB5 HO HSa HBe HXl HXs hszr
              go_region_law (first | (go_simp; first | (go_at_call 17; first | (refine (take_any H0 q q2 bytes _ _ _ _ _ HB7.out hH07 (by decide)).mono ?_; rintro e w8 ⟨rfl, hbo8, k8⟩; obtain ⟨p8, hs8, hr8⟩ := hbo8; obtain ⟨ao8, c8, hz8⟩ := hr8.cell0; have HS8 := hide hs8; have HR8 := hide hr8; have HK8 := hide k8; clear hs8 hr8 k8) | (refine (take_any H0 q q2 bytes _ _ _ _ _ HBo6.out.drew hH06 (by decide)).mono ?_; rintro e w7 ⟨rfl, hbo7, k7⟩; have HB7 := hide hbo7; have HK7 := hide k7; have hH07 : H0 ≤ w7.heap.size := Nat.le_trans hH06 (by simpa using k7.below.size); clear hbo7 k7)) | (go_at_call 18; refine (sLeft_k H0 q bytes p8 _ HS8.out).mono ?_; rintro e w9 ⟨rfl, hs9, k9⟩; have HR9 := hide (HR8.out.kept k9 (by decide) (by decide)); obtain ⟨ao9, c9, hz9⟩ := HR9.out.cell0; have HK9 := hide k9; clear hs9 k9)))
              all_goals go_wp2
              all_goals go_ret
              all_goals exact ⟨rfl, ((HB6.out.drew.trans HK7.out.below).trans HK8.out.below).trans HK9.out.below⟩
end Go.Proofs.Ytlibfbfhleijlaa
