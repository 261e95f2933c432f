/- What a source is in memory, and the contracts of peek, Left, zeros, End. -/
import Derived.Test.YtiljekpfkkocnaaSrcm
import Derived.Test.YtiljekpfkkocnaaOut
import Derived.Deep.QuietTactic
import Derived.BigQuiet
namespace Go.Proofs.Ytiljekpfkkocnaa
open Go Go.RowKit

def srcT (e : Nat) : Bool := e == 119

/-- In w the block q is a source of the bytes, which stands at bit p; its copy of the bytes is a row from block B on. -/
structure SrcIs (w : World) (B q : Nat) (bytes : List Nat) (p : Nat) : Prop where
  from_ : B ≤ q
  len : bytes.length ≤ 140737488355328
  at_ : p ≤ 8 * bytes.length
  small : ∀ c ∈ bytes, c < 256
  row : ∃ v, w.heap[q]? = some (.cells #[.bool true, v, .int .i64 (p : Int)] 119 (0, 0)) ∧ w.ownsRow B 5 1 v bytes.length (byteVs bytes)

theorem cell_of_three {w : World} {q : Nat} {c0 c1 c2 : Value} {t : Nat} (h : w.heap[q]? = some (.cells #[c0, c1, c2] t (0, 0))) :
    w.cell? ⟨q, 0, none⟩ = some c0 ∧ w.cell? ⟨q, 1, none⟩ = some c1 ∧ w.cell? ⟨q, 2, none⟩ = some c2 := by
  refine ⟨?_, ?_, ?_⟩ <;> simp [World.cell?, h]
theorem free_of_three {w : World} {q : Nat} {c0 c1 c2 : Value} {t : Nat} (h : w.heap[q]? = some (.cells #[c0, c1, c2] t (0, 0))) :
    w.frozen? ⟨q, 0, none⟩ = false ∧ w.frozen? ⟨q, 1, none⟩ = false ∧ w.frozen? ⟨q, 2, none⟩ = false := by
  refine ⟨?_, ?_, ?_⟩ <;> simp [World.frozen?, h]

theorem add_off (g j : Nat) : (⟨g, 0, none⟩ : Addr).add j = ⟨g, j, none⟩ := by unfold Addr.add; split <;> simp_all

theorem SrcIs.made {w : World} {B q : Nat} {bytes : List Nat} {p : Nat} (h : SrcIs w B q bytes p) : w.cell? ⟨q, 0, none⟩ = some (.bool true) := by
  obtain ⟨v, h1, _⟩ := h.row
  exact (cell_of_three h1).1
theorem SrcIs.pos {w : World} {B q : Nat} {bytes : List Nat} {p : Nat} (h : SrcIs w B q bytes p) : w.cell? ⟨q, 2, none⟩ = some (.int .i64 (p : Int)) := by
  obtain ⟨v, h1, _⟩ := h.row
  exact (cell_of_three h1).2.2
theorem SrcIs.lt {w : World} {B q : Nat} {bytes : List Nat} {p : Nat} (h : SrcIs w B q bytes p) : q < w.heap.size := by
  obtain ⟨v, h1, _⟩ := h.row
  exact lt_of_block h1
theorem SrcIs.drew {w : World} {B q : Nat} {bytes : List Nat} {p : Nat} (h : SrcIs w B q bytes p) : SrcIs w.drew B q bytes p := ⟨h.from_, h.len, h.at_, h.small, h.row⟩
theorem SrcIs.drewN {w : World} {B q : Nat} {bytes : List Nat} {p : Nat} (h : SrcIs w B q bytes p) (n : Nat) : SrcIs (w.drewN n) B q bytes p := ⟨h.from_, h.len, h.at_, h.small, h.row⟩
/-- The value of the field b, the bytes' own cells. -/
theorem SrcIs.slice {w : World} {B q : Nat} {bytes : List Nat} {p : Nat} (h : SrcIs w B q bytes p) :
    ∃ ao cap, w.cell? ⟨q, 1, none⟩ = some (.slice ao bytes.length cap) ∧ (∀ g, ao = some g → ∀ j, j < bytes.length → w.cell? (g.add j) = some (.int .u8 ((bytes.getD j 0 : Nat) : Int))) ∧ (ao = none → bytes.length = 0) ∧ (∀ g, ao = some g → g.off = 0 ∧ g.spot = none) := by
  obtain ⟨v, h1, ho⟩ := h.row
  rcases ho.2 with ⟨hv, hn0⟩ | ⟨g, cap, cur, hv, hg, hgg, hgn, hcapm, hcsz, htake⟩
  · refine ⟨none, 0, ?_, ?_, fun _ => hn0, ?_⟩
    · rw [(cell_of_three h1).2.1, hv, hn0]
    · intro g hg; cases hg
    · intro g hg; cases hg
  · refine ⟨some ⟨g, 0, none⟩, cap, ?_, ?_, ?_, ?_⟩
    · rw [(cell_of_three h1).2.1, hv]
    · intro g' hg' j hj
      simp only [Option.some.injEq] at hg'
      subst hg'
      subst hv
      refine ho.cells (g := g) rfl j _ ?_
      simp [byteVs, hj]
    · intro h; cases h
    · intro g' hg'; simp only [Option.some.injEq] at hg'; subst hg'; exact ⟨rfl, rfl⟩

theorem sIsMade_any (q : Nat) (w : World) (h : w.cell? ⟨q, 0, none⟩ = some (.bool true)) :
    Calls Try.prog 81 #[.pointer (some ⟨q, 0, none⟩)] w fun e w' => e = .returned (.bool true) ∧ w = w' := by
  go_enter Try.func81, Try.ntmps81
  go_wp2
  go_ret
  exact ⟨rfl, rfl⟩

theorem sLeft_any (B q : Nat) (bytes : List Nat) (p : Nat) (w : World) (hs : SrcIs w B q bytes p) :
    Calls Try.prog 37 #[.pointer (some ⟨q, 0, none⟩)] w fun e w' => e = .returned (.int .i64 ((8 * bytes.length - p : Nat) : Int)) ∧ ∃ n, w' = w.drewN n := by
  obtain ⟨ao, cap, h1, _, _, _⟩ := hs.slice
  have h0 := hs.made
  have h2 := hs.pos
  have hp := hs.at_
  have hl := hs.len
  obtain ⟨N, hN⟩ : ∃ N, N = bytes.length := ⟨_, rfl⟩
  rw [← hN] at h1 hp hl
  have HN := hide hN; clear hN
  go_enter Try.func37, Try.ntmps37
  go_wp2_with fail
  refine (sIsMade_any q _ h0).mono ?_
  rintro e w' ⟨rfl, rfl⟩
  go_wp2_with fail
  go_quiet (fail)
  go_wp2
  go_ret
  refine ⟨?_, _, rfl⟩
  rw [← HN.out]
  show Ending.returned (.int .i64 (8 * (N : Int) - p)) = _
  rw [show 8 * (N : Int) - p = ((8 * N - p : Nat) : Int) by omega]

set_option maxRecDepth 100000 in
set_option maxHeartbeats 400000 in
theorem sPeek_any (B q : Nat) (bytes : List Nat) (p a n : Nat) (w : World) (hs : SrcIs w B q bytes p) (hn : n ≤ 64) (ha : a + n ≤ 8 * bytes.length) :
    Calls Try.prog 107 #[.pointer (some ⟨q, 0, none⟩), .int .i64 (a : Int), .int .i64 (n : Int)] w fun e w' => e = .returned (.int .u64 ((valAt bytes a n : Nat) : Int)) ∧ w = w' := by
  obtain ⟨ao, cap, h1, hc, hnone, hoff⟩ := hs.slice
  have hl := hs.len
  obtain ⟨N, hN⟩ : ∃ N, N = bytes.length := ⟨_, rfl⟩
  rw [← hN] at h1 ha hl
  have HC := hide hc; clear hc
  have HNone := hide hnone; clear hnone
  have HOff := hide hoff; clear hoff
  have HN := hide hN; clear hN
  have HS := hide hs.small
  clear hs
  go_enter Try.func107, Try.ntmps107
  go_wp2
  go_loop [7, 11] (fun u i => ∃ k : Nat, k ≤ n ∧ i = .int .i64 k ∧ u = .int .u64 ((valAt bytes a k : Nat) : Int)) (fun _ i => n - (intOf i).toNat)
  case atStart => exact ⟨0, Nat.zero_le _, rfl, by rw [valAt_zero]; rfl⟩
  case round =>
    obtain ⟨k, hk, rfl, rfl⟩ := hrel
    by_cases hlt : k < n
    · have hgo : ∃ g : Nat, ao = some ⟨g, 0, none⟩ := by
        cases ao with
        | none => have h1 := HNone.out rfl; have h2 := HN.out; omega
        | some g => obtain ⟨h1, h2⟩ := HOff.out g rfl; obtain ⟨g1, g2, g3⟩ := g; simp at h1 h2; subst h1; subst h2; exact ⟨g1, rfl⟩
      obtain ⟨g, rfl⟩ := hgo
      have hidx : (a + k) / 8 < N := by omega
      obtain ⟨c, hcc⟩ : ∃ c, c = bytes.getD ((a + k) / 8) 0 := ⟨_, rfl⟩
      have hcell : w.cell? ⟨g, (a + k) / 8, none⟩ = some (.int .u8 (c : Int)) := by
        have := HC.out _ rfl ((a + k) / 8) (by rw [← HN.out]; exact hidx)
        rw [hcc]
        rw [add_off] at this
        exact this
      have hc256 : c < 256 := by
        have hidx' : (a + k) / 8 < bytes.length := by rw [← HN.out]; exact hidx
        rw [hcc, List.getD, List.getElem?_eq_getElem hidx']
        exact HS.out _ (List.getElem_mem _)
      obtain ⟨V, hV⟩ : ∃ V, V = valAt bytes a k := ⟨_, rfl⟩
      have hVlt : V < 2 ^ 63 := by
        have := valAt_lt bytes a k
        have := Nat.pow_le_pow_right (n := 2) (by omega) (show k ≤ 63 by omega)
        omega
      have hsucc := valAt_succ bytes a k (by rw [← HN.out]; omega)
      rw [← hV] at hsucc
      obtain ⟨b, hb⟩ : ∃ b, b = bitAt bytes (a + k) := ⟨_, rfl⟩
      rw [← hb] at hsucc
      have e1 : bits BinOp.and IntKind.u8 ((c : Int) / 2 ^ (7 - (a + k) % 8)) 1 = (b.toNat : Int) := by
        rw [and_bit8 c _ hc256 (by omega), hb, hcc]; rfl
      rw [← hV]
      have hV' : (V : Int) ≤ 9223372036854775807 := by omega
      have HV := hide hV; clear hV
      have HB := hide hb; clear hb
      have HCC := hide hcc; clear hcc
      have HSu := hide hsucc; clear hsucc
      obtain ⟨b', hb'⟩ : ∃ b' : Nat, b' = b.toNat := ⟨_, rfl⟩
      have e2 := or_bit64 V b hVlt
      obtain ⟨V2, hV2⟩ : ∃ V2 : Nat, V2 = 2 * V + b.toNat := ⟨_, rfl⟩
      rw [← hV2, ← hb'] at e2
      rw [← hb'] at e1
      have hb2 : b' ≤ 1 := by rw [hb']; cases b <;> simp
      have HV2 := hide hV2; clear hV2 hb' hVlt
      go_wp2
      go_round
      case rel => exact ⟨k + 1, by omega, by go_num, by rw [HSu.out, HV2.out]⟩
      case measure => simp [intOf]; omega
    · go_wp2
      go_ret
      obtain rfl : k = n := by omega
      exact ⟨rfl, rfl⟩


set_option maxRecDepth 100000 in
set_option maxHeartbeats 400000 in
theorem sZeros_any (B q : Nat) (bytes : List Nat) (p : Nat) (w : World) (hs : SrcIs w B q bytes p) :
    Calls Try.prog 132 #[.pointer (some ⟨q, 0, none⟩)] w fun e w' => e = .returned (.int .i64 ((zerosAt bytes p : Nat) : Int)) ∧ ∃ n, w' = w.drewN n := by
  have hp := hs.at_
  have hl := hs.len
  have h2 := hs.pos
  obtain ⟨M, hM⟩ : ∃ M, M = min (8 * bytes.length - p) 65 := ⟨_, rfl⟩
  have eM : min ((8 * bytes.length - p : Nat) : Int) 65 = (M : Int) := by omega
  have hM65 : M ≤ 65 := by omega
  have hMp : p + M ≤ 8 * bytes.length := by omega
  have HM := hide hM; clear hM
  go_enter Try.func132, Try.ntmps132
  go_wp2_with fail
  refine (sLeft_any B q bytes p _ hs).mono ?_
  rintro e w' ⟨rfl, nn, rfl⟩
  go_wp2_with fail
  go_loop [9] (fun i => ∃ k : Nat, k ≤ M ∧ i = .int .i64 k ∧ ∀ i, i < k → bitAt bytes (p + i) = false) (fun i => M - (intOf i).toNat)
  case atStart => exact ⟨0, Nat.zero_le _, rfl, by intro i hi; omega⟩
  case round =>
    obtain ⟨k, hk, rfl, hz⟩ := hrel
    have HZ := hide hz; clear hz
    by_cases hlt : k < M
    · have hv := valAt_one bytes (p + k) (by omega)
      have C : ∀ w0, SrcIs w0 B q bytes p → Calls Try.prog 107 #[.pointer (some ⟨q, 0, none⟩), .int .i64 ((p : Int) + (k : Int)), .int .i64 1] w0 fun e w' => e = .returned (.int .u64 (((bitAt bytes (p + k)).toNat : Nat) : Int)) ∧ w0 = w' := by
        intro w0 hs0
        have := sPeek_any B q bytes p (p + k) 1 w0 hs0 (by omega) (by omega)
        rw [hv] at this
        exact this
      have hsN := hs.drewN nn
      cases hb : bitAt bytes (p + k) with
      | true =>
        rw [hb] at C
        have HB := hide hb; clear hb
        go_wp2_with fail
        refine (C _ hsN).mono ?_
        rintro e w' ⟨rfl, rfl⟩
        go_wp2
        go_ret
        have hz := HM.out
        refine ⟨?_, _, rfl⟩
        rw [zerosAt_eq bytes p k hp (by omega) HZ.out (fun _ => HB.out)]
        rfl
      | false =>
        rw [hb] at C
        have HB := hide hb; clear hb
        go_wp2_with fail
        refine (C _ hsN).mono ?_
        rintro e w' ⟨rfl, rfl⟩
        go_wp2
        go_round
        case rel =>
          refine ⟨k + 1, by omega, by go_num, fun i hi => ?_⟩
          by_cases hik : i = k
          · rw [hik]; exact HB.out
          · exact HZ.out i (by omega)
        case measure => simp [intOf]; omega
    · go_wp2
      go_ret
      have hz := HM.out
      refine ⟨?_, _, rfl⟩
      obtain rfl : k = M := by omega
      rw [zerosAt_eq bytes p k hp (by omega) HZ.out (fun h => by omega)]
      rfl

/-- The same, the world behind the call left a variable. -/
theorem sLeft_k (B q : Nat) (bytes : List Nat) (p : Nat) (w : World) (hs : SrcIs w B q bytes p) :
    Calls Try.prog 37 #[.pointer (some ⟨q, 0, none⟩)] w fun e w' => e = .returned (.int .i64 ((8 * bytes.length - p : Nat) : Int)) ∧ SrcIs w' B q bytes p ∧ Kept B srcT w w' :=
  (sLeft_any B q bytes p w hs).mono fun e w' ⟨he, n, hw⟩ => by rw [hw]; exact ⟨he, hs.drewN n, (Kept.refl _ _ _).drewN n⟩
theorem sZeros_k (B q : Nat) (bytes : List Nat) (p : Nat) (w : World) (hs : SrcIs w B q bytes p) :
    Calls Try.prog 132 #[.pointer (some ⟨q, 0, none⟩)] w fun e w' => e = .returned (.int .i64 ((zerosAt bytes p : Nat) : Int)) ∧ SrcIs w' B q bytes p ∧ Kept B srcT w w' :=
  (sZeros_any B q bytes p w hs).mono fun e w' ⟨he, n, hw⟩ => by rw [hw]; exact ⟨he, hs.drewN n, (Kept.refl _ _ _).drewN n⟩
end Go.Proofs.Ytiljekpfkkocnaa
