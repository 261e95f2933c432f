/- What a source is within a reader of events, and the contracts of its calls: as those of a source of its own. -/
import Derived.Test.YthjhbnfedelniaaBase
namespace Go.Proofs.Ythjhbnfedelniaa
open Go Go.RowKit

def erT (e : Nat) : Bool := e == 86
theorem es_cell {w : World} {q : Nat} {c0 c1 c2 c3 : Value} {t : Nat} (h : w.heap[q]? = some (.cells #[c0, c1, c2, c3] t (0, 0))) :
    w.cell? ⟨q, 0, none⟩ = some c0 ∧ w.cell? ⟨q, 1, none⟩ = some c1 ∧ w.cell? ⟨q, 2, none⟩ = some c2 ∧ w.cell? ⟨q, 3, none⟩ = some c3 := by
  refine ⟨?_, ?_, ?_, ?_⟩ <;> simp [World.cell?, h]
theorem es_free {w : World} {q : Nat} {c0 c1 c2 c3 : Value} {t : Nat} (h : w.heap[q]? = some (.cells #[c0, c1, c2, c3] t (0, 0))) :
    w.frozen? ⟨q, 0, none⟩ = false ∧ w.frozen? ⟨q, 1, none⟩ = false ∧ w.frozen? ⟨q, 2, none⟩ = false ∧ w.frozen? ⟨q, 3, none⟩ = false := by
  refine ⟨?_, ?_, ?_, ?_⟩ <;> simp [World.frozen?, h]
/-- In w the block q is a reader: a source of the bytes that stands at bit p, and an error. -/
structure EsIs (w : World) (B q : Nat) (ec : Int) (bytes : List Nat) (p : Nat) : Prop where
  from_ : B ≤ q
  len : bytes.length ≤ 140737488355328
  at_ : p ≤ 8 * bytes.length
  small : ∀ c ∈ bytes, c < 256
  row : ∃ v, w.heap[q]? = some (.cells #[.bool true, v, .int .i64 (p : Int), .int .i64 ec] 86 (0, 0)) ∧ w.ownsRow B 5 1 v bytes.length (byteVs bytes)
theorem EsIs.made {w : World} {B q : Nat} {ec : Int} {bytes : List Nat} {p : Nat} (h : EsIs w B q ec bytes p) : w.cell? ⟨q, 0, none⟩ = some (.bool true) := by
  obtain ⟨v, h1, _⟩ := h.row
  exact (es_cell h1).1
theorem EsIs.pos {w : World} {B q : Nat} {ec : Int} {bytes : List Nat} {p : Nat} (h : EsIs w B q ec bytes p) : w.cell? ⟨q, 2, none⟩ = some (.int .i64 (p : Int)) := by
  obtain ⟨v, h1, _⟩ := h.row
  exact (es_cell h1).2.2.1
theorem EsIs.lt {w : World} {B q : Nat} {ec : Int} {bytes : List Nat} {p : Nat} (h : EsIs w B q ec bytes p) : q < w.heap.size := by
  obtain ⟨v, h1, _⟩ := h.row
  exact lt_of_block h1
theorem EsIs.drew {w : World} {B q : Nat} {ec : Int} {bytes : List Nat} {p : Nat} (h : EsIs w B q ec bytes p) : EsIs w.drew B q ec bytes p := ⟨h.from_, h.len, h.at_, h.small, h.row⟩
theorem EsIs.drewN {w : World} {B q : Nat} {ec : Int} {bytes : List Nat} {p : Nat} (h : EsIs w B q ec bytes p) (n : Nat) : EsIs (w.drewN n) B q ec bytes p := ⟨h.from_, h.len, h.at_, h.small, h.row⟩
/-- The value of the field b, the bytes' own cells. -/
theorem EsIs.slice {w : World} {B q : Nat} {ec : Int} {bytes : List Nat} {p : Nat} (h : EsIs w B q ec bytes p) :
    ∃ ao cap, w.cell? ⟨q, 1, none⟩ = some (.slice ao bytes.length cap) ∧ (∀ g, ao = some g → ∀ j, j < bytes.length → w.cell? (g.add j) = some (.int .u8 ((bytes.getD j 0 : Nat) : Int))) ∧ (ao = none → bytes.length = 0) ∧ (∀ g, ao = some g → g.off = 0 ∧ g.spot = none) := by
  obtain ⟨v, h1, ho⟩ := h.row
  rcases ho.2 with ⟨hv, hn0⟩ | ⟨g, cap, cur, hv, hg, hgg, hgn, hcapm, hcsz, htake⟩
  · refine ⟨none, 0, ?_, ?_, fun _ => hn0, ?_⟩
    · rw [(es_cell h1).2.1, hv, hn0]
    · intro g hg; cases hg
    · intro g hg; cases hg
  · refine ⟨some ⟨g, 0, none⟩, cap, ?_, ?_, ?_, ?_⟩
    · rw [(es_cell h1).2.1, hv]
    · intro g' hg' j hj
      simp only [Option.some.injEq] at hg'
      subst hg'
      subst hv
      refine ho.cells (g := g) rfl j _ ?_
      simp [byteVs, hj]
    · intro h; cases h
    · intro g' hg'; simp only [Option.some.injEq] at hg'; subst hg'; exact ⟨rfl, rfl⟩

theorem esLeft_any (B q : Nat) (ec : Int) (bytes : List Nat) (p : Nat) (w : World) (hs : EsIs w B q ec bytes p) :
    Calls Try.prog 59 #[.pointer (some ⟨q, 0, none⟩)] w fun e w' => e = .returned (.int .i64 ((8 * bytes.length - p : Nat) : Int)) ∧ ∃ n, w' = w.drewN n := by
  obtain ⟨ao, cap, h1, _, _, _⟩ := hs.slice
  have h0 := hs.made
  have h2 := hs.pos
  have hp := hs.at_
  have hl := hs.len
  obtain ⟨N, hN⟩ : ∃ N, N = bytes.length := ⟨_, rfl⟩
  rw [← hN] at h1 hp hl
  have HN := hide hN; clear hN
  go_enter Try.func59, Try.ntmps59
  go_wp2_with fail
  refine (sIsMade_any q _ h0).mono ?_
  rintro e w' ⟨rfl, rfl⟩
  go_wp2_with fail
  go_quiet (fail)
  go_wp2
  go_ret
  refine ⟨?_, _, rfl⟩
  rw [← HN.out]
  show Ending.returned (.int .i64 (8 * (N : Int) - p)) = _
  rw [show 8 * (N : Int) - p = ((8 * N - p : Nat) : Int) by omega]

set_option maxRecDepth 100000 in
set_option maxHeartbeats 400000 in
theorem esPeek_any (B q : Nat) (ec : Int) (bytes : List Nat) (p a n : Nat) (w : World) (hs : EsIs w B q ec bytes p) (hn : n ≤ 64) (ha : a + n ≤ 8 * bytes.length) :
    Calls Try.prog 77 #[.pointer (some ⟨q, 0, none⟩), .int .i64 (a : Int), .int .i64 (n : Int)] w fun e w' => e = .returned (.int .u64 ((valAt bytes a n : Nat) : Int)) ∧ w = w' := by
  obtain ⟨ao, cap, h1, hc, hnone, hoff⟩ := hs.slice
  have hl := hs.len
  obtain ⟨N, hN⟩ : ∃ N, N = bytes.length := ⟨_, rfl⟩
  rw [← hN] at h1 ha hl
  have HC := hide hc; clear hc
  have HNone := hide hnone; clear hnone
  have HOff := hide hoff; clear hoff
  have HN := hide hN; clear hN
  have HS := hide hs.small
  clear hs
  go_enter Try.func77, Try.ntmps77
  go_wp2
  go_loop [7, 11] (fun u i => ∃ k : Nat, k ≤ n ∧ i = .int .i64 k ∧ u = .int .u64 ((valAt bytes a k : Nat) : Int)) (fun _ i => n - (intOf i).toNat)
  case atStart => exact ⟨0, Nat.zero_le _, rfl, by rw [valAt_zero]; rfl⟩
  case round =>
    obtain ⟨k, hk, rfl, rfl⟩ := hrel
    by_cases hlt : k < n
    · have hgo : ∃ g : Nat, ao = some ⟨g, 0, none⟩ := by
        cases ao with
        | none => have h1 := HNone.out rfl; have h2 := HN.out; omega
        | some g => obtain ⟨h1, h2⟩ := HOff.out g rfl; obtain ⟨g1, g2, g3⟩ := g; simp at h1 h2; subst h1; subst h2; exact ⟨g1, rfl⟩
      obtain ⟨g, rfl⟩ := hgo
      have hidx : (a + k) / 8 < N := by omega
      obtain ⟨c, hcc⟩ : ∃ c, c = bytes.getD ((a + k) / 8) 0 := ⟨_, rfl⟩
      have hcell : w.cell? ⟨g, (a + k) / 8, none⟩ = some (.int .u8 (c : Int)) := by
        have := HC.out _ rfl ((a + k) / 8) (by rw [← HN.out]; exact hidx)
        rw [hcc]
        rw [add_off] at this
        exact this
      have hc256 : c < 256 := by
        have hidx' : (a + k) / 8 < bytes.length := by rw [← HN.out]; exact hidx
        rw [hcc, List.getD, List.getElem?_eq_getElem hidx']
        exact HS.out _ (List.getElem_mem _)
      obtain ⟨V, hV⟩ : ∃ V, V = valAt bytes a k := ⟨_, rfl⟩
      have hVlt : V < 2 ^ 63 := by
        have := valAt_lt bytes a k
        have := Nat.pow_le_pow_right (n := 2) (by omega) (show k ≤ 63 by omega)
        omega
      have hsucc := valAt_succ bytes a k (by rw [← HN.out]; omega)
      rw [← hV] at hsucc
      obtain ⟨b, hb⟩ : ∃ b, b = bitAt bytes (a + k) := ⟨_, rfl⟩
      rw [← hb] at hsucc
      have e1 : bits BinOp.and IntKind.u8 ((c : Int) / 2 ^ (7 - (a + k) % 8)) 1 = (b.toNat : Int) := by
        rw [and_bit8 c _ hc256 (by omega), hb, hcc]; rfl
      rw [← hV]
      have hV' : (V : Int) ≤ 9223372036854775807 := by omega
      have HV := hide hV; clear hV
      have HB := hide hb; clear hb
      have HCC := hide hcc; clear hcc
      have HSu := hide hsucc; clear hsucc
      obtain ⟨b', hb'⟩ : ∃ b' : Nat, b' = b.toNat := ⟨_, rfl⟩
      have e2 := or_bit64 V b hVlt
      obtain ⟨V2, hV2⟩ : ∃ V2 : Nat, V2 = 2 * V + b.toNat := ⟨_, rfl⟩
      rw [← hV2, ← hb'] at e2
      rw [← hb'] at e1
      have hb2 : b' ≤ 1 := by rw [hb']; cases b <;> simp
      have HV2 := hide hV2; clear hV2 hb' hVlt
      go_wp2
      go_round
      case rel => exact ⟨k + 1, by omega, by go_num, by rw [HSu.out, HV2.out]⟩
      case measure => simp [intOf]; omega
    · go_wp2
      go_ret
      obtain rfl : k = n := by omega
      exact ⟨rfl, rfl⟩


set_option maxRecDepth 100000 in
set_option maxHeartbeats 400000 in
theorem esZeros_any (B q : Nat) (ec : Int) (bytes : List Nat) (p : Nat) (w : World) (hs : EsIs w B q ec bytes p) :
    Calls Try.prog 88 #[.pointer (some ⟨q, 0, none⟩)] w fun e w' => e = .returned (.int .i64 ((zerosAt bytes p : Nat) : Int)) ∧ ∃ n, w' = w.drewN n := by
  have hp := hs.at_
  have hl := hs.len
  have h2 := hs.pos
  obtain ⟨M, hM⟩ : ∃ M, M = min (8 * bytes.length - p) 65 := ⟨_, rfl⟩
  have eM : min ((8 * bytes.length - p : Nat) : Int) 65 = (M : Int) := by omega
  have hM65 : M ≤ 65 := by omega
  have hMp : p + M ≤ 8 * bytes.length := by omega
  have HM := hide hM; clear hM
  go_enter Try.func88, Try.ntmps88
  go_wp2_with fail
  refine (esLeft_any B q ec bytes p _ hs).mono ?_
  rintro e w' ⟨rfl, nn, rfl⟩
  go_wp2_with fail
  go_loop [9] (fun i => ∃ k : Nat, k ≤ M ∧ i = .int .i64 k ∧ ∀ i, i < k → bitAt bytes (p + i) = false) (fun i => M - (intOf i).toNat)
  case atStart => exact ⟨0, Nat.zero_le _, rfl, by intro i hi; omega⟩
  case round =>
    obtain ⟨k, hk, rfl, hz⟩ := hrel
    have HZ := hide hz; clear hz
    by_cases hlt : k < M
    · have hv := valAt_one bytes (p + k) (by omega)
      have C : ∀ w0, EsIs w0 B q ec bytes p → Calls Try.prog 77 #[.pointer (some ⟨q, 0, none⟩), .int .i64 ((p : Int) + (k : Int)), .int .i64 1] w0 fun e w' => e = .returned (.int .u64 (((bitAt bytes (p + k)).toNat : Nat) : Int)) ∧ w0 = w' := by
        intro w0 hs0
        have := esPeek_any B q ec bytes p (p + k) 1 w0 hs0 (by omega) (by omega)
        rw [hv] at this
        exact this
      have hsN := hs.drewN nn
      cases hb : bitAt bytes (p + k) with
      | true =>
        rw [hb] at C
        have HB := hide hb; clear hb
        go_wp2_with fail
        refine (C _ hsN).mono ?_
        rintro e w' ⟨rfl, rfl⟩
        go_wp2
        go_ret
        have hz := HM.out
        refine ⟨?_, _, rfl⟩
        rw [zerosAt_eq bytes p k hp (by omega) HZ.out (fun _ => HB.out)]
        rfl
      | false =>
        rw [hb] at C
        have HB := hide hb; clear hb
        go_wp2_with fail
        refine (C _ hsN).mono ?_
        rintro e w' ⟨rfl, rfl⟩
        go_wp2
        go_round
        case rel =>
          refine ⟨k + 1, by omega, by go_num, fun i hi => ?_⟩
          by_cases hik : i = k
          · rw [hik]; exact HB.out
          · exact HZ.out i (by omega)
        case measure => simp [intOf]; omega
    · go_wp2
      go_ret
      have hz := HM.out
      refine ⟨?_, _, rfl⟩
      obtain rfl : k = M := by omega
      rw [zerosAt_eq bytes p k hp (by omega) HZ.out (fun h => by omega)]
      rfl

/-- The same, the world behind the call left a variable. -/
theorem esLeft_k (B q : Nat) (ec : Int) (bytes : List Nat) (p : Nat) (w : World) (hs : EsIs w B q ec bytes p) :
    Calls Try.prog 59 #[.pointer (some ⟨q, 0, none⟩)] w fun e w' => e = .returned (.int .i64 ((8 * bytes.length - p : Nat) : Int)) ∧ EsIs w' B q ec bytes p ∧ Kept B erT w w' :=
  (esLeft_any B q ec bytes p w hs).mono fun e w' ⟨he, n, hw⟩ => by rw [hw]; exact ⟨he, hs.drewN n, (Kept.refl _ _ _).drewN n⟩
theorem esZeros_k (B q : Nat) (ec : Int) (bytes : List Nat) (p : Nat) (w : World) (hs : EsIs w B q ec bytes p) :
    Calls Try.prog 88 #[.pointer (some ⟨q, 0, none⟩)] w fun e w' => e = .returned (.int .i64 ((zerosAt bytes p : Nat) : Int)) ∧ EsIs w' B q ec bytes p ∧ Kept B erT w w' :=
  (esZeros_any B q ec bytes p w hs).mono fun e w' ⟨he, n, hw⟩ => by rw [hw]; exact ⟨he, hs.drewN n, (Kept.refl _ _ _).drewN n⟩
end Go.Proofs.Ythjhbnfedelniaa
namespace Go.Proofs.Ythjhbnfedelniaa
open Go Go.RowKit
/-- The block of a source behind a store into its place. -/
theorem EsIs.moved {w : World} {B q : Nat} {ec : Int} {bytes : List Nat} {p : Nat} (h : EsIs w B q ec bytes p) (p' : Nat) (hp : p' ≤ 8 * bytes.length) : EsIs (w.setCell ⟨q, 2, none⟩ (.int .i64 (p' : Int))) B q ec bytes p' := by
  obtain ⟨v, h1, ho⟩ := h.row
  refine ⟨h.from_, h.len, hp, h.small, v, ?_, ownsRow_setCell_typed ho h1 (by decide) _⟩
  rw [heap_setCell_same h1]; simp
theorem EsIs.keeps {w : World} {B q : Nat} {ec : Int} {bytes : List Nat} {p : Nat} (h : EsIs w B q ec bytes p) (u : Value) : Kept B erT w (w.setCell ⟨q, 2, none⟩ u) := by
  obtain ⟨v, h1, ho⟩ := h.row
  exact (Kept.refl _ _ _).setCell h.from_ h1 rfl u
theorem EsIs.free {w : World} {B q : Nat} {ec : Int} {bytes : List Nat} {p : Nat} (h : EsIs w B q ec bytes p) : w.frozen? ⟨q, 2, none⟩ = false := by
  obtain ⟨v, h1, _⟩ := h.row
  exact (es_free h1).2.2.1

set_option maxRecDepth 100000 in
set_option maxHeartbeats 400000 in
theorem esNat_any (B q : Nat) (ec : Int) (bytes : List Nat) (p : Nat) (w : World) (hs : EsIs w B q ec bytes p) :
    Calls Try.prog 84 #[.pointer (some ⟨q, 0, none⟩)] w fun e w' => e = .returned (.tuple #[.int .u64 ((natVal bytes p : Nat) : Int), .int .i64 ((natErr bytes p : Nat) : Int)]) ∧ EsIs w' B q ec bytes (natNext bytes p) ∧ Kept B erT w w' := by
  have hp := hs.at_
  have hl := hs.len
  obtain ⟨k, hk⟩ : ∃ k, k = zerosAt bytes p := ⟨_, rfl⟩
  have C := esZeros_k B q ec bytes p w hs
  rw [← hk] at C
  have HK := hide hk; clear hk
  go_enter Try.func84, Try.ntmps84
  go_wp2_with fail
  refine (sIsMade_any q _ hs.made).mono ?_
  rintro e w' ⟨rfl, rfl⟩
  go_wp2_with fail
  refine C.mono ?_
  rintro e w1 ⟨rfl, hs1, k1⟩
  by_cases h64 : 64 < k
  · go_wp2_with fail
    go_ret2
    have he : natErr bytes p = 11 := by unfold natErr; rw [← HK.out, if_pos h64]
    rw [natVal, natNext, he]
    exact ⟨rfl, hs1, k1⟩
  obtain ⟨Lf, hLf⟩ : ∃ Lf, Lf = 8 * bytes.length - p := ⟨_, rfl⟩
  have C2 := esLeft_k B q ec bytes p w1 hs1
  rw [← hLf] at C2
  have HL := hide hLf; clear hLf
  have hLb : Lf ≤ 1125899906842624000 := by have := HL.out; omega
  go_wp2_with fail
  refine C2.mono ?_
  rintro e w2 ⟨rfl, hs2, k2⟩
  have hpos := hs2.pos
  have hfree := hs2.free
  by_cases hfew : Lf < 2 * k + 1
  · go_wp2_with fail
    go_ret2
    have he : natErr bytes p = 10 := by unfold natErr; rw [← HK.out, if_neg h64, if_pos (by have := HL.out; omega)]
    rw [natVal, natNext, he]
    exact ⟨rfl, hs2, k1.trans k2⟩
  obtain ⟨V, hV⟩ : ∃ V, V = valAt bytes (p + k + 1) k := ⟨_, rfl⟩
  have hVlt : V < 2 ^ k := by rw [hV]; exact valAt_lt _ _ _
  have C3 := esPeek_any B q ec bytes p (p + k + 1) k w2 hs2 (by omega) (by have := HL.out; omega)
  rw [← hV] at C3
  have C4 : Calls Try.prog 77 #[.pointer (some ⟨q, 0, none⟩), .int .i64 ((p : Int) + (k : Int) + 1), .int .i64 (k : Int)] w2 fun e w' => e = .returned (.int .u64 ((V : Nat) : Int)) ∧ w2 = w' := C3
  have HV := hide hV; clear hV
  clear C C2 C3
  have hp2 : p ≤ 1125899906842624000 := by omega
  have HP := hide hp; clear hp
  have he0 : natErr bytes p = if k = 64 ∧ V ≠ 0 then 11 else 0 := by unfold natErr; rw [← HK.out, ← HV.out, if_neg h64, if_neg (by have := HL.out; omega)]
  have HE := hide he0; clear he0
  by_cases hk64 : k = 64
  · subst hk64
    by_cases hV0 : V = 0
    · have hVb : ((V : Int) != 0) = false := by simp; omega
      have hV0' := hide hV0; clear hV0
      go_wp2_with fail
      refine C4.mono ?_
      rintro e w' ⟨rfl, rfl⟩
      clear C4
      go_wp2
      go_ret2
      have he : natErr bytes p = 0 := HE.out.trans (if_neg (fun h => h.2 hV0'.out))
      have hm := hs2.moved (p + (2 * 64 + 1)) (by have := HL.out; have := HP.out; omega)
      rw [natVal, natNext, he, if_pos rfl, if_pos rfl, ← HK.out, ← HV.out, hV0'.out]
      refine ⟨?_, ?_, ?_⟩
      · show Ending.returned (.tuple #[.int .u64 (IntKind.u64.wrap (IntKind.u64.wrap (IntKind.u64.wrap 18446744073709551616 + ((0 : Nat) : Int)) - 1)), .int .i64 0]) = _
        have e : IntKind.u64.wrap (IntKind.u64.wrap (IntKind.u64.wrap 18446744073709551616 + ((0 : Nat) : Int)) - 1) = ((2 ^ 64 + 0 - 1 : Nat) : Int) := by decide +kernel
        rw [e]; rfl
      · exact hm
      · exact (k1.trans k2).trans (hs2.keeps _)
    · have hVb : ((V : Int) != 0) = true := by simp; omega
      have hV0' := hide hV0; clear hV0
      go_wp2_with fail
      refine C4.mono ?_
      rintro e w' ⟨rfl, rfl⟩
      clear C4
      go_wp2
      go_ret2
      have he : natErr bytes p = 11 := HE.out.trans (if_pos ⟨by trivial, hV0'.out⟩)
      rw [natVal, natNext, he]
      exact ⟨rfl, hs2, k1.trans k2⟩
  · have hk63 : k ≤ 63 := by omega
    have hkb : ((k : Int) == 64) = false := by simp; omega
    have hk64' := hide hk64; clear hk64
    go_wp2_with fail
    refine C4.mono ?_
    rintro e w' ⟨rfl, rfl⟩
    clear C4
    go_wp2
    go_ret2
    have he := HE.out
    rw [if_neg (by rintro ⟨h, _⟩; exact hk64'.out h)] at he
    have hm := hs2.moved (p + (2 * k + 1)) (by have := HL.out; have := HP.out; omega)
    rw [natVal, natNext, he, if_pos rfl, if_pos rfl, ← HK.out, ← HV.out]
    refine ⟨?_, ?_, ?_⟩
    · show Ending.returned (.tuple #[.int .u64 (IntKind.u64.wrap (IntKind.u64.wrap (IntKind.u64.wrap (2 ^ k) + (V : Int)) - 1)), .int .i64 0]) = _
      have h2k : (2 : Nat) ^ k ≤ 2 ^ 63 := Nat.pow_le_pow_right (by omega) hk63
      have h1k : 0 < (2 : Nat) ^ k := Nat.two_pow_pos k
      have hck : ((2 : Int) ^ k) = ((2 ^ k : Nat) : Int) := by push_cast; rfl
      have e : IntKind.u64.wrap (IntKind.u64.wrap (IntKind.u64.wrap (2 ^ k) + (V : Int)) - 1) = ((2 ^ k + V - 1 : Nat) : Int) := by
        rw [hck]; simp only [IntKind.wrap_u64]; omega
      rw [e]; rfl
    · exact hm
    · exact (k1.trans k2).trans (hs2.keeps _)
set_option maxRecDepth 100000 in
theorem esTake_any (B q n : Nat) (ec : Int) (bytes : List Nat) (p : Nat) (w : World) (hs : EsIs w B q ec bytes p) (hn : n ≤ 64) (hle : p + n ≤ 8 * bytes.length) :
    Calls Try.prog 60 #[.pointer (some ⟨q, 0, none⟩), .int .i64 (n : Int)] w fun e w' => e = .returned (.int .u64 ((valAt bytes p n : Nat) : Int)) ∧ EsIs w' B q ec bytes (p + n) ∧ Kept B erT w w' := by
  have hpos := hs.pos
  have hfree := hs.free
  have hl := hs.len
  have C := esPeek_any B q ec bytes p p n w hs hn hle
  have HM := hide (hs.moved (p + n) hle)
  have HK := hide (fun u => hs.keeps u)
  clear hs
  go_enter Try.func60, Try.ntmps60
  go_wp2_with (go_at_call 77; refine C.mono ?_; rintro e w' ⟨rfl, rfl⟩)
  go_ret
  exact ⟨rfl, HM.out, HK.out _⟩

set_option maxRecDepth 100000 in
theorem esBits_any (B q : Nat) (n : Int) (ec : Int) (bytes : List Nat) (p : Nat) (w : World) (hs : EsIs w B q ec bytes p) (hw : (Lit.int .i64 n).wf = true) :
    Calls Try.prog 42 #[.pointer (some ⟨q, 0, none⟩), .int .i64 n] w fun e w' => e = .returned (.tuple #[.int .u64 ((bitsVal (leftL bytes p) n : Nat) : Int), .int .i64 ((bitsErr n (leftL bytes p).length : Nat) : Int)]) ∧
      (∃ p', EsIs w' B q ec bytes p' ∧ leftL bytes p' = bitsRest (leftL bytes p) n) ∧ Kept B erT w w' := by
  have hw2 : -9223372036854775808 ≤ n ∧ n ≤ 9223372036854775807 := by simpa [Lit.wf, IntKind.min, IntKind.max, IntKind.signed, IntKind.bits] using hw
  have hp := hs.at_
  by_cases h1 : n < 0
  · have he := bitsErr_arg (n := n) (len := (leftL bytes p).length) (.inl h1)
    rw [bitsVal, bitsRest, he]
    have hm := hs.made
    have HS := hide hs; clear hs he hw
    go_enter Try.func42, Try.ntmps42
    go_wp2_with (go_at_call 58; refine (sIsMade_any q _ hm).mono ?_; rintro e w' ⟨rfl, rfl⟩)
    go_ret2
    exact ⟨rfl, ⟨p, HS.out, rfl⟩, Kept.refl _ _ _⟩
  by_cases h2 : 64 < n
  · have he := bitsErr_arg (n := n) (len := (leftL bytes p).length) (.inr h2)
    rw [bitsVal, bitsRest, he]
    have hm := hs.made
    have HS := hide hs; clear hs he hw
    go_enter Try.func42, Try.ntmps42
    go_wp2_with (go_at_call 58; refine (sIsMade_any q _ hm).mono ?_; rintro e w' ⟨rfl, rfl⟩)
    go_ret2
    exact ⟨rfl, ⟨p, HS.out, rfl⟩, Kept.refl _ _ _⟩
  obtain ⟨m, rfl⟩ : ∃ m : Nat, n = m := ⟨n.toNat, by omega⟩
  obtain ⟨Lf, hLf⟩ : ∃ Lf, Lf = 8 * bytes.length - p := ⟨_, rfl⟩
  have C2 := esLeft_k B q ec bytes p w hs
  rw [← hLf] at C2
  have hm := hs.made
  by_cases h3 : Lf < m
  · have he := bitsErr_ends (n := (m : Int)) (len := (leftL bytes p).length) (by omega) (by rw [leftL_length]; omega)
    rw [bitsVal, bitsRest, he]
    clear hs he hw hLf
    go_enter Try.func42, Try.ntmps42
    go_wp2_with fail
    refine (sIsMade_any q _ hm).mono ?_; rintro e w' ⟨rfl, rfl⟩
    go_wp2_with fail
    refine C2.mono ?_; rintro e w1 ⟨rfl, hs1, k1⟩
    have HS1 := hide hs1; have HK1 := hide k1; clear hs1 k1
    go_wp2
    go_ret2
    exact ⟨rfl, ⟨p, HS1.out, rfl⟩, HK1.out⟩
  · have he := bitsErr_ok (n := m) (len := (leftL bytes p).length) (by omega) (by rw [leftL_length]; omega)
    rw [bitsVal, bitsRest, he, if_pos rfl, if_pos rfl]
    have hv := valAt_left bytes p 0 m
    rw [Nat.add_zero, List.drop_zero] at hv
    have hr : leftL bytes (p + m) = (leftL bytes p).drop m := by simp [leftL, List.drop_drop]
    have hle : p + m ≤ 8 * bytes.length := by omega
    rw [show ((m : Int)).toNat = m from rfl, ← hv]
    have HR := hide hr
    clear hs he hw hLf hr hv
    go_enter Try.func42, Try.ntmps42
    go_wp2_with fail
    refine (sIsMade_any q _ hm).mono ?_; rintro e w' ⟨rfl, rfl⟩
    go_wp2_with fail
    refine C2.mono ?_; rintro e w1 ⟨rfl, hs1, k1⟩
    have HK1 := hide k1; clear k1
    go_wp2_with fail
    refine (esTake_any B q m ec bytes p w1 hs1 (by omega) hle).mono ?_; rintro e w2 ⟨rfl, hs2, k2⟩
    have HS2 := hide hs2; have HK2 := hide k2; clear hs2 k2 hs1
    go_wp2
    go_ret2
    exact ⟨rfl, ⟨p + m, HS2.out, HR.out⟩, HK1.out.trans HK2.out⟩
/-- A source, its slice of bytes named. -/
def EsAt (w : World) (B q : Nat) (ec : Int) (bytes : List Nat) (p : Nat) (v : Value) : Prop :=
  w.heap[q]? = some (.cells #[.bool true, v, .int .i64 (p : Int), .int .i64 ec] 86 (0, 0)) ∧ w.ownsRow B 5 1 v bytes.length (byteVs bytes)
theorem EsAt.is {w w0 : World} {B q : Nat} {ec : Int} {bytes : List Nat} {p p' : Nat} {v : Value} (h : EsAt w B q ec bytes p' v) (h0 : EsIs w0 B q ec bytes p) (hp : p' ≤ 8 * bytes.length) : EsIs w B q ec bytes p' :=
  ⟨h0.from_, h0.len, hp, h0.small, v, h.1, h.2⟩
theorem EsAt.moved {w : World} {B q : Nat} {ec : Int} {bytes : List Nat} {p : Nat} {v : Value} (h : EsAt w B q ec bytes p v) (p' : Nat) : EsAt (w.setCell ⟨q, 2, none⟩ (.int .i64 (p' : Int))) B q ec bytes p' v := by
  refine ⟨?_, ownsRow_setCell_typed h.2 h.1 (by decide) _⟩
  rw [heap_setCell_same h.1]; simp
theorem EsAt.alloc {w : World} {B q : Nat} {ec : Int} {bytes : List Nat} {p : Nat} {v : Value} (h : EsAt w B q ec bytes p v) (o : Obj) : EsAt (w.alloc o) B q ec bytes p v :=
  ⟨heap_alloc_keeps h.1 o, h.2.alloc o⟩
theorem EsAt.other {w : World} {B q g k : Nat} {ec : Int} {bytes : List Nat} {p : Nat} {v : Value} (h : EsAt w B q ec bytes p v) (u : Value) (h1 : q ≠ g) (h2 : v.ownBlock ≠ some g) : EsAt (w.setCell ⟨g, k, none⟩ u) B q ec bytes p v :=
  ⟨by rw [Below.heap_setCell _ _ _ _ h1]; exact h.1, ownsRow_setCell_other h.2 h2 u⟩

set_option maxRecDepth 100000 in
theorem esTake_at (B q n : Nat) (ec : Int) (bytes : List Nat) (p : Nat) (w : World) (hs : EsIs w B q ec bytes p) (hn : n ≤ 64) (hle : p + n ≤ 8 * bytes.length) :
    Calls Try.prog 60 #[.pointer (some ⟨q, 0, none⟩), .int .i64 (n : Int)] w fun e w' => e = .returned (.int .u64 ((valAt bytes p n : Nat) : Int)) ∧ w.setCell ⟨q, 2, none⟩ (.int .i64 ((p + n : Nat) : Int)) = w' := by
  have hpos := hs.pos
  have hfree := hs.free
  have hl := hs.len
  have C := esPeek_any B q ec bytes p p n w hs hn hle
  clear hs
  go_enter Try.func60, Try.ntmps60
  go_wp2_with (go_at_call 77; refine C.mono ?_; rintro e w' ⟨rfl, rfl⟩)
  go_ret
  exact ⟨rfl, rfl⟩

set_option maxRecDepth 100000 in
set_option maxHeartbeats 1600000 in
theorem esText_any (B q : Nat) (ec : Int) (bytes : List Nat) (p : Nat) (w : World) (hs : EsIs w B q ec bytes p) :
    Calls Try.prog 79 #[.pointer (some ⟨q, 0, none⟩)] w fun e w' => e = .returned (.tuple #[.string (textStr (leftL bytes p)), .int .i64 ((textErrL (leftL bytes p) : Nat) : Int)]) ∧
      (∃ p', EsIs w' B q ec bytes p' ∧ leftL bytes p' = textRestL (leftL bytes p)) ∧ Kept B erT w w' := by
  have hp := hs.at_
  have hpos := hs.pos
  have hmade := hs.made
  have hlenb := hs.len
  have C := esNat_any B q ec bytes p w hs
  rw [natErr_left, natVal_left] at C
  obtain ⟨l, hl⟩ : ∃ l, l = leftL bytes p := ⟨_, rfl⟩
  rw [← hl] at C ⊢
  have hlt := natValL_lt l
  obtain ⟨E, hE⟩ : ∃ E, E = natErrL l := ⟨_, rfl⟩
  obtain ⟨V, hV⟩ : ∃ V, V = natValL l := ⟨_, rfl⟩
  obtain ⟨p1, hp1⟩ : ∃ p1, p1 = natNext bytes p := ⟨_, rfl⟩
  have hrest : leftL bytes p1 = natRestL l := by rw [hp1, hl]; exact natRest_left bytes p
  rw [← hE, ← hV, ← hp1] at C
  rw [← hV] at hlt
  have HE := hide hE
  have HV := hide hV
  have HL := hide hl
  have HRest := hide hrest
  have HP1 := hide hp1
  clear hE hV hl hrest hp1
  have hV' : (V : Int) ≤ 18446744073709551615 := by omega
  have HVlt := hide hlt; clear hlt
  have HS0 := hide hs; clear hs
  by_cases h0 : E = 0
  · subst h0
    have hErr2 : (natErrL l) = 0 := HE.out.symm
    have HErr2 := hide hErr2; clear hErr2
    go_enter Try.func79, Try.ntmps79
    go_wp2_with fail
    refine (sIsMade_any q _ hmade).mono ?_
    rintro e w' ⟨rfl, rfl⟩
    go_wp2_with fail
    refine C.mono ?_
    clear C
    rintro e w1 ⟨rfl, hs1, k1⟩
    have H1 := hide hs1; have K1 := hide k1; clear hs1 k1
    have hp1b := H1.out.at_
    obtain ⟨Lf, hLf⟩ : ∃ Lf, Lf = 8 * bytes.length - p1 := ⟨_, rfl⟩
    have C2 := esLeft_k B q ec bytes p1 w1 H1.out
    rw [← hLf] at C2
    have HLf := hide hLf; clear hLf
    have hLb : Lf ≤ 1125899906842624 := by have := HLf.out; omega
    go_wp2_with fail
    refine C2.mono ?_
    clear C2
    rintro e w2 ⟨rfl, hs2, k2⟩
    have H2 := hide hs2; have K2 := hide k2; clear hs2 k2
    have hfree2 := H2.out.free
    have hpos2 := H2.out.pos
    have HNl : Hid ((natRestL l).length = Lf) := by rw [← HRest.out, leftL_length]; exact HLf.out.symm
    by_cases hmuch : Lf / 8 < V
    · have he : textErrL l = 10 := by unfold textErrL; rw [HErr2.out, ← HV.out, HNl.out]; simp [hmuch]
      have HTE := hide he; clear he
      go_wp2_with fail
      go_ret2
      rw [textStr, textBytesL, textRestL, HTE.out]
      exact ⟨rfl, ⟨p, H2.out.moved p hp, HL.out.symm⟩, (K1.out.trans K2.out).trans (H2.out.keeps _)⟩
    · have he : textErrL l = 0 := by unfold textErrL; rw [HErr2.out, ← HV.out, HNl.out]; simp [hmuch]
      have hV8 : 8 * V ≤ Lf := by omega
      have hV9 : V ≤ 140737488355328 := by omega
      have HT : Hid (textBytesL l = (List.range V).map (chunk (natRestL l)) ∧ textRestL l = (natRestL l).drop (8 * V)) := by
        unfold textBytesL textRestL; rw [he, if_pos rfl, if_pos rfl, ← HV.out]; exact ⟨rfl, rfl⟩
      have HTE := hide he; clear he
      have hmk := run_make_row' (P := Try.prog) 82 5 (.int .u8 0) 1 Try.underlying82 Try.info5 rfl .u64 .u64 V (by omega) (by omega)
      obtain ⟨v, hat⟩ : ∃ v, EsAt w2 B q ec bytes p1 v := by
        obtain ⟨v, h1, h2⟩ := H2.out.row
        exact ⟨v, h1, h2⟩
      have HAt := hide hat; clear hat
      have hqlt : q < w2.heap.size := H2.out.lt
      obtain ⟨M, hM⟩ : ∃ M, M = w2.heap.size := ⟨_, rfl⟩
      have hq2 : q ≠ M := by omega
      have hv2 : v.ownBlock ≠ some M := by
        intro h
        have := (HAt.out.2.lt M h).2
        omega
      have HQ2 := hide hq2; have HV2 := hide hv2; clear hq2 hv2
      have hB : B ≤ M := by have := H2.out.from_; omega
      have HM := hide hM
      go_wp2_with fail
      rw [← hM]
      clear hM hmk
      go_loopw [38] (fun i wr => ∃ k : Nat, k ≤ V ∧ i = .int .i64 k ∧ wr.ownsRow M 5 1 (.slice (some ⟨M, 0, none⟩) V V) V (byteVs (filled (chunk (natRestL l)) V k)) ∧ EsAt wr B q ec bytes (p1 + 8 * k) v ∧ Kept B erT w2 wr) (fun i _ => V - (intOf i).toNat)
      case atStart =>
        refine ⟨0, Nat.zero_le _, rfl, ?_, HAt.out.alloc _, (Kept.refl _ _ _).alloc (by have := HM.out; omega) _⟩
        rw [filled_zero, HM.out]
        exact made_bytes w2 V hV9
      case round =>
        obtain ⟨k, hk, rfl, hown, hsr, hkr⟩ := hrel
        have HO := hide hown; have HR := hide hsr; have HK := hide hkr; clear hown hsr hkr
        by_cases hltk : k < V
        · have hle : p1 + 8 * k + 8 ≤ 8 * bytes.length := by have := HLf.out; omega
          have CT := esTake_at B q 8 ec bytes (p1 + 8 * k) wr (HR.out.is H2.out (by omega)) (by omega) hle
          obtain ⟨c, hcc⟩ : ∃ c, c = chunk (natRestL l) k := ⟨_, rfl⟩
          have hcv : valAt bytes (p1 + 8 * k) 8 = c := by rw [hcc, ← HRest.out, chunk_left]
          rw [hcv] at CT
          have hc256 : c < 256 := by rw [hcc]; exact chunk_lt _ _
          have hcw : (c : Int) % 256 = (c : Int) := by omega
          have HCC := hide hcc; clear hcc hcv
          have hcellt : (wr.setCell ⟨q, 2, none⟩ (.int .i64 ((p1 + 8 * k + 8 : Nat) : Int))).ownsRow M 5 1 (.slice (some ⟨M, 0, none⟩) V V) V (byteVs (filled (chunk (natRestL l)) V k)) := ownsRow_setCell_typed HO.out HR.out.1 (by decide) _
          obtain ⟨w3, hw3⟩ : ∃ w3, w3 = wr.setCell ⟨q, 2, none⟩ (.int .i64 ((p1 + 8 * k + 8 : Nat) : Int)) := ⟨_, rfl⟩
          have hsr3 := HR.out.moved (p1 + 8 * k + 8)
          have hkr3 := HK.out.setCell (p := ⟨q, 2, none⟩) H2.out.from_ HR.out.1 rfl (.int .i64 ((p1 + 8 * k + 8 : Nat) : Int))
          rw [← hw3] at hcellt CT hsr3 hkr3
          clear hw3
          have hcl := hcellt.cells (g := M) rfl k (.int .u8 (((filled (chunk (natRestL l)) V k).getD k 0 : Nat) : Int)) (by simp [byteVs, filled_length, hltk])
          rw [add_off] at hcl
          obtain ⟨x0, hx0⟩ : ∃ x0 : Nat, x0 = (filled (chunk (natRestL l)) V k).getD k 0 := ⟨_, rfl⟩
          rw [← hx0] at hcl
          clear hx0
          have hfr : w3.frozen? ⟨M, k, none⟩ = false := by
            rcases hcellt.2 with ⟨h, _⟩ | ⟨g, cap, cur, h, _, hgg, _⟩
            · cases h
            · simp only [Value.slice.injEq, Option.some.injEq, Addr.mk.injEq, and_true, true_and] at h
              obtain ⟨rfl, _⟩ := h
              simp [World.frozen?, hgg]
          have HO3 := hide hcellt; have HR3 := hide hsr3; have HK3 := hide hkr3; clear hcellt hsr3 hkr3
          go_wp2_with fail
          refine CT.mono ?_
          clear CT
          rintro e w' ⟨rfl, rfl⟩
          go_wp2
          go_roundw
          case rel =>
            have hst := (HO3.out.stored k (.int .u8 (c : Int))).1
            rw [HCC.out, filled_set _ _ _ hltk] at hst
            rw [HCC.out]
            refine ⟨k + 1, by omega, by go_num, hst, ?_, HK3.out.setCell_fresh (p := ⟨M, k, none⟩) hB (by have := HM.out; simp; omega) _⟩
            have := HR3.out.other (k := k) (.int .u8 ((chunk (natRestL l) k : Nat) : Int)) HQ2.out HV2.out
            rw [show p1 + 8 * (k + 1) = p1 + 8 * k + 8 by omega]
            exact this
          case measure => simp [intOf]; omega
        · obtain rfl : k = V := by omega
          have hcv := conv_own HO.out (filled_length _ _ _)
          rw [filled_full] at hcv
          go_wp2
          go_ret2
          rw [textStr, HT.out.1, HT.out.2, HTE.out]
          refine ⟨by rw [List.map_map]; rfl, ⟨p1 + 8 * k, HR.out.is H2.out (by have := HLf.out; omega), ?_⟩, (K1.out.trans K2.out).trans HK.out⟩
          rw [← HRest.out]
          simp [leftL, List.drop_drop]
  · have hb : ((E : Int) != 0) = true := by simp; omega
    have H0 := hide h0; clear h0
    go_enter Try.func79, Try.ntmps79
    go_wp2_with fail
    refine (sIsMade_any q _ hmade).mono ?_
    rintro e w' ⟨rfl, rfl⟩
    go_wp2_with fail
    refine C.mono ?_
    clear C
    rintro e w1 ⟨rfl, hs1, k1⟩
    have H1 := hide hs1; have K1 := hide k1; clear hs1 k1
    go_wp2
    go_ret2
    have he : textErrL l = E := by unfold textErrL; rw [← HE.out, if_pos H0.out]
    have hr : natRestL l = l := by unfold natRestL; rw [← HE.out, if_neg H0.out]
    have ht : textBytesL l = [] := by unfold textBytesL; rw [he, if_neg H0.out]
    have ht2 : textRestL l = l := by unfold textRestL; rw [he, if_neg H0.out]
    rw [textStr, ht, ht2, he]
    exact ⟨rfl, ⟨p1, H1.out, by rw [HRest.out, hr]⟩, K1.out⟩
/-- The same of the program's source, in the words of the bits that are left. -/
theorem esNat_left (B q : Nat) (ec : Int) (bytes : List Nat) (p : Nat) (w : World) (hs : EsIs w B q ec bytes p) :
    Calls Try.prog 84 #[.pointer (some ⟨q, 0, none⟩)] w fun e w' => e = .returned (.tuple #[.int .u64 ((natValL (leftL bytes p) : Nat) : Int), .int .i64 ((natErrL (leftL bytes p) : Nat) : Int)]) ∧
      (∃ p', EsIs w' B q ec bytes p' ∧ leftL bytes p' = natRestL (leftL bytes p)) ∧ Kept B erT w w' :=
  (esNat_any B q ec bytes p w hs).mono fun e w' ⟨he, h1, h2⟩ => ⟨by rw [he, natErr_left, natVal_left], ⟨_, h1, natRest_left bytes p⟩, h2⟩
set_option maxRecDepth 100000 in
theorem esNum_any (B q : Nat) (ec : Int) (bytes : List Nat) (p : Nat) (w : World) (hs : EsIs w B q ec bytes p) :
    Calls Try.prog 89 #[.pointer (some ⟨q, 0, none⟩)] w fun e w' => e = .returned (.tuple #[.int .i64 (numValL (leftL bytes p)), .int .i64 ((natErrL (leftL bytes p) : Nat) : Int)]) ∧
      (∃ p', EsIs w' B q ec bytes p' ∧ leftL bytes p' = natRestL (leftL bytes p)) ∧ Kept B erT w w' := by
  have C := esNat_left B q ec bytes p w hs
  have hlt := natValL_lt (leftL bytes p)
  obtain ⟨E, hE⟩ : ∃ E, E = natErrL (leftL bytes p) := ⟨_, rfl⟩
  obtain ⟨V, hV⟩ : ∃ V, V = natValL (leftL bytes p) := ⟨_, rfl⟩
  have hn : numValL (leftL bytes p) = if E = 0 then numOf V else 0 := by unfold numValL; rw [hE, hV]
  rw [← hE, ← hV] at C
  rw [← hV] at hlt
  rw [hn, ← hE]
  clear hE hV hn hs
  have U := fun w => unfold_any V hlt w
  by_cases h0 : E = 0
  · subst h0
    rw [if_pos rfl]
    go_enter Try.func89, Try.ntmps89
    go_wp2_with fail
    refine C.mono ?_
    clear C
    rintro e w1 ⟨rfl, h1, h2⟩
    have H1 := hide h1; have H2 := hide h2; clear h1 h2
    go_wp2_with fail
    refine (U _).mono ?_
    rintro e w' ⟨rfl, rfl⟩
    go_wp2
    go_ret2
    exact ⟨rfl, H1.out, H2.out⟩
  · rw [if_neg h0]
    have hb : ((E : Int) != 0) = true := by simp; omega
    have H0 := hide h0; clear h0
    go_enter Try.func89, Try.ntmps89
    go_wp2_with fail
    refine C.mono ?_
    clear C
    rintro e w1 ⟨rfl, h1, h2⟩
    have H1 := hide h1; have H2 := hide h2; clear h1 h2
    go_wp2
    go_ret2
    exact ⟨rfl, H1.out, H2.out⟩

end Go.Proofs.Ythjhbnfedelniaa
