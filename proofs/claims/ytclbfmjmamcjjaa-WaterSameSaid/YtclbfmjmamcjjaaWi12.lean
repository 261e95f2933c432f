/- Contract: the statements' own equal: the program's marks are the document's. -/
import Derived.Test.YtclbfmjmamcjjaaWh12
namespace Go.Proofs.Ytclbfmjmamcjjaa
open Go Go.RowKit

/-- The program's marks in the block p, the document's in the block q: the same. -/
structure T12 (W : World) (p q : Nat) (ms : List Int) (u : World) : Prop where
  below : Below W.heap.size W u
  pm : WtIs u p ms
  dm : RwIs u q p ms
theorem T12.call {W : World} {p q : Nat} {ms : List Int} {u u' : World} (h : T12 W p q ms u) (hb : Below u.heap.size u u') : T12 W p q ms u' :=
  ⟨h.below.trans (hb.mono h.below.size), h.pm.below hb, h.dm.call hb⟩
theorem T12.drewN {W : World} {p q : Nat} {ms : List Int} {u : World} (h : T12 W p q ms u) (n : Nat) : T12 W p q ms (u.drewN n) := ⟨Below.drewN' h.below n, h.pm.drewN n, h.dm.drewN n⟩
theorem T12.drew {W : World} {p q : Nat} {ms : List Int} {u : World} (h : T12 W p q ms u) : T12 W p q ms u.drew := h.drewN 1

set_option maxRecDepth 100000 in
set_option maxHeartbeats 3200000 in
theorem equal12_any (p q : Nat) (ms : List Int) (window end_ : Int) (w : World) (h : WtIs w p ms) (h' : RwIs w q p ms) :
    Calls Try.prog 16 #[.pointer (some ⟨p, 0, none⟩), .pointer (some ⟨q, 0, none⟩), .int .i64 window, .int .i64 end_] w fun e w' => e = .returned (.bool true) ∧ Below w.heap.size w w' := by
  have HA := Lib.hid (fun i => wAt_any p ms i w h)
  have HA' := Lib.hid (fun i => r12At_any q p ms i w h')
  have HL := Lib.hid (fun i => wLate_any p ms i end_ w h)
  have HT := Lib.hid (show T12 w p q ms w from ⟨Below.refl _ _, h, h'⟩)
  have hm0 := minI_nonneg h.may
  have hmF := minI_le ms
  have HG := Lib.hid (fun u (h : WtIs u p ms) => wMerged_any p ms u h)
  have HG' := Lib.hid (fun u (h : RwIs u q p ms) => r12Merged_any q p ms u h)
  have HO := Lib.hid (fun u (h : WtIs u p ms) => wHorizon_any (.pointer (some ⟨p, 0, none⟩)) (minI ms) window u hm0 hmF (wMerged_any p ms u h))
  have HO' := Lib.hid (fun u (h : RwIs u q p ms) => r12Horizon_any q p ms window u h)
  have HD := Lib.hid (fun u (h : WtIs u p ms) => wDone_any (.pointer (some ⟨p, 0, none⟩)) (minI ms) u (wMerged_any p ms u h))
  have HK := Lib.hid (fun u (h : WtIs u p ms) => wMarks_any p ms u h)
  obtain ⟨g, cap, c0, hc, _⟩ := h'.cell
  have hrow : RowAt w g ms := by
    obtain ⟨g1, c1, h1, h2, _⟩ := h'.row
    have : w.cell? ⟨q, 0, none⟩ = some (.slice (some ⟨g1, 0, none⟩) ms.length c1) := by simp [World.cell?, h1]
    rw [this] at c0
    simp only [Option.some.injEq, Value.slice.injEq, Addr.mk.injEq, and_true, true_and] at c0
    rw [← c0.1]; exact h2
  have hqlt := h'.lt
  have HC0 : Hid (∀ u, Below w.heap.size w u → u.cell? ⟨q, 0, none⟩ = some (.slice (some ⟨g, 0, none⟩) ms.length cap)) := fun u hb => (World.cell?_of_block (a := ⟨q, 0, none⟩) (hb.block q hqlt)).trans c0
  have HR : Hid (∀ u, Below w.heap.size w u → RowAt u g ms) := fun u hb => hrow.call hb
  have HE := Lib.hid (fun g1 c1 u (h1 : RowAt u g1 ms) (h2 : RowAt u g ms) => EqI64_any g1 0 c1 g 0 cap ms u (by have := h.k12; omega) (fun j hj => by rw [Nat.zero_add]; exact h1.at' j hj) (fun j hj => by rw [Nat.zero_add]; exact h2.at' j hj))
  obtain ⟨n, hn⟩ : ∃ n, n = ms.length := ⟨_, rfl⟩
  have HN := Lib.hid hn
  have hn12 : n ≤ 12 := by rw [hn]; exact h.k12
  have HRO : Hid (∀ (u u' : World) (g1 c1 : Nat), u'.ownsRow u.heap.size 2 1 (.slice (some ⟨g1, 0, none⟩) n c1) n (rowI ms) → RowAt u' g1 ms) := fun u u' g1 c1 ho => (RowAt.of_own (C := u.heap.size) (cap := c1) (by rw [← hn]; exact ho)).1
  rw [← hn] at c0 HC0 HK HE
  obtain ⟨m, hm⟩ : ∃ m, m = minI ms := ⟨_, rfl⟩
  rw [← hm] at HG HG' HO HO' HD
  rw [show decide (m = 1099511627777) = (m == 1099511627777) from rfl] at HD
  obtain ⟨ho, hho⟩ : ∃ ho, ho = horI m window := ⟨_, rfl⟩
  rw [← hho] at HO HO'
  clear h h' hm0 hmF hc hrow hqlt hn hm hho
  go_enter Try.func16, Try.ntmps16
  go_wp2_with fail
  go_loop [9] (fun iv => ∃ i : Int, -1 ≤ i ∧ i ≤ (n : Int) + 1 ∧ iv = .int .i64 i) (fun iv => ((n : Int) + 1 - intOf iv).toNat)
  case atStart => exact ⟨-1, by omega, by omega, rfl⟩
  case round =>
    obtain ⟨i, hi1, hi2, rfl⟩ := hrel
    by_cases hlt : i ≤ (n : Int)
    · have e1 : IntKind.i64.wrap (i + 1) = i + 1 := IntWalk.i64_in _ (by omega)
      have hle : decide (i ≤ (n : Int)) = true := decide_eq_true hlt
      have HAi := Lib.hid (HA.out i); have HAi' := Lib.hid (HA'.out i); have HLi := Lib.hid (HL.out i)
      generalize atI ms i = x at HAi HAi' HLi
      go_wp2_with (first
        | (go_at_call 22; (with_reducible refine HAi.out.mono ?_); rintro e w1 ⟨rfl, rfl⟩)
        | (go_at_call 30; (with_reducible refine HAi'.out.mono ?_); rintro e w1 ⟨rfl, rfl⟩)
        | (go_at_call 20; (with_reducible refine HLi.out.mono ?_); rintro e w1 ⟨rfl, rfl⟩))
      go_round
      case rel => exact ⟨i + 1, by omega, by omega, by go_num⟩
      case measure => simp [intOf]; omega
    · have hle : decide (i ≤ (n : Int)) = false := decide_eq_false hlt
      have HT0 := Lib.hid HT.out.drew
      have c1 := HC0.out _ HT0.out.below
      go_wp2_with fail
      clear c0
      go_region_held3 (fun w' => w'.cell? ⟨q, 0, none⟩ = some (.slice (some ⟨g, 0, none⟩) n cap)) (with_reducible exact c1) (first
        | (go_at_call 18; (with_reducible refine (QC.one (HG.out _ HT0.out.pm)).mono ?_); rintro e w1 ⟨rfl, n1, hw1⟩; have HT0 : Hid (T12 w p q ms w1) := (by rw [hw1]; exact HT0.out.drewN n1); have c1 := HC0.out _ HT0.out.below; clear hw1)
        | (go_at_call 29; (with_reducible refine (HG'.out _ HT0.out.dm).mono ?_); rintro e w1 ⟨rfl, rfl⟩)
        | (go_at_call 17; (with_reducible refine (HK.out _ HT0.out.pm).mono ?_); rintro e w1 ⟨g1, k1, rfl, hown, hb⟩; have HR1 := Lib.hid (HRO.out _ _ _ _ hown); have HT0 := Lib.hid (HT0.out.call hb); have c1 := HC0.out _ HT0.out.below; clear hown hb)
        | (go_at_call 24; (with_reducible refine (QC.one (HE.out _ _ _ HR1.out (HR.out _ HT0.out.below))).mono ?_); rintro e w1 ⟨rfl, n1, hw1⟩; have HT0 : Hid (T12 w p q ms w1) := (by rw [hw1]; exact HT0.out.drewN n1); have c1 := HC0.out _ HT0.out.below; clear hw1)
        | (go_at_call 19; (with_reducible refine (QC.one (HO.out _ HT0.out.pm)).mono ?_); rintro e w1 ⟨rfl, n1, hw1⟩; have HT0 : Hid (T12 w p q ms w1) := (by rw [hw1]; exact HT0.out.drewN n1); have c1 := HC0.out _ HT0.out.below; clear hw1)
        | (go_at_call 31; (with_reducible refine (HO'.out _ HT0.out.dm).mono ?_); rintro e w1 ⟨rfl, rfl⟩)
        | (go_at_call 21; (with_reducible refine (QC.one (HD.out _ HT0.out.pm)).mono ?_); rintro e w1 ⟨rfl, n1, hw1⟩; have HT0 : Hid (T12 w p q ms w1) := (by rw [hw1]; exact HT0.out.drewN n1); have c1 := HC0.out _ HT0.out.below; clear hw1))
      all_goals
        go_wp2
        go_ret
        exact ⟨by first | rfl | (congr 2; simp), HT0.out.below⟩
end Go.Proofs.Ytclbfmjmamcjjaa
