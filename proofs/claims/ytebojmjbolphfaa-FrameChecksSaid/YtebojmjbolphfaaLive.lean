/- Contract: live answers true, and what was there is as it was. -/
import Derived.Test.YtebojmjbolphfaaSnew
namespace Go.Proofs.Ytebojmjbolphfaa
open Go Go.RowKit

theorem bytesIn_own {w : World} {B : Nat} {v : Value} {bytes : List Nat} (h : w.ownsRow B 5 1 v bytes.length (byteVs bytes)) :
    ∃ ao cap, v = .slice ao bytes.length cap ∧ Lib.BytesIn w ao bytes.length (bytes.map fun x : Nat => (x : Int)) := by
  rcases h.2 with ⟨hv, hn0⟩ | ⟨g, cap, cur, hv, hg, hgg, hgn, hcapm, hcsz, htake⟩
  · refine ⟨none, 0, by rw [hv, hn0], ?_⟩
    intro h; omega
  · refine ⟨some ⟨g, 0, none⟩, cap, hv, ?_⟩
    subst hv
    refine fun _ => ⟨g, 0, rfl, fun i hi => ?_⟩
    have := h.cells (g := g) rfl i (.int .u8 ((bytes.getD i 0 : Nat) : Int)) (by simp [byteVs, hi])
    rw [add_off] at this
    rw [Nat.zero_add, this]
    simp [List.getD, hi]
theorem bytesIn_lit (w : World) (c : Nat) (t : Nat) : Lib.BytesIn (w.alloc (.cells #[.int .u8 (c : Int)] t)) (some ⟨w.heap.size, 0, none⟩) 1 [(c : Int)] :=
  fun _ => ⟨w.heap.size, 0, rfl, fun i hi => by
    obtain rfl : i = 0 := by omega
    exact cell_alloc_one _ _ rfl _ _⟩
theorem bytesAt_lit (w : World) (c : Nat) (t : Nat) : BytesAt (w.alloc (.cells #[.int .u8 (c : Int)] t)) (some ⟨w.heap.size, 0, none⟩) [c] := by
  refine ⟨fun h => (by cases h), fun a ha j hj => ?_⟩
  simp only [Option.some.injEq] at ha
  subst ha
  obtain rfl : j = 0 := by simpa using hj
  rw [add_off]
  exact cell_alloc_one _ _ rfl _ _

theorem natBits4 : natBits 4 = [false, false, true, false, true] := by decide +kernel
theorem packed4 : packed (natBits 4) = [40] := by decide +kernel
theorem ahd4 : ahd 4 = 2 := by decide +kernel
theorem ahd1 : ahd 1 = 1 := by decide +kernel
theorem natErr40 : natErr [40] 0 = 0 := by decide +kernel
theorem natVal40 : natVal [40] 0 = 4 := by decide +kernel
theorem natNext40 : natNext [40] 0 = 5 := by decide +kernel
theorem endErr40 : endErr [40] 5 = 0 := by decide +kernel

end Go.Proofs.Ytebojmjbolphfaa
