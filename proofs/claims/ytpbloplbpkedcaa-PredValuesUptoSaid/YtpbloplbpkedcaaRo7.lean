/- Contracts: the document's Has, operand, Cond. -/
import Derived.Test.YtpbloplbpkedcaaCo7
namespace Go.Proofs.Ytpbloplbpkedcaa
open Go Go.RowKit

theorem meas7r {k n : Nat} (h : k < n) : n - ((k : Int) + 1).toNat < n - ((k : Nat) : Int).toNat := by omega
theorem wr7r {k n : Nat} (h : k < n) (hN : n ≤ 140737488355328) : wrap64 ((k : Int) + 1) = (k : Int) + 1 := by unfold wrap64; omega
theorem ba_eq {x : ByteArray} {y : Nm} : ((ba y).toList == x.toList) = decide (nb x = y) := by
  rw [Lib.toList_data, Lib.toList_data]
  show (nb (ba y) == nb x) = _
  rw [nb_ba]
  by_cases h : nb x = y
  · rw [decide_eq_true h, h]; simp
  · rw [decide_eq_false h]; exact beq_eq_false_iff_ne.2 (fun e => h e.symm)
end Go.Proofs.Ytpbloplbpkedcaa
