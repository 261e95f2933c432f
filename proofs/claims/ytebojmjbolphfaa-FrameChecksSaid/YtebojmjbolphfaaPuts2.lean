/- Contracts: a sink takes a text, two flags; the document's own bits of a number, of a text. -/
import Derived.Test.YtebojmjbolphfaaPuts1
import Derived.Test.YtebojmjbolphfaaRnat
namespace Go.Proofs.Ytebojmjbolphfaa
open Go Go.RowKit

theorem own_shape_pos' {w : World} {base e size n : Nat} {v : Value} {xs : List Value} (h : w.ownsRow base e size v n xs) (hn : 0 < n) : ∃ g cap, v = .slice (some ⟨g, 0, none⟩) n cap := by
  rcases h.2 with ⟨_, h0⟩ | ⟨g, cap, cur, hv, _⟩
  · omega
  · exact ⟨g, cap, hv⟩
theorem flags_nat' {w : World} {B u : Nat} {v : Value} (h : Flags w B v (natBits u)) : ∃ g cap, v = .slice (some ⟨g, 0, none⟩) (2 * ahd u + 1) cap := by
  unfold Flags at h
  rw [natBits_length] at h
  exact own_shape h
theorem textBits_length (l : List UInt8) : (textBits l).length = 2 * ahd l.length + 1 + 8 * l.length := by
  unfold textBits
  rw [List.length_append, natBits_length]
  congr 1
  induction l with
  | nil => simp
  | cons c l ih => simp only [List.flatMap_cons, List.length_append, bitsOf_length, ih, List.length_cons]; omega
theorem flat_take_succ (l : List UInt8) (k : Nat) (h : k < l.length) : (l.take (k + 1)).flatMap (fun c => bitsOf c.toNat 8) = (l.take k).flatMap (fun c => bitsOf c.toNat 8) ++ bitsOf l[k].toNat 8 := by
  rw [List.take_succ_eq_append_getElem h, List.flatMap_append]
  simp
theorem flat_length (l : List UInt8) : (l.flatMap fun c => bitsOf c.toNat 8).length = 8 * l.length := by
  induction l with
  | nil => simp
  | cons c l ih => simp only [List.flatMap_cons, List.length_append, bitsOf_length, ih, List.length_cons]; omega

end Go.Proofs.Ytebojmjbolphfaa
