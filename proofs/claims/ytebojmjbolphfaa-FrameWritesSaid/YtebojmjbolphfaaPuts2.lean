/- Contracts: a sink takes a text, two flags; the document's own bits of a number, of a text. -/
import Derived.Test.YtebojmjbolphfaaNat
import Derived.Test.YtebojmjbolphfaaMake
import Derived.Test.YtebojmjbolphfaaRnat
namespace Go.Proofs.Ytebojmjbolphfaa
open Go Go.RowKit

/-- Does the number u have place in n bits. -/
def fitsB (u : Nat) (n : Int) : Bool := decide (0 ≤ n ∧ n ≤ 64 ∧ u < 2 ^ n.toNat)
theorem shr_zero (u n : Nat) : (((u : Int) / 2 ^ n) != 0) = !decide (u < 2 ^ n) := by
  have e : ((u : Int) / 2 ^ n) = ((u / 2 ^ n : Nat) : Int) := by push_cast; rfl
  rw [e]
  by_cases h : u < 2 ^ n
  · rw [Nat.div_eq_of_lt h]; simp [h]
  · have : 0 < u / 2 ^ n := Nat.div_pos (by omega) (Nat.two_pow_pos n)
    have h2 : ((u / 2 ^ n : Nat) : Int) ≠ 0 := by omega
    rw [show decide (u < 2 ^ n) = false by simp; omega]
    simp
    exact_mod_cast h2

set_option maxRecDepth 100000 in
theorem kBits_unfit (B q : Nat) (u : Nat) (n : Int) (bs : List Bool) (w : World) (hs : SinkIs w B q bs) (hf : fitsB u n = false) (hu : u < 2 ^ 64) (hn : (Lit.int .i64 n).wf = true) :
    Calls Try.prog 41 #[.pointer (some ⟨q, 0, none⟩), .int .u64 (u : Int), .int .i64 n] w fun e w' => e = .returned (.int .i64 1) ∧ w = w' := by
  have hm := hs.made
  have hw2 : -9223372036854775808 ≤ n ∧ n ≤ 9223372036854775807 := by simpa [Lit.wf, IntKind.min, IntKind.max, IntKind.signed, IntKind.bits] using hn
  clear hs hn
  by_cases h1 : n < 0
  · clear hf
    go_enter Try.func41, Try.ntmps41
    go_wp2_with (go_at_call 43; refine (isMade_any q _ hm).mono ?_; rintro e w' ⟨rfl, rfl⟩)
    go_ret
    exact ⟨rfl, rfl⟩
  by_cases h2 : 64 < n
  · clear hf
    go_enter Try.func41, Try.ntmps41
    go_wp2_with (go_at_call 43; refine (isMade_any q _ hm).mono ?_; rintro e w' ⟨rfl, rfl⟩)
    go_ret
    exact ⟨rfl, rfl⟩
  obtain ⟨m, rfl⟩ : ∃ m : Nat, n = m := ⟨n.toNat, by omega⟩
  have hb : (((u : Int) / 2 ^ m) != 0) = true := by
    rw [shr_zero]
    unfold fitsB at hf
    simp at hf ⊢
    exact hf (by omega)
  have hm64 : m ≤ 64 := by omega
  have hu' : (u : Int) ≤ 18446744073709551615 := by omega
  clear hf hu
  go_enter Try.func41, Try.ntmps41
  go_wp2_with (go_at_call 43; refine (isMade_any q _ hm).mono ?_; rintro e w' ⟨rfl, rfl⟩)
  go_ret
  exact ⟨rfl, rfl⟩

theorem fitsB_nat {u : Nat} {n : Int} (h : fitsB u n = true) : ∃ m : Nat, n = m ∧ m ≤ 64 ∧ u < 2 ^ m := by
  unfold fitsB at h
  simp only [decide_eq_true_eq] at h
  obtain ⟨h1, h2, h3⟩ := h
  exact ⟨n.toNat, by omega, by omega, h3⟩

set_option maxRecDepth 100000 in
theorem kBits_long (B q : Nat) (u m : Nat) (bs : List Bool) (w : World) (hs : SinkIs w B q bs) (hm64 : m ≤ 64) (hf : u < 2 ^ m) (hl : 1048576 < bs.length + m) :
    Calls Try.prog 41 #[.pointer (some ⟨q, 0, none⟩), .int .u64 (u : Int), .int .i64 (m : Int)] w fun e w' => e = .returned (.int .i64 3) ∧ w = w' := by
  have hm := hs.made
  have hc := hs.count
  have hsl := hs.len
  have hb : (((u : Int) / 2 ^ m) != 0) = false := by rw [shr_zero]; simp [hf]
  have hd : decide ((m : Int) ≤ 1048576 - ((bs.length : Nat) : Int)) = false := by simp; omega
  clear hf hs
  go_enter Try.func41, Try.ntmps41
  go_wp2_with fail
  refine (isMade_any q _ hm).mono ?_
  rintro e w' ⟨rfl, rfl⟩
  go_wp2_with fail
  refine (hasRoom_any q _ _ _ (by omega) (by omega) hc).mono ?_
  rw [hd]
  rintro e w' ⟨rfl, rfl⟩
  go_wp2
  go_ret
  exact ⟨rfl, rfl⟩

set_option maxRecDepth 100000 in
theorem kBits_fits (B q : Nat) (u m : Nat) (bs : List Bool) (w : World) (hs : SinkIs w B q bs) (hm64 : m ≤ 64) (hf : u < 2 ^ m) (hl : bs.length + m ≤ 1048576) :
    Calls Try.prog 41 #[.pointer (some ⟨q, 0, none⟩), .int .u64 (u : Int), .int .i64 (m : Int)] w fun e w' => e = .returned (.int .i64 0) ∧ SinkIs w' B q (bs ++ bitsOf u m) ∧ Kept B sinkT w w' := by
  have hm := hs.made
  have hc := hs.count
  have hsl := hs.len
  have hb : (((u : Int) / 2 ^ m) != 0) = false := by rw [shr_zero]; simp [hf]
  have hd : decide ((m : Int) ≤ 1048576 - ((bs.length : Nat) : Int)) = true := by simp; omega
  have hu : u < 2 ^ 64 := Nat.lt_of_lt_of_le hf (Nat.pow_le_pow_right (by omega) hm64)
  have C := kPut_any B q u m bs w hu hm64 hs hl
  clear hf hs hu
  go_enter Try.func41, Try.ntmps41
  go_wp2_with fail
  refine (isMade_any q _ hm).mono ?_
  rintro e w' ⟨rfl, rfl⟩
  go_wp2_with fail
  refine (hasRoom_any q _ _ _ (by omega) (by omega) hc).mono ?_
  rw [hd]
  rintro e w' ⟨rfl, rfl⟩
  go_wp2_with fail
  refine C.mono ?_
  rintro e w' ⟨rfl, hs', hk'⟩
  go_wp2
  go_ret
  exact ⟨rfl, hs', hk'⟩

theorem zigN_lt (n : Int) (h : -9223372036854775808 ≤ n ∧ n ≤ 9223372036854775807) : zigN n < 2 ^ 64 := by
  unfold zigN; split <;> omega

end Go.Proofs.Ytebojmjbolphfaa
namespace Go.Proofs.Ytebojmjbolphfaa
open Go Go.RowKit

theorem own_shape_pos' {w : World} {base e size n : Nat} {v : Value} {xs : List Value} (h : w.ownsRow base e size v n xs) (hn : 0 < n) : ∃ g cap, v = .slice (some ⟨g, 0, none⟩) n cap := by
  rcases h.2 with ⟨_, h0⟩ | ⟨g, cap, cur, hv, _⟩
  · omega
  · exact ⟨g, cap, hv⟩
theorem flags_nat' {w : World} {B u : Nat} {v : Value} (h : Flags w B v (natBits u)) : ∃ g cap, v = .slice (some ⟨g, 0, none⟩) (2 * ahd u + 1) cap := by
  unfold Flags at h
  rw [natBits_length] at h
  exact own_shape h
theorem textBits_length (l : List UInt8) : (textBits l).length = 2 * ahd l.length + 1 + 8 * l.length := by
  unfold textBits
  rw [List.length_append, natBits_length]
  congr 1
  induction l with
  | nil => simp
  | cons c l ih => simp only [List.flatMap_cons, List.length_append, bitsOf_length, ih, List.length_cons]; omega
theorem flat_take_succ (l : List UInt8) (k : Nat) (h : k < l.length) : (l.take (k + 1)).flatMap (fun c => bitsOf c.toNat 8) = (l.take k).flatMap (fun c => bitsOf c.toNat 8) ++ bitsOf l[k].toNat 8 := by
  rw [List.take_succ_eq_append_getElem h, List.flatMap_append]
  simp
theorem flat_length (l : List UInt8) : (l.flatMap fun c => bitsOf c.toNat 8).length = 8 * l.length := by
  induction l with
  | nil => simp
  | cons c l ih => simp only [List.flatMap_cons, List.length_append, bitsOf_length, ih, List.length_cons]; omega

end Go.Proofs.Ytebojmjbolphfaa
