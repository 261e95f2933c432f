/- The sum by bytes: plain facts, and the contract of sumOn. -/
import Derived.Test.YtebojmjbolphfaaPut
import Derived.Test.YtebojmjbolphfaaCrc
import Derived.Laws.BitsAllLaws
namespace Go.Proofs.Ytebojmjbolphfaa
open Go Go.RowKit

namespace Crc
/-- A byte is fed. -/
def onByte (s : BitVec 32) (c : Nat) : BitVec 32 := steps 8 (s ^^^ BitVec.ofNat 32 (c * 16777216))
theorem feed_byte (s : BitVec 32) (c : Nat) (hc : c < 256) : feed s (bitsOf c 8) = onByte s c := by
  rw [feed_word _ (by rw [bitsOf_length]; omega), bitsOf_length, onByte]
  have h : ∀ c : Fin 256, word (bitsOf c.val 8) = BitVec.ofNat 32 (c.val * 16777216) := by decide +kernel
  rw [h ⟨c, hc⟩]
def onBytes (s : BitVec 32) (l : List Nat) : BitVec 32 := l.foldl onByte s
theorem onBytes_snoc (s : BitVec 32) (l : List Nat) (c : Nat) : onBytes s (l ++ [c]) = onByte (onBytes s l) c := by simp [onBytes]
theorem onBytes_append (s : BitVec 32) (l m : List Nat) : onBytes s (l ++ m) = onBytes (onBytes s l) m := by simp [onBytes]
def sumBV (l : List Nat) : BitVec 32 := ~~~ (onBytes 0xFFFFFFFF#32 l)
/-- The sum of bytes. -/
def sumN (l : List Nat) : Nat := (sumBV l).toNat
theorem sumN_lt (l : List Nat) : sumN l < 4294967296 := (sumBV l).isLt
theorem steps_succ (n : Nat) (s : BitVec 32) : steps (n + 1) s = step (steps n s) := by rw [steps_add]; rfl

theorem msb_iff (t : BitVec 32) : t.msb = decide (2147483648 ≤ t.toNat) := by rw [BitVec.msb_eq_decide]
theorem and_top (t : BitVec 32) : bits BinOp.and IntKind.u32 (t.toNat : Int) 2147483648 = if t.msb then 2147483648 else 0 := by
  have h := u32_and_nat t.toNat 2147483648 t.isLt (by omega)
  rw [show ((2147483648 : Nat) : Int) = 2147483648 from rfl] at h
  rw [h]
  have e : t.toNat &&& 2147483648 = (t &&& 0x80000000#32).toNat := by rw [BitVec.toNat_and]; rfl
  rw [e]
  have h2 : t &&& 0x80000000#32 = if t.msb then 0x80000000#32 else 0#32 := by
    apply BitVec.eq_of_getLsbD_eq
    intro i hi
    rw [BitVec.getLsbD_and, show (0x80000000#32) = BitVec.twoPow 32 31 from by decide, BitVec.getLsbD_twoPow, BitVec.msb_eq_getLsbD_last]
    by_cases h31 : i = 31
    · subst h31
      cases h : t.getLsbD 31 <;> simp
    · have : ¬ 31 = i := fun h => h31 h.symm
      split <;> simp [this]
  rw [h2]
  cases t.msb <;> rfl
theorem shl_one (t : BitVec 32) : (t.toNat : Int) * 2 % 4294967296 = ((t <<< 1).toNat : Int) := by
  rw [BitVec.toNat_shiftLeft, Nat.shiftLeft_eq]; omega
theorem shl_small (t : BitVec 32) (h : t.msb = false) : (t <<< 1).toNat = 2 * t.toNat := by
  rw [msb_iff] at h
  simp at h
  rw [BitVec.toNat_shiftLeft, Nat.shiftLeft_eq]; omega
theorem xor_poly (t : BitVec 32) : bits BinOp.xor IntKind.u32 (t.toNat : Int) 79764919 = ((t ^^^ poly).toNat : Int) := by
  have h := u32_xor_nat t.toNat 79764919 t.isLt (by omega)
  rw [show ((79764919 : Nat) : Int) = 79764919 from rfl] at h
  rw [h, BitVec.toNat_xor]; rfl
theorem xor_byte (t : BitVec 32) (c : Nat) (hc : c < 256) : bits BinOp.xor IntKind.u32 (t.toNat : Int) ((c : Int) * 16777216) = ((t ^^^ BitVec.ofNat 32 (c * 16777216)).toNat : Int) := by
  have h := u32_xor_nat t.toNat (c * 16777216) t.isLt (by omega)
  rw [show ((c * 16777216 : Nat) : Int) = (c : Int) * 16777216 by rw [Int.natCast_mul]; rfl] at h
  rw [h, BitVec.toNat_xor, BitVec.toNat_ofNat, Nat.mod_eq_of_lt (by omega)]
theorem xor_all (t : BitVec 32) : bits BinOp.xor IntKind.u32 IntKind.u32.max (t.toNat : Int) = ((~~~ t).toNat : Int) := by
  have h := u32_xor_nat 4294967295 t.toNat (by omega) t.isLt
  rw [show ((4294967295 : Nat) : Int) = IntKind.u32.max from by decide] at h
  rw [h]
  have e : ~~~ t = BitVec.allOnes 32 ^^^ t := by
    apply BitVec.eq_of_getLsbD_eq
    intro i hi
    rw [BitVec.getLsbD_not, BitVec.getLsbD_xor, BitVec.getLsbD_allOnes]
    cases t.getLsbD i <;> simp [hi]
  rw [e, BitVec.toNat_xor]; rfl
theorem step_true (t : BitVec 32) (h : t.msb = true) : step t = (t <<< 1) ^^^ poly := by unfold step; rw [h, if_pos rfl]
theorem step_false (t : BitVec 32) (h : t.msb = false) : step t = t <<< 1 := by unfold step; rw [h]; simp
end Crc
open Crc

set_option maxRecDepth 100000 in
set_option maxHeartbeats 400000 in
theorem sumOn_any (s : BitVec 32) (c : Nat) (w : World) (hc : c < 256) :
    Calls Try.prog 36 #[.int .u32 (s.toNat : Int), .int .u8 (c : Int)] w fun e w' => e = .returned (.int .u32 ((onByte s c).toNat : Int)) ∧ w = w' := by
  have e1 := xor_byte s c hc
  have hs0 := s.isLt
  obtain ⟨s0, hs0'⟩ : ∃ s0, s0 = s ^^^ BitVec.ofNat 32 (c * 16777216) := ⟨_, rfl⟩
  rw [← hs0'] at e1
  have HS := hide hs0'; clear hs0'
  obtain ⟨S, hS⟩ : ∃ S : Int, S = (s.toNat : Int) := ⟨_, rfl⟩
  rw [← hS] at e1 ⊢
  have hS1 : 0 ≤ S := by omega
  have hS2 : S ≤ 4294967295 := by omega
  clear hs0 hS
  go_enter Try.func36, Try.ntmps36
  go_wp2
  clear e1
  go_loop [0, 11] (fun v i => ∃ k : Nat, k ≤ 8 ∧ i = .int .i64 k ∧ v = .int .u32 ((steps k s0).toNat : Int)) (fun _ i => 8 - (intOf i).toNat)
  case atStart => exact ⟨0, Nat.zero_le _, rfl, rfl⟩
  case round =>
    obtain ⟨k, hk, rfl, rfl⟩ := hrel
    by_cases hlt : k < 8
    · have HT := hide (steps_succ k s0)
      obtain ⟨t, ht⟩ : ∃ t, t = steps k s0 := ⟨_, rfl⟩
      rw [← ht]
      have hti := t.isLt
      have ea := and_top t
      have es := shl_one t
      obtain ⟨T, hT⟩ : ∃ T : Int, T = (t.toNat : Int) := ⟨_, rfl⟩
      have hT0 : 0 ≤ T := by omega
      have hT1 : T ≤ 4294967295 := by omega
      cases hm : t.msb with
      | true =>
        rw [hm, if_pos rfl] at ea
        have ep := xor_poly (t <<< 1)
        rw [← step_true t hm, ht, ← HT.out, ← ht, ← es] at ep
        rw [← hT] at ea ep ⊢
        have HP := hide ep
        clear hT ht hm hti es ep
        go_wp2
        go_round
        case rel => exact ⟨k + 1, by omega, by go_num, congrArg (Value.int .u32) HP.out⟩
        case measure => simp [intOf]; omega
      | false =>
        rw [hm] at ea
        simp only [Bool.false_eq_true, if_false] at ea
        rw [← step_false t hm, ht, ← HT.out, ← ht] at es
        rw [← hT] at ea es ⊢
        have HP := hide es
        clear hT ht hm hti es
        go_wp2
        go_round
        case rel => exact ⟨k + 1, by omega, by go_num, congrArg (Value.int .u32) HP.out⟩
        case measure => simp [intOf]; omega
    · go_wp2
      go_ret
      obtain rfl : k = 8 := by omega
      exact ⟨by rw [HS.out]; rfl, rfl⟩
end Go.Proofs.Ytebojmjbolphfaa
