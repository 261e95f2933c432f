/- Plain facts on the sum of 32 bits: it is linear, it loses nothing, and a burst of up to 32 bits is never lost. No program here. -/
import Derived.Test.YtebojmjbolphfaaMath
namespace Go.Proofs.Ytebojmjbolphfaa.Crc

def poly : BitVec 32 := 0x04C11DB7#32
def step (s : BitVec 32) : BitVec 32 := (s <<< 1) ^^^ (if s.msb then poly else 0#32)
def steps : Nat → BitVec 32 → BitVec 32
  | 0, s => s
  | n + 1, s => steps n (step s)

theorem step_xor (a b : BitVec 32) : step (a ^^^ b) = step a ^^^ step b := by
  unfold step
  rw [BitVec.msb_xor, BitVec.shiftLeft_xor_distrib]
  have h : ∀ x y p q : BitVec 32, (x ^^^ y) ^^^ (p ^^^ q) = (x ^^^ p) ^^^ (y ^^^ q) := fun x y p q => by ac_rfl
  rw [← h]
  congr 1
  cases a.msb <;> cases b.msb <;> simp
theorem steps_xor (n : Nat) (a b : BitVec 32) : steps n (a ^^^ b) = steps n a ^^^ steps n b := by
  induction n generalizing a b with
  | zero => rfl
  | succ n ih => simp only [steps]; rw [step_xor, ih]
theorem step_zero : step 0#32 = 0#32 := by decide
theorem steps_zero (n : Nat) : steps n 0#32 = 0#32 := by
  induction n with
  | zero => rfl
  | succ n ih => simp only [steps]; rw [step_zero, ih]
theorem step_inj (s : BitVec 32) (h : step s = 0#32) : s = 0#32 := by
  unfold step at h
  cases hm : s.msb with
  | true =>
    rw [hm, if_pos rfl] at h
    have h0 := congrArg (fun x : BitVec 32 => x.getLsbD 0) h
    simp [poly] at h0
  | false =>
    rw [hm] at h
    simp at h
    apply BitVec.eq_of_getLsbD_eq
    intro i hi
    by_cases h31 : i = 31
    · subst h31
      rw [BitVec.msb_eq_getLsbD_last] at hm
      simpa using hm
    · have h1 := congrArg (fun x : BitVec 32 => x.getLsbD (i + 1)) h
      simp at h1
      have := h1 (by omega)
      simp [this]
theorem steps_inj (n : Nat) (s : BitVec 32) (h : steps n s = 0#32) : s = 0#32 := by
  induction n generalizing s with
  | zero => exact h
  | succ n ih => exact step_inj s (ih (step s) h)
theorem steps_add (m n : Nat) (s : BitVec 32) : steps (m + n) s = steps n (steps m s) := by
  induction m generalizing s with
  | zero => rw [Nat.zero_add]; rfl
  | succ m ih => rw [Nat.succ_add]; simp only [steps]; exact ih _

/-- One bit is fed. -/
def feed1 (s : BitVec 32) (b : Bool) : BitVec 32 := step (s ^^^ (if b then 0x80000000#32 else 0#32))
def feed (s : BitVec 32) (l : List Bool) : BitVec 32 := l.foldl feed1 s
theorem feed_append (s : BitVec 32) (l m : List Bool) : feed s (l ++ m) = feed (feed s l) m := List.foldl_append
theorem feed1_xor (s t : BitVec 32) (a b : Bool) : feed1 (s ^^^ t) (a ^^ b) = feed1 s a ^^^ feed1 t b := by
  unfold feed1
  rw [← step_xor]
  have h : ∀ x y p q : BitVec 32, (x ^^^ y) ^^^ (p ^^^ q) = (x ^^^ p) ^^^ (y ^^^ q) := fun x y p q => by ac_rfl
  rw [← h]
  congr 2
  cases a <;> cases b <;> simp
theorem feed_xor (l m : List Bool) (s t : BitVec 32) (h : l.length = m.length) : feed (s ^^^ t) (List.zipWith (· ^^ ·) l m) = feed s l ^^^ feed t m := by
  induction l generalizing m s t with
  | nil => cases m with
    | nil => rfl
    | cons b m => simp at h
  | cons a l ih => cases m with
    | nil => simp at h
    | cons b m =>
      simp only [feed, List.zipWith_cons_cons, List.foldl_cons]
      rw [feed1_xor]
      exact ih m _ _ (by simpa using h)
theorem feed_zeros (n : Nat) (s : BitVec 32) : feed s (List.replicate n false) = steps n s := by
  induction n generalizing s with
  | zero => rfl
  | succ n ih =>
    rw [List.replicate_succ]
    simp only [feed, List.foldl_cons, steps]
    have : feed1 s false = step s := by simp [feed1]
    rw [this]
    exact ih _

/-- Up to 32 bits as the upper bits of a word. -/
def word : List Bool → BitVec 32
  | [] => 0#32
  | b :: l => (if b then 0x80000000#32 else 0#32) ^^^ (word l >>> 1)
theorem word_low (l : List Bool) (h : l.length ≤ 32) (i : Nat) (hi : i < 32 - l.length) : (word l).getLsbD i = false := by
  induction l generalizing i with
  | nil => simp [word]
  | cons b l ih =>
    simp only [List.length_cons] at h hi
    have h1 := ih (by omega) (1 + i) (by omega)
    simp only [word, BitVec.getLsbD_xor, BitVec.getLsbD_ushiftRight, h1, Bool.xor_false]
    cases b
    · simp
    · have : i ≠ 31 := by omega
      rw [if_pos rfl, show (0x80000000#32) = BitVec.twoPow 32 31 from by decide, BitVec.getLsbD_twoPow]
      simp; omega
theorem step_shift (x y : BitVec 32) (h : y.getLsbD 0 = false) : step (x ^^^ (y >>> 1)) = step x ^^^ y := by
  rw [step_xor]
  congr 1
  unfold step
  have hm : (y >>> 1).msb = false := by rw [BitVec.msb_ushiftRight]; simp
  rw [hm]
  simp
  apply BitVec.eq_of_getLsbD_eq
  intro i hi
  rw [BitVec.getLsbD_shiftLeft, BitVec.getLsbD_ushiftRight]
  by_cases h0 : i = 0
  · subst h0; simp at h; simp [h]
  · simp [show ¬ i < 1 by omega, show 1 + (i - 1) = i by omega, hi]
/-- Up to 32 bits at once. -/
theorem feed_word (l : List Bool) (h : l.length ≤ 32) (s : BitVec 32) : feed s l = steps l.length (s ^^^ word l) := by
  induction l generalizing s with
  | nil => simp [feed, word, steps]
  | cons b l ih =>
    simp only [List.length_cons] at h
    have hl := word_low l (by omega) 0 (by omega)
    have e : feed s (b :: l) = feed (feed1 s b) l := rfl
    rw [e, ih (by omega), List.length_cons, steps, word, ← BitVec.xor_assoc, step_shift _ _ hl]
    rfl
theorem word_zero (l : List Bool) (h : l.length ≤ 32) (hz : word l = 0#32) : ∀ b ∈ l, b = false := by
  induction l with
  | nil => simp
  | cons b l ih =>
    simp only [List.length_cons] at h
    have hb : b = false := by
      have h0 := congrArg (fun x : BitVec 32 => x.getLsbD 31) hz
      simp only [word, BitVec.getLsbD_xor, BitVec.getLsbD_ushiftRight] at h0
      rw [BitVec.getLsbD_of_ge _ (1 + 31) (by omega)] at h0
      cases b
      · rfl
      · simp at h0
    subst hb
    have hw : word l = 0#32 := by
      simp [word] at hz
      have hl := word_low l (by omega) 0 (by omega)
      apply BitVec.eq_of_getLsbD_eq
      intro i hi
      by_cases h0 : i = 0
      · subst h0; simpa using hl
      · have h1 := congrArg (fun x : BitVec 32 => x.getLsbD (i - 1)) hz
        simp only [BitVec.getLsbD_ushiftRight] at h1
        rw [show 1 + (i - 1) = i by omega] at h1
        simpa using h1
    intro c hc
    rcases List.mem_cons.1 hc with h1 | h1
    · exact h1
    · exact ih (by omega) hw c h1
/-- A burst of up to 32 bits, not all of them 0, is never lost. -/
theorem feed_burst (a : Nat) (l : List Bool) (b : Nat) (hl : l.length ≤ 32) (h : feed 0#32 (List.replicate a false ++ (l ++ List.replicate b false)) = 0#32) : ∀ c ∈ l, c = false := by
  rw [feed_append, feed_append, feed_zeros, feed_zeros, steps_zero, feed_word l hl, BitVec.zero_xor] at h
  exact word_zero l hl (steps_inj _ _ (steps_inj _ _ h))
end Go.Proofs.Ytebojmjbolphfaa.Crc
