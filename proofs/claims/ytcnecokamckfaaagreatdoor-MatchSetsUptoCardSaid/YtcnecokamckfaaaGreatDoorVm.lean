/- The mathematics of values: how two stand, which may be, relations. No program in this text. -/
import Derived.Lib.Bytealg
import Derived.Lib.Strings
import Derived.Lib.Slices
namespace Go.Proofs.YtcnecokamckfaaaGreatDoor
open Go

theorem less_cb : ∀ a b : List UInt8, Op.bytesLess a b = decide (Lib.compareBytes a b < 0)
  | [], [] => by simp [Op.bytesLess, Lib.compareBytes]
  | [], _ :: _ => by simp [Op.bytesLess, Lib.compareBytes]
  | _ :: _, [] => by simp [Op.bytesLess, Lib.compareBytes]
  | x :: a, y :: b => by
    have ih := less_cb a b
    by_cases h : x < y
    · simp [Op.bytesLess, Lib.compareBytes, h]
    · by_cases h2 : y < x
      · have hn : x ≠ y := fun e => by subst e; exact h h2
        simp [Op.bytesLess, Lib.compareBytes, h, h2, hn]
      · have e : x = y := UInt8.le_antisymm (UInt8.not_lt.1 h2) (UInt8.not_lt.1 h)
        subst e
        simp [Op.bytesLess, Lib.compareBytes, h, ih]
theorem cb_self : ∀ a : List UInt8, Lib.compareBytes a a = 0
  | [] => rfl
  | x :: a => by have ih := cb_self a; simp [Lib.compareBytes, UInt8.lt_irrefl, ih]
theorem cb_zero : ∀ a b : List UInt8, Lib.compareBytes a b = 0 → a = b
  | [], [], _ => rfl
  | [], _ :: _, h => by simp [Lib.compareBytes] at h
  | _ :: _, [], h => by simp [Lib.compareBytes] at h
  | x :: a, y :: b, h => by
    by_cases h1 : x < y
    · simp [Lib.compareBytes, h1] at h
    · by_cases h2 : y < x
      · simp [Lib.compareBytes, h1, h2] at h
      · have e : x = y := UInt8.le_antisymm (UInt8.not_lt.1 h2) (UInt8.not_lt.1 h1)
        subst e
        simp only [Lib.compareBytes, UInt8.lt_irrefl, if_false] at h
        rw [cb_zero a b h]
theorem eq_cb (a b : List UInt8) : (a == b) = decide (Lib.compareBytes a b = 0) := by
  by_cases h : Lib.compareBytes a b = 0
  · rw [cb_zero a b h, cb_self]; simp
  · have hn : a ≠ b := fun e => h (by rw [e]; exact cb_self b)
    rw [decide_eq_false h]; simpa using hn
theorem cb_swap : ∀ a b : List UInt8, Lib.compareBytes b a = -Lib.compareBytes a b
  | [], [] => rfl
  | [], _ :: _ => rfl
  | _ :: _, [] => rfl
  | x :: a, y :: b => by
    have ih := cb_swap a b
    by_cases h1 : x < y
    · have h2 : ¬ y < x := fun h => UInt8.lt_irrefl _ (UInt8.lt_trans h1 h)
      simp [Lib.compareBytes, h1, h2]
    · by_cases h2 : y < x
      · simp [Lib.compareBytes, h1, h2]
      · simp [Lib.compareBytes, h1, h2, ih]
theorem cb_range : ∀ a b : List UInt8, -1 ≤ Lib.compareBytes a b ∧ Lib.compareBytes a b ≤ 1
  | [], [] => by simp [Lib.compareBytes]
  | [], _ :: _ => by simp [Lib.compareBytes]
  | _ :: _, [] => by simp [Lib.compareBytes]
  | x :: a, y :: b => by
    have ih := cb_range a b
    by_cases h1 : x < y
    · simp [Lib.compareBytes, h1]
    · by_cases h2 : y < x
      · simp [Lib.compareBytes, h1, h2]
      · simp [Lib.compareBytes, h1, h2, ih]
theorem cb_trans : ∀ a b c : List UInt8, Lib.compareBytes a b ≤ 0 → Lib.compareBytes b c ≤ 0 → Lib.compareBytes a c ≤ 0 ∧ (Lib.compareBytes a b < 0 ∨ Lib.compareBytes b c < 0 → Lib.compareBytes a c < 0)
  | [], [], c, _, h2 => ⟨h2, fun h => h.elim (fun h => absurd h (by simp [Lib.compareBytes])) id⟩
  | [], _ :: _, [], _, h2 => by simp [Lib.compareBytes] at h2
  | [], _ :: _, _ :: _, _, _ => by simp [Lib.compareBytes]
  | _ :: _, [], _, h1, _ => by simp [Lib.compareBytes] at h1
  | _ :: _, _ :: _, [], _, h2 => by simp [Lib.compareBytes] at h2
  | x :: a, y :: b, z :: c, h1, h2 => by
    by_cases hxy : x < y
    · by_cases hyz : y < z
      · have := UInt8.lt_trans hxy hyz
        simp [Lib.compareBytes, this]
      · by_cases hzy : z < y
        · simp [Lib.compareBytes, hyz, hzy] at h2
        · have e : y = z := UInt8.le_antisymm (UInt8.not_lt.1 hzy) (UInt8.not_lt.1 hyz)
          subst e
          simp [Lib.compareBytes, hxy]
    · by_cases hyx : y < x
      · simp [Lib.compareBytes, hxy, hyx] at h1
      · have e : x = y := UInt8.le_antisymm (UInt8.not_lt.1 hyx) (UInt8.not_lt.1 hxy)
        subst e
        by_cases hyz : x < z
        · simp [Lib.compareBytes, hyz]
        · by_cases hzy : z < x
          · simp [Lib.compareBytes, hyz, hzy] at h2
          · have ih := cb_trans a b c (by simpa [Lib.compareBytes, UInt8.lt_irrefl] using h1) (by simpa [Lib.compareBytes, hyz, hzy] using h2)
            simpa [Lib.compareBytes, UInt8.lt_irrefl, hyz, hzy] using ih

/-- How two numbers stand. -/
def cmpI (a b : Int) : Int := if a < b then -1 else if b < a then 1 else 0
theorem cmpI_lt {a b : Int} (h : a < b) : cmpI a b = -1 := by unfold cmpI; rw [if_pos h]
theorem cmpI_gt {a b : Int} (h : b < a) : cmpI a b = 1 := by unfold cmpI; rw [if_neg (by omega), if_pos h]
theorem cmpI_eq (a : Int) : cmpI a a = 0 := by unfold cmpI; rw [if_neg (by omega), if_neg (by omega)]
theorem cmpI_spec (a b : Int) : (cmpI a b = -1 ∧ a < b) ∨ (cmpI a b = 1 ∧ b < a) ∨ (cmpI a b = 0 ∧ a = b) := by
  rcases Int.lt_trichotomy a b with h | h | h
  · exact .inl ⟨cmpI_lt h, h⟩
  · subst h; exact .inr (.inr ⟨cmpI_eq _, rfl⟩)
  · exact .inr (.inl ⟨cmpI_gt h, h⟩)

/-- Whether values of these kinds are compared; how they stand. -/
def cmpB (k1 k2 : Int) : Bool := decide (k1 = k2) && (decide (k1 = 1) || decide (k1 = 2))
def cmpV (k1 n1 : Int) (s1 : List UInt8) (k2 n2 : Int) (s2 : List UInt8) : Int :=
  if k1 = 1 ∧ k2 = 1 then cmpI n1 n2 else if k1 = 2 ∧ k2 = 2 then Lib.compareBytes s1 s2 else 0
theorem cmpB_cases {k1 k2 : Int} (h : cmpB k1 k2 = true) : k1 = 1 ∧ k2 = 1 ∨ k1 = 2 ∧ k2 = 2 := by
  simp [cmpB] at h; omega
theorem cmpB_swap (k1 k2 : Int) : cmpB k2 k1 = cmpB k1 k2 := by
  rw [Bool.eq_iff_iff]; simp [cmpB]; omega
theorem cmpV_ii (n1 : Int) (s1 : List UInt8) (n2 : Int) (s2 : List UInt8) : cmpV 1 n1 s1 1 n2 s2 = cmpI n1 n2 := by simp [cmpV]
theorem cmpV_ss (n1 : Int) (s1 : List UInt8) (n2 : Int) (s2 : List UInt8) : cmpV 2 n1 s1 2 n2 s2 = Lib.compareBytes s1 s2 := by simp [cmpV]
theorem cmpB_no {k1 k2 : Int} (h : cmpB k1 k2 = false) : ¬ (k1 = 1 ∧ k2 = 1) ∧ ¬ (k1 = 2 ∧ k2 = 2) := by
  simp [cmpB] at h; omega
theorem cmpV_no {k1 k2 : Int} (h : cmpB k1 k2 = false) (n1 : Int) (s1 : List UInt8) (n2 : Int) (s2 : List UInt8) : cmpV k1 n1 s1 k2 n2 s2 = 0 := by
  unfold cmpV; rw [if_neg (cmpB_no h).1, if_neg (cmpB_no h).2]
theorem cmpV_swap (k1 n1 : Int) (s1 : List UInt8) (k2 n2 : Int) (s2 : List UInt8) : cmpV k2 n2 s2 k1 n1 s1 = -cmpV k1 n1 s1 k2 n2 s2 := by
  cases h : cmpB k1 k2 with
  | false => rw [cmpV_no h, cmpV_no (by rw [cmpB_swap]; exact h)]; rfl
  | true =>
    rcases cmpB_cases h with ⟨rfl, rfl⟩ | ⟨rfl, rfl⟩
    · rw [cmpV_ii, cmpV_ii]; have := cmpI_spec n1 n2; have := cmpI_spec n2 n1; omega
    · rw [cmpV_ss, cmpV_ss]; exact cb_swap _ _
theorem cmpV_range (k1 n1 : Int) (s1 : List UInt8) (k2 n2 : Int) (s2 : List UInt8) : -1 ≤ cmpV k1 n1 s1 k2 n2 s2 ∧ cmpV k1 n1 s1 k2 n2 s2 ≤ 1 := by
  cases h : cmpB k1 k2 with
  | false => rw [cmpV_no h]; omega
  | true =>
    rcases cmpB_cases h with ⟨rfl, rfl⟩ | ⟨rfl, rfl⟩
    · rw [cmpV_ii]; have := cmpI_spec n1 n2; omega
    · rw [cmpV_ss]; exact cb_range _ _
theorem cmpV_zero (k1 n1 : Int) (s1 : List UInt8) (k2 n2 : Int) (s2 : List UInt8) (hb : cmpB k1 k2 = true) (h : cmpV k1 n1 s1 k2 n2 s2 = 0) : (k1 = 1 → n1 = n2) ∧ (k1 = 2 → s1 = s2) := by
  rcases cmpB_cases hb with ⟨rfl, rfl⟩ | ⟨rfl, rfl⟩
  · rw [cmpV_ii] at h; have := cmpI_spec n1 n2; exact ⟨fun _ => by omega, fun h => by omega⟩
  · rw [cmpV_ss] at h; exact ⟨fun h => by omega, fun _ => cb_zero _ _ h⟩
theorem cmpV_trans {k1 n1 : Int} {s1 : List UInt8} {k2 n2 : Int} {s2 : List UInt8} {k3 n3 : Int} {s3 : List UInt8} (h1 : cmpB k1 k2 = true) (h2 : cmpB k2 k3 = true)
    (ha : cmpV k1 n1 s1 k2 n2 s2 ≤ 0) (hb : cmpV k2 n2 s2 k3 n3 s3 ≤ 0) : cmpV k1 n1 s1 k3 n3 s3 ≤ 0 ∧ (cmpV k1 n1 s1 k2 n2 s2 < 0 → cmpV k1 n1 s1 k3 n3 s3 < 0) := by
  rcases cmpB_cases h1 with ⟨rfl, rfl⟩ | ⟨rfl, rfl⟩
  · obtain rfl : k3 = 1 := by rcases cmpB_cases h2 with ⟨_, h⟩ | ⟨h, _⟩ <;> omega
    rw [cmpV_ii] at ha hb ⊢
    rw [cmpV_ii]
    have := cmpI_spec n1 n2; have := cmpI_spec n2 n3; have := cmpI_spec n1 n3
    exact ⟨by omega, fun _ => by omega⟩
  · obtain rfl : k3 = 2 := by rcases cmpB_cases h2 with ⟨h, _⟩ | ⟨_, h⟩ <;> omega
    rw [cmpV_ss] at ha hb ⊢
    rw [cmpV_ss]
    have := cb_trans s1 s2 s3 ha hb
    exact ⟨this.1, fun h => this.2 (.inl h)⟩
theorem cmpB_trans {k1 k2 k3 : Int} (h1 : cmpB k1 k2 = true) (h2 : cmpB k2 k3 = true) : cmpB k1 k3 = true := by
  rcases cmpB_cases h1 with ⟨rfl, rfl⟩ | ⟨rfl, rfl⟩ <;> rcases cmpB_cases h2 with ⟨h, rfl⟩ | ⟨h, rfl⟩ <;> first | rfl | omega

/-- Whether a relation is so of a number that tells how two stand. -/
def relB (rel c : Int) : Bool :=
  if rel = 1 then decide (c = 0) else if rel = 2 then !decide (c = 0) else if rel = 3 then decide (c < 0) else if rel = 4 then decide (c ≤ 0) else if rel = 5 then decide (0 < c) else if rel = 6 then decide (0 ≤ c) else false
def kindB (k : Int) : Bool := decide (k = 1) || decide (k = 2)
def holdsB (rel k1 n1 : Int) (s1 : List UInt8) (k2 n2 : Int) (s2 : List UInt8) : Bool :=
  if cmpB k1 k2 = true then relB rel (cmpV k1 n1 s1 k2 n2 s2) else decide (rel = 2) && (kindB k1 && kindB k2)
def swapI (rel : Int) : Int := if rel = 1 ∨ rel = 2 then rel else if rel = 3 then 5 else if rel = 4 then 6 else if rel = 5 then 3 else if rel = 6 then 4 else 0
def notI (rel : Int) : Int := if rel = 1 then 2 else if rel = 2 then 1 else if rel = 3 then 6 else if rel = 4 then 5 else if rel = 5 then 4 else if rel = 6 then 3 else 0
theorem rel_cases (rel : Int) : rel = 1 ∨ rel = 2 ∨ rel = 3 ∨ rel = 4 ∨ rel = 5 ∨ rel = 6 ∨ (rel ≠ 1 ∧ rel ≠ 2 ∧ rel ≠ 3 ∧ rel ≠ 4 ∧ rel ≠ 5 ∧ rel ≠ 6) := by omega
theorem relB_swap (rel c : Int) : relB (swapI rel) (-c) = relB rel c := by
  rcases rel_cases rel with rfl | rfl | rfl | rfl | rfl | rfl | ⟨h1, h2, h3, h4, h5, h6⟩
  all_goals first
    | (simp [relB, swapI]; done)
    | (rw [Bool.eq_iff_iff]; simp [relB, swapI]; done)
    | (rw [Bool.eq_iff_iff]; simp [relB, swapI]; omega)
    | simp [relB, swapI, h1, h2, h3, h4, h5, h6]
theorem relB_not (rel c : Int) (h : 1 ≤ rel) (h2 : rel ≤ 6) : relB (notI rel) c = !relB rel c := by
  rcases rel_cases rel with rfl | rfl | rfl | rfl | rfl | rfl | h7
  all_goals first
    | omega
    | (simp [relB, notI]; done)
    | (rw [Bool.eq_iff_iff]; simp [relB, notI]; done)
    | (rw [Bool.eq_iff_iff]; simp [relB, notI]; omega)
theorem swap_two (rel : Int) : swapI rel = 2 ↔ rel = 2 := by
  rcases rel_cases rel with rfl | rfl | rfl | rfl | rfl | rfl | ⟨h1, h2, h3, h4, h5, h6⟩
  all_goals first
    | (simp [swapI]; done)
    | simp [swapI, h1, h2, h3, h4, h5, h6]
theorem holdsB_swap (rel k1 n1 : Int) (s1 : List UInt8) (k2 n2 : Int) (s2 : List UInt8) : holdsB (swapI rel) k2 n2 s2 k1 n1 s1 = holdsB rel k1 n1 s1 k2 n2 s2 := by
  unfold holdsB
  rw [cmpB_swap k1 k2, cmpV_swap k1 n1 s1 k2 n2 s2]
  by_cases h : cmpB k1 k2 = true
  · rw [if_pos h, if_pos h]; exact relB_swap _ _
  · rw [if_neg h, if_neg h]
    rw [Bool.eq_iff_iff]; simp [swap_two]; intro _; exact And.comm
theorem holdsB_not (rel k1 n1 : Int) (s1 : List UInt8) (k2 n2 : Int) (s2 : List UInt8) (h : 1 ≤ rel) (h2 : rel ≤ 6) (hb : cmpB k1 k2 = true) : holdsB (notI rel) k1 n1 s1 k2 n2 s2 = !holdsB rel k1 n1 s1 k2 n2 s2 := by
  unfold holdsB
  rw [if_pos hb, if_pos hb]; exact relB_not _ _ h h2
theorem swap_four (rel : Int) : swapI (swapI rel) = swapI (swapI (swapI (swapI rel))) := by
  rcases rel_cases rel with rfl | rfl | rfl | rfl | rfl | rfl | ⟨h1, h2, h3, h4, h5, h6⟩
  all_goals first
    | (simp [swapI]; done)
    | simp [swapI, h1, h2, h3, h4, h5, h6]

/-- Whether a value may be. -/
def ckB (k n : Int) (s : List UInt8) : Bool := if k = 1 then s.isEmpty else if k = 2 then decide (n = 0) && decide (s.length ≤ 64) else false
def ckI (k n : Int) (s : List UInt8) : Int := if ckB k n s = true then 0 else 30
/-- Whether a text is a name. -/
def digB (c : UInt8) : Bool := decide (48 ≤ c.toNat) && decide (c.toNat ≤ 57)
def letB (c : UInt8) : Bool := (decide (97 ≤ c.toNat) && decide (c.toNat ≤ 122)) || (decide (65 ≤ c.toNat) && decide (c.toNat ≤ 90)) || decide (c.toNat = 95)
def okAt (s : List UInt8) (i : Nat) : Bool := letB (s.getD i 0) || (digB (s.getD i 0) && !decide (i = 0))
def nameB (s : List UInt8) : Bool := decide (s ≠ [] ∧ s.length ≤ 32 ∧ ∀ i, i < s.length → okAt s i = true)
theorem let_dig {c : UInt8} (h : letB c = true) : digB c = false := by
  rw [Bool.eq_false_iff]; intro h2
  simp [letB] at h; simp [digB] at h2; omega
theorem nameB_yes {s : List UInt8} (h0 : s ≠ []) (h1 : s.length ≤ 32) (h2 : ∀ i, i < s.length → okAt s i = true) : nameB s = true := decide_eq_true ⟨h0, h1, h2⟩
theorem nameB_empty : nameB [] = false := by decide
theorem nameB_long {s : List UInt8} (h : 32 < s.length) : nameB s = false := decide_eq_false fun ⟨_, h1, _⟩ => by omega
theorem nameB_at {s : List UInt8} {i : Nat} (hi : i < s.length) (h : okAt s i = false) : nameB s = false := decide_eq_false fun ⟨_, _, h2⟩ => by rw [h2 i hi] at h; cases h
end Go.Proofs.YtcnecokamckfaaaGreatDoor
