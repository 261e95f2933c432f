/- Joined: Vm, Am, Vc, Ve, Ae, Math, Law, Av, Vn, Ac, As. -/
import Derived.Lib.Bytealg
import Derived.Lib.Strings
import Derived.Lib.Slices
import Derived.Shelf.SlSortCmp.InsertionK
import Derived.Test.YtpbloplbpkedcaaRows
import Derived.Test.YtpbloplbpkedcaaShelf
import Derived.WalkKit
import Derived.WalkLawsBesides
import Derived.Outline
import Derived.BigQuiet
import Derived.Deep.QuietTactic
import Derived.OneCell
import Derived.Lib.Hide
import Derived.Laws.StructEq
import Derived.Shelf.SlicesE.Equal
import Derived.WalkSmall
import Derived.Deep.RegionLaw
import Derived.Test.YtpbloplbpkedcaaShelf3
/- The mathematics of values: how two stand, which may be, relations. No program in this text. -/
namespace Go.Proofs.Ytpbloplbpkedcaa
open Go

theorem less_cb : ∀ a b : List UInt8, Op.bytesLess a b = decide (Lib.compareBytes a b < 0)
  | [], [] => by simp [Op.bytesLess, Lib.compareBytes]
  | [], _ :: _ => by simp [Op.bytesLess, Lib.compareBytes]
  | _ :: _, [] => by simp [Op.bytesLess, Lib.compareBytes]
  | x :: a, y :: b => by
    have ih := less_cb a b
    by_cases h : x < y
    · simp [Op.bytesLess, Lib.compareBytes, h]
    · by_cases h2 : y < x
      · have hn : x ≠ y := fun e => by subst e; exact h h2
        simp [Op.bytesLess, Lib.compareBytes, h, h2, hn]
      · have e : x = y := UInt8.le_antisymm (UInt8.not_lt.1 h2) (UInt8.not_lt.1 h)
        subst e
        simp [Op.bytesLess, Lib.compareBytes, h, ih]
theorem cb_self : ∀ a : List UInt8, Lib.compareBytes a a = 0
  | [] => rfl
  | x :: a => by have ih := cb_self a; simp [Lib.compareBytes, UInt8.lt_irrefl, ih]
theorem cb_zero : ∀ a b : List UInt8, Lib.compareBytes a b = 0 → a = b
  | [], [], _ => rfl
  | [], _ :: _, h => by simp [Lib.compareBytes] at h
  | _ :: _, [], h => by simp [Lib.compareBytes] at h
  | x :: a, y :: b, h => by
    by_cases h1 : x < y
    · simp [Lib.compareBytes, h1] at h
    · by_cases h2 : y < x
      · simp [Lib.compareBytes, h1, h2] at h
      · have e : x = y := UInt8.le_antisymm (UInt8.not_lt.1 h2) (UInt8.not_lt.1 h1)
        subst e
        simp only [Lib.compareBytes, UInt8.lt_irrefl, if_false] at h
        rw [cb_zero a b h]
theorem eq_cb (a b : List UInt8) : (a == b) = decide (Lib.compareBytes a b = 0) := by
  by_cases h : Lib.compareBytes a b = 0
  · rw [cb_zero a b h, cb_self]; simp
  · have hn : a ≠ b := fun e => h (by rw [e]; exact cb_self b)
    rw [decide_eq_false h]; simpa using hn
theorem cb_swap : ∀ a b : List UInt8, Lib.compareBytes b a = -Lib.compareBytes a b
  | [], [] => rfl
  | [], _ :: _ => rfl
  | _ :: _, [] => rfl
  | x :: a, y :: b => by
    have ih := cb_swap a b
    by_cases h1 : x < y
    · have h2 : ¬ y < x := fun h => UInt8.lt_irrefl _ (UInt8.lt_trans h1 h)
      simp [Lib.compareBytes, h1, h2]
    · by_cases h2 : y < x
      · simp [Lib.compareBytes, h1, h2]
      · simp [Lib.compareBytes, h1, h2, ih]
theorem cb_range : ∀ a b : List UInt8, -1 ≤ Lib.compareBytes a b ∧ Lib.compareBytes a b ≤ 1
  | [], [] => by simp [Lib.compareBytes]
  | [], _ :: _ => by simp [Lib.compareBytes]
  | _ :: _, [] => by simp [Lib.compareBytes]
  | x :: a, y :: b => by
    have ih := cb_range a b
    by_cases h1 : x < y
    · simp [Lib.compareBytes, h1]
    · by_cases h2 : y < x
      · simp [Lib.compareBytes, h1, h2]
      · simp [Lib.compareBytes, h1, h2, ih]
theorem cb_trans : ∀ a b c : List UInt8, Lib.compareBytes a b ≤ 0 → Lib.compareBytes b c ≤ 0 → Lib.compareBytes a c ≤ 0 ∧ (Lib.compareBytes a b < 0 ∨ Lib.compareBytes b c < 0 → Lib.compareBytes a c < 0)
  | [], [], c, _, h2 => ⟨h2, fun h => h.elim (fun h => absurd h (by simp [Lib.compareBytes])) id⟩
  | [], _ :: _, [], _, h2 => by simp [Lib.compareBytes] at h2
  | [], _ :: _, _ :: _, _, _ => by simp [Lib.compareBytes]
  | _ :: _, [], _, h1, _ => by simp [Lib.compareBytes] at h1
  | _ :: _, _ :: _, [], _, h2 => by simp [Lib.compareBytes] at h2
  | x :: a, y :: b, z :: c, h1, h2 => by
    by_cases hxy : x < y
    · by_cases hyz : y < z
      · have := UInt8.lt_trans hxy hyz
        simp [Lib.compareBytes, this]
      · by_cases hzy : z < y
        · simp [Lib.compareBytes, hyz, hzy] at h2
        · have e : y = z := UInt8.le_antisymm (UInt8.not_lt.1 hzy) (UInt8.not_lt.1 hyz)
          subst e
          simp [Lib.compareBytes, hxy]
    · by_cases hyx : y < x
      · simp [Lib.compareBytes, hxy, hyx] at h1
      · have e : x = y := UInt8.le_antisymm (UInt8.not_lt.1 hyx) (UInt8.not_lt.1 hxy)
        subst e
        by_cases hyz : x < z
        · simp [Lib.compareBytes, hyz]
        · by_cases hzy : z < x
          · simp [Lib.compareBytes, hyz, hzy] at h2
          · have ih := cb_trans a b c (by simpa [Lib.compareBytes, UInt8.lt_irrefl] using h1) (by simpa [Lib.compareBytes, hyz, hzy] using h2)
            simpa [Lib.compareBytes, UInt8.lt_irrefl, hyz, hzy] using ih

/-- How two numbers stand. -/
def cmpI (a b : Int) : Int := if a < b then -1 else if b < a then 1 else 0
theorem cmpI_lt {a b : Int} (h : a < b) : cmpI a b = -1 := by unfold cmpI; rw [if_pos h]
theorem cmpI_gt {a b : Int} (h : b < a) : cmpI a b = 1 := by unfold cmpI; rw [if_neg (by omega), if_pos h]
theorem cmpI_eq (a : Int) : cmpI a a = 0 := by unfold cmpI; rw [if_neg (by omega), if_neg (by omega)]
theorem cmpI_spec (a b : Int) : (cmpI a b = -1 ∧ a < b) ∨ (cmpI a b = 1 ∧ b < a) ∨ (cmpI a b = 0 ∧ a = b) := by
  rcases Int.lt_trichotomy a b with h | h | h
  · exact .inl ⟨cmpI_lt h, h⟩
  · subst h; exact .inr (.inr ⟨cmpI_eq _, rfl⟩)
  · exact .inr (.inl ⟨cmpI_gt h, h⟩)

/-- Whether values of these kinds are compared; how they stand. -/
def cmpB (k1 k2 : Int) : Bool := decide (k1 = k2) && (decide (k1 = 1) || decide (k1 = 2))
def cmpV (k1 n1 : Int) (s1 : List UInt8) (k2 n2 : Int) (s2 : List UInt8) : Int :=
  if k1 = 1 ∧ k2 = 1 then cmpI n1 n2 else if k1 = 2 ∧ k2 = 2 then Lib.compareBytes s1 s2 else 0
theorem cmpB_cases {k1 k2 : Int} (h : cmpB k1 k2 = true) : k1 = 1 ∧ k2 = 1 ∨ k1 = 2 ∧ k2 = 2 := by
  simp [cmpB] at h; omega
theorem cmpB_swap (k1 k2 : Int) : cmpB k2 k1 = cmpB k1 k2 := by
  rw [Bool.eq_iff_iff]; simp [cmpB]; omega
theorem cmpV_ii (n1 : Int) (s1 : List UInt8) (n2 : Int) (s2 : List UInt8) : cmpV 1 n1 s1 1 n2 s2 = cmpI n1 n2 := by simp [cmpV]
theorem cmpV_ss (n1 : Int) (s1 : List UInt8) (n2 : Int) (s2 : List UInt8) : cmpV 2 n1 s1 2 n2 s2 = Lib.compareBytes s1 s2 := by simp [cmpV]
theorem cmpB_no {k1 k2 : Int} (h : cmpB k1 k2 = false) : ¬ (k1 = 1 ∧ k2 = 1) ∧ ¬ (k1 = 2 ∧ k2 = 2) := by
  simp [cmpB] at h; omega
theorem cmpV_no {k1 k2 : Int} (h : cmpB k1 k2 = false) (n1 : Int) (s1 : List UInt8) (n2 : Int) (s2 : List UInt8) : cmpV k1 n1 s1 k2 n2 s2 = 0 := by
  unfold cmpV; rw [if_neg (cmpB_no h).1, if_neg (cmpB_no h).2]
theorem cmpV_swap (k1 n1 : Int) (s1 : List UInt8) (k2 n2 : Int) (s2 : List UInt8) : cmpV k2 n2 s2 k1 n1 s1 = -cmpV k1 n1 s1 k2 n2 s2 := by
  cases h : cmpB k1 k2 with
  | false => rw [cmpV_no h, cmpV_no (by rw [cmpB_swap]; exact h)]; rfl
  | true =>
    rcases cmpB_cases h with ⟨rfl, rfl⟩ | ⟨rfl, rfl⟩
    · rw [cmpV_ii, cmpV_ii]; have := cmpI_spec n1 n2; have := cmpI_spec n2 n1; omega
    · rw [cmpV_ss, cmpV_ss]; exact cb_swap _ _
theorem cmpV_range (k1 n1 : Int) (s1 : List UInt8) (k2 n2 : Int) (s2 : List UInt8) : -1 ≤ cmpV k1 n1 s1 k2 n2 s2 ∧ cmpV k1 n1 s1 k2 n2 s2 ≤ 1 := by
  cases h : cmpB k1 k2 with
  | false => rw [cmpV_no h]; omega
  | true =>
    rcases cmpB_cases h with ⟨rfl, rfl⟩ | ⟨rfl, rfl⟩
    · rw [cmpV_ii]; have := cmpI_spec n1 n2; omega
    · rw [cmpV_ss]; exact cb_range _ _
theorem cmpV_zero (k1 n1 : Int) (s1 : List UInt8) (k2 n2 : Int) (s2 : List UInt8) (hb : cmpB k1 k2 = true) (h : cmpV k1 n1 s1 k2 n2 s2 = 0) : (k1 = 1 → n1 = n2) ∧ (k1 = 2 → s1 = s2) := by
  rcases cmpB_cases hb with ⟨rfl, rfl⟩ | ⟨rfl, rfl⟩
  · rw [cmpV_ii] at h; have := cmpI_spec n1 n2; exact ⟨fun _ => by omega, fun h => by omega⟩
  · rw [cmpV_ss] at h; exact ⟨fun h => by omega, fun _ => cb_zero _ _ h⟩
theorem cmpV_trans {k1 n1 : Int} {s1 : List UInt8} {k2 n2 : Int} {s2 : List UInt8} {k3 n3 : Int} {s3 : List UInt8} (h1 : cmpB k1 k2 = true) (h2 : cmpB k2 k3 = true)
    (ha : cmpV k1 n1 s1 k2 n2 s2 ≤ 0) (hb : cmpV k2 n2 s2 k3 n3 s3 ≤ 0) : cmpV k1 n1 s1 k3 n3 s3 ≤ 0 ∧ (cmpV k1 n1 s1 k2 n2 s2 < 0 → cmpV k1 n1 s1 k3 n3 s3 < 0) := by
  rcases cmpB_cases h1 with ⟨rfl, rfl⟩ | ⟨rfl, rfl⟩
  · obtain rfl : k3 = 1 := by rcases cmpB_cases h2 with ⟨_, h⟩ | ⟨h, _⟩ <;> omega
    rw [cmpV_ii] at ha hb ⊢
    rw [cmpV_ii]
    have := cmpI_spec n1 n2; have := cmpI_spec n2 n3; have := cmpI_spec n1 n3
    exact ⟨by omega, fun _ => by omega⟩
  · obtain rfl : k3 = 2 := by rcases cmpB_cases h2 with ⟨h, _⟩ | ⟨_, h⟩ <;> omega
    rw [cmpV_ss] at ha hb ⊢
    rw [cmpV_ss]
    have := cb_trans s1 s2 s3 ha hb
    exact ⟨this.1, fun h => this.2 (.inl h)⟩
theorem cmpB_trans {k1 k2 k3 : Int} (h1 : cmpB k1 k2 = true) (h2 : cmpB k2 k3 = true) : cmpB k1 k3 = true := by
  rcases cmpB_cases h1 with ⟨rfl, rfl⟩ | ⟨rfl, rfl⟩ <;> rcases cmpB_cases h2 with ⟨h, rfl⟩ | ⟨h, rfl⟩ <;> first | rfl | omega

/-- Whether a relation is so of a number that tells how two stand. -/
def relB (rel c : Int) : Bool :=
  if rel = 1 then decide (c = 0) else if rel = 2 then !decide (c = 0) else if rel = 3 then decide (c < 0) else if rel = 4 then decide (c ≤ 0) else if rel = 5 then decide (0 < c) else if rel = 6 then decide (0 ≤ c) else false
def kindB (k : Int) : Bool := decide (k = 1) || decide (k = 2)
def holdsB (rel k1 n1 : Int) (s1 : List UInt8) (k2 n2 : Int) (s2 : List UInt8) : Bool :=
  if cmpB k1 k2 = true then relB rel (cmpV k1 n1 s1 k2 n2 s2) else decide (rel = 2) && (kindB k1 && kindB k2)
def swapI (rel : Int) : Int := if rel = 1 ∨ rel = 2 then rel else if rel = 3 then 5 else if rel = 4 then 6 else if rel = 5 then 3 else if rel = 6 then 4 else 0
def notI (rel : Int) : Int := if rel = 1 then 2 else if rel = 2 then 1 else if rel = 3 then 6 else if rel = 4 then 5 else if rel = 5 then 4 else if rel = 6 then 3 else 0
theorem rel_cases (rel : Int) : rel = 1 ∨ rel = 2 ∨ rel = 3 ∨ rel = 4 ∨ rel = 5 ∨ rel = 6 ∨ (rel ≠ 1 ∧ rel ≠ 2 ∧ rel ≠ 3 ∧ rel ≠ 4 ∧ rel ≠ 5 ∧ rel ≠ 6) := by omega
theorem relB_swap (rel c : Int) : relB (swapI rel) (-c) = relB rel c := by
  rcases rel_cases rel with rfl | rfl | rfl | rfl | rfl | rfl | ⟨h1, h2, h3, h4, h5, h6⟩
  all_goals first
    | (simp [relB, swapI]; done)
    | (rw [Bool.eq_iff_iff]; simp [relB, swapI]; done)
    | (rw [Bool.eq_iff_iff]; simp [relB, swapI]; omega)
    | simp [relB, swapI, h1, h2, h3, h4, h5, h6]
theorem relB_not (rel c : Int) (h : 1 ≤ rel) (h2 : rel ≤ 6) : relB (notI rel) c = !relB rel c := by
  rcases rel_cases rel with rfl | rfl | rfl | rfl | rfl | rfl | h7
  all_goals first
    | omega
    | (simp [relB, notI]; done)
    | (rw [Bool.eq_iff_iff]; simp [relB, notI]; done)
    | (rw [Bool.eq_iff_iff]; simp [relB, notI]; omega)
theorem swap_two (rel : Int) : swapI rel = 2 ↔ rel = 2 := by
  rcases rel_cases rel with rfl | rfl | rfl | rfl | rfl | rfl | ⟨h1, h2, h3, h4, h5, h6⟩
  all_goals first
    | (simp [swapI]; done)
    | simp [swapI, h1, h2, h3, h4, h5, h6]
theorem holdsB_swap (rel k1 n1 : Int) (s1 : List UInt8) (k2 n2 : Int) (s2 : List UInt8) : holdsB (swapI rel) k2 n2 s2 k1 n1 s1 = holdsB rel k1 n1 s1 k2 n2 s2 := by
  unfold holdsB
  rw [cmpB_swap k1 k2, cmpV_swap k1 n1 s1 k2 n2 s2]
  by_cases h : cmpB k1 k2 = true
  · rw [if_pos h, if_pos h]; exact relB_swap _ _
  · rw [if_neg h, if_neg h]
    rw [Bool.eq_iff_iff]; simp [swap_two]; intro _; exact And.comm
theorem holdsB_not (rel k1 n1 : Int) (s1 : List UInt8) (k2 n2 : Int) (s2 : List UInt8) (h : 1 ≤ rel) (h2 : rel ≤ 6) (hb : cmpB k1 k2 = true) : holdsB (notI rel) k1 n1 s1 k2 n2 s2 = !holdsB rel k1 n1 s1 k2 n2 s2 := by
  unfold holdsB
  rw [if_pos hb, if_pos hb]; exact relB_not _ _ h h2
theorem swap_four (rel : Int) : swapI (swapI rel) = swapI (swapI (swapI (swapI rel))) := by
  rcases rel_cases rel with rfl | rfl | rfl | rfl | rfl | rfl | ⟨h1, h2, h3, h4, h5, h6⟩
  all_goals first
    | (simp [swapI]; done)
    | simp [swapI, h1, h2, h3, h4, h5, h6]

/-- Whether a value may be. -/
def ckB (k n : Int) (s : List UInt8) : Bool := if k = 1 then s.isEmpty else if k = 2 then decide (n = 0) && decide (s.length ≤ 64) else false
def ckI (k n : Int) (s : List UInt8) : Int := if ckB k n s = true then 0 else 30
/-- Whether a text is a name. -/
def digB (c : UInt8) : Bool := decide (48 ≤ c.toNat) && decide (c.toNat ≤ 57)
def letB (c : UInt8) : Bool := (decide (97 ≤ c.toNat) && decide (c.toNat ≤ 122)) || (decide (65 ≤ c.toNat) && decide (c.toNat ≤ 90)) || decide (c.toNat = 95)
def okAt (s : List UInt8) (i : Nat) : Bool := letB (s.getD i 0) || (digB (s.getD i 0) && !decide (i = 0))
def nameB (s : List UInt8) : Bool := decide (s ≠ [] ∧ s.length ≤ 32 ∧ ∀ i, i < s.length → okAt s i = true)
theorem let_dig {c : UInt8} (h : letB c = true) : digB c = false := by
  rw [Bool.eq_false_iff]; intro h2
  simp [letB] at h; simp [digB] at h2; omega
theorem nameB_yes {s : List UInt8} (h0 : s ≠ []) (h1 : s.length ≤ 32) (h2 : ∀ i, i < s.length → okAt s i = true) : nameB s = true := decide_eq_true ⟨h0, h1, h2⟩
theorem nameB_empty : nameB [] = false := by decide
theorem nameB_long {s : List UInt8} (h : 32 < s.length) : nameB s = false := decide_eq_false fun ⟨_, h1, _⟩ => by omega
theorem nameB_at {s : List UInt8} {i : Nat} (hi : i < s.length) (h : okAt s i = false) : nameB s = false := decide_eq_false fun ⟨_, _, h2⟩ => by rw [h2 i hi] at h; cases h
end Go.Proofs.Ytpbloplbpkedcaa

/- The mathematics of attributes: which may be, in which order they stand. No program in this text. -/
namespace Go.Proofs.Ytpbloplbpkedcaa
open Go Go.Sort

/-- An attribute: its name; its value's kind, number, text. -/
structure At where
  name : ByteArray
  k : Int
  n : Int
  s : ByteArray
  deriving DecidableEq, Inhabited
def enc4 (x : At) : List Value := [.string x.name, .int .i64 x.k, .int .i64 x.n, .string x.s]
def cfA (x y : At) : Int := Lib.compareBytes x.name.data.toList y.name.data.toList
theorem cfA_swap (x y : At) : cfA y x = -cfA x y := cb_swap _ _

/-- What is wrong with attributes from the i-th on. -/
def ckGo (xs : List At) (i : Nat) : Int :=
  if i < xs.length then
    if nameB xs[i]!.name.data.toList = false then 31
    else if ckB xs[i]!.k xs[i]!.n xs[i]!.s.data.toList = false then 30
    else if 0 < i ∧ cfA xs[i]! xs[i - 1]! ≤ 0 then 32
    else ckGo xs (i + 1)
  else 0
termination_by xs.length - i
def ckAll (xs : List At) : Int := if 8 < xs.length then 3 else ckGo xs 0
theorem ckGo_end {xs : List At} {i : Nat} (h : ¬ i < xs.length) : ckGo xs i = 0 := by rw [ckGo, if_neg h]
theorem ckGo_name {xs : List At} {i : Nat} (h : i < xs.length) (h1 : nameB xs[i]!.name.data.toList = false) : ckGo xs i = 31 := by rw [ckGo, if_pos h, if_pos h1]
theorem ckGo_val {xs : List At} {i : Nat} (h : i < xs.length) (h1 : nameB xs[i]!.name.data.toList = true) (h2 : ckB xs[i]!.k xs[i]!.n xs[i]!.s.data.toList = false) : ckGo xs i = 30 := by
  rw [ckGo, if_pos h, if_neg (by rw [h1]; decide), if_pos h2]
theorem ckGo_ord {xs : List At} {i : Nat} (h : i < xs.length) (h1 : nameB xs[i]!.name.data.toList = true) (h2 : ckB xs[i]!.k xs[i]!.n xs[i]!.s.data.toList = true) (h3 : 0 < i ∧ cfA xs[i]! xs[i - 1]! ≤ 0) : ckGo xs i = 32 := by
  rw [ckGo, if_pos h, if_neg (by rw [h1]; decide), if_neg (by rw [h2]; decide), if_pos h3]
theorem ckGo_go {xs : List At} {i : Nat} (h : i < xs.length) (h1 : nameB xs[i]!.name.data.toList = true) (h2 : ckB xs[i]!.k xs[i]!.n xs[i]!.s.data.toList = true) (h3 : ¬ (0 < i ∧ cfA xs[i]! xs[i - 1]! ≤ 0)) : ckGo xs i = ckGo xs (i + 1) := by
  rw [ckGo, if_pos h, if_neg (by rw [h1]; decide), if_neg (by rw [h2]; decide), if_neg h3]
theorem ckGo_range (xs : List At) (i : Nat) : 0 ≤ ckGo xs i ∧ ckGo xs i ≤ 32 := by
  generalize hm : xs.length - i = m
  induction m generalizing i with
  | zero => rw [ckGo_end (by omega)]; omega
  | succ m ih =>
    rw [ckGo]
    have := ih (i + 1) (by omega)
    split
    · split
      · omega
      · split
        · omega
        · split
          · omega
          · exact this
    · omega

/-- Put behind the last that is not above it. -/
def insRev : List At → At → List At
  | [], x => [x]
  | a :: r, x => if cfA x a < 0 then a :: insRev r x else x :: a :: r
def insL (l : List At) (x : At) : List At := (insRev l.reverse x).reverse
def sortL (l : List At) : List At := l.foldl insL []
theorem insRev_len : ∀ (l : List At) (x : At), (insRev l x).length = l.length + 1
  | [], x => rfl
  | a :: r, x => by
    have := insRev_len r x
    unfold insRev; split
    · simp [this]
    · simp
theorem insL_len (l : List At) (x : At) : (insL l x).length = l.length + 1 := by simp [insL, insRev_len]
theorem sortL_snoc (l : List At) (x : At) : sortL (l ++ [x]) = insL (sortL l) x := by simp [sortL]
theorem sortL_len (l : List At) : (sortL l).length = l.length := by
  suffices h : ∀ (l acc : List At), (l.foldl insL acc).length = acc.length + l.length by simpa [sortL] using h l []
  intro l
  induction l with
  | nil => simp
  | cons a r ih => intro acc; rw [List.foldl_cons, ih, insL_len]; simp; omega
theorem insRev_mem : ∀ (l : List At) (x y : At), y ∈ insRev l x → y = x ∨ y ∈ l
  | [], x, y, h => by simp [insRev] at h; exact .inl h
  | a :: r, x, y, h => by
    unfold insRev at h
    split at h
    · rcases List.mem_cons.1 h with h | h
      · exact .inr (by simp [h])
      · rcases insRev_mem r x y h with h | h
        · exact .inl h
        · exact .inr (by simp [h])
    · simpa using h
theorem sortL_mem (l : List At) (y : At) (h : y ∈ sortL l) : y ∈ l := by
  suffices hh : ∀ (l acc : List At), y ∈ l.foldl insL acc → y ∈ acc ∨ y ∈ l by
    rcases hh l [] h with h | h
    · simp at h
    · exact h
  intro l
  induction l with
  | nil => intro acc h; exact .inl h
  | cons a r ih =>
    intro acc h
    rcases ih _ h with h | h
    · have h2 : y ∈ insRev acc.reverse a := by simpa [insL] using h
      rcases insRev_mem _ _ _ h2 with h | h
      · exact .inr (by simp [h])
      · exact .inl (by simpa using h)
    · exact .inr (by simp [h])
theorem insRev_all : ∀ (B A : List At) (x : At), (∀ b ∈ B, cfA x b < 0) → insRev (B ++ A) x = B ++ insRev A x
  | [], A, x, _ => rfl
  | b :: B, A, x, h => by
    have h1 := h b (by simp)
    rw [List.cons_append, insRev, if_pos h1, insRev_all B A x (fun c hc => h c (by simp [hc]))]; rfl
/-- Where it is put. -/
theorem insL_at (A B : List At) (x : At) (hB : ∀ b ∈ B, cfA x b < 0) (hA : ∀ a, A.getLast? = some a → ¬ cfA x a < 0) : insL (A ++ B) x = A ++ x :: B := by
  unfold insL
  rw [List.reverse_append, insRev_all _ _ _ (fun b hb => hB b (by simpa using hb))]
  have h2 : insRev A.reverse x = x :: A.reverse := by
    cases hr : A.reverse with
    | nil => rfl
    | cons a r =>
      have ha : A.getLast? = some a := by rw [← List.head?_reverse, hr]; rfl
      rw [insRev, if_neg (hA a ha)]
  rw [h2]; simp

/-! The library's insertion sort lays them so. -/
theorem swp_two (A C : List At) (a x : At) : swp (A ++ a :: x :: C).toArray (A.length + 1) A.length = (A ++ x :: a :: C).toArray := by
  have h0 : (A ++ a :: x :: C).toArray[A.length]! = a := by simp
  have h1 : (A ++ a :: x :: C).toArray[A.length + 1]! = x := by simp
  unfold swp
  rw [h0, h1]
  simp
theorem insInner_eq (x : At) : ∀ (R C : List At), insInner (ltOf cfA) 0 R.length (R.reverse ++ x :: C).toArray = ((insRev R x).reverse ++ C).toArray
  | [], C => by simp [insInner, insRev]
  | a :: R, C => by
    have e : (a :: R).reverse ++ x :: C = R.reverse ++ a :: x :: C := by simp
    rw [e, List.length_cons, insInner]
    have h0 : (R.reverse ++ a :: x :: C).toArray[R.length]! = a := by
      have : R.length = R.reverse.length := by simp
      rw [this]; simp
    have h1 : (R.reverse ++ a :: x :: C).toArray[R.length + 1]! = x := by
      have : R.length = R.reverse.length := by simp
      rw [this]; simp
    rw [h0, h1]
    by_cases hlt : cfA x a < 0
    · have hc : (decide (R.length + 1 > 0) && ltOf cfA x a) = true := by simp [ltOf, hlt]
      rw [if_pos hc]
      have hs := swp_two R.reverse C a x
      rw [List.length_reverse] at hs
      rw [hs, insInner_eq x R (a :: C), insRev, if_pos hlt]
      simp
    · have hc : ¬ (decide (R.length + 1 > 0) && ltOf cfA x a) = true := by simp [ltOf, hlt]
      rw [if_neg hc, insRev, if_neg hlt]
      simp
theorem insOuter_eq (xs : List At) : ∀ (m i : Nat), i + m = xs.length → 1 ≤ i → insOuter (ltOf cfA) 0 xs.length i (sortL (xs.take i) ++ xs.drop i).toArray = (sortL xs).toArray
  | 0, i, h, _ => by
    rw [insOuter, if_neg (by omega), List.take_of_length_le (by omega), List.drop_of_length_le (by omega)]; simp
  | m + 1, i, h, h1 => by
    have hi : i < xs.length := by omega
    rw [insOuter, if_pos hi]
    have hl : (sortL (xs.take i)).reverse.length = i := by rw [List.length_reverse, sortL_len, List.length_take]; omega
    have hd : xs.drop i = xs[i] :: xs.drop (i + 1) := List.drop_eq_getElem_cons hi
    have hin := insInner_eq xs[i] (sortL (xs.take i)).reverse (xs.drop (i + 1))
    rw [hl, List.reverse_reverse] at hin
    rw [hd, hin]
    have ht : xs.take (i + 1) = xs.take i ++ [xs[i]] := List.take_succ_eq_append_getElem hi
    have := insOuter_eq xs m (i + 1) (by omega) (by omega)
    rw [ht, sortL_snoc] at this
    exact this
theorem insertion_eq (xs : List At) : insertionSort (ltOf cfA) xs.toArray 0 xs.length = (sortL xs).toArray := by
  unfold insertionSort
  cases xs with
  | nil => rw [insOuter, if_neg (by simp)]; rfl
  | cons a r =>
    have h := insOuter_eq (a :: r) r.length 1 (by simp; omega) (Nat.le_refl _)
    simpa [sortL, insL, insRev] using h
end Go.Proofs.Ytpbloplbpkedcaa

/- Contracts: which values may be, how two stand, relations: the program's calls and the document's. -/
namespace Go.Proofs.Ytpbloplbpkedcaa
open Go Go.RowKit

theorem ckI_ok {k n : Int} {s : List UInt8} (h : ckB k n s = true) : ckI k n s = 0 := by unfold ckI; rw [if_pos h]
theorem ckI_no {k n : Int} {s : List UInt8} (h : ckB k n s = false) : ckI k n s = 30 := by unfold ckI; rw [h]; rfl

set_option maxHeartbeats 1000000 in
theorem vCheck_any (k n : Int) (s : ByteArray) (w : World) (hs : s.size ≤ maxLen) :
    Calls Try.prog 134 #[.agg #[.int .i64 k, .int .i64 n, .string s]] w fun e w' => e = .returned (.int .i64 (ckI k n s.data.toList)) ∧ Below w.heap.size w w' := by
  unfold maxLen at hs
  have hl : s.data.toList.length = s.size := by simp
  have ht := Lib.toList_data s
  by_cases h1 : k = 1
  · subst h1
    cases he : s.toList.isEmpty with
    | true =>
      rw [ckI_ok (by simp only [ckB, if_true]; rw [← ht]; exact he)]
      have he' : s.toList = [] := by simpa using he
      clear hl ht he
      go_enter Try.func134, Try.ntmps134
      go_wp2
      go_ret
      exact ⟨rfl, (Below.refl _ _).alloc (Nat.le_refl _) _⟩
    | false =>
      rw [ckI_no (by simp only [ckB, if_true]; rw [← ht]; exact he)]
      clear hl ht
      go_enter Try.func134, Try.ntmps134
      go_wp2
      go_ret
      exact ⟨rfl, (Below.refl _ _).alloc (Nat.le_refl _) _⟩
  · have b1 : (k == 1) = false := by simpa using h1
    by_cases h2 : k = 2
    · subst h2
      by_cases hn : n = 0
      · subst hn
        by_cases hz : s.size ≤ 64
        · rw [ckI_ok (by simp [ckB]; omega)]
          clear hl ht b1 h1
          go_enter Try.func134, Try.ntmps134
          go_wp2
          go_ret
          exact ⟨rfl, (Below.refl _ _).alloc (Nat.le_refl _) _⟩
        · rw [ckI_no (by simp [ckB]; omega)]
          have hz' : ¬ ((s.size : Int) ≤ 64) := by omega
          clear hl ht b1 h1
          go_enter Try.func134, Try.ntmps134
          go_wp2
          go_ret
          exact ⟨rfl, (Below.refl _ _).alloc (Nat.le_refl _) _⟩
      · rw [ckI_no (by simp [ckB, hn])]
        have bn : (n == 0) = false := by simpa using hn
        clear hl ht b1 h1
        go_enter Try.func134, Try.ntmps134
        go_wp2
        go_ret
        exact ⟨rfl, (Below.refl _ _).alloc (Nat.le_refl _) _⟩
    · have b2 : (k == 2) = false := by simpa using h2
      rw [ckI_no (by simp [ckB, h1, h2])]
      clear hl ht h1 h2
      go_enter Try.func134, Try.ntmps134
      go_wp2
      go_ret
      exact ⟨rfl, (Below.refl _ _).alloc (Nat.le_refl _) _⟩
set_option maxHeartbeats 1000000 in
theorem r3Check_any (k n : Int) (s : ByteArray) (w : World) (hs : s.size ≤ maxLen) :
    Calls Try.prog 160 #[.agg #[.int .i64 k, .int .i64 n, .string s]] w fun e w' => e = .returned (.int .i64 (ckI k n s.data.toList)) ∧ Below w.heap.size w w' := by
  unfold maxLen at hs
  have hl : s.data.toList.length = s.size := by simp
  have ht := Lib.toList_data s
  by_cases h1 : k = 1
  · subst h1
    cases he : s.toList.isEmpty with
    | true =>
      rw [ckI_ok (by simp only [ckB, if_true]; rw [← ht]; exact he)]
      have he' : s.toList = [] := by simpa using he
      clear hl ht he
      go_enter Try.func160, Try.ntmps160
      go_wp2
      go_ret
      exact ⟨rfl, (Below.refl _ _).alloc (Nat.le_refl _) _⟩
    | false =>
      rw [ckI_no (by simp only [ckB, if_true]; rw [← ht]; exact he)]
      clear hl ht
      go_enter Try.func160, Try.ntmps160
      go_wp2
      go_ret
      exact ⟨rfl, (Below.refl _ _).alloc (Nat.le_refl _) _⟩
  · have b1 : (k == 1) = false := by simpa using h1
    by_cases h2 : k = 2
    · subst h2
      by_cases hn : n = 0
      · subst hn
        by_cases hz : s.size ≤ 64
        · rw [ckI_ok (by simp [ckB]; omega)]
          clear hl ht b1 h1
          go_enter Try.func160, Try.ntmps160
          go_wp2
          go_ret
          exact ⟨rfl, (Below.refl _ _).alloc (Nat.le_refl _) _⟩
        · rw [ckI_no (by simp [ckB]; omega)]
          have hz' : ¬ ((s.size : Int) ≤ 64) := by omega
          clear hl ht b1 h1
          go_enter Try.func160, Try.ntmps160
          go_wp2
          go_ret
          exact ⟨rfl, (Below.refl _ _).alloc (Nat.le_refl _) _⟩
      · rw [ckI_no (by simp [ckB, hn])]
        have bn : (n == 0) = false := by simpa using hn
        clear hl ht b1 h1
        go_enter Try.func160, Try.ntmps160
        go_wp2
        go_ret
        exact ⟨rfl, (Below.refl _ _).alloc (Nat.le_refl _) _⟩
    · have b2 : (k == 2) = false := by simpa using h2
      rw [ckI_no (by simp [ckB, h1, h2])]
      clear hl ht h1 h2
      go_enter Try.func160, Try.ntmps160
      go_wp2
      go_ret
      exact ⟨rfl, (Below.refl _ _).alloc (Nat.le_refl _) _⟩

theorem isNaN_any (n : Int) (w : World) : Calls Try.prog 146 #[.int .i64 n] w fun e w' => e = .returned (.bool false) ∧ w = w' := by
  go_enter Try.func146, Try.ntmps146
  go_wp2
  go_ret
  exact ⟨by simp, rfl⟩
theorem cmpI_any (a b : Int) (w : World) : Calls Try.prog 112 #[.int .i64 a, .int .i64 b] w fun e w' => e = .returned (.int .i64 (cmpI a b)) ∧ w = w' := by
  rcases Int.lt_trichotomy a b with h | h | h
  · rw [cmpI_lt h]
    go_enter Try.func112, Try.ntmps112
    go_wp2_with (go_at_call 146; refine (isNaN_any _ _).mono ?_; rintro e w' ⟨rfl, rfl⟩)
    go_ret
    exact ⟨rfl, rfl⟩
  · subst h
    rw [cmpI_eq]
    go_enter Try.func112, Try.ntmps112
    go_wp2_with (go_at_call 146; refine (isNaN_any _ _).mono ?_; rintro e w' ⟨rfl, rfl⟩)
    go_ret
    exact ⟨rfl, rfl⟩
  · rw [cmpI_gt h]
    have h' : ¬ a < b := by omega
    go_enter Try.func112, Try.ntmps112
    go_wp2_with (go_at_call 146; refine (isNaN_any _ _).mono ?_; rintro e w' ⟨rfl, rfl⟩)
    go_ret
    exact ⟨rfl, rfl⟩
theorem sCompare_any (a b : ByteArray) (w : World) : Calls Try.prog 90 #[.string a, .string b] w fun e w' => e = .returned (.int .i64 (Lib.compareBytes a.data.toList b.data.toList)) ∧ w = w' :=
  (Try.strings_Compare a b w).mono fun _ _ ⟨h, k⟩ => ⟨h, k.symm⟩

/-- Two values' answers of Compare. -/
def cmpT (k1 n1 : Int) (s1 : ByteArray) (k2 n2 : Int) (s2 : ByteArray) : Value := .tuple #[.int .i64 (cmpV k1 n1 s1.data.toList k2 n2 s2.data.toList), .bool (cmpB k1 k2)]
theorem cmpT_no {k1 k2 : Int} (h : cmpB k1 k2 = false) (n1 : Int) (s1 : ByteArray) (n2 : Int) (s2 : ByteArray) : cmpT k1 n1 s1 k2 n2 s2 = .tuple #[.int .i64 0, .bool false] := by unfold cmpT; rw [cmpV_no h, h]
theorem cmpT_ii (n1 : Int) (s1 : ByteArray) (n2 : Int) (s2 : ByteArray) : cmpT 1 n1 s1 1 n2 s2 = .tuple #[.int .i64 (cmpI n1 n2), .bool true] := by unfold cmpT; rw [cmpV_ii]; rfl
theorem cmpT_ss (n1 : Int) (s1 : ByteArray) (n2 : Int) (s2 : ByteArray) : cmpT 2 n1 s1 2 n2 s2 = .tuple #[.int .i64 (Lib.compareBytes s1.data.toList s2.data.toList), .bool true] := by unfold cmpT; rw [cmpV_ss]; rfl

set_option maxHeartbeats 1000000 in
theorem vCompare_any (k1 n1 : Int) (s1 : ByteArray) (k2 n2 : Int) (s2 : ByteArray) (w : World) :
    Calls Try.prog 73 #[.agg #[.int .i64 k1, .int .i64 n1, .string s1], .agg #[.int .i64 k2, .int .i64 n2, .string s2]] w fun e w' => e = .returned (cmpT k1 n1 s1 k2 n2 s2) ∧ Below w.heap.size w w' := by
  by_cases he : k1 = k2
  · subst he
    by_cases h1 : k1 = 1
    · subst h1
      rw [cmpT_ii]
      go_enter Try.func73, Try.ntmps73
      go_wp2_with (go_at_call 112; refine (cmpI_any _ _ _).mono ?_; rintro e w' ⟨rfl, rfl⟩)
      go_ret2
      exact ⟨rfl, ((Below.refl _ _).alloc (Nat.le_refl _) _).alloc (by simp) _⟩
    · have b1 : (k1 == 1) = false := by simpa using h1
      by_cases h2 : k1 = 2
      · subst h2
        rw [cmpT_ss]
        clear h1 b1
        go_enter Try.func73, Try.ntmps73
        go_wp2_with (go_at_call 90; refine (sCompare_any _ _ _).mono ?_; rintro e w' ⟨rfl, rfl⟩)
        go_ret2
        exact ⟨rfl, ((Below.refl _ _).alloc (Nat.le_refl _) _).alloc (by simp) _⟩
      · have b2 : (k1 == 2) = false := by simpa using h2
        rw [cmpT_no (by simp [cmpB, h1, h2])]
        clear h1 h2
        go_enter Try.func73, Try.ntmps73
        go_wp2
        go_ret2
        exact ⟨rfl, ((Below.refl _ _).alloc (Nat.le_refl _) _).alloc (by simp) _⟩
  · have be : (k1 == k2) = false := by simpa using he
    rw [cmpT_no (by simp [cmpB, he])]
    clear he
    go_enter Try.func73, Try.ntmps73
    go_wp2
    go_ret2
    exact ⟨rfl, ((Below.refl _ _).alloc (Nat.le_refl _) _).alloc (by simp) _⟩

set_option maxHeartbeats 2000000 in
theorem r3Compare_any (k1 n1 : Int) (s1 : ByteArray) (k2 n2 : Int) (s2 : ByteArray) (w : World) :
    Calls Try.prog 76 #[.agg #[.int .i64 k1, .int .i64 n1, .string s1], .agg #[.int .i64 k2, .int .i64 n2, .string s2]] w fun e w' => e = .returned (cmpT k1 n1 s1 k2 n2 s2) ∧ Below w.heap.size w w' := by
  by_cases he : k1 = 1 ∧ k2 = 1
  · obtain ⟨rfl, rfl⟩ := he
    rw [cmpT_ii]
    rcases Int.lt_trichotomy n1 n2 with h | h | h
    · rw [cmpI_lt h]
      go_enter Try.func76, Try.ntmps76
      go_wp2
      go_ret2
      exact ⟨rfl, ((Below.refl _ _).alloc (Nat.le_refl _) _).alloc (by simp) _⟩
    · subst h
      rw [cmpI_eq]
      go_enter Try.func76, Try.ntmps76
      go_wp2
      go_ret2
      exact ⟨rfl, ((Below.refl _ _).alloc (Nat.le_refl _) _).alloc (by simp) _⟩
    · rw [cmpI_gt h]
      have h' : ¬ n1 < n2 := by omega
      go_enter Try.func76, Try.ntmps76
      go_wp2
      go_ret2
      exact ⟨rfl, ((Below.refl _ _).alloc (Nat.le_refl _) _).alloc (by simp) _⟩
  · by_cases h2 : k1 = 2 ∧ k2 = 2
    · obtain ⟨rfl, rfl⟩ := h2
      rw [cmpT_ss]
      have hl := less_cb s1.toList s2.toList
      have hq := eq_cb s1.toList s2.toList
      rw [← Lib.toList_data, ← Lib.toList_data]
      have hr := cb_range s1.toList s2.toList
      clear he
      obtain ⟨c, hc⟩ : ∃ c, c = Lib.compareBytes s1.toList s2.toList := ⟨_, rfl⟩
      rw [← hc] at hl hq hr ⊢
      clear hc
      have hc : c = -1 ∨ c = 0 ∨ c = 1 := by omega
      clear hr
      rcases hc with rfl | rfl | rfl
      all_goals
        simp only [show decide ((-1 : Int) < 0) = true from rfl, show decide ((0 : Int) < 0) = false from rfl, show decide ((1 : Int) < 0) = false from rfl, show decide ((-1 : Int) = 0) = false from rfl, show decide ((1 : Int) = 0) = false from rfl] at hl hq
        go_enter Try.func76, Try.ntmps76
        go_wp2
        go_ret2
        exact ⟨rfl, ((Below.refl _ _).alloc (Nat.le_refl _) _).alloc (by simp) _⟩
    · rw [cmpT_no (by rw [Bool.eq_false_iff]; exact fun h => (cmpB_cases h).elim he h2)]
      by_cases a1 : k1 = 1
      · subst a1
        have b2 : (k2 == 1) = false := by simpa using he
        clear he h2
        go_enter Try.func76, Try.ntmps76
        go_wp2
        go_ret2
        exact ⟨rfl, ((Below.refl _ _).alloc (Nat.le_refl _) _).alloc (by simp) _⟩
      · have b1 : (k1 == 1) = false := by simpa using a1
        clear he
        by_cases a2 : k1 = 2
        · subst a2
          have b2 : (k2 == 2) = false := by simpa using h2
          clear h2 a1 b1
          go_enter Try.func76, Try.ntmps76
          go_wp2
          go_ret2
          exact ⟨rfl, ((Below.refl _ _).alloc (Nat.le_refl _) _).alloc (by simp) _⟩
        · have b2 : (k1 == 2) = false := by simpa using a2
          clear h2 a1 a2
          go_enter Try.func76, Try.ntmps76
          go_wp2
          go_ret2
          exact ⟨rfl, ((Below.refl _ _).alloc (Nat.le_refl _) _).alloc (by simp) _⟩
end Go.Proofs.Ytpbloplbpkedcaa
namespace Go.Proofs.Ytpbloplbpkedcaa
open Go Go.RowKit

theorem vIsKind_any (n : Int) (w : World) : Calls Try.prog 74 #[.int .i64 n] w fun e w' => e = .returned (.bool (kindB n)) ∧ w = w' := by
  by_cases h0 : n = 1
  · subst h0
    rw [show kindB 1 = true from rfl]
    go_enter Try.func74, Try.ntmps74
    go_wp2
    go_ret
    exact ⟨rfl, rfl⟩
  · have b0 : (n == 1) = false := by simpa using h0
    by_cases h1 : n = 2
    · subst h1
      rw [show kindB 2 = true from rfl]
      clear h0 b0
      go_enter Try.func74, Try.ntmps74
      go_wp2
      go_ret
      exact ⟨rfl, rfl⟩
    · have b1 : (n == 2) = false := by simpa using h1
      rw [show kindB n = false by simp [kindB, h0, h1]]
      clear h0 h1
      go_enter Try.func74, Try.ntmps74
      go_wp2
      go_ret
      exact ⟨rfl, rfl⟩
theorem r3some_any (k n : Int) (s : ByteArray) (w : World) : Calls Try.prog 77 #[.agg #[.int .i64 k, .int .i64 n, .string s]] w fun e w' => e = .returned (.bool (kindB k)) ∧ Below w.heap.size w w' := by
  by_cases h0 : k = 1
  · subst h0
    rw [show kindB 1 = true from rfl]
    go_enter Try.func77, Try.ntmps77
    go_wp2
    go_ret
    exact ⟨rfl, (Below.refl _ _).alloc (Nat.le_refl _) _⟩
  · have b0 : (k == 1) = false := by simpa using h0
    by_cases h1 : k = 2
    · subst h1
      rw [show kindB 2 = true from rfl]
      clear h0 b0
      go_enter Try.func77, Try.ntmps77
      go_wp2
      go_ret
      exact ⟨rfl, (Below.refl _ _).alloc (Nat.le_refl _) _⟩
    · have b1 : (k == 2) = false := by simpa using h1
      rw [show kindB k = false by simp [kindB, h0, h1]]
      clear h0 h1
      go_enter Try.func77, Try.ntmps77
      go_wp2
      go_ret
      exact ⟨rfl, (Below.refl _ _).alloc (Nat.le_refl _) _⟩
end Go.Proofs.Ytpbloplbpkedcaa
namespace Go.Proofs.Ytpbloplbpkedcaa
open Go Go.RowKit

theorem bcell {W w1 : World} (hb : Below W.heap.size W w1) : (∀ b o, b < W.heap.size → w1.cell? ⟨b, o, none⟩ = W.cell? ⟨b, o, none⟩) ∧ (∀ b o, b < W.heap.size → w1.frozen? ⟨b, o, none⟩ = W.frozen? ⟨b, o, none⟩) :=
  ⟨fun b o h => hb.cell (p := ⟨b, o, none⟩) h, fun b o h => hb.frozen (p := ⟨b, o, none⟩) h⟩
theorem holdsB_yes {rel k1 n1 : Int} {s1 : List UInt8} {k2 n2 : Int} {s2 : List UInt8} (h : cmpB k1 k2 = true) : holdsB rel k1 n1 s1 k2 n2 s2 = relB rel (cmpV k1 n1 s1 k2 n2 s2) := by unfold holdsB; rw [if_pos h]
theorem holdsB_no {rel k1 n1 : Int} {s1 : List UInt8} {k2 n2 : Int} {s2 : List UInt8} (h : cmpB k1 k2 = false) : holdsB rel k1 n1 s1 k2 n2 s2 = (decide (rel = 2) && (kindB k1 && kindB k2)) := by unfold holdsB; rw [h]; rfl

set_option maxHeartbeats 2000000 in
theorem vHolds_any (rel k1 n1 : Int) (s1 : ByteArray) (k2 n2 : Int) (s2 : ByteArray) (w : World) :
    Calls Try.prog 35 #[.int .i64 rel, .agg #[.int .i64 k1, .int .i64 n1, .string s1], .agg #[.int .i64 k2, .int .i64 n2, .string s2]] w fun e w' => e = .returned (.bool (holdsB rel k1 n1 s1.data.toList k2 n2 s2.data.toList)) ∧ Below w.heap.size w w' := by
  have C := fun w => vCompare_any k1 n1 s1 k2 n2 s2 w
  unfold cmpT at C
  cases hq : cmpB k1 k2 with
  | true =>
    rw [holdsB_yes hq]
    rw [hq] at C
    generalize cmpV k1 n1 s1.data.toList k2 n2 s2.data.toList = c at C ⊢
    have HC := Lib.hid C
    clear C hq
    rcases rel_cases rel with rfl | rfl | rfl | rfl | rfl | rfl | ⟨h1, h2, h3, h4, h5, h6⟩
    · rw [show relB 1 c = (c == 0) from by rw [Bool.eq_iff_iff]; simp [relB]]
      go_enter Try.func35, Try.ntmps35
      go_wp2_with (go_at_call 73; (with_reducible refine (HC.out _).mono ?_); rintro e w1 ⟨rfl, hb⟩; obtain ⟨hc, hf⟩ := bcell hb)
      go_ret
      exact ⟨by rfl, (((Below.refl _ _).alloc (Nat.le_refl _) _).alloc (by simp) _).trans (hb.mono (by simp; omega))⟩
    · rw [show relB 2 c = (c != 0) from by rw [Bool.eq_iff_iff]; simp [relB]]
      go_enter Try.func35, Try.ntmps35
      go_wp2_with (go_at_call 73; (with_reducible refine (HC.out _).mono ?_); rintro e w1 ⟨rfl, hb⟩; obtain ⟨hc, hf⟩ := bcell hb)
      go_ret
      exact ⟨by rfl, (((Below.refl _ _).alloc (Nat.le_refl _) _).alloc (by simp) _).trans (hb.mono (by simp; omega))⟩
    · rw [show relB 3 c = decide (c < 0) from by simp [relB]]
      go_enter Try.func35, Try.ntmps35
      go_wp2_with (go_at_call 73; (with_reducible refine (HC.out _).mono ?_); rintro e w1 ⟨rfl, hb⟩; obtain ⟨hc, hf⟩ := bcell hb)
      go_ret
      exact ⟨by rfl, (((Below.refl _ _).alloc (Nat.le_refl _) _).alloc (by simp) _).trans (hb.mono (by simp; omega))⟩
    · rw [show relB 4 c = decide (c ≤ 0) from by simp [relB]]
      go_enter Try.func35, Try.ntmps35
      go_wp2_with (go_at_call 73; (with_reducible refine (HC.out _).mono ?_); rintro e w1 ⟨rfl, hb⟩; obtain ⟨hc, hf⟩ := bcell hb)
      go_ret
      exact ⟨by rfl, (((Below.refl _ _).alloc (Nat.le_refl _) _).alloc (by simp) _).trans (hb.mono (by simp; omega))⟩
    · rw [show relB 5 c = decide (0 < c) from by simp [relB]]
      go_enter Try.func35, Try.ntmps35
      go_wp2_with (go_at_call 73; (with_reducible refine (HC.out _).mono ?_); rintro e w1 ⟨rfl, hb⟩; obtain ⟨hc, hf⟩ := bcell hb)
      go_ret
      exact ⟨by rfl, (((Below.refl _ _).alloc (Nat.le_refl _) _).alloc (by simp) _).trans (hb.mono (by simp; omega))⟩
    · rw [show relB 6 c = decide (0 ≤ c) from by simp [relB]]
      go_enter Try.func35, Try.ntmps35
      go_wp2_with (go_at_call 73; (with_reducible refine (HC.out _).mono ?_); rintro e w1 ⟨rfl, hb⟩; obtain ⟨hc, hf⟩ := bcell hb)
      go_ret
      exact ⟨by rfl, (((Below.refl _ _).alloc (Nat.le_refl _) _).alloc (by simp) _).trans (hb.mono (by simp; omega))⟩
    · rw [show relB rel c = false by simp [relB, h1, h2, h3, h4, h5, h6]]
      have b1 : (rel == 1) = false := by simpa using h1
      have b2 : (rel == 2) = false := by simpa using h2
      have b3 : (rel == 3) = false := by simpa using h3
      have b4 : (rel == 4) = false := by simpa using h4
      have b5 : (rel == 5) = false := by simpa using h5
      have b6 : (rel == 6) = false := by simpa using h6
      clear h1 h2 h3 h4 h5 h6
      go_enter Try.func35, Try.ntmps35
      go_wp2_with (go_at_call 73; (with_reducible refine (HC.out _).mono ?_); rintro e w1 ⟨rfl, hb⟩; obtain ⟨hc, hf⟩ := bcell hb)
      go_ret
      exact ⟨by rfl, (((Below.refl _ _).alloc (Nat.le_refl _) _).alloc (by simp) _).trans (hb.mono (by simp; omega))⟩
  | false =>
    rw [holdsB_no hq]
    rw [hq, cmpV_no hq] at C
    have HC := Lib.hid C
    have K1 := fun w => vIsKind_any k1 w
    have K2 := fun w => vIsKind_any k2 w
    generalize kindB k1 = x1 at K1 ⊢
    generalize kindB k2 = x2 at K2 ⊢
    clear C hq
    by_cases h2 : rel = 2
    · subst h2
      cases x1 with
      | false =>
        have HK1 := Lib.hid K1; have HK2 := Lib.hid K2
        clear K1 K2
        rw [show (decide ((2 : Int) = 2) && (false && x2)) = false from rfl]
        go_enter Try.func35, Try.ntmps35
        go_wp2_with (first | (go_at_call 73; (with_reducible refine (HC.out _).mono ?_); rintro e w1 ⟨rfl, hb⟩; obtain ⟨hc, hf⟩ := bcell hb) | (go_at_call 74; (with_reducible refine (HK1.out _).mono ?_); rintro e w2 ⟨rfl, rfl⟩))
        go_ret
        exact ⟨by rfl, (((Below.refl _ _).alloc (Nat.le_refl _) _).alloc (by simp) _).trans (hb.mono (by simp; omega))⟩
      | true =>
        cases x2 with
        | false =>
          have HK1 := Lib.hid K1; have HK2 := Lib.hid K2
          clear K1 K2
          go_enter Try.func35, Try.ntmps35
          go_wp2_with (first | (go_at_call 73; (with_reducible refine (HC.out _).mono ?_); rintro e w1 ⟨rfl, hb⟩; obtain ⟨hc, hf⟩ := bcell hb) | (go_at_call 74; (with_reducible refine (HK1.out _).mono ?_); rintro e w2 ⟨rfl, rfl⟩) | (go_at_call 74; (with_reducible refine (HK2.out _).mono ?_); rintro e w3 ⟨rfl, rfl⟩))
          go_ret
          exact ⟨by rfl, (((Below.refl _ _).alloc (Nat.le_refl _) _).alloc (by simp) _).trans (hb.mono (by simp; omega))⟩
        | true =>
          have HK1 := Lib.hid K1; have HK2 := Lib.hid K2
          clear K1 K2
          go_enter Try.func35, Try.ntmps35
          go_wp2_with (first | (go_at_call 73; (with_reducible refine (HC.out _).mono ?_); rintro e w1 ⟨rfl, hb⟩; obtain ⟨hc, hf⟩ := bcell hb) | (go_at_call 74; (with_reducible refine (HK1.out _).mono ?_); rintro e w2 ⟨rfl, rfl⟩) | (go_at_call 74; (with_reducible refine (HK2.out _).mono ?_); rintro e w3 ⟨rfl, rfl⟩))
          go_ret
          exact ⟨by rfl, (((Below.refl _ _).alloc (Nat.le_refl _) _).alloc (by simp) _).trans (hb.mono (by simp; omega))⟩
    · have b2 : (rel == 2) = false := by simpa using h2
      rw [show (decide (rel = 2) && (x1 && x2)) = false by simp [h2]]
      clear h2 K1 K2
      go_enter Try.func35, Try.ntmps35
      go_wp2_with (go_at_call 73; (with_reducible refine (HC.out _).mono ?_); rintro e w1 ⟨rfl, hb⟩; obtain ⟨hc, hf⟩ := bcell hb)
      go_ret
      exact ⟨by rfl, (((Below.refl _ _).alloc (Nat.le_refl _) _).alloc (by simp) _).trans (hb.mono (by simp; omega))⟩

set_option maxHeartbeats 2000000 in
theorem r3Holds_any (rel k1 n1 : Int) (s1 : ByteArray) (k2 n2 : Int) (s2 : ByteArray) (w : World) :
    Calls Try.prog 37 #[.int .i64 rel, .agg #[.int .i64 k1, .int .i64 n1, .string s1], .agg #[.int .i64 k2, .int .i64 n2, .string s2]] w fun e w' => e = .returned (.bool (holdsB rel k1 n1 s1.data.toList k2 n2 s2.data.toList)) ∧ Below w.heap.size w w' := by
  have C := fun w => r3Compare_any k1 n1 s1 k2 n2 s2 w
  unfold cmpT at C
  cases hq : cmpB k1 k2 with
  | true =>
    rw [holdsB_yes hq]
    rw [hq] at C
    generalize cmpV k1 n1 s1.data.toList k2 n2 s2.data.toList = c at C ⊢
    have HC := Lib.hid C
    clear C hq
    rcases rel_cases rel with rfl | rfl | rfl | rfl | rfl | rfl | ⟨h1, h2, h3, h4, h5, h6⟩
    · rw [show relB 1 c = (c == 0) from by rw [Bool.eq_iff_iff]; simp [relB]]
      go_enter Try.func37, Try.ntmps37
      go_wp2_with (go_at_call 76; (with_reducible refine (HC.out _).mono ?_); rintro e w1 ⟨rfl, hb⟩; obtain ⟨hc, hf⟩ := bcell hb; have hz : w.heap.size + 1 < w1.heap.size := by have := hb.size; simp at this; omega)
      go_ret
      exact ⟨by rfl, (((Below.refl _ _).alloc (Nat.le_refl _) _).alloc (by simp) _).trans (hb.mono (by simp; omega))⟩
    · rw [show relB 2 c = (c != 0) from by rw [Bool.eq_iff_iff]; simp [relB]]
      go_enter Try.func37, Try.ntmps37
      go_wp2_with (go_at_call 76; (with_reducible refine (HC.out _).mono ?_); rintro e w1 ⟨rfl, hb⟩; obtain ⟨hc, hf⟩ := bcell hb; have hz : w.heap.size + 1 < w1.heap.size := by have := hb.size; simp at this; omega)
      go_ret
      exact ⟨by rfl, (((Below.refl _ _).alloc (Nat.le_refl _) _).alloc (by simp) _).trans (hb.mono (by simp; omega))⟩
    · rw [show relB 3 c = decide (c < 0) from by simp [relB]]
      go_enter Try.func37, Try.ntmps37
      go_wp2_with (go_at_call 76; (with_reducible refine (HC.out _).mono ?_); rintro e w1 ⟨rfl, hb⟩; obtain ⟨hc, hf⟩ := bcell hb; have hz : w.heap.size + 1 < w1.heap.size := by have := hb.size; simp at this; omega)
      go_ret
      exact ⟨by rfl, (((Below.refl _ _).alloc (Nat.le_refl _) _).alloc (by simp) _).trans (hb.mono (by simp; omega))⟩
    · rw [show relB 4 c = decide (c ≤ 0) from by simp [relB]]
      go_enter Try.func37, Try.ntmps37
      go_wp2_with (go_at_call 76; (with_reducible refine (HC.out _).mono ?_); rintro e w1 ⟨rfl, hb⟩; obtain ⟨hc, hf⟩ := bcell hb; have hz : w.heap.size + 1 < w1.heap.size := by have := hb.size; simp at this; omega)
      go_ret
      exact ⟨by rfl, (((Below.refl _ _).alloc (Nat.le_refl _) _).alloc (by simp) _).trans (hb.mono (by simp; omega))⟩
    · rw [show relB 5 c = decide (0 < c) from by simp [relB]]
      go_enter Try.func37, Try.ntmps37
      go_wp2_with (go_at_call 76; (with_reducible refine (HC.out _).mono ?_); rintro e w1 ⟨rfl, hb⟩; obtain ⟨hc, hf⟩ := bcell hb; have hz : w.heap.size + 1 < w1.heap.size := by have := hb.size; simp at this; omega)
      go_ret
      exact ⟨by rfl, (((Below.refl _ _).alloc (Nat.le_refl _) _).alloc (by simp) _).trans (hb.mono (by simp; omega))⟩
    · rw [show relB 6 c = decide (0 ≤ c) from by simp [relB]]
      go_enter Try.func37, Try.ntmps37
      go_wp2_with (go_at_call 76; (with_reducible refine (HC.out _).mono ?_); rintro e w1 ⟨rfl, hb⟩; obtain ⟨hc, hf⟩ := bcell hb; have hz : w.heap.size + 1 < w1.heap.size := by have := hb.size; simp at this; omega)
      go_ret
      exact ⟨by rfl, (((Below.refl _ _).alloc (Nat.le_refl _) _).alloc (by simp) _).trans (hb.mono (by simp; omega))⟩
    · rw [show relB rel c = false by simp [relB, h1, h2, h3, h4, h5, h6]]
      have b1 : (rel == 1) = false := by simpa using h1
      have b2 : (rel == 2) = false := by simpa using h2
      have b3 : (rel == 3) = false := by simpa using h3
      have b4 : (rel == 4) = false := by simpa using h4
      have b5 : (rel == 5) = false := by simpa using h5
      have b6 : (rel == 6) = false := by simpa using h6
      clear h1 h2 h3 h4 h5 h6
      go_enter Try.func37, Try.ntmps37
      go_wp2_with (go_at_call 76; (with_reducible refine (HC.out _).mono ?_); rintro e w1 ⟨rfl, hb⟩; obtain ⟨hc, hf⟩ := bcell hb; have hz : w.heap.size + 1 < w1.heap.size := by have := hb.size; simp at this; omega)
      go_ret
      exact ⟨by rfl, (((Below.refl _ _).alloc (Nat.le_refl _) _).alloc (by simp) _).trans (hb.mono (by simp; omega))⟩
  | false =>
    rw [holdsB_no hq]
    rw [hq, cmpV_no hq] at C
    have HC := Lib.hid C
    have K1 := fun w => r3some_any k1 n1 s1 w
    have K2 := fun w => r3some_any k2 n2 s2 w
    generalize kindB k1 = x1 at K1 ⊢
    generalize kindB k2 = x2 at K2 ⊢
    clear C hq
    by_cases h2 : rel = 2
    · subst h2
      cases x1 with
      | false =>
        have HK1 := Lib.hid K1; have HK2 := Lib.hid K2
        clear K1 K2
        rw [show (decide ((2 : Int) = 2) && (false && x2)) = false from rfl]
        go_enter Try.func37, Try.ntmps37
        go_wp2_with (first | (go_at_call 76; (with_reducible refine (HC.out _).mono ?_); rintro e w1 ⟨rfl, hb⟩; obtain ⟨hc, hf⟩ := bcell hb; have hz : w.heap.size + 1 < w1.heap.size := by have := hb.size; simp at this; omega) | (go_at_call 77; (with_reducible refine (HK1.out _).mono ?_); rintro e w2 ⟨rfl, hb2⟩; obtain ⟨hc2, hf2⟩ := bcell hb2))
        go_ret
        exact ⟨by rfl, (((((Below.refl _ _).alloc (Nat.le_refl _) _).alloc (by simp) _).trans (hb.mono (by simp; omega))).trans (hb2.mono (by have := hb.size; simp at this; omega)))⟩
      | true =>
        cases x2 with
        | false =>
          have HK1 := Lib.hid K1; have HK2 := Lib.hid K2
          clear K1 K2
          go_enter Try.func37, Try.ntmps37
          go_wp2_with (first | (go_at_call 76; (with_reducible refine (HC.out _).mono ?_); rintro e w1 ⟨rfl, hb⟩; obtain ⟨hc, hf⟩ := bcell hb; have hz : w.heap.size + 1 < w1.heap.size := by have := hb.size; simp at this; omega) | (go_at_call 77; (with_reducible refine (HK1.out _).mono ?_); rintro e w2 ⟨rfl, hb2⟩; obtain ⟨hc2, hf2⟩ := bcell hb2) | (go_at_call 77; (with_reducible refine (HK2.out _).mono ?_); rintro e w3 ⟨rfl, hb3⟩))
          go_ret
          exact ⟨by rfl, ((((((Below.refl _ _).alloc (Nat.le_refl _) _).alloc (by simp) _).trans (hb.mono (by simp; omega))).trans (hb2.mono (by have := hb.size; simp at this; omega)))).trans (hb3.mono (by have := hb.size; have := hb2.size; simp at *; omega))⟩
        | true =>
          have HK1 := Lib.hid K1; have HK2 := Lib.hid K2
          clear K1 K2
          go_enter Try.func37, Try.ntmps37
          go_wp2_with (first | (go_at_call 76; (with_reducible refine (HC.out _).mono ?_); rintro e w1 ⟨rfl, hb⟩; obtain ⟨hc, hf⟩ := bcell hb; have hz : w.heap.size + 1 < w1.heap.size := by have := hb.size; simp at this; omega) | (go_at_call 77; (with_reducible refine (HK1.out _).mono ?_); rintro e w2 ⟨rfl, hb2⟩; obtain ⟨hc2, hf2⟩ := bcell hb2) | (go_at_call 77; (with_reducible refine (HK2.out _).mono ?_); rintro e w3 ⟨rfl, hb3⟩))
          go_ret
          exact ⟨by rfl, ((((((Below.refl _ _).alloc (Nat.le_refl _) _).alloc (by simp) _).trans (hb.mono (by simp; omega))).trans (hb2.mono (by have := hb.size; simp at this; omega)))).trans (hb3.mono (by have := hb.size; have := hb2.size; simp at *; omega))⟩
    · have b2 : (rel == 2) = false := by simpa using h2
      rw [show (decide (rel = 2) && (x1 && x2)) = false by simp [h2]]
      clear h2 K1 K2
      go_enter Try.func37, Try.ntmps37
      go_wp2_with (go_at_call 76; (with_reducible refine (HC.out _).mono ?_); rintro e w1 ⟨rfl, hb⟩; obtain ⟨hc, hf⟩ := bcell hb; have hz : w.heap.size + 1 < w1.heap.size := by have := hb.size; simp at this; omega)
      go_ret
      exact ⟨by rfl, (((Below.refl _ _).alloc (Nat.le_refl _) _).alloc (by simp) _).trans (hb.mono (by simp; omega))⟩
end Go.Proofs.Ytpbloplbpkedcaa

/- How the program holds two values against each other. -/
namespace Go.Proofs.Ytpbloplbpkedcaa
open Go Go.RowKit

/-- Whether two values are the same. -/
def vEq (k1 n1 : Int) (s1 : ByteArray) (k2 n2 : Int) (s2 : ByteArray) : Bool := k1 == k2 && (n1 == n2 && s1.toList == s2.toList)
theorem ba_ext2 {a b : ByteArray} (h : a.toList = b.toList) : a = b := by
  rw [Lib.toList_data, Lib.toList_data] at h
  cases a; cases b; simp at h; rw [h]
theorem vEq_iff {k1 n1 : Int} {s1 : ByteArray} {k2 n2 : Int} {s2 : ByteArray} : vEq k1 n1 s1 k2 n2 s2 = true ↔ k1 = k2 ∧ n1 = n2 ∧ s1 = s2 := by
  unfold vEq
  simp only [Bool.and_eq_true, beq_iff_eq]
  exact ⟨fun ⟨a, b, c⟩ => ⟨a, b, ba_ext2 c⟩, fun ⟨a, b, c⟩ => ⟨a, b, by rw [c]⟩⟩
theorem vEq_run (k1 n1 : Int) (s1 : ByteArray) (k2 n2 : Int) (s2 : ByteArray) (w : World) :
    (binOp .eql 23 (.agg #[.int .i64 k1, .int .i64 n1, .string s1]) (.agg #[.int .i64 k2, .int .i64 n2, .string s2])).run Try.prog w = .ok (.bool (vEq k1 n1 s1 k2 n2 s2)) w := by
  have a2 := Try.isAgg2; have z2 := Try.sizeOf2; have u2 := Try.underlying2
  have a3 := Try.isAgg3; have z3 := Try.sizeOf3; have u3 := Try.underlying3
  have a9 := Try.isAgg9; have z9 := Try.sizeOf9; have u9 := Try.underlying9
  have hS : Try.prog.underlying 23 = some (.struct (Try.prog.fieldsOf 23)) := by kernel_rfl
  have hp : Try.prog.stoodInHeld 23 = false := by kernel_rfl
  rw [run_eql_struct, show (10000 : Nat) = 9999 + 1 from rfl, run_equalIn_agg w 9999 23 _ _ hS hp]
  simp only [Program.fieldsOf, Try.underlying23]
  go_simp
  unfold vEq
  by_cases h1 : k1 = k2 <;> by_cases h2 : n1 = n2 <;> by_cases h3 : s1.toList = s2.toList <;> simp [h1, h2, h3]
theorem vNe_run (k1 n1 : Int) (s1 : ByteArray) (k2 n2 : Int) (s2 : ByteArray) (w : World) :
    (binOp .neq 23 (.agg #[.int .i64 k1, .int .i64 n1, .string s1]) (.agg #[.int .i64 k2, .int .i64 n2, .string s2])).run Try.prog w = .ok (.bool (!vEq k1 n1 s1 k2 n2 s2)) w := by
  have h := vEq_run k1 n1 s1 k2 n2 s2 w
  rw [run_eql_struct] at h
  rw [run_neq_struct]
  cases hr : (Op.equalIn 10000 23 (.agg #[.int .i64 k1, .int .i64 n1, .string s1]) (.agg #[.int .i64 k2, .int .i64 n2, .string s2])).run Try.prog w with
  | ok b w' =>
    rw [hr] at h
    simp only [Result.andThen, Result.ok.injEq, Value.bool.injEq] at h
    obtain ⟨rfl, rfl⟩ := h
    rfl
  | _ => rw [hr] at h; simp [Result.andThen] at h
theorem vGuard (op : BinOp) (x y : Operand) (k1 n1 : Int) (s1 : ByteArray) (k2 n2 : Int) (s2 : ByteArray) (w : World) :
    (eqGuard op 23 x y (.agg #[.int .i64 k1, .int .i64 n1, .string s1]) (.agg #[.int .i64 k2, .int .i64 n2, .string s2])).run Try.prog w = .ok () w := run_eqGuard_agg w op _ x y _ _ (by kernel_rfl)

end Go.Proofs.Ytpbloplbpkedcaa

/- How the program holds two attributes against each other. -/
namespace Go.Proofs.Ytpbloplbpkedcaa
open Go Go.RowKit

/-- Whether two attributes are the same. -/
def aEq (x y : At) : Bool := x.name.toList == y.name.toList && vEq x.k x.n x.s y.k y.n y.s
theorem aEq_iff {x y : At} : aEq x y = true ↔ x = y := by
  unfold aEq
  rw [Bool.and_eq_true, vEq_iff, beq_iff_eq]
  constructor
  · rintro ⟨a, b, c, d⟩
    cases x; cases y
    simp only at a b c d
    subst b c d
    rw [ba_ext2 a]
  · rintro rfl; simp
theorem aNe : NeqAt Try.prog 78 (fun x : At => .agg (enc4 x).toArray) aEq := by
  refine ⟨fun x y w => ?_, GuardAt.agg _ (by kernel_rfl)⟩
  have a2 := Try.isAgg2; have z2 := Try.sizeOf2; have u2 := Try.underlying2
  have a3 := Try.isAgg3; have z3 := Try.sizeOf3; have u3 := Try.underlying3
  have a9 := Try.isAgg9; have z9 := Try.sizeOf9; have u9 := Try.underlying9
  have a23 := Try.isAgg23; have z23 := Try.sizeOf23
  have hS : Try.prog.underlying 78 = some (.struct (Try.prog.fieldsOf 78)) := by kernel_rfl
  have hp : Try.prog.stoodInHeld 78 = false := by kernel_rfl
  have hS2 : Try.prog.underlying 23 = some (.struct (Try.prog.fieldsOf 23)) := by kernel_rfl
  have hp2 : Try.prog.stoodInHeld 23 = false := by kernel_rfl
  obtain ⟨n1, k1, m1, s1⟩ := x
  obtain ⟨n2, k2, m2, s2⟩ := y
  simp only [enc4]
  rw [run_neq_struct, show (10000 : Nat) = 9998 + 1 + 1 from rfl, run_equalIn_agg w (9998 + 1) 78 _ _ hS hp]
  simp only [Program.fieldsOf, Try.underlying78]
  have hq : ∀ w : World, (Op.equalIn (9998 + 1) 23 (.agg #[.int .i64 k1, .int .i64 m1, .string s1]) (.agg #[.int .i64 k2, .int .i64 m2, .string s2])).run Try.prog w = .ok (vEq k1 m1 s1 k2 m2 s2) w := fun w => by
    rw [run_equalIn_agg w 9998 23 _ _ hS2 hp2]
    simp only [Program.fieldsOf, Try.underlying23]
    go_simp
    unfold vEq
    by_cases h1 : k1 = k2 <;> by_cases h2 : m1 = m2 <;> by_cases h3 : s1.toList = s2.toList <;> simp [h1, h2, h3]
  go_simp
  unfold aEq
  by_cases h1 : n1.toList = n2.toList <;> cases h2 : vEq k1 m1 s1 k2 m2 s2 <;> simp [h1]
end Go.Proofs.Ytpbloplbpkedcaa

/- Plain facts on lists of bits: a number in n bits, the value of bits, what a sink holds after some bits. No program here. -/
namespace Go.Proofs.Ytpbloplbpkedcaa
open Go

def valBits (l : List Bool) : Nat := l.foldl (fun a b => 2 * a + b.toNat) 0
theorem valBits_nil : valBits [] = 0 := rfl
theorem valBits_snoc (l : List Bool) (b : Bool) : valBits (l ++ [b]) = 2 * valBits l + b.toNat := by simp [valBits]
theorem snocInd {α : Type} {P : List α → Prop} (h0 : P []) (h1 : ∀ l b, P l → P (l ++ [b])) (l : List α) : P l := by
  have h : ∀ r : List α, P r.reverse := by
    intro r
    induction r with
    | nil => exact h0
    | cons a r ih => rw [List.reverse_cons]; exact h1 _ _ ih
  have := h l.reverse
  rwa [List.reverse_reverse] at this
theorem valBits_lt (l : List Bool) : valBits l < 2 ^ l.length := by
  refine snocInd (P := fun l => valBits l < 2 ^ l.length) (by simp [valBits]) (fun l b ih => ?_) l
  rw [valBits_snoc]; simp [Nat.pow_succ]; cases b <;> simp <;> omega

/-- The low n bits of x, the highest one first. -/
def bitsOf (x n : Nat) : List Bool := (List.range n).map fun i => x.testBit (n - 1 - i)
theorem bitsOf_length (x n : Nat) : (bitsOf x n).length = n := by simp [bitsOf]
theorem bitsOf_zero (x : Nat) : bitsOf x 0 = [] := rfl
theorem bitsOf_getElem (x n i : Nat) (h : i < (bitsOf x n).length) : (bitsOf x n)[i] = x.testBit (n - 1 - i) := by simp [bitsOf]
theorem bitsOf_take_succ (x n k : Nat) (h : k < n) : (bitsOf x n).take (k + 1) = (bitsOf x n).take k ++ [x.testBit (n - 1 - k)] := by
  rw [List.take_succ_eq_append_getElem (by simpa [bitsOf] using h), bitsOf_getElem]
theorem bitsOf_succ (x n : Nat) : bitsOf x (n + 1) = x.testBit n :: bitsOf x n := by
  simp only [bitsOf, List.range_succ_eq_map, List.map_cons, List.map_map]
  congr 1
  apply List.map_congr_left
  intro i hi
  simp at hi
  simp only [Function.comp]
  congr 1
  omega

/-- The bits of the last byte that is not full; the bytes that are full. -/
def restOf (bs : List Bool) : Nat := valBits (bs.drop (8 * (bs.length / 8)))
def fullOf (bs : List Bool) : List Nat := (List.range (bs.length / 8)).map fun j => valBits ((bs.drop (8 * j)).take 8)
theorem fullOf_length (bs : List Bool) : (fullOf bs).length = bs.length / 8 := by simp [fullOf]
theorem restOf_lt (bs : List Bool) : restOf bs < 128 := by
  unfold restOf
  have h := valBits_lt (bs.drop (8 * (bs.length / 8)))
  have hl : (bs.drop (8 * (bs.length / 8))).length ≤ 7 := by rw [List.length_drop]; omega
  have := Nat.pow_le_pow_right (n := 2) (by omega) hl
  omega
theorem restOf_snoc_ne (bs : List Bool) (b : Bool) (h : (bs.length + 1) % 8 ≠ 0) : restOf (bs ++ [b]) = 2 * restOf bs + b.toNat := by
  unfold restOf
  have e : (bs ++ [b]).length / 8 = bs.length / 8 := by simp; omega
  rw [e, List.drop_append_of_le_length (by omega), valBits_snoc]
theorem restOf_snoc_eq (bs : List Bool) (b : Bool) (h : (bs.length + 1) % 8 = 0) : restOf (bs ++ [b]) = 0 := by
  unfold restOf
  have e : 8 * ((bs ++ [b]).length / 8) = (bs ++ [b]).length := by simp; omega
  rw [e, List.drop_length]; rfl
theorem fullOf_snoc_ne (bs : List Bool) (b : Bool) (h : (bs.length + 1) % 8 ≠ 0) : fullOf (bs ++ [b]) = fullOf bs := by
  unfold fullOf
  have e : (bs ++ [b]).length / 8 = bs.length / 8 := by simp; omega
  rw [e]
  apply List.map_congr_left
  intro j hj
  simp at hj
  rw [List.drop_append_of_le_length (by omega), List.take_append_of_le_length (by simp; omega)]
theorem fullOf_snoc_eq (bs : List Bool) (b : Bool) (h : (bs.length + 1) % 8 = 0) : fullOf (bs ++ [b]) = fullOf bs ++ [2 * restOf bs + b.toNat] := by
  unfold fullOf restOf
  have e : (bs ++ [b]).length / 8 = bs.length / 8 + 1 := by simp; omega
  rw [e, List.range_succ, List.map_append]
  congr 1
  · apply List.map_congr_left
    intro j hj
    simp at hj
    rw [List.drop_append_of_le_length (by omega), List.take_append_of_le_length (by simp; omega)]
  · simp only [List.map_cons, List.map_nil]
    rw [List.drop_append_of_le_length (by omega), List.take_of_length_le (by simp; omega), valBits_snoc]

/-- The walk's own words for '& 1', '<< 1 |'. -/
theorem bit_of (x k : Nat) (hx : x < 2 ^ 64) : bits BinOp.and IntKind.u64 ((x : Int) / 2 ^ k) 1 % 256 = ((x.testBit k).toNat : Int) := by
  have h0 : (0 : Int) ≤ (x : Int) / 2 ^ k := Int.ediv_nonneg (by omega) (by exact_mod_cast Nat.zero_le _)
  have h1 : (x : Int) / 2 ^ k ≤ 18446744073709551615 := by
    have : (x : Int) / 2 ^ k ≤ x := Int.ediv_le_self _ (by omega)
    omega
  rw [Go.and_one_u64 _ h0 h1]
  have e : ((x : Int) / 2 ^ k) % 2 = ((x / 2 ^ k % 2 : Nat) : Int) := by push_cast; rfl
  rw [e, Nat.testBit_eq_decide_div_mod_eq]
  rcases Nat.mod_two_eq_zero_or_one (x / 2 ^ k) with h | h <;> simp [h]
theorem or_bit (r : Nat) (b : Bool) (hr : r < 128) : bits BinOp.or IntKind.u8 ((r : Int) * 2) (b.toNat : Int) = ((2 * r + b.toNat : Nat) : Int) := by
  have h : ∀ r : Fin 128, ∀ b : Bool, bits BinOp.or IntKind.u8 (((r.val : Nat) : Int) * 2) (b.toNat : Int) = ((2 * r.val + b.toNat : Nat) : Int) := by decide +kernel
  exact h ⟨r, hr⟩ b

end Go.Proofs.Ytpbloplbpkedcaa

/- What a call may change: only blocks of its own from B on, and of these only blocks of the given element types. An append onto a row of the call's own, as one step of a region that draws. -/
namespace Go.Proofs.Ytpbloplbpkedcaa
open Go Go.RowKit

theorem hide {p : Prop} (h : p) : Hid p := h

/-- Below block B nothing has turned; and no block of cells whose element type is outside T has turned, wherever it lies. -/
structure Kept (B : Nat) (T : Nat → Bool) (w w' : World) : Prop where
  below : Below B w w'
  typed : ∀ (k : Nat) (cs : Array Value) (e : Nat) (fr : Nat × Nat), w.heap[k]? = some (.cells cs e fr) → T e = false → w'.heap[k]? = some (.cells cs e fr)

theorem Kept.refl (B : Nat) (T : Nat → Bool) (w : World) : Kept B T w w := ⟨Below.refl _ _, fun _ _ _ _ h _ => h⟩
theorem Kept.trans {B : Nat} {T : Nat → Bool} {a b c : World} (h : Kept B T a b) (k : Kept B T b c) : Kept B T a c :=
  ⟨h.below.trans k.below, fun i cs e fr hi ht => k.typed i cs e fr (h.typed i cs e fr hi ht) ht⟩
theorem Kept.mono {B B' : Nat} {T T' : Nat → Bool} {w w' : World} (h : Kept B T w w') (hB : B' ≤ B) (hT : ∀ e, T' e = false → T e = false) : Kept B' T' w w' :=
  ⟨h.below.mono hB, fun i cs e fr hi ht => h.typed i cs e fr hi (hT e ht)⟩
theorem Kept.drew {B : Nat} {T : Nat → Bool} {a w : World} (h : Kept B T a w) : Kept B T a w.drew := ⟨h.below.drew, fun k cs e fr hk ht => h.typed k cs e fr hk ht⟩
theorem Kept.drewN {B : Nat} {T : Nat → Bool} {a w : World} (h : Kept B T a w) (n : Nat) : Kept B T a (w.drewN n) :=
  ⟨⟨h.below.os, h.below.tape, h.below.output, h.below.size, h.below.block⟩, fun k cs e fr hk ht => h.typed k cs e fr hk ht⟩
theorem Kept.alloc {B : Nat} {T : Nat → Bool} {a w : World} (h : Kept B T a w) (hB : B ≤ w.heap.size) (o : Obj) : Kept B T a (w.alloc o) :=
  ⟨h.below.alloc hB o, fun k cs e fr hk ht => by
    have hh := h.typed k cs e fr hk ht
    rw [Below.heap_alloc _ _ _ (lt_of_block hh)]; exact hh⟩
theorem Kept.setCell {B : Nat} {T : Nat → Bool} {a w : World} (h : Kept B T a w) {p : Addr} (hp : B ≤ p.block) {cs0 : Array Value} {e0 : Nat} {fr0 : Nat × Nat}
    (hb : w.heap[p.block]? = some (.cells cs0 e0 fr0)) (hT : T e0 = true) (u : Value) : Kept B T a (w.setCell p u) :=
  ⟨h.below.setCell hp u, fun k cs e fr hk ht => by
    have hh := h.typed k cs e fr hk ht
    have hne : k ≠ p.block := by
      rintro rfl
      rw [hh] at hb
      simp only [Option.some.injEq, Obj.cells.injEq] at hb
      rw [hb.2.1] at ht
      rw [ht] at hT
      cases hT
    rw [Below.heap_setCell _ _ _ _ hne]; exact hh⟩
/-- Behind an append onto an owned row of a type in T. -/
theorem Kept.grown {B : Nat} {T : Nat → Bool} {a w w' : World} (h : Kept B T a w) {B0 e size n : Nat} {v : Value} {xs : List Value} (hown : w.ownsRow B0 e size v n xs) (hT : T e = true) (hg : w.grownBy w' v.ownBlock) (hB : B ≤ w.heap.size) (hB0 : B ≤ B0) : Kept B T a w' :=
  ⟨h.below.grown hg hB (fun k hk => Nat.le_trans hB0 (hown.lt k hk).1), fun k cs e1 fr hk ht => by
    have hh := h.typed k cs e1 fr hk ht
    rw [hg.block k (lt_of_block hh) ?_]; · exact hh
    intro hk2
    rcases hown.2 with ⟨rfl, _⟩ | ⟨g, cap, cur, rfl, _, hgg, _⟩
    · simp [Value.ownBlock] at hk2
    · simp [Value.ownBlock] at hk2
      subst hk2
      rw [hh] at hgg
      simp only [Option.some.injEq, Obj.cells.injEq] at hgg
      rw [hgg.2.1] at ht
      rw [ht] at hT
      cases hT⟩
/-- A row of another element type stays owned. -/
theorem Kept.ownsRow {B : Nat} {T : Nat → Bool} {w w' : World} (h : Kept B T w w') {B0 e size n : Nat} {v : Value} {xs : List Value} (hown : w.ownsRow B0 e size v n xs) (ht : T e = false) : w'.ownsRow B0 e size v n xs := by
  refine ⟨hown.1, ?_⟩
  rcases hown.2 with hn | ⟨g, cap, cur, rfl, hb, hgg, rest⟩
  · exact .inl hn
  · exact .inr ⟨g, cap, cur, rfl, hb, h.typed g cur e (0, 0) hgg ht, rest⟩

/-- A row stays owned while a cell of a block of another element type is written. -/
theorem ownsRow_setCell_typed {w : World} {base : Nat} {e : Nat} {size : Nat} {v : Value} {n : Nat} {xs : List Value} (h : w.ownsRow base e size v n xs) {a : Addr} {cs0 : Array Value} {e0 : Nat} {fr0 : Nat × Nat}
    (hb : w.heap[a.block]? = some (.cells cs0 e0 fr0)) (hne : e0 ≠ e) (u : Value) : (w.setCell a u).ownsRow base e size v n xs := by
  refine ownsRow_setCell_other h ?_ u
  rcases h.2 with ⟨rfl, _⟩ | ⟨g, cap, cur, rfl, _, hgg, _⟩
  · simp [Value.ownBlock]
  · simp only [Value.ownBlock]
    intro hk
    simp only [Option.some.injEq] at hk
    rw [hk, hb] at hgg
    simp only [Option.some.injEq, Obj.cells.injEq] at hgg
    exact hne hgg.2.1
theorem ownsRow_drew {w : World} {base : Nat} {e : Nat} {size : Nat} {v : Value} {n : Nat} {xs : List Value} (h : w.ownsRow base e size v n xs) : w.drew.ownsRow base e size v n xs := h
theorem ownsRow_drewN {w : World} {base : Nat} {e : Nat} {size : Nat} {v : Value} {n : Nat} {xs : List Value} (h : w.ownsRow base e size v n xs) (k : Nat) : (w.drewN k).ownsRow base e size v n xs := h

/-- append onto a row of the call's own, as one step of a region that draws its order. -/
theorem step_append_own {P : Program} {ops : Array Oper} {o : Oper} {a : Act} {w : World} {K : Act → World → Prop} {Q : Exit → Act → World → Prop} {E : Prop}
    (hg : o.guard = none) (s x : Operand) (t : TypeId) (hop : o.op = Op.call { callee := Callee.builtin Builtin.append, args := #[s, x], argTypes := #[t, t] })
    (base : Nat) (e : TypeId) (i : TypeInfo) (z : Value) (size bytes : Nat) (h1 : P.underlying t = some (.slice e)) (h2 : P.info? e = some i) (h3 : i.zero = some z) (h4 : i.size = size) (h5 : i.bytes = bytes) (h6 : z.cells.size = size) (h7 : 0 < size)
    (v : Value) (n : Nat) (xs : List Value) (hs : a.eval s = v) (hown : w.ownsRow base e size v n xs)
    (ad : Addr) (m c : Nat) (news : List Value) (hx : a.eval x = .slice (some ad) m c) (hn : news.length = m * size) (hc : ∀ j u, news[j]? = some u → w.cell? (ad.add j) = some u) (h1c : ∀ u ∈ news, u.oneCell' = true)
    (b1 : n + m ≤ maxLen) (b2 : (n + m) * bytes ≤ 140737488355328) (hbase : base ≤ w.heap.size)
    (hK : ∀ v' w', w'.ownsRow base e size v' (n + m) (xs ++ news) → w.grownBy w' v.ownBlock → K (a.put o.dst v') w') :
    if Region.wanted o (yielded ops a.tmps) = true then Oper.wp P o a w K Q else E := by
  have hw : Region.wanted o (yielded ops a.tmps) = true := by simp [Region.wanted, hg]
  rw [if_pos hw]
  obtain ⟨v', w', hrun, r1, r2, _⟩ := run_append_own (P := P) w base t o.type e i z size bytes h1 h2 h3 h4 h5 h6 h7 v n xs hown ad m c news hn hc h1c b1 b2 hbase
  unfold Oper.wp
  simp [execOp, hop, resolve, invoke, builtin, hs, hx, hrun, Result.andThen]
  exact hK v' w' r1 r2

/-- A block of four cells: what its cells hold; that they may be written; what the block is behind a store. -/
theorem cell_of_four {w : World} {q : Nat} {c0 c1 c2 c3 : Value} {t : Nat} (h : w.heap[q]? = some (.cells #[c0, c1, c2, c3] t (0, 0))) :
    w.cell? ⟨q, 0, none⟩ = some c0 ∧ w.cell? ⟨q, 1, none⟩ = some c1 ∧ w.cell? ⟨q, 2, none⟩ = some c2 ∧ w.cell? ⟨q, 3, none⟩ = some c3 := by
  refine ⟨?_, ?_, ?_, ?_⟩ <;> simp [World.cell?, h]
theorem free_of_four {w : World} {q : Nat} {c0 c1 c2 c3 : Value} {t : Nat} (h : w.heap[q]? = some (.cells #[c0, c1, c2, c3] t (0, 0))) :
    w.frozen? ⟨q, 0, none⟩ = false ∧ w.frozen? ⟨q, 1, none⟩ = false ∧ w.frozen? ⟨q, 2, none⟩ = false ∧ w.frozen? ⟨q, 3, none⟩ = false := by
  refine ⟨?_, ?_, ?_, ?_⟩ <;> simp [World.frozen?, h]
theorem heap_setCell_same {w : World} {q k : Nat} {cs : Array Value} {t : Nat} {fr : Nat × Nat} (h : w.heap[q]? = some (.cells cs t fr)) (u : Value) :
    (w.setCell ⟨q, k, none⟩ u).heap[q]? = some (.cells (cs.setIfInBounds k u) t fr) := by
  have hlt := lt_of_block h
  have h' : w.heap[q] = .cells cs t fr := by simpa [Array.getElem?_eq_getElem hlt] using h
  show (w.heap.modify q _)[q]? = _
  rw [Array.getElem?_eq_getElem (by simpa using hlt), Array.getElem_modify_self, h']
  rfl

theorem cell_alloc_one (w : World) (n : Nat) (hn : n = w.heap.size) (v : Value) (t : Nat) : (w.alloc (.cells #[v] t)).cell? ⟨n, 0, none⟩ = some v := by
  subst hn; exact cell_of_one (heap_alloc_new w _)
/-- An append onto a row of one type leaves a block of another type as it was. -/
theorem grow_keeps {w0 w1 w' : World} {q B n : Nat} {e e0 size : Nat} {cs : Array Value} {fr0 : Nat × Nat} {v : Value} {xs : List Value} (hq : w0.heap[q]? = some (.cells cs e0 fr0)) (ho : w0.ownsRow B e size v n xs) (hne : e0 ≠ e)
    (hg : w1.grownBy w' v.ownBlock) (hh : w1.heap = w0.heap) : w'.heap[q]? = some (.cells cs e0 fr0) := by
  rw [← hh] at hq
  have ho2 : w1.ownsRow B e size v n xs := by unfold World.ownsRow at ho ⊢; rw [hh]; exact ho
  clear ho
  rw [hg.block q (lt_of_block hq) ?_]; · exact hq
  rcases ho2.2 with ⟨rfl, _⟩ | ⟨g, cap, cur, rfl, _, hgg, _⟩
  · simp [Value.ownBlock]
  · simp only [Value.ownBlock]
    intro hk
    simp only [Option.some.injEq] at hk
    rw [hk] at hq
    rw [hq] at hgg
    simp only [Option.some.injEq, Obj.cells.injEq] at hgg
    exact hne hgg.2.1
theorem heap_alloc_keeps {w : World} {q : Nat} {ob : Obj} (hq : w.heap[q]? = some ob) (o : Obj) : (w.alloc o).heap[q]? = some ob := by
  rw [Below.heap_alloc _ _ _ (lt_of_block hq)]; exact hq
theorem own_shape {w : World} {base e size n : Nat} {v : Value} {xs : List Value} (h : w.ownsRow base e size v (n + 1) xs) : ∃ g cap, v = .slice (some ⟨g, 0, none⟩) (n + 1) cap := by
  rcases h.2 with ⟨_, h0⟩ | ⟨g, cap, cur, hv, _⟩
  · cases h0
  · exact ⟨g, cap, hv⟩

end Go.Proofs.Ytpbloplbpkedcaa

/- A value that reads as attributes: a slice, nil or not, below some block. -/
namespace Go.Proofs.Ytpbloplbpkedcaa
open Go Go.RowKit

/-- In w the value v is a slice of the attributes, which lie below block B. -/
structure Av (w : World) (B : Nat) (v : Value) (xs : List At) : Prop where
  wide : ∀ x ∈ xs, x.name.size ≤ maxLen ∧ x.s.size ≤ maxLen
  len : xs.length * 48 ≤ 140737488355328
  row : ∃ ao cap, v = .slice ao xs.length cap ∧ xs.length ≤ cap ∧ cap ≤ 9223372036854775807 ∧ (0 < xs.length → ∃ b o, ao = some ⟨b, o, none⟩ ∧ b < B ∧ ∀ j, j < xs.length → ∀ i u, (enc4 xs[j]!)[i]? = some u → w.cell? ⟨b, o + j * 4 + i, none⟩ = some u)
theorem Av.keep {w w' : World} {B : Nat} {v : Value} {xs : List At} (h : Av w B v xs) (hk : ∀ b o, b < B → w'.cell? ⟨b, o, none⟩ = w.cell? ⟨b, o, none⟩) : Av w' B v xs := by
  obtain ⟨ao, cap, h1, h2, h2', h3⟩ := h.row
  refine ⟨h.wide, h.len, ao, cap, h1, h2, h2', fun hn => ?_⟩
  obtain ⟨b, o, h4, h5, h6⟩ := h3 hn
  exact ⟨b, o, h4, h5, fun j hj i u hu => (hk _ _ h5).trans (h6 j hj i u hu)⟩
theorem Av.below {w w' : World} {B B' : Nat} {v : Value} {xs : List At} (h : Av w B v xs) (hb : Below B' w w') (hB : B ≤ B') : Av w' B v xs :=
  h.keep fun _ _ hlt => hb.cell (Nat.lt_of_lt_of_le hlt hB)
theorem Av.mono {w : World} {B B' : Nat} {v : Value} {xs : List At} (h : Av w B v xs) (hB : B ≤ B') : Av w B' v xs := by
  obtain ⟨ao, cap, h1, h2, h2', h3⟩ := h.row
  refine ⟨h.wide, h.len, ao, cap, h1, h2, h2', fun hn => ?_⟩
  obtain ⟨b, o, h4, h5, h6⟩ := h3 hn
  exact ⟨b, o, h4, Nat.lt_of_lt_of_le h5 hB, h6⟩
theorem Av.shape {w : World} {B : Nat} {v : Value} {xs : List At} (h : Av w B v xs) : ∃ ao cap, v = .slice ao xs.length cap := by
  obtain ⟨ao, cap, h1, _⟩ := h.row
  exact ⟨ao, cap, h1⟩
theorem Av.nil (w : World) (B : Nat) : Av w B (.slice none 0 0) [] := ⟨by simp, by simp, none, 0, rfl, by simp, by simp, fun h => by simp at h⟩
/-- Where it lies, if it holds something. -/
theorem Av.at {w : World} {B : Nat} {ao : Option Addr} {n cap : Nat} {xs : List At} (h : Av w B (.slice ao n cap) xs) (h0 : 0 < n) :
    ∃ b o, ao = some ⟨b, o, none⟩ ∧ b < B ∧ n = xs.length ∧ n ≤ cap ∧ cap ≤ 9223372036854775807 ∧ ∀ j, j < xs.length → ∀ i u, (enc4 xs[j]!)[i]? = some u → w.cell? ⟨b, o + j * 4 + i, none⟩ = some u := by
  obtain ⟨ao', cap', h1, h2, h2', h3⟩ := h.row
  simp only [Value.slice.injEq] at h1
  obtain ⟨rfl, rfl, rfl⟩ := h1
  obtain ⟨b, o, h4, h5, h6⟩ := h3 h0
  exact ⟨b, o, h4, h5, rfl, h2, h2', h6⟩
theorem Av.num {w : World} {B : Nat} {ao : Option Addr} {n cap : Nat} {xs : List At} (h : Av w B (.slice ao n cap) xs) : n = xs.length ∧ n ≤ 9223372036854775807 := by
  obtain ⟨ao', cap', h1, _, _, _⟩ := h.row
  simp only [Value.slice.injEq] at h1
  have := h.len
  exact ⟨h1.2.1, by omega⟩
/-- An element's cells, as a walk reckons them. -/
theorem four_cells {w : World} {b a : Nat} {x : At} (h : ∀ i u, (enc4 x)[i]? = some u → w.cell? ⟨b, a + i, none⟩ = some u) :
    w.cell? ⟨b, a, none⟩ = some (.string x.name) ∧ w.cell? ⟨b, a + 1, none⟩ = some (.int .i64 x.k) ∧ w.cell? ⟨b, a + 2, none⟩ = some (.int .i64 x.n) ∧ w.cell? ⟨b, a + 3, none⟩ = some (.string x.s) :=
  ⟨h 0 _ rfl, h 1 _ rfl, h 2 _ rfl, h 3 _ rfl⟩
theorem enc4_len (x : At) : (enc4 x).length = 4 := rfl
theorem enc4_one (x : At) : ∀ v ∈ enc4 x, v.oneCell' = true := by
  intro v hv; simp [enc4] at hv; rcases hv with rfl | rfl | rfl | rfl <;> rfl
theorem flat_at (xs : List At) (j i : Nat) (hj : j < xs.length) (u : Value) (h : (enc4 xs[j]!)[i]? = some u) : (xs.flatMap enc4)[j * 4 + i]? = some u := by
  induction xs generalizing j with
  | nil => simp at hj
  | cons x r ih =>
    cases j with
    | zero =>
      have hi : i < 4 := by have := (List.getElem?_eq_some_iff.1 h).1; simpa [enc4_len] using this
      rw [List.flatMap_cons, List.getElem?_append_left (by rw [enc4_len]; omega)]
      simpa using h
    | succ j =>
      rw [List.flatMap_cons, List.getElem?_append_right (by rw [enc4_len]; omega), enc4_len, show (j + 1) * 4 + i - 4 = j * 4 + i by omega]
      exact ih j (by simpa using hj) (by simpa using h)
theorem flat4_len (xs : List At) : (xs.flatMap enc4).length = xs.length * 4 := by
  induction xs with
  | nil => rfl
  | cons x r ih => rw [List.flatMap_cons, List.length_append, ih, enc4_len, List.length_cons]; omega
theorem flat4_one (xs : List At) : ∀ u ∈ xs.flatMap enc4, u.oneCell' = true := by
  intro u hu
  obtain ⟨x, _, hx⟩ := List.mem_flatMap.1 hu
  exact enc4_one x u hx
/-- Attributes of the call's own. -/
theorem Av.of_own {w : World} {B : Nat} {v : Value} {xs : List At} (h : w.ownsRow B 78 4 v xs.length (xs.flatMap enc4)) (hw : ∀ x ∈ xs, x.name.size ≤ maxLen ∧ x.s.size ≤ maxLen) (hl : xs.length * 48 ≤ 140737488355328) : Av w w.heap.size v xs := by
  rcases h.2 with ⟨hv, hn0⟩ | ⟨g, cap, cur, hv, hg, hgg, hgn, hcapm, hcsz, htake⟩
  · exact ⟨hw, hl, none, 0, by rw [hv, hn0], by omega, by omega, fun hn => by omega⟩
  · have hc : xs.length ≤ cap ∧ cap ≤ 9223372036854775807 := by
      refine ⟨?_, ?_⟩ <;> first | assumption | (unfold maxLen at *; omega)
    refine ⟨hw, hl, some ⟨g, 0, none⟩, cap, hv, hc.1, hc.2, fun hn => ⟨g, 0, rfl, lt_of_block hgg, fun j hj i u hu => ?_⟩⟩
    subst hv
    have := h.cells (g := g) rfl (j * 4 + i) u (flat_at xs j i hj u hu)
    have e : (⟨g, 0, none⟩ : Addr).add (j * 4 + i) = ⟨g, j * 4 + i, none⟩ := by unfold Addr.add; split <;> simp_all
    rw [e] at this
    rw [Nat.zero_add]; exact this
end Go.Proofs.Ytpbloplbpkedcaa

/- Contracts: which texts are names: the program's call and the document's. -/
namespace Go.Proofs.Ytpbloplbpkedcaa
open Go Go.RowKit

theorem at_eq (s : ByteArray) (k : Nat) (h : k < s.size) : s.data.toList.getD k 0 = s[k] := by
  have h2 : k < s.data.toList.length := by simpa using h
  simp [List.getD, List.getElem?_eq_getElem h2]; rfl
theorem vIsDigit_any (c : UInt8) (w : World) : Calls Try.prog 131 #[.int .u8 (c.toNat : Int)] w fun e w' => e = .returned (.bool (digB c)) ∧ w = w' := by
  have hd : digB c = (decide (48 ≤ c.toNat) && decide (c.toNat ≤ 57)) := rfl
  generalize c.toNat = n at hd ⊢
  by_cases h0 : 48 ≤ n
  · by_cases h1 : n ≤ 57
    · rw [show digB c = true by rw [hd]; simp [h0, h1]]
      clear hd
      go_enter Try.func131, Try.ntmps131
      go_wp2
      go_ret
      first | exact ⟨rfl, rfl⟩ | exact ⟨by simp; omega, rfl⟩
    · rw [show digB c = false by rw [hd]; simp [h1]]
      clear hd
      go_enter Try.func131, Try.ntmps131
      go_wp2
      go_ret
      first | exact ⟨rfl, rfl⟩ | exact ⟨by simp; omega, rfl⟩
  · rw [show digB c = false by rw [hd]; simp [h0]]
    clear hd
    go_enter Try.func131, Try.ntmps131
    go_wp2
    go_ret
    first | exact ⟨rfl, rfl⟩ | exact ⟨by simp; omega, rfl⟩
theorem vIsLetter_any (c : UInt8) (w : World) : Calls Try.prog 132 #[.int .u8 (c.toNat : Int)] w fun e w' => e = .returned (.bool (letB c)) ∧ w = w' := by
  have hd : letB c = ((decide (97 ≤ c.toNat) && decide (c.toNat ≤ 122)) || (decide (65 ≤ c.toNat) && decide (c.toNat ≤ 90)) || decide (c.toNat = 95)) := rfl
  generalize c.toNat = n at hd ⊢
  have hw : n < 65 ∨ (65 ≤ n ∧ n ≤ 90) ∨ (90 < n ∧ n < 95) ∨ n = 95 ∨ (95 < n ∧ n < 97) ∨ (97 ≤ n ∧ n ≤ 122) ∨ 122 < n := by omega
  rcases hw with h | ⟨h, h2⟩ | ⟨h, h2⟩ | rfl | ⟨h, h2⟩ | ⟨h, h2⟩ | h
  · rw [show letB c = false by rw [hd]; simp; omega]
    clear hd
    have b : ((n : Int) == 95) = false := by simp; omega
    go_enter Try.func132, Try.ntmps132
    go_wp2
    go_ret
    first | exact ⟨rfl, rfl⟩ | exact ⟨by simp; omega, rfl⟩
  · rw [show letB c = true by rw [hd]; simp; omega]
    clear hd
    have b : ((n : Int) == 95) = false := by simp; omega
    go_enter Try.func132, Try.ntmps132
    go_wp2
    go_ret
    first | exact ⟨rfl, rfl⟩ | exact ⟨by simp; omega, rfl⟩
  · rw [show letB c = false by rw [hd]; simp; omega]
    clear hd
    have b : ((n : Int) == 95) = false := by simp; omega
    go_enter Try.func132, Try.ntmps132
    go_wp2
    go_ret
    first | exact ⟨rfl, rfl⟩ | exact ⟨by simp; omega, rfl⟩
  · rw [show letB c = true by rw [hd]; rfl]
    clear hd
    go_enter Try.func132, Try.ntmps132
    go_wp2
    go_ret
    first | exact ⟨rfl, rfl⟩ | exact ⟨by simp; omega, rfl⟩
  · rw [show letB c = false by rw [hd]; simp; omega]
    clear hd
    have b : ((n : Int) == 95) = false := by simp; omega
    go_enter Try.func132, Try.ntmps132
    go_wp2
    go_ret
    first | exact ⟨rfl, rfl⟩ | exact ⟨by simp; omega, rfl⟩
  · rw [show letB c = true by rw [hd]; simp; omega]
    clear hd
    have b : ((n : Int) == 95) = false := by simp; omega
    go_enter Try.func132, Try.ntmps132
    go_wp2
    go_ret
    first | exact ⟨rfl, rfl⟩ | exact ⟨by simp; omega, rfl⟩
  · rw [show letB c = false by rw [hd]; simp; omega]
    clear hd
    have b : ((n : Int) == 95) = false := by simp; omega
    go_enter Try.func132, Try.ntmps132
    go_wp2
    go_ret
    first | exact ⟨rfl, rfl⟩ | exact ⟨by simp; omega, rfl⟩
theorem r3letter_any (c : UInt8) (w : World) : Calls Try.prog 124 #[.int .u8 (c.toNat : Int)] w fun e w' => e = .returned (.bool (letB c)) ∧ w = w' := by
  have hd : letB c = ((decide (97 ≤ c.toNat) && decide (c.toNat ≤ 122)) || (decide (65 ≤ c.toNat) && decide (c.toNat ≤ 90)) || decide (c.toNat = 95)) := rfl
  generalize c.toNat = n at hd ⊢
  have hw : n < 65 ∨ (65 ≤ n ∧ n ≤ 90) ∨ (90 < n ∧ n < 95) ∨ n = 95 ∨ (95 < n ∧ n < 97) ∨ (97 ≤ n ∧ n ≤ 122) ∨ 122 < n := by omega
  rcases hw with h | ⟨h, h2⟩ | ⟨h, h2⟩ | rfl | ⟨h, h2⟩ | ⟨h, h2⟩ | h
  · rw [show letB c = false by rw [hd]; simp; omega]
    clear hd
    have b : ((n : Int) == 95) = false := by simp; omega
    go_enter Try.func124, Try.ntmps124
    go_wp2
    go_ret
    first | exact ⟨rfl, rfl⟩ | exact ⟨by simp; omega, rfl⟩
  · rw [show letB c = true by rw [hd]; simp; omega]
    clear hd
    have b : ((n : Int) == 95) = false := by simp; omega
    go_enter Try.func124, Try.ntmps124
    go_wp2
    go_ret
    first | exact ⟨rfl, rfl⟩ | exact ⟨by simp; omega, rfl⟩
  · rw [show letB c = false by rw [hd]; simp; omega]
    clear hd
    have b : ((n : Int) == 95) = false := by simp; omega
    go_enter Try.func124, Try.ntmps124
    go_wp2
    go_ret
    first | exact ⟨rfl, rfl⟩ | exact ⟨by simp; omega, rfl⟩
  · rw [show letB c = true by rw [hd]; rfl]
    clear hd
    go_enter Try.func124, Try.ntmps124
    go_wp2
    go_ret
    first | exact ⟨rfl, rfl⟩ | exact ⟨by simp; omega, rfl⟩
  · rw [show letB c = false by rw [hd]; simp; omega]
    clear hd
    have b : ((n : Int) == 95) = false := by simp; omega
    go_enter Try.func124, Try.ntmps124
    go_wp2
    go_ret
    first | exact ⟨rfl, rfl⟩ | exact ⟨by simp; omega, rfl⟩
  · rw [show letB c = true by rw [hd]; simp; omega]
    clear hd
    have b : ((n : Int) == 95) = false := by simp; omega
    go_enter Try.func124, Try.ntmps124
    go_wp2
    go_ret
    first | exact ⟨rfl, rfl⟩ | exact ⟨by simp; omega, rfl⟩
  · rw [show letB c = false by rw [hd]; simp; omega]
    clear hd
    have b : ((n : Int) == 95) = false := by simp; omega
    go_enter Try.func124, Try.ntmps124
    go_wp2
    go_ret
    first | exact ⟨rfl, rfl⟩ | exact ⟨by simp; omega, rfl⟩

set_option maxHeartbeats 1000000 in
theorem vName_any (s : ByteArray) (w : World) (hs : s.size ≤ maxLen) :
    Calls Try.prog 104 #[.string s] w fun e w' => e = .returned (.bool (nameB s.data.toList)) ∧ w = w' := by
  unfold maxLen at hs
  have hl : s.data.toList.length = s.size := by simp
  have ht := Lib.toList_data s
  cases he : s.toList.isEmpty with
  | true =>
    have he' : s.toList = [] := by simpa using he
    rw [← ht, he', nameB_empty]
    clear hl ht he
    go_enter Try.func104, Try.ntmps104
    go_wp2
    go_ret
    exact ⟨rfl, rfl⟩
  | false =>
    have h0 : 0 < s.size := by
      rcases Nat.eq_zero_or_pos s.size with h | h
      · exfalso
        rw [← hl, List.length_eq_zero_iff, ← ht] at h
        rw [h] at he; cases he
      · exact h
    have H0 : Hid (s.data.toList ≠ []) := fun h => by rw [h] at hl; simp at hl; omega
    have HL := Lib.hid hl
    clear hl ht
    by_cases hlen : 32 < s.size
    · rw [nameB_long (by rw [HL.out]; exact hlen)]
      go_enter Try.func104, Try.ntmps104
      go_wp2
      go_ret
      exact ⟨rfl, rfl⟩
    · cases hd : digB s[0] with
      | true =>
        rw [nameB_at (i := 0) (by rw [HL.out]; exact h0) (by unfold okAt; rw [at_eq s 0 h0, hd]; cases hx : letB s[0]; rfl; rw [let_dig hx] at hd; cases hd)]
        go_enter Try.func104, Try.ntmps104
        go_wp2_with (go_at_call 131; (with_reducible refine (vIsDigit_any _ _).mono ?_); rintro e w' ⟨rfl, rfl⟩)
        go_ret
        exact ⟨rfl, rfl⟩
      | false =>
        go_enter Try.func104, Try.ntmps104
        go_wp2_with (go_at_call 131; (with_reducible refine (vIsDigit_any _ _).mono ?_); rintro e w' ⟨rfl, rfl⟩)
        have HD := Lib.hid hd
        clear hd
        go_loop [18] (fun i => ∃ k : Nat, k ≤ s.size ∧ i = .int .i64 k ∧ Hid (∀ j, j < k → okAt s.data.toList j = true)) (fun i => s.size - (intOf i).toNat)
        case atStart => exact ⟨0, Nat.zero_le _, rfl, fun j hj => absurd hj (Nat.not_lt_zero _)⟩
        case round =>
          obtain ⟨k, hk, rfl, HA⟩ := hrel
          by_cases hlt : k < s.size
          · cases hx : letB s[k] with
            | true =>
              have HA2 : Hid (∀ j, j < k + 1 → okAt s.data.toList j = true) := fun j hj => by
                rcases Nat.lt_succ_iff_lt_or_eq.1 hj with h | h
                · exact HA.out j h
                · rw [h]; unfold okAt; rw [at_eq s k hlt, hx]; rfl
              go_wp2_with (first | (go_at_call 132; (with_reducible refine (vIsLetter_any _ _).mono ?_); rintro e w' ⟨rfl, rfl⟩) | (go_at_call 131; (with_reducible refine (vIsDigit_any _ _).mono ?_); rintro e w' ⟨rfl, rfl⟩))
              go_round
              case rel => exact ⟨k + 1, by omega, by go_num, HA2⟩
              case measure => simp [intOf]; omega
            | false =>
              cases hy : digB s[k] with
              | true =>
                have hk0 : k ≠ 0 := fun h => by subst h; rw [HD.out] at hy; cases hy
                have HA2 : Hid (∀ j, j < k + 1 → okAt s.data.toList j = true) := fun j hj => by
                  rcases Nat.lt_succ_iff_lt_or_eq.1 hj with h | h
                  · exact HA.out j h
                  · rw [h]; unfold okAt; rw [at_eq s k hlt, hx, hy]; simp [hk0]
                clear hk0
                go_wp2_with (first | (go_at_call 132; (with_reducible refine (vIsLetter_any _ _).mono ?_); rintro e w' ⟨rfl, rfl⟩) | (go_at_call 131; (with_reducible refine (vIsDigit_any _ _).mono ?_); rintro e w' ⟨rfl, rfl⟩))
                go_round
                case rel => exact ⟨k + 1, by omega, by go_num, HA2⟩
                case measure => simp [intOf]; omega
              | false =>
                have HN : Hid (nameB s.data.toList = false) := nameB_at (i := k) (by rw [HL.out]; exact hlt) (by unfold okAt; rw [at_eq s k hlt, hx, hy]; rfl)
                go_wp2_with (first | (go_at_call 132; (with_reducible refine (vIsLetter_any _ _).mono ?_); rintro e w' ⟨rfl, rfl⟩) | (go_at_call 131; (with_reducible refine (vIsDigit_any _ _).mono ?_); rintro e w' ⟨rfl, rfl⟩))
                go_ret
                exact ⟨by rw [HN.out]; rfl, rfl⟩
          · have HN : Hid (nameB s.data.toList = true) := nameB_yes H0.out (by rw [HL.out]; omega) (fun i hi => HA.out i (by rw [HL.out] at hi; omega))
            go_wp2
            go_ret
            exact ⟨by rw [HN.out]; rfl, rfl⟩

set_option maxHeartbeats 1000000 in
theorem r3Name_any (s : ByteArray) (w : World) (hs : s.size ≤ maxLen) :
    Calls Try.prog 97 #[.string s] w fun e w' => e = .returned (.bool (nameB s.data.toList)) ∧ w = w' := by
  unfold maxLen at hs
  have hl : s.data.toList.length = s.size := by simp
  have ht := Lib.toList_data s
  cases he : s.toList.isEmpty with
  | true =>
    have he' : s.toList = [] := by simpa using he
    rw [← ht, he', nameB_empty]
    clear hl ht he
    go_enter Try.func97, Try.ntmps97
    go_wp2
    go_ret
    exact ⟨rfl, rfl⟩
  | false =>
    have H0 : Hid (s.data.toList ≠ []) := fun h => by rw [← ht] at h; rw [h] at he; cases he
    have HL := Lib.hid hl
    clear hl ht
    by_cases hlen : 32 < s.size
    · rw [nameB_long (by rw [HL.out]; exact hlen)]
      go_enter Try.func97, Try.ntmps97
      go_wp2
      go_ret
      exact ⟨rfl, rfl⟩
    · go_enter Try.func97, Try.ntmps97
      go_wp2_with fail
      go_loop [3] (fun i => ∃ k : Nat, k ≤ s.size ∧ i = .int .i64 k ∧ Hid (∀ j, j < k → okAt s.data.toList j = true)) (fun i => s.size - (intOf i).toNat)
      case atStart => exact ⟨0, Nat.zero_le _, rfl, fun j hj => absurd hj (Nat.not_lt_zero _)⟩
      case round =>
        obtain ⟨k, hk, rfl, HA⟩ := hrel
        by_cases hlt : k < s.size
        · cases hx : letB s[k] with
          | true =>
            have HA2 : Hid (∀ j, j < k + 1 → okAt s.data.toList j = true) := fun j hj => by
              rcases Nat.lt_succ_iff_lt_or_eq.1 hj with h | h
              · exact HA.out j h
              · rw [h]; unfold okAt; rw [at_eq s k hlt, hx]; rfl
            go_wp2_with (go_at_call 124; (with_reducible refine (r3letter_any _ _).mono ?_); rintro e w' ⟨rfl, rfl⟩)
            go_round
            case rel => exact ⟨k + 1, by omega, by go_num, HA2⟩
            case measure => simp [intOf]; omega
          | false =>
            by_cases hk0 : k = 0
            · subst hk0
              have HN : Hid (nameB s.data.toList = false) := nameB_at (i := 0) (by rw [HL.out]; exact hlt) (by unfold okAt; rw [at_eq s 0 hlt, hx]; simp)
              go_wp2_with (go_at_call 124; (with_reducible refine (r3letter_any _ _).mono ?_); rintro e w' ⟨rfl, rfl⟩)
              go_ret
              exact ⟨by rw [HN.out]; rfl, rfl⟩
            · have bk : ((k : Int) == 0) = false := by simpa using hk0
              have hd : digB s[k] = (decide (48 ≤ s[k].toNat) && decide (s[k].toNat ≤ 57)) := rfl
              by_cases h1 : s[k].toNat < 48
              · have HN : Hid (nameB s.data.toList = false) := nameB_at (i := k) (by rw [HL.out]; exact hlt) (by unfold okAt; rw [at_eq s k hlt, hx, hd]; simp; omega)
                clear hd hk0
                go_wp2_with (go_at_call 124; (with_reducible refine (r3letter_any _ _).mono ?_); rintro e w' ⟨rfl, rfl⟩)
                go_ret
                exact ⟨by rw [HN.out]; rfl, rfl⟩
              · by_cases h2 : 57 < s[k].toNat
                · have HN : Hid (nameB s.data.toList = false) := nameB_at (i := k) (by rw [HL.out]; exact hlt) (by unfold okAt; rw [at_eq s k hlt, hx, hd]; simp; omega)
                  clear hd hk0
                  go_wp2_with (go_at_call 124; (with_reducible refine (r3letter_any _ _).mono ?_); rintro e w' ⟨rfl, rfl⟩)
                  go_ret
                  exact ⟨by rw [HN.out]; rfl, rfl⟩
                · have HA2 : Hid (∀ j, j < k + 1 → okAt s.data.toList j = true) := fun j hj => by
                    rcases Nat.lt_succ_iff_lt_or_eq.1 hj with h | h
                    · exact HA.out j h
                    · rw [h]; unfold okAt; rw [at_eq s k hlt, hx, hd]; simp [hk0]; omega
                  clear hd hk0
                  go_wp2_with (go_at_call 124; (with_reducible refine (r3letter_any _ _).mono ?_); rintro e w' ⟨rfl, rfl⟩)
                  go_round
                  case rel => exact ⟨k + 1, by omega, by go_num, HA2⟩
                  case measure => simp [intOf]; omega
        · have HN : Hid (nameB s.data.toList = true) := nameB_yes H0.out (by rw [HL.out]; omega) (fun i hi => HA.out i (by rw [HL.out] at hi; omega))
          go_wp2
          go_ret
          exact ⟨by rw [HN.out]; rfl, rfl⟩
end Go.Proofs.Ytpbloplbpkedcaa

/- Contract of CheckAttrs, the program's. -/
namespace Go.Proofs.Ytpbloplbpkedcaa
open Go Go.RowKit

theorem Below.drewN' {B : Nat} {a w : World} (h : Below B a w) (n : Nat) : Below B a (w.drewN n) := ⟨h.os, h.tape, h.output, h.size, h.block⟩
theorem leq_at {a b : ByteArray} {c : Int} (h : Lib.compareBytes a.data.toList b.data.toList = c) : Op.bytesLess a.toList b.toList = decide (c < 0) ∧ (a.toList == b.toList) = decide (c = 0) := by
  rw [less_cb, eq_cb, Lib.toList_data, Lib.toList_data, h]; exact ⟨rfl, rfl⟩

set_option maxRecDepth 100000 in
set_option maxHeartbeats 3200000 in
theorem vCheckAttrs_any (B : Nat) (ao : Option Addr) (n cap : Nat) (xs : List At) (w : World) (h : Av w B (.slice ao n cap) xs) (hB : B ≤ w.heap.size) :
    Calls Try.prog 109 #[.slice ao n cap] w fun e w' => e = .returned (.int .i64 (ckAll xs)) ∧ Below w.heap.size w w' := by
  obtain ⟨hn, hn63⟩ := h.num
  have HH := Lib.hid h; have HN := Lib.hid hn; have HWD := Lib.hid h.wide
  by_cases h8 : 8 < n
  · rw [show ckAll xs = 3 by unfold ckAll; rw [if_pos (by omega)]]
    clear h hn
    go_enter Try.func109, Try.ntmps109
    go_wp2
    go_ret
    exact ⟨rfl, Below.refl _ _⟩
  · rw [show ckAll xs = ckGo xs 0 by unfold ckAll; rw [if_neg (by omega)]]
    clear h hn
    go_enter Try.func109, Try.ntmps109
    go_wp2_with fail
    go_loopw [11] (fun i wr => ∃ k : Nat, k ≤ n ∧ i = .int .i64 k ∧ Hid (ckGo xs 0 = ckGo xs k) ∧ Below w.heap.size w wr) (fun i _ => n - (intOf i).toNat)
    case atStart => exact ⟨0, Nat.zero_le _, rfl, rfl, Below.refl _ _⟩
    case round =>
      obtain ⟨k, hk, rfl, HK, hb⟩ := hrel
      have HB := Lib.hid hb; clear hb
      by_cases hlt : k < n
      · obtain ⟨b, o, rfl, hbB, hnx, hnc, hcap, hc⟩ := HH.out.at (by omega)
        have hkx : k < xs.length := by rw [← hnx]; exact hlt
        have hkz : (0 : Int) ≤ (k : Int) := by omega
        obtain ⟨x0, hx0⟩ : ∃ x, x = xs[k]! := ⟨_, rfl⟩
        have hcr : ∀ q, q < w.heap.size → ∀ j, wr.cell? ⟨q, j, none⟩ = w.cell? ⟨q, j, none⟩ := fun q hq j => HB.out.cell (p := ⟨q, j, none⟩) hq
        obtain ⟨a0, a1, a2, a3⟩ := four_cells (w := wr) (b := b) (a := o + k * 4) (x := x0) (fun i u hu => (hcr b (by omega) _).trans (hc k hkx i u (by rw [← hx0]; exact hu)))
        have hwd := HWD.out x0 (by rw [hx0, getElem!_pos xs k hkx]; exact List.getElem_mem _)
        have C1 := fun w => vName_any x0.name w hwd.1
        have C2 := fun w => vCheck_any x0.k x0.n x0.s w hwd.2
        have hbw : b < wr.heap.size := by have := HB.out.size; omega
        have HX := Lib.hid hx0; have HC := Lib.hid hc; have HKX := Lib.hid hkx
        clear hx0 hc hcr hnx hkx hwd
        have hne : b ≠ wr.heap.size := by omega
        cases hnm : nameB x0.name.data.toList with
        | false =>
          have HR : Hid (ckGo xs k = 31) := ckGo_name HKX.out (by rw [← HX.out]; exact hnm)
          rw [hnm] at C1
          have HC1 := Lib.hid C1
          clear hnm C1 C2
          go_wp2_with (go_at_call 104; (with_reducible refine (HC1.out _).mono ?_); rintro e w' ⟨rfl, rfl⟩)
          go_ret
          exact ⟨by rw [HK.out, HR.out]; rfl, HB.out.alloc HB.out.size _⟩
        | true =>
          rw [hnm] at C1
          cases hcv : ckB x0.k x0.n x0.s.data.toList with
          | false =>
            have HR : Hid (ckGo xs k = 30) := ckGo_val HKX.out (by rw [← HX.out]; exact hnm) (by rw [← HX.out]; exact hcv)
            rw [ckI_no hcv] at C2
            have HC1 := Lib.hid C1; have HC2 := Lib.hid C2
            clear hnm hcv C1 C2
            go_wp2_with (first | (go_at_call 104; (with_reducible refine (HC1.out _).mono ?_); rintro e w' ⟨rfl, rfl⟩) | (go_at_call 134; (with_reducible refine (HC2.out _).mono ?_); rintro e w2 ⟨rfl, hb2⟩; have HB2 := Lib.hid hb2; clear hb2))
            go_ret
            exact ⟨by rw [HK.out, HR.out]; rfl, (HB.out.alloc HB.out.size _).trans (HB2.out.mono (by have := HB.out.size; simp; omega))⟩
          | true =>
            rw [ckI_ok hcv] at C2
            have HC1 := Lib.hid C1; have HC2 := Lib.hid C2
            by_cases hk0 : k = 0
            · subst hk0
              have HR : Hid (ckGo xs 0 = ckGo xs 1) := ckGo_go HKX.out (by rw [← HX.out]; exact hnm) (by rw [← HX.out]; exact hcv) (by omega)
              simp only [Nat.zero_mul, Nat.add_zero] at a0 a1 a2 a3
              clear hnm hcv C1 C2
              go_wp2_with (first | (go_at_call 104; (with_reducible refine (HC1.out _).mono ?_); rintro e w' ⟨rfl, rfl⟩) | (go_at_call 134; (with_reducible refine (HC2.out _).mono ?_); rintro e w2 ⟨rfl, hb2⟩; have HB2 := Lib.hid hb2; obtain ⟨hc2, hf2⟩ := bcell hb2; have hz2 : wr.heap.size < w2.heap.size := (by have := hb2.size; simp at this; omega); clear hb2))
              go_quiet (fail)
              go_wp2
              go_roundw
              case rel => exact ⟨1, by omega, rfl, HR.out, Below.drewN' ((HB.out.alloc HB.out.size _).trans (HB2.out.mono (by have := HB.out.size; simp; omega))) _⟩
              case measure => simp [intOf]; omega
            · obtain ⟨p, rfl⟩ : ∃ p, k = p + 1 := ⟨k - 1, by omega⟩
              obtain ⟨y, hy⟩ : ∃ y, y = xs[p]! := ⟨_, rfl⟩
              have hcr : ∀ q, q < w.heap.size → ∀ j, wr.cell? ⟨q, j, none⟩ = w.cell? ⟨q, j, none⟩ := fun q hq j => HB.out.cell (p := ⟨q, j, none⟩) hq
              have p0 : wr.cell? ⟨b, o + p * 4, none⟩ = some (.string y.name) := (hcr b (by omega) _).trans (HC.out p (by have := HKX.out; omega) 0 _ (by rw [← hy]; rfl))
              clear hcr
              have hle := leq_at (a := x0.name) (b := y.name) rfl
              by_cases hlec : Lib.compareBytes x0.name.data.toList y.name.data.toList ≤ 0
              · have HR : Hid (ckGo xs (p + 1) = 32) := ckGo_ord HKX.out (by rw [← HX.out]; exact hnm) (by rw [← HX.out]; exact hcv) ⟨by omega, by rw [← HX.out]; simp only [Nat.add_sub_cancel]; rw [← hy]; exact hlec⟩
                have hr := cb_range x0.name.data.toList y.name.data.toList
                obtain ⟨hl1, hl2⟩ := hle
                generalize Lib.compareBytes x0.name.data.toList y.name.data.toList = c at hl1 hl2 hlec hr
                have hc3 : c = -1 ∨ c = 0 := by omega
                clear hnm hcv C1 C2 hy hlec hr hk0
                rcases hc3 with rfl | rfl
                all_goals
                  simp only [show decide ((-1 : Int) < 0) = true from rfl, show decide ((0 : Int) < 0) = false from rfl, show decide ((-1 : Int) = 0) = false from rfl] at hl1 hl2
                  go_wp2_with (first | (go_at_call 104; (with_reducible refine (HC1.out _).mono ?_); rintro e w' ⟨rfl, rfl⟩) | (go_at_call 134; (with_reducible refine (HC2.out _).mono ?_); rintro e w2 ⟨rfl, hb2⟩; have HB2 := Lib.hid hb2; obtain ⟨hc2, hf2⟩ := bcell hb2; have hz2 : wr.heap.size < w2.heap.size := (by have := hb2.size; simp at this; omega); clear hb2))
                  go_quiet (fail)
                  go_wp2
                  go_ret
                  exact ⟨by rw [HK.out, HR.out]; rfl, Below.drewN' ((HB.out.alloc HB.out.size _).trans (HB2.out.mono (by have := HB.out.size; simp; omega))) _⟩
              · have HR : Hid (ckGo xs (p + 1) = ckGo xs (p + 1 + 1)) := ckGo_go HKX.out (by rw [← HX.out]; exact hnm) (by rw [← HX.out]; exact hcv) (fun hh => hlec (by have := hh.2; rw [← HX.out] at this; simp only [Nat.add_sub_cancel] at this; rw [← hy] at this; exact this))
                obtain ⟨hl1, hl2⟩ := hle
                rw [decide_eq_false (by omega)] at hl1 hl2
                clear hnm hcv C1 C2 hy hlec hk0
                go_wp2_with (first | (go_at_call 104; (with_reducible refine (HC1.out _).mono ?_); rintro e w' ⟨rfl, rfl⟩) | (go_at_call 134; (with_reducible refine (HC2.out _).mono ?_); rintro e w2 ⟨rfl, hb2⟩; have HB2 := Lib.hid hb2; obtain ⟨hc2, hf2⟩ := bcell hb2; have hz2 : wr.heap.size < w2.heap.size := (by have := hb2.size; simp at this; omega); clear hb2))
                go_quiet (fail)
                go_wp2
                go_roundw
                case rel => exact ⟨p + 1 + 1, by omega, by go_num, HK.out.trans HR.out, Below.drewN' ((HB.out.alloc HB.out.size _).trans (HB2.out.mono (by have := HB.out.size; simp; omega))) _⟩
                case measure => simp [intOf]; omega
      · have HR : Hid (ckGo xs k = 0) := ckGo_end (by rw [← HN.out]; exact hlt)
        go_wp2
        go_ret
        exact ⟨by rw [HK.out, HR.out]; rfl, HB.out⟩
end Go.Proofs.Ytpbloplbpkedcaa

/- Contracts: whether two lists of attributes are the same: the program's call and the document's. -/
namespace Go.Proofs.Ytpbloplbpkedcaa
open Go Go.RowKit Go.Lib

def sameA (xs ys : List At) : Bool := decide (xs = ys)
theorem allEq_same (xs ys : List At) : Lib.allEq aEq xs ys = sameA xs ys := by
  unfold sameA
  by_cases hl : xs.length = ys.length
  · by_cases h : xs = ys
    · subst h
      rw [decide_eq_true rfl]
      exact Lib.allEq_all aEq xs xs rfl (fun j _ => aEq_iff.2 rfl)
    · rw [decide_eq_false h]
      obtain ⟨j, hj, hne⟩ : ∃ j, j < xs.length ∧ xs[j]! ≠ ys[j]! := by
        refine Classical.byContradiction fun hc => h ?_
        refine List.ext_getElem hl fun i h1 h2 => ?_
        rw [← getElem!_pos xs i h1, ← getElem!_pos ys i h2]
        exact Classical.byContradiction fun hn => hc ⟨i, h1, hn⟩
      exact Lib.allEq_elem aEq xs ys j hj (by omega) (by rw [Bool.eq_false_iff]; exact fun h2 => hne (aEq_iff.1 h2))
  · rw [Lib.allEq_len aEq xs ys hl, decide_eq_false (fun h => hl (by rw [h]))]
theorem sameA_len {xs ys : List At} (h : xs.length ≠ ys.length) : sameA xs ys = false := decide_eq_false fun e => h (by rw [e])
theorem sameA_nil {xs ys : List At} (h : xs.length = 0) (h2 : ys.length = 0) : sameA xs ys = true := by
  obtain rfl := List.length_eq_zero_iff.1 h
  obtain rfl := List.length_eq_zero_iff.1 h2
  rfl

set_option maxRecDepth 100000 in
set_option maxHeartbeats 1600000 in
theorem r3SameAttrs_any (B B2 : Nat) (ao : Option Addr) (n cap : Nat) (xs : List At) (ao2 : Option Addr) (n2 cap2 : Nat) (ys : List At) (w : World) (h1 : Av w B (.slice ao n cap) xs) (h2 : Av w B2 (.slice ao2 n2 cap2) ys) :
    Calls Try.prog 92 #[.slice ao n cap, .slice ao2 n2 cap2] w fun e w' => e = .returned (.bool (sameA xs ys)) ∧ Below w.heap.size w w' := by
  obtain ⟨hn, hn63⟩ := h1.num
  obtain ⟨hm, hm63⟩ := h2.num
  by_cases hnm : n = n2
  · subst hnm
    have H1 := Lib.hid h1; have H2 := Lib.hid h2; have HN := Lib.hid hn; have HM := Lib.hid hm
    have hne : ∀ (x y : At) (w : World), Sem.run Try.prog (binOp .neq 78 (.agg #[.string x.name, .int .i64 x.k, .int .i64 x.n, .string x.s]) (.agg #[.string y.name, .int .i64 y.k, .int .i64 y.n, .string y.s])) w = .ok (.bool (!aEq x y)) w := aNe.1
    have hgd : ∀ (op : BinOp) (a b : Operand) (x y : At) (w : World), Sem.run Try.prog (eqGuard op 78 a b (.agg #[.string x.name, .int .i64 x.k, .int .i64 x.n, .string x.s]) (.agg #[.string y.name, .int .i64 y.k, .int .i64 y.n, .string y.s])) w = .ok () w := aNe.2
    have HNE := Lib.hid hne; have HGD := Lib.hid hgd
    clear h1 h2 hn hm hne hgd
    go_enter Try.func92, Try.ntmps92
    go_wp2_with fail
    go_loopw [5] (fun i wr => ∃ k : Nat, k ≤ n ∧ i = .int .i64 k ∧ Hid (∀ j, j < k → xs[j]! = ys[j]!) ∧ Below w.heap.size w wr ∧ Hid (∀ b o, wr.cell? ⟨b, o, none⟩ = w.cell? ⟨b, o, none⟩)) (fun i _ => n - (intOf i).toNat)
    case atStart => exact ⟨0, Nat.zero_le _, rfl, fun j hj => absurd hj (Nat.not_lt_zero _), Below.refl _ _, fun _ _ => rfl⟩
    case round =>
      obtain ⟨k, hk, rfl, HK, hb, HC⟩ := hrel
      have HB := Lib.hid hb; clear hb
      by_cases hlt : k < n
      · obtain ⟨b, o, rfl, _, _, hnc, hcap, hc⟩ := H1.out.at (by omega)
        obtain ⟨b2, o2, rfl, _, _, hnc2, hcap2, hc2⟩ := H2.out.at (by omega)
        have hkz : (0 : Int) ≤ (k : Int) := by omega
        obtain ⟨x, hx⟩ : ∃ x, x = xs[k]! := ⟨_, rfl⟩
        obtain ⟨y, hy⟩ : ∃ y, y = ys[k]! := ⟨_, rfl⟩
        obtain ⟨a0, a1, a2, a3⟩ := four_cells (w := wr) (b := b) (a := o + k * 4) (x := x) (fun i u hu => (HC.out _ _).trans (hc k (by have := HN.out; omega) i u (by rw [← hx]; exact hu)))
        obtain ⟨d0, d1, d2, d3⟩ := four_cells (w := wr) (b := b2) (a := o2 + k * 4) (x := y) (fun i u hu => (HC.out _ _).trans (hc2 k (by have := HM.out; omega) i u (by rw [← hy]; exact hu)))
        have e1 := HNE.out x y; have e2 := fun op a b => HGD.out op a b x y
        have HX := Lib.hid hx; have HY := Lib.hid hy
        clear hc hc2 hx hy
        cases hq : aEq x y with
        | true =>
          have hxy : x = y := aEq_iff.1 hq
          have HXY := Lib.hid hxy
          clear hxy
          rw [hq] at e1
          clear hq
          go_wp2_with fail
          try go_quiet (fail)
          go_wp2
          go_roundw
          case rel => exact ⟨k + 1, by omega, by go_num, (fun j hj => (Nat.lt_succ_iff_lt_or_eq.1 hj).elim (fun h => HK.out j h) (fun h => by rw [h, ← HX.out, ← HY.out]; exact HXY.out)), (by first | exact Below.drewN' HB.out _ | exact HB.out), (fun b o => HC.out b o)⟩
          case measure => simp [intOf]; omega
        | false =>
          have HS : Hid (sameA xs ys = false) := decide_eq_false fun e => by
            rw [HX.out, HY.out, e, aEq_iff.2 rfl] at hq; cases hq
          rw [hq] at e1
          clear hq
          go_wp2_with fail
          try go_quiet (fail)
          go_wp2
          go_ret
          exact ⟨by rw [HS.out]; rfl, by first | exact Below.drewN' HB.out _ | exact HB.out⟩
      · have HS : Hid (sameA xs ys = true) := decide_eq_true (List.ext_getElem (by have := HN.out; have := HM.out; omega) fun i h1 h2 => by
          rw [← getElem!_pos xs i h1, ← getElem!_pos ys i h2]; exact HK.out i (by have := HN.out; omega))
        go_wp2
        go_ret
        exact ⟨by rw [HS.out]; rfl, HB.out⟩
  · rw [sameA_len (by omega)]
    have hb : ((n : Int) == (n2 : Int)) = false := by simp; omega
    clear h1 h2 hn hm hnm
    go_enter Try.func92, Try.ntmps92
    go_wp2
    go_ret
    exact ⟨rfl, Below.refl _ _⟩
end Go.Proofs.Ytpbloplbpkedcaa
