/- The mathematics of attributes: which may be, in which order they stand. No program in this text. -/
import Derived.Test.YtcnecokamckfaaaGreatDoorVm
import Derived.Shelf.SlSortCmp.InsertionK
namespace Go.Proofs.YtcnecokamckfaaaGreatDoor
open Go Go.Sort

/-- An attribute: its name; its value's kind, number, text. -/
structure At where
  name : ByteArray
  k : Int
  n : Int
  s : ByteArray
  deriving DecidableEq, Inhabited
def enc4 (x : At) : List Value := [.string x.name, .int .i64 x.k, .int .i64 x.n, .string x.s]
def cfA (x y : At) : Int := Lib.compareBytes x.name.data.toList y.name.data.toList
theorem cfA_swap (x y : At) : cfA y x = -cfA x y := cb_swap _ _

/-- What is wrong with attributes from the i-th on. -/
def ckGo (xs : List At) (i : Nat) : Int :=
  if i < xs.length then
    if nameB xs[i]!.name.data.toList = false then 31
    else if ckB xs[i]!.k xs[i]!.n xs[i]!.s.data.toList = false then 30
    else if 0 < i ∧ cfA xs[i]! xs[i - 1]! ≤ 0 then 32
    else ckGo xs (i + 1)
  else 0
termination_by xs.length - i
def ckAll (xs : List At) : Int := if 8 < xs.length then 3 else ckGo xs 0
theorem ckGo_end {xs : List At} {i : Nat} (h : ¬ i < xs.length) : ckGo xs i = 0 := by rw [ckGo, if_neg h]
theorem ckGo_name {xs : List At} {i : Nat} (h : i < xs.length) (h1 : nameB xs[i]!.name.data.toList = false) : ckGo xs i = 31 := by rw [ckGo, if_pos h, if_pos h1]
theorem ckGo_val {xs : List At} {i : Nat} (h : i < xs.length) (h1 : nameB xs[i]!.name.data.toList = true) (h2 : ckB xs[i]!.k xs[i]!.n xs[i]!.s.data.toList = false) : ckGo xs i = 30 := by
  rw [ckGo, if_pos h, if_neg (by rw [h1]; decide), if_pos h2]
theorem ckGo_ord {xs : List At} {i : Nat} (h : i < xs.length) (h1 : nameB xs[i]!.name.data.toList = true) (h2 : ckB xs[i]!.k xs[i]!.n xs[i]!.s.data.toList = true) (h3 : 0 < i ∧ cfA xs[i]! xs[i - 1]! ≤ 0) : ckGo xs i = 32 := by
  rw [ckGo, if_pos h, if_neg (by rw [h1]; decide), if_neg (by rw [h2]; decide), if_pos h3]
theorem ckGo_go {xs : List At} {i : Nat} (h : i < xs.length) (h1 : nameB xs[i]!.name.data.toList = true) (h2 : ckB xs[i]!.k xs[i]!.n xs[i]!.s.data.toList = true) (h3 : ¬ (0 < i ∧ cfA xs[i]! xs[i - 1]! ≤ 0)) : ckGo xs i = ckGo xs (i + 1) := by
  rw [ckGo, if_pos h, if_neg (by rw [h1]; decide), if_neg (by rw [h2]; decide), if_neg h3]
theorem ckGo_range (xs : List At) (i : Nat) : 0 ≤ ckGo xs i ∧ ckGo xs i ≤ 32 := by
  generalize hm : xs.length - i = m
  induction m generalizing i with
  | zero => rw [ckGo_end (by omega)]; omega
  | succ m ih =>
    rw [ckGo]
    have := ih (i + 1) (by omega)
    split
    · split
      · omega
      · split
        · omega
        · split
          · omega
          · exact this
    · omega

/-- Put behind the last that is not above it. -/
def insRev : List At → At → List At
  | [], x => [x]
  | a :: r, x => if cfA x a < 0 then a :: insRev r x else x :: a :: r
def insL (l : List At) (x : At) : List At := (insRev l.reverse x).reverse
def sortL (l : List At) : List At := l.foldl insL []
theorem insRev_len : ∀ (l : List At) (x : At), (insRev l x).length = l.length + 1
  | [], x => rfl
  | a :: r, x => by
    have := insRev_len r x
    unfold insRev; split
    · simp [this]
    · simp
theorem insL_len (l : List At) (x : At) : (insL l x).length = l.length + 1 := by simp [insL, insRev_len]
theorem sortL_snoc (l : List At) (x : At) : sortL (l ++ [x]) = insL (sortL l) x := by simp [sortL]
theorem sortL_len (l : List At) : (sortL l).length = l.length := by
  suffices h : ∀ (l acc : List At), (l.foldl insL acc).length = acc.length + l.length by simpa [sortL] using h l []
  intro l
  induction l with
  | nil => simp
  | cons a r ih => intro acc; rw [List.foldl_cons, ih, insL_len]; simp; omega
theorem insRev_mem : ∀ (l : List At) (x y : At), y ∈ insRev l x → y = x ∨ y ∈ l
  | [], x, y, h => by simp [insRev] at h; exact .inl h
  | a :: r, x, y, h => by
    unfold insRev at h
    split at h
    · rcases List.mem_cons.1 h with h | h
      · exact .inr (by simp [h])
      · rcases insRev_mem r x y h with h | h
        · exact .inl h
        · exact .inr (by simp [h])
    · simpa using h
theorem sortL_mem (l : List At) (y : At) (h : y ∈ sortL l) : y ∈ l := by
  suffices hh : ∀ (l acc : List At), y ∈ l.foldl insL acc → y ∈ acc ∨ y ∈ l by
    rcases hh l [] h with h | h
    · simp at h
    · exact h
  intro l
  induction l with
  | nil => intro acc h; exact .inl h
  | cons a r ih =>
    intro acc h
    rcases ih _ h with h | h
    · have h2 : y ∈ insRev acc.reverse a := by simpa [insL] using h
      rcases insRev_mem _ _ _ h2 with h | h
      · exact .inr (by simp [h])
      · exact .inl (by simpa using h)
    · exact .inr (by simp [h])
theorem insRev_all : ∀ (B A : List At) (x : At), (∀ b ∈ B, cfA x b < 0) → insRev (B ++ A) x = B ++ insRev A x
  | [], A, x, _ => rfl
  | b :: B, A, x, h => by
    have h1 := h b (by simp)
    rw [List.cons_append, insRev, if_pos h1, insRev_all B A x (fun c hc => h c (by simp [hc]))]; rfl
/-- Where it is put. -/
theorem insL_at (A B : List At) (x : At) (hB : ∀ b ∈ B, cfA x b < 0) (hA : ∀ a, A.getLast? = some a → ¬ cfA x a < 0) : insL (A ++ B) x = A ++ x :: B := by
  unfold insL
  rw [List.reverse_append, insRev_all _ _ _ (fun b hb => hB b (by simpa using hb))]
  have h2 : insRev A.reverse x = x :: A.reverse := by
    cases hr : A.reverse with
    | nil => rfl
    | cons a r =>
      have ha : A.getLast? = some a := by rw [← List.head?_reverse, hr]; rfl
      rw [insRev, if_neg (hA a ha)]
  rw [h2]; simp

/-! The library's insertion sort lays them so. -/
theorem swp_two (A C : List At) (a x : At) : swp (A ++ a :: x :: C).toArray (A.length + 1) A.length = (A ++ x :: a :: C).toArray := by
  have h0 : (A ++ a :: x :: C).toArray[A.length]! = a := by simp
  have h1 : (A ++ a :: x :: C).toArray[A.length + 1]! = x := by simp
  unfold swp
  rw [h0, h1]
  simp
theorem insInner_eq (x : At) : ∀ (R C : List At), insInner (ltOf cfA) 0 R.length (R.reverse ++ x :: C).toArray = ((insRev R x).reverse ++ C).toArray
  | [], C => by simp [insInner, insRev]
  | a :: R, C => by
    have e : (a :: R).reverse ++ x :: C = R.reverse ++ a :: x :: C := by simp
    rw [e, List.length_cons, insInner]
    have h0 : (R.reverse ++ a :: x :: C).toArray[R.length]! = a := by
      have : R.length = R.reverse.length := by simp
      rw [this]; simp
    have h1 : (R.reverse ++ a :: x :: C).toArray[R.length + 1]! = x := by
      have : R.length = R.reverse.length := by simp
      rw [this]; simp
    rw [h0, h1]
    by_cases hlt : cfA x a < 0
    · have hc : (decide (R.length + 1 > 0) && ltOf cfA x a) = true := by simp [ltOf, hlt]
      rw [if_pos hc]
      have hs := swp_two R.reverse C a x
      rw [List.length_reverse] at hs
      rw [hs, insInner_eq x R (a :: C), insRev, if_pos hlt]
      simp
    · have hc : ¬ (decide (R.length + 1 > 0) && ltOf cfA x a) = true := by simp [ltOf, hlt]
      rw [if_neg hc, insRev, if_neg hlt]
      simp
theorem insOuter_eq (xs : List At) : ∀ (m i : Nat), i + m = xs.length → 1 ≤ i → insOuter (ltOf cfA) 0 xs.length i (sortL (xs.take i) ++ xs.drop i).toArray = (sortL xs).toArray
  | 0, i, h, _ => by
    rw [insOuter, if_neg (by omega), List.take_of_length_le (by omega), List.drop_of_length_le (by omega)]; simp
  | m + 1, i, h, h1 => by
    have hi : i < xs.length := by omega
    rw [insOuter, if_pos hi]
    have hl : (sortL (xs.take i)).reverse.length = i := by rw [List.length_reverse, sortL_len, List.length_take]; omega
    have hd : xs.drop i = xs[i] :: xs.drop (i + 1) := List.drop_eq_getElem_cons hi
    have hin := insInner_eq xs[i] (sortL (xs.take i)).reverse (xs.drop (i + 1))
    rw [hl, List.reverse_reverse] at hin
    rw [hd, hin]
    have ht : xs.take (i + 1) = xs.take i ++ [xs[i]] := List.take_succ_eq_append_getElem hi
    have := insOuter_eq xs m (i + 1) (by omega) (by omega)
    rw [ht, sortL_snoc] at this
    exact this
theorem insertion_eq (xs : List At) : insertionSort (ltOf cfA) xs.toArray 0 xs.length = (sortL xs).toArray := by
  unfold insertionSort
  cases xs with
  | nil => rw [insOuter, if_neg (by simp)]; rfl
  | cons a r =>
    have h := insOuter_eq (a :: r) r.length 1 (by simp; omega) (Nat.le_refl _)
    simpa [sortL, insL, insRev] using h
end Go.Proofs.YtcnecokamckfaaaGreatDoor
