/- The mathematics of words: blanks, symbols, the outline of a word, words one behind the other. No program in this text. -/
import Derived.Test.YtdmdakkibgjffaaDoorVm
import Derived.Test.YtdmdakkibgjffaaDoorTm
import Derived.Lib.SlTrimSet
import Derived.Lib.IndexLaws
import Derived.Lib.Join
namespace Go.Proofs.YtdmdakkibgjffaaDoor
open Go

def blB (c : UInt8) : Bool := c == 32 || c == 9 || c == 10 || c == 13
/-- How many bytes of blanks a text begins with; `true`: within a comment. -/
def bk : Bool → List UInt8 → Nat
  | _, [] => 0
  | true, c :: r => 1 + bk (c != 10) r
  | false, c :: r => if blB c then 1 + bk false r else if c = 35 then 1 + bk true r else 0
theorem bk_le : ∀ (b : Bool) (l : List UInt8), bk b l ≤ l.length
  | b, [] => by cases b <;> simp [bk]
  | true, c :: r => by have := bk_le (c != 10) r; simp only [bk, List.length_cons]; omega
  | false, c :: r => by
    have h1 := bk_le false r; have h2 := bk_le true r
    simp only [bk, List.length_cons]; split
    · omega
    · split <;> omega
theorem bk_nil (b : Bool) : bk b [] = 0 := by cases b <;> rfl
theorem bk_bl {c : UInt8} {r : List UInt8} (h : blB c = true) : bk false (c :: r) = 1 + bk false r := by simp [bk, h]
theorem bk_hash (r : List UInt8) : bk false (35 :: r) = 1 + bk true r := by simp [bk, blB]
theorem bk_hash_in (r : List UInt8) : bk true (35 :: r) = 1 + bk true r := by simp [bk]
theorem bk_no {c : UInt8} {r : List UInt8} (h : blB c = false) (h2 : c ≠ 35) : bk false (c :: r) = 0 := by simp [bk, h, h2]
theorem bk_in {c : UInt8} {r : List UInt8} (h : c ≠ 10) : bk true (c :: r) = 1 + bk true r := by
  have : (c != 10) = true := by simpa using h
  simp [bk, this]
theorem bk_nl (r : List UInt8) : bk true (10 :: r) = bk false (10 :: r) := by simp [bk, blB]
theorem bk_com : ∀ (l : List UInt8), (Lib.indexByte l 10 = -1 → bk true l = l.length) ∧ (∀ n : Nat, Lib.indexByte l 10 = (n : Int) → bk true l = n + 1 + bk false (l.drop (n + 1)) ∧ n < l.length)
  | [] => ⟨fun _ => rfl, fun n h => by simp [Lib.indexByte] at h⟩
  | c :: r => by
    obtain ⟨h1, h2⟩ := bk_com r
    have hg := Lib.indexByte_ge r 10
    by_cases hc : c = 10
    · subst hc
      refine ⟨fun h => by simp [Lib.indexByte] at h, fun n h => ?_⟩
      have : n = 0 := by simp only [Lib.indexByte, beq_self_eq_true, if_true] at h; omega
      subst this
      simp [bk]
    · have hc' : (c == 10) = false := by simpa using hc
      rw [bk_in hc]
      by_cases hm : Lib.indexByte r 10 = -1
      · refine ⟨fun _ => by rw [h1 hm]; simp; omega, fun n h => ?_⟩
        simp [Lib.indexByte, hc', hm] at h
      · have hm' : (Lib.indexByte r 10 == -1) = false := by simpa using hm
        refine ⟨fun h => by simp [Lib.indexByte, hc', hm'] at h; omega, fun n h => ?_⟩
        simp [Lib.indexByte, hc', hm'] at h
        obtain ⟨m, rfl⟩ : ∃ m, n = m + 1 := ⟨n - 1, by omega⟩
        obtain ⟨h3, h4⟩ := h2 m (by omega)
        rw [h3]
        simp only [List.drop_succ_cons, List.length_cons]
        omega
/-- How many bytes the comment has that a text begins with. -/
def comI (l : List UInt8) : Int := if 0 ≤ Lib.indexByte l 10 then Lib.indexByte l 10 + 1 else l.length
theorem comI_step (r : List UInt8) : ∃ n : Nat, comI (35 :: r) = (n : Int) ∧ 1 ≤ n ∧ n ≤ r.length + 1 ∧ bk false (35 :: r) = n + bk false ((35 :: r).drop n) := by
  obtain ⟨h1, h2⟩ := bk_com (35 :: r)
  have hg := Lib.indexByte_ge (35 :: r) 10
  rw [bk_hash, ← bk_hash_in]
  unfold comI
  by_cases h : 0 ≤ Lib.indexByte (35 :: r) 10
  · rw [if_pos h]
    obtain ⟨h3, h4⟩ := h2 (Lib.indexByte (35 :: r) 10).toNat (by omega)
    exact ⟨(Lib.indexByte (35 :: r) 10).toNat + 1, by omega, by omega, by simp at h4; omega, h3⟩
  · rw [if_neg h]
    have h5 := h1 (by omega)
    refine ⟨r.length + 1, by simp, by omega, by omega, ?_⟩
    rw [h5, List.drop_of_length_le (by simp), bk_nil]; simp
/-- The place behind the blanks that stand at a place. -/
def blkI (l : List UInt8) (i : Int) : Int := if 0 ≤ i ∧ i ≤ l.length then i + bk false (l.drop i.toNat) else i
theorem blkI_at {l : List UInt8} {k : Nat} (h : k ≤ l.length) : blkI l (k : Int) = (k + bk false (l.drop k) : Nat) := by
  unfold blkI; rw [if_pos (by omega)]; simp

def syms : List (List UInt8) := [[40], [41], [91], [93], [44], [46], [59], [38], [124], [58], [61], [33, 61], [60], [60, 61], [62], [62, 61]]
def symB (l : List UInt8) : Bool := syms.contains l

/-- The bytes up to the end of a string (its first quote left out), if it ends. -/
def clo : List UInt8 → Option Nat
  | [] => none
  | [c] => if c = 34 then some 1 else none
  | c :: d :: r => if c = 34 then some 1 else if c = 92 then (clo r).map (· + 2) else (clo (d :: r)).map (· + 1)
theorem clo_cons (c : UInt8) (r : List UInt8) (h : c ≠ 34) (h2 : c ≠ 92) : clo (c :: r) = (clo r).map (· + 1) := by
  cases r with
  | nil => simp [clo, h]
  | cons d r => simp [clo, h, h2]
theorem clo_quote (r : List UInt8) : clo (34 :: r) = some 1 := by cases r <;> simp [clo]
theorem clo_slash (d : UInt8) (r : List UInt8) : clo (92 :: d :: r) = (clo r).map (· + 2) := by simp [clo]
theorem clo_le : ∀ (l : List UInt8) (n : Nat), clo l = some n → 1 ≤ n ∧ n ≤ l.length
  | [], n, h => by simp [clo] at h
  | [c], n, h => by
    simp only [clo] at h
    split at h
    · simp at h; subst h; simp
    · cases h
  | c :: d :: r, n, h => by
    simp only [clo] at h
    split at h
    · simp at h; subst h; simp
    · split at h
      · obtain ⟨m, hm, rfl⟩ := Option.map_eq_some_iff.1 h
        have := clo_le r m hm; simp; omega
      · obtain ⟨m, hm, rfl⟩ := Option.map_eq_some_iff.1 h
        have := clo_le (d :: r) m hm; simp at this ⊢; omega
theorem clo_app : ∀ (l y : List UInt8) (n : Nat), clo l = some n → clo (l ++ y) = some n
  | [], y, n, h => by simp [clo] at h
  | [c], y, n, h => by
    simp only [clo] at h
    split at h
    · subst_vars; rw [List.singleton_append, clo_quote]; exact h
    · cases h
  | c :: d :: r, y, n, h => by
    simp only [clo] at h
    split at h
    · subst_vars; rw [List.cons_append, clo_quote]; exact h
    · rename_i hc
      split at h
      · rename_i hc2
        obtain ⟨m, hm, rfl⟩ := Option.map_eq_some_iff.1 h
        rw [hc2, List.cons_append, List.cons_append, clo_slash, clo_app r y m hm]; rfl
      · rename_i hc2
        obtain ⟨m, hm, rfl⟩ := Option.map_eq_some_iff.1 h
        have := clo_app (d :: r) y m hm
        rw [List.cons_append, clo_cons _ _ hc hc2, this]; rfl
theorem clo_take : ∀ (l : List UInt8) (n : Nat), clo l = some n → clo (l.take n) = some n
  | [], n, h => by simp [clo] at h
  | [c], n, h => by
    have h2 := clo_le _ _ h
    rw [List.take_of_length_le (by simpa using h2.1)]; exact h
  | c :: d :: r, n, h => by
    have h0 := h
    simp only [clo] at h
    split at h
    · simp at h; subst_vars; rfl
    · rename_i hc
      split at h
      · rename_i hc2
        obtain ⟨m, hm, rfl⟩ := Option.map_eq_some_iff.1 h
        rw [hc2, List.take_succ_cons, List.take_succ_cons, clo_slash, clo_take r m hm]; rfl
      · rename_i hc2
        obtain ⟨m, hm, rfl⟩ := Option.map_eq_some_iff.1 h
        have := clo_take (d :: r) m hm
        rw [List.take_succ_cons, clo_cons _ _ hc hc2, this]; rfl
theorem hx_ne (n : Nat) (h : n < 16) : hxD n ≠ 34 ∧ hxD n ≠ 92 := by
  have : ∀ i : Fin 16, hxD i.val ≠ 34 ∧ hxD i.val ≠ 92 := by decide
  exact this ⟨n, h⟩
/-- What a string is written as ends with its last byte. -/
theorem clo_esc : ∀ (t : List UInt8), clo (t.flatMap escL ++ [34]) = some ((t.flatMap escL).length + 1)
  | [] => by simp [clo]
  | c :: t => by
    have ih := clo_esc t
    by_cases h1 : c = 34 ∨ c = 92
    · have e : (c :: t).flatMap escL ++ [34] = 92 :: c :: (t.flatMap escL ++ [34]) := by rw [List.flatMap_cons, escL_two h1]; rfl
      rw [e, clo_slash, ih, List.flatMap_cons, escL_two h1]; simp
    · by_cases h2 : c < 32 ∨ 126 < c
      · have a1 := hx_ne (c.toNat / 16) (by have := c.toNat_lt; omega)
        have a2 := hx_ne (c.toNat % 16) (by omega)
        have e : (c :: t).flatMap escL ++ [34] = 92 :: 120 :: hxD (c.toNat / 16) :: hxD (c.toNat % 16) :: (t.flatMap escL ++ [34]) := by rw [List.flatMap_cons, escL_four h1 h2]; rfl
        rw [e, clo_slash, clo_cons _ _ a1.1 a1.2, clo_cons _ _ a2.1 a2.2, ih, List.flatMap_cons, escL_four h1 h2]; simp
      · have e : (c :: t).flatMap escL ++ [34] = c :: (t.flatMap escL ++ [34]) := by rw [List.flatMap_cons, escL_one h1 h2]; rfl
        rw [e, clo_cons _ _ (fun e => h1 (.inl e)) (fun e => h1 (.inr e)), ih, List.flatMap_cons, escL_one h1 h2]; simp

def ldB (c : UInt8) : Bool := letB c || digB c
def runN (p : UInt8 → Bool) (l : List UInt8) : Nat := (l.takeWhile p).length
theorem runN_le (p : UInt8 → Bool) (l : List UInt8) : runN p l ≤ l.length := (List.takeWhile_sublist p).length_le
theorem runN_take (p : UInt8 → Bool) (l : List UInt8) : l.take (runN p l) = l.takeWhile p := by
  induction l with
  | nil => rfl
  | cons c r ih =>
    unfold runN at ih ⊢
    by_cases h : p c = true
    · rw [List.takeWhile_cons_of_pos h, List.length_cons, List.take_succ_cons, ih]
    · rw [List.takeWhile_cons_of_neg h]; rfl
theorem runN_take_self (p : UInt8 → Bool) (l : List UInt8) : runN p (l.take (runN p l)) = runN p l := by
  rw [runN_take]
  unfold runN
  induction l with
  | nil => rfl
  | cons c r ih =>
    by_cases h : p c = true
    · rw [List.takeWhile_cons_of_pos h, List.takeWhile_cons_of_pos h, List.length_cons, List.length_cons, ih]
    · rw [List.takeWhile_cons_of_neg h]; rfl
theorem runN_app (p : UInt8 → Bool) (l y : List UInt8) (c : UInt8) (hc : p c = false) (h : runN p l = l.length) : runN p (l ++ c :: y) = l.length := by
  induction l with
  | nil => simp [runN, hc]
  | cons d r ih =>
    unfold runN at h ih ⊢
    by_cases hd : p d = true
    · rw [List.takeWhile_cons_of_pos hd] at h
      rw [List.cons_append, List.takeWhile_cons_of_pos hd, List.length_cons, ih (by simpa using h), List.length_cons]
    · rw [List.takeWhile_cons_of_neg hd] at h; simp at h
theorem dropWhile_len (p : UInt8 → Bool) (l : List UInt8) : (l.dropWhile p).length = l.length - runN p l := by
  have := congrArg List.length (List.takeWhile_append_dropWhile (p := p) (l := l))
  simp only [List.length_append] at this
  unfold runN; omega

/-- The only kind of word that may stand where a text begins, and how many bytes it takes. -/
def outl : List UInt8 → Int × Nat
  | [] => (4, 1)
  | c :: r => if letB c then (1, 1 + runN ldB r) else if c = 45 ∨ digB c = true then (2, 1 + runN digB r)
    else if c = 34 then (3, match clo r with | some n => 1 + n | none => 1 + r.length)
    else (4, match r with | [] => 1 | d :: _ => if symB [c, d] then 2 else 1)
theorem outl_pos (l : List UInt8) : 1 ≤ (outl l).2 := by
  unfold outl; split
  · simp
  · split
    · simp
    · split
      · simp
      · split
        · dsimp only; split <;> omega
        · dsimp only; split
          · omega
          · split <;> omega
theorem outl_le (l : List UInt8) (h : l ≠ []) : (outl l).2 ≤ l.length := by
  unfold outl; split
  · exact absurd rfl h
  · rename_i c r
    have h1 := runN_le ldB r; have h2 := runN_le digB r
    split
    · simp; omega
    · split
      · simp; omega
      · split
        · dsimp only; split
          · rename_i n hn; have := clo_le r n hn; simp; omega
          · simp; omega
        · dsimp only; split
          · simp
          · split <;> simp
end Go.Proofs.YtdmdakkibgjffaaDoor
