/- The mathematics of words, part three: a word alone, words joined. No program in this text. -/
import Derived.Test.YtdmdakkibgjffaaDoorRon
namespace Go.Proofs.YtdmdakkibgjffaaDoor
open Go

theorem outl_kind3 {c : UInt8} {r : List UInt8} (h : (outl (c :: r)).1 = 3) : c = 34 := by
  rw [outl_cons] at h
  split at h
  · cases h
  · split at h
    · cases h
    · split at h
      · assumption
      · cases h
/-- A word's string is closed. -/
theorem Wd.closed {p : Int} {r : List UInt8} {t : Tok} (h : Wd p (34 :: r) (some t)) : ∃ m, clo r = some m := by
  have hou : outl (34 :: r) = (3, match clo r with | some n => 1 + n | none => 1 + r.length) := by
    rw [outl_cons, if_neg (by decide), if_neg (by decide), if_pos rfl]; rfl
  cases hc : clo r with
  | some m => exact ⟨m, rfl⟩
  | none =>
    rw [hc] at hou
    obtain ⟨k, n, s, hs, _⟩ := (h.at23 (.inr (by rw [hou]))).1 t rfl
    have hw : wtx (34 :: r) = 34 :: r := by unfold wtx; rw [hou]; exact List.take_of_length_le (by simp; omega)
    rw [hw] at hs
    exact absurd hs (not_says_open hc k n s)
theorem sym_head {c : UInt8} {r : List UInt8} (h : symB (c :: r) = true) : blB c = false ∧ c ≠ 35 := by
  unfold symB syms at h
  simp at h
  rcases h with h | h | h | h | h | h | h | h | h | h | h | h | h | h | h | h <;> obtain ⟨rfl, _⟩ := h <;> decide
theorem Wd.head {p : Int} {c : UInt8} {r : List UInt8} {t : Tok} (h : Wd p (c :: r) (some t)) : blB c = false ∧ c ≠ 35 := by
  by_cases hl : letB c = true
  · constructor
    · rw [Bool.eq_false_iff]; intro hb
      simp [blB] at hb
      rcases hb with ((rfl | rfl) | rfl) | rfl <;> revert hl <;> decide
    · rintro rfl; revert hl; decide
  · by_cases hd : c = 45 ∨ digB c = true
    · constructor
      · rw [Bool.eq_false_iff]; intro hb
        simp [blB] at hb
        rcases hb with ((rfl | rfl) | rfl) | rfl <;> revert hd <;> decide
      · rintro rfl; revert hd; decide
    · by_cases hq : c = 34
      · subst hq; decide
      · have hou : (outl (c :: r)).1 = 4 := by rw [outl_cons, if_neg hl, if_neg hd, if_neg hq]
        obtain ⟨hs, _⟩ := (h.at4 hou).1 t rfl
        have hp := outl_pos (c :: r)
        have hw : wtx (c :: r) = c :: r.take ((outl (c :: r)).2 - 1) := by
          unfold wtx
          obtain ⟨m, hm⟩ : ∃ m, (outl (c :: r)).2 = m + 1 := ⟨(outl (c :: r)).2 - 1, by omega⟩
          rw [hm]; rfl
        rw [hw] at hs
        exact sym_head hs
theorem symB_32 (c : UInt8) : symB [c, 32] = false := by unfold symB syms; simp
/-- The outline of a word is that of its own bytes alone. -/
theorem Wd.outl_self {p : Int} {l : List UInt8} {t : Tok} (h : Wd p l (some t)) (hl : l ≠ []) : outl (wtx l) = outl l := by
  cases l with
  | nil => exact absurd rfl hl
  | cons c r =>
    by_cases h1 : letB c = true
    · have e : outl (c :: r) = (1, 1 + runN ldB r) := by rw [outl_cons, if_pos h1]
      have hw : wtx (c :: r) = c :: r.take (runN ldB r) := by unfold wtx; rw [e, Nat.add_comm]; rfl
      rw [hw, e, outl_cons, if_pos h1, runN_take_self]
    · by_cases h2 : c = 45 ∨ digB c = true
      · have e : outl (c :: r) = (2, 1 + runN digB r) := by rw [outl_cons, if_neg h1, if_pos h2]
        have hw : wtx (c :: r) = c :: r.take (runN digB r) := by unfold wtx; rw [e, Nat.add_comm]; rfl
        rw [hw, e, outl_cons, if_neg h1, if_pos h2, runN_take_self]
      · by_cases h3 : c = 34
        · subst h3
          obtain ⟨m, hm⟩ := h.closed
          have e : outl (34 :: r) = (3, 1 + m) := by rw [outl_cons, if_neg h1, if_neg h2, if_pos rfl, hm]
          have hw : wtx (34 :: r) = 34 :: r.take m := by unfold wtx; rw [e, Nat.add_comm]; rfl
          rw [hw, e, outl_cons, if_neg h1, if_neg h2, if_pos rfl, clo_take _ _ hm]
        · cases r with
          | nil =>
            have e : outl [c] = (4, 1) := by rw [outl_cons, if_neg h1, if_neg h2, if_neg h3]
            have hw : wtx [c] = [c] := by unfold wtx; rw [e]; rfl
            rw [hw]
          | cons d r =>
            have e : outl (c :: d :: r) = (4, if symB [c, d] then 2 else 1) := by rw [outl_cons, if_neg h1, if_neg h2, if_neg h3]
            cases hs : symB [c, d] with
            | true =>
              rw [hs] at e
              have hw : wtx (c :: d :: r) = [c, d] := by unfold wtx; rw [e]; rfl
              rw [hw, e, outl_cons, if_neg h1, if_neg h2, if_neg h3]
              simp only [hs]
            | false =>
              rw [hs] at e
              have hw : wtx (c :: d :: r) = [c] := by unfold wtx; rw [e]; rfl
              rw [hw, e, outl_cons, if_neg h1, if_neg h2, if_neg h3]
              rfl
/-- A word that takes all of a text has the same outline before a blank. -/
theorem Wd.outl_app {p : Int} {l : List UInt8} {t : Tok} (h : Wd p l (some t)) (hl : l ≠ []) (hn : (outl l).2 = l.length) (y : List UInt8) : outl (l ++ 32 :: y) = outl l := by
  cases l with
  | nil => exact absurd rfl hl
  | cons c r =>
    rw [List.cons_append]
    by_cases h1 : letB c = true
    · have e : outl (c :: r) = (1, 1 + runN ldB r) := by rw [outl_cons, if_pos h1]
      rw [e] at hn ⊢
      have hr : runN ldB r = r.length := by simp at hn; omega
      rw [outl_cons, if_pos h1, runN_app ldB r y 32 (by decide) hr, hr]
    · by_cases h2 : c = 45 ∨ digB c = true
      · have e : outl (c :: r) = (2, 1 + runN digB r) := by rw [outl_cons, if_neg h1, if_pos h2]
        rw [e] at hn ⊢
        have hr : runN digB r = r.length := by simp at hn; omega
        rw [outl_cons, if_neg h1, if_pos h2, runN_app digB r y 32 (by decide) hr, hr]
      · by_cases h3 : c = 34
        · subst h3
          obtain ⟨m, hm⟩ := h.closed
          have e : outl (34 :: r) = (3, 1 + m) := by rw [outl_cons, if_neg h1, if_neg h2, if_pos rfl, hm]
          rw [e, outl_cons, if_neg h1, if_neg h2, if_pos rfl, clo_app _ _ _ hm]
        · cases r with
          | nil =>
            have e : outl [c] = (4, 1) := by rw [outl_cons, if_neg h1, if_neg h2, if_neg h3]
            rw [e, List.nil_append, outl_cons, if_neg h1, if_neg h2, if_neg h3]
            simp only [symB_32]; rfl
          | cons d r =>
            have e : outl (c :: d :: r) = (4, if symB [c, d] then 2 else 1) := by rw [outl_cons, if_neg h1, if_neg h2, if_neg h3]
            rw [e, List.cons_append, outl_cons, if_neg h1, if_neg h2, if_neg h3]
/-- A word at another place, in a text with the same outline and the same bytes. -/
theorem Wd.move {p p' : Int} {l l' : List UInt8} {t : Tok} (h : Wd p l (some t)) (ho : outl l' = outl l) (hw : wtx l' = wtx l) : Wd p' l' (some { t with pl := p' }) := by
  have hz : ∀ {q : Option Tok}, q = some t → Wd p l q → Wd p' l' (some { t with pl := p' }) := fun {q} hq hh => by
    cases hh with
    | name h1 hn => cases hq; rw [← hw]; exact .name (by rw [ho]; exact h1) (by rw [hw]; exact hn)
    | sym h1 hn => cases hq; rw [← hw]; exact .sym (by rw [ho]; exact h1) (by rw [hw]; exact hn)
    | val h1 hs => cases hq; rw [← hw, ← ho]; exact .val (by rw [ho]; exact h1) (by rw [hw]; exact hs)
    | noname h hn => cases hq
    | nosym h hn => cases hq
    | noval h hs => cases hq
  exact hz rfl h
/-- A word that stands alone: its text is a word, and nothing else. -/
def Alone (t : Tok) : Prop := Wd 0 t.text.data.toList (some { t with pl := 0 })
theorem Alone.full {t : Tok} (h : Alone t) : wtx t.text.data.toList = t.text.data.toList := by
  have h1 : t.text = baL (wtx t.text.data.toList) := h.of.2.1
  conv => rhs; rw [h1]
  rfl
theorem Wd.wtx_app {p : Int} {l : List UInt8} {t : Tok} (h : Wd p l (some t)) (hl : l ≠ []) (hf : wtx l = l) (y : List UInt8) : outl (l ++ 32 :: y) = outl l ∧ wtx (l ++ 32 :: y) = wtx l := by
  have hn : (outl l).2 = l.length := by rw [← wtx_len hl, hf]
  have ho := h.outl_app hl hn y
  refine ⟨ho, ?_⟩
  unfold wtx
  rw [ho, hn, List.take_left' rfl, List.take_of_length_le (Nat.le_refl _)]
/-- Each word that a text has stands alone, too. -/
theorem Wd.alone {p : Int} {l : List UInt8} {t : Tok} (h : Wd p l (some t)) (hl : l ≠ []) : Alone t := by
  have h1 := h.outl_self hl
  have h2 : wtx (wtx l) = wtx l := by
    show (wtx l).take (outl (wtx l)).2 = wtx l
    rw [h1]; exact List.take_of_length_le (by rw [wtx_len hl]; exact Nat.le_refl _)
  have h3 := h.move (p' := 0) h1 h2
  have h4 : t.text.data.toList = wtx l := by rw [h.of.2.1]; rfl
  unfold Alone
  rw [h4]
  exact h3
theorem Wds.alone {L : List UInt8} {p e : Nat} {ts : List Tok} (h : Wds L p ts e) : ∀ x ∈ ts, Alone x := by
  induction h with
  | fin => intro x hx; cases hx
  | stuck h _ => intro x hx; cases hx
  | go h hw hr ih =>
    intro x hx
    rcases List.mem_cons.1 hx with rfl | hx
    · exact hw.alone (drop_ne h)
    · exact ih x hx

/-- The words' bytes, a blank between two. -/
def jn : List Tok → List UInt8
  | [] => []
  | [t] => t.text.data.toList
  | t :: u :: r => t.text.data.toList ++ 32 :: jn (u :: r)
/-- The words, each at its place in the joined text. -/
def placed (p : Nat) : List Tok → List Tok
  | [] => []
  | t :: r => { t with pl := (p : Int) } :: placed (p + t.text.size + 1) r
theorem placed_len (p : Nat) (ts : List Tok) : (placed p ts).length = ts.length := by
  induction ts generalizing p with
  | nil => rfl
  | cons t r ih => simp [placed, ih]
theorem Alone.ne {t : Tok} (h : Alone t) (hne : t.text.data.toList ≠ []) : ∃ c r, t.text.data.toList = c :: r ∧ blB c = false ∧ c ≠ 35 := by
  cases he : t.text.data.toList with
  | nil => exact absurd he hne
  | cons c r =>
    unfold Alone at h
    rw [he] at h
    exact ⟨c, r, rfl, h.head⟩
theorem nx_at (A : List UInt8) (c : UInt8) (r : List UInt8) (hb : blB c = false) (h35 : c ≠ 35) : nx (A ++ c :: r) A.length = A.length := by
  unfold nx; rw [List.drop_left, bk_no hb h35]; rfl
theorem jn_head {t : Tok} {r : List Tok} (h : Alone t) (hne : t.text.data.toList ≠ []) : ∃ c q, jn (t :: r) = c :: q ∧ blB c = false ∧ c ≠ 35 := by
  obtain ⟨c, q, h1, h2, h3⟩ := h.ne hne
  cases r with
  | nil => exact ⟨c, q, h1, h2, h3⟩
  | cons u r => exact ⟨c, q ++ 32 :: jn (u :: r), by show t.text.data.toList ++ _ = _; rw [h1]; rfl, h2, h3⟩
/-- All words of a joined text are the words that were joined. -/
theorem jn_words : ∀ (ts : List Tok) (A : List UInt8), ts ≠ [] → (∀ x ∈ ts, Alone x ∧ x.text.data.toList ≠ []) → Wds (A ++ jn ts) A.length (placed A.length ts) (A ++ jn ts).length
  | [], A, h, _ => absurd rfl h
  | [t], A, _, ha => by
    obtain ⟨h1, hne⟩ := ha t (by simp)
    have hlt : A.length < (A ++ jn [t]).length := by
      have := List.length_pos_iff.2 hne
      rw [List.length_append]; show _ < A.length + t.text.data.toList.length; omega
    have hd : (A ++ jn [t]).drop A.length = t.text.data.toList := List.drop_left
    have hw : Wd ((A.length : Nat) : Int) ((A ++ jn [t]).drop A.length) (some { t with pl := (A.length : Int) }) := by
      rw [hd]; exact Wd.move (t := { t with pl := 0 }) h1 rfl rfl
    refine Wds.go hlt hw ?_
    have hp : A.length + t.text.size = (A ++ jn [t]).length := by rw [List.length_append, Lib.size_eq]; rfl
    show Wds _ (nx (A ++ jn [t]) (A.length + t.text.size)) [] _
    rw [hp]
    have hx : nx (A ++ jn [t]) (A ++ jn [t]).length = (A ++ jn [t]).length := by unfold nx; rw [List.drop_length, bk_nil]; rfl
    rw [hx]
    exact Wds.fin
  | t :: u :: r, A, _, ha => by
    obtain ⟨h1, hne⟩ := ha t (by simp)
    obtain ⟨h2, hne2⟩ := ha u (by simp)
    have hL : A ++ jn (t :: u :: r) = (A ++ t.text.data.toList ++ [32]) ++ jn (u :: r) := by show A ++ (t.text.data.toList ++ 32 :: jn (u :: r)) = _; simp
    have ih := jn_words (u :: r) (A ++ t.text.data.toList ++ [32]) (by simp) (fun x hx => ha x (List.mem_cons_of_mem _ hx))
    have hsz : (A ++ t.text.data.toList ++ [32]).length = A.length + t.text.size + 1 := by rw [Lib.size_eq]; simp; omega
    rw [hsz] at ih
    rw [hL]
    have hlt : A.length < ((A ++ t.text.data.toList ++ [32]) ++ jn (u :: r)).length := by
      rw [List.length_append, hsz]; omega
    have hd : ((A ++ t.text.data.toList ++ [32]) ++ jn (u :: r)).drop A.length = t.text.data.toList ++ 32 :: jn (u :: r) := by
      rw [show (A ++ t.text.data.toList ++ [32]) ++ jn (u :: r) = A ++ (t.text.data.toList ++ 32 :: jn (u :: r)) by simp]; exact List.drop_left
    have hap := Wd.wtx_app (t := { t with pl := 0 }) h1 hne h1.full (jn (u :: r))
    have hw : Wd ((A.length : Nat) : Int) (((A ++ t.text.data.toList ++ [32]) ++ jn (u :: r)).drop A.length) (some { t with pl := (A.length : Int) }) := by
      rw [hd]; exact Wd.move (t := { t with pl := 0 }) h1 hap.1 hap.2
    refine Wds.go hlt hw ?_
    show Wds _ (nx ((A ++ t.text.data.toList ++ [32]) ++ jn (u :: r)) (A.length + t.text.size)) (placed (A.length + t.text.size + 1) (u :: r)) _
    have hx : nx ((A ++ t.text.data.toList ++ [32]) ++ jn (u :: r)) (A.length + t.text.size) = A.length + t.text.size + 1 := by
      obtain ⟨c, q, hj, hb, h35⟩ := jn_head (r := r) h2 hne2
      have hd2 : ((A ++ t.text.data.toList ++ [32]) ++ jn (u :: r)).drop (A.length + t.text.size) = 32 :: jn (u :: r) := by
        rw [show (A ++ t.text.data.toList ++ [32]) ++ jn (u :: r) = (A ++ t.text.data.toList) ++ (32 :: jn (u :: r)) by simp, show A.length + t.text.size = (A ++ t.text.data.toList).length by rw [List.length_append, Lib.size_eq]]
        exact List.drop_left
      unfold nx
      rw [hd2, hj, bk_bl (by decide), bk_no hb h35]
    rw [hx]
    exact ih
end Go.Proofs.YtdmdakkibgjffaaDoor
