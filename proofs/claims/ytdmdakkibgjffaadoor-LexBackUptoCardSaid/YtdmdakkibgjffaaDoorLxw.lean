/- The mathematics of words, part two: the word at a place, all words from a place on. No program in this text. -/
import Derived.Test.YtdmdakkibgjffaaDoorLxm
namespace Go.Proofs.YtdmdakkibgjffaaDoor
open Go

structure Tok where
  kind : Int
  text : ByteArray
  vk : Int
  vn : Int
  vs : ByteArray
  pl : Int
  deriving DecidableEq
def encT (x : Tok) : List Value := [.int .i64 x.kind, .string x.text, .int .i64 x.vk, .int .i64 x.vn, .string x.vs, .int .i64 x.pl]
def tokV (x : Tok) : Value := .agg #[.int .i64 x.kind, .string x.text, .int .i64 x.vk, .int .i64 x.vn, .string x.vs, .int .i64 x.pl]
def baL (l : List UInt8) : ByteArray := ⟨l.toArray⟩
theorem baL_list (l : List UInt8) : (baL l).data.toList = l := rfl
theorem baL_size (l : List UInt8) : (baL l).size = l.length := by rw [Lib.size_eq]; rfl
def inW (n : Int) : Prop := -9223372036854775808 ≤ n ∧ n ≤ 9223372036854775807
/-- A text says a value. -/
def Says (l : List UInt8) (k n : Int) (t : ByteArray) : Prop := ckB k n t.data.toList = true ∧ inW n ∧ l = textL k n t.data.toList
def wtx (l : List UInt8) : List UInt8 := l.take (outl l).2
/-- The word that stands where a text begins, if one does. -/
inductive Wd (p : Int) (l : List UInt8) : Option Tok → Prop
  | name (h : (outl l).1 = 1) (hn : nameB (wtx l) = true) : Wd p l (some ⟨1, baL (wtx l), 0, 0, ⟨#[]⟩, p⟩)
  | noname (h : (outl l).1 = 1) (hn : nameB (wtx l) = false) : Wd p l none
  | sym (h : (outl l).1 = 4) (hn : symB (wtx l) = true) : Wd p l (some ⟨4, baL (wtx l), 0, 0, ⟨#[]⟩, p⟩)
  | nosym (h : (outl l).1 = 4) (hn : symB (wtx l) = false) : Wd p l none
  | val {k n : Int} {t : ByteArray} (h : (outl l).1 = 2 ∨ (outl l).1 = 3) (hs : Says (wtx l) k n t) : Wd p l (some ⟨(outl l).1, baL (wtx l), k, n, t, p⟩)
  | noval (h : (outl l).1 = 2 ∨ (outl l).1 = 3) (hs : ∀ (k n : Int) (t : ByteArray), ¬ Says (wtx l) k n t) : Wd p l none
theorem outl_kind (l : List UInt8) : (outl l).1 = 1 ∨ (outl l).1 = 2 ∨ (outl l).1 = 3 ∨ (outl l).1 = 4 := by
  unfold outl; split
  · simp
  · split
    · simp
    · split
      · simp
      · split <;> simp
theorem Wd.ex (p : Int) (l : List UInt8) : ∃ o, Wd p l o := by
  have hv : (outl l).1 = 2 ∨ (outl l).1 = 3 → ∃ o, Wd p l o := fun h => by
    by_cases he : ∃ x : Int × Int × ByteArray, Says (wtx l) x.1 x.2.1 x.2.2
    · obtain ⟨x, hx⟩ := he; exact ⟨_, .val h hx⟩
    · exact ⟨_, .noval h fun k n t hs => he ⟨(k, n, t), hs⟩⟩
  rcases outl_kind l with h | h | h | h
  · cases hn : nameB (wtx l) with
    | true => exact ⟨_, .name h hn⟩
    | false => exact ⟨_, .noname h hn⟩
  · exact hv (.inl h)
  · exact hv (.inr h)
  · cases hn : symB (wtx l) with
    | true => exact ⟨_, .sym h hn⟩
    | false => exact ⟨_, .nosym h hn⟩
theorem wtx_len {l : List UInt8} (h : l ≠ []) : (wtx l).length = (outl l).2 := by
  unfold wtx; rw [List.length_take]; have := outl_le l h; omega
theorem Wd.of {p : Int} {l : List UInt8} {t : Tok} (h : Wd p l (some t)) : t.pl = p ∧ t.text = baL (wtx l) ∧ t.kind = (outl l).1 ∧ inW t.vn := by
  have z : inW 0 := by unfold inW; omega
  cases h with
  | name h hn => exact ⟨rfl, rfl, h.symm, z⟩
  | sym h hn => exact ⟨rfl, rfl, h.symm, z⟩
  | val h hs => exact ⟨rfl, rfl, rfl, hs.2.1⟩
theorem Wd.size {p : Int} {l : List UInt8} {t : Tok} (h : Wd p l (some t)) (hl : l ≠ []) : 1 ≤ t.text.size ∧ t.text.size ≤ l.length ∧ t.text.size = (outl l).2 := by
  have := outl_pos l; have := outl_le l hl
  rw [h.of.2.1, baL_size, wtx_len hl]; omega
/-- The place behind the blanks that stand at a place. -/
def nx (L : List UInt8) (b : Nat) : Nat := b + bk false (L.drop b)
theorem nx_ge (L : List UInt8) (b : Nat) : b ≤ nx L b := Nat.le_add_right _ _
theorem nx_le {L : List UInt8} {b : Nat} (h : b ≤ L.length) : nx L b ≤ L.length := by
  have := bk_le false (L.drop b); rw [List.length_drop] at this; unfold nx; omega
/-- All words from a place on, and the first place at which none stands. -/
inductive Wds (L : List UInt8) : Nat → List Tok → Nat → Prop
  | fin : Wds L L.length [] L.length
  | stuck {p : Nat} (h : p < L.length) (hw : Wd p (L.drop p) none) : Wds L p [] p
  | go {p : Nat} {t : Tok} {ts : List Tok} {e : Nat} (h : p < L.length) (hw : Wd p (L.drop p) (some t)) (hr : Wds L (nx L (p + t.text.size)) ts e) : Wds L p (t :: ts) e
theorem Wds.inv {L : List UInt8} {p e : Nat} {ts : List Tok} (h : Wds L p ts e) : (p = L.length ∧ ts = [] ∧ e = L.length) ∨ (p < L.length ∧ ts = [] ∧ e = p ∧ Wd p (L.drop p) none) ∨ ∃ t r, ts = t :: r ∧ p < L.length ∧ Wd p (L.drop p) (some t) ∧ Wds L (nx L (p + t.text.size)) r e := by
  cases h with
  | fin => exact .inl ⟨rfl, rfl, rfl⟩
  | stuck h hw => exact .inr (.inl ⟨h, rfl, rfl, hw⟩)
  | go h hw hr => exact .inr (.inr ⟨_, _, rfl, h, hw, hr⟩)
theorem drop_ne {L : List UInt8} {p : Nat} (h : p < L.length) : L.drop p ≠ [] := by
  intro e; have := congrArg List.length e; rw [List.length_drop, List.length_nil] at this; omega
theorem Wd.fits {L : List UInt8} {p : Nat} {t : Tok} (h : p < L.length) (hw : Wd p (L.drop p) (some t)) : 1 ≤ t.text.size ∧ p + t.text.size ≤ L.length := by
  have := hw.size (drop_ne h); rw [List.length_drop] at this; omega
theorem Wds.ex (L : List UInt8) : ∀ (m p : Nat), L.length - p ≤ m → p ≤ L.length → ∃ ts e, Wds L p ts e
  | 0, p, hm, hp => by obtain rfl : p = L.length := by omega
                       exact ⟨_, _, .fin⟩
  | m + 1, p, hm, hp => by
    by_cases h : p < L.length
    · obtain ⟨o, ho⟩ := Wd.ex p (L.drop p)
      cases o with
      | none => exact ⟨_, _, .stuck h ho⟩
      | some t =>
        have h1 := Wd.fits h ho
        have h2 := nx_ge L (p + t.text.size)
        obtain ⟨ts, e, hr⟩ := Wds.ex L m (nx L (p + t.text.size)) (by omega) (nx_le h1.2)
        exact ⟨_, _, .go h ho hr⟩
    · obtain rfl : p = L.length := by omega
      exact ⟨_, _, .fin⟩
theorem Wds.all (L : List UInt8) : ∃ ts e, Wds L (nx L 0) ts e := Wds.ex L _ _ (Nat.le_refl _) (nx_le (Nat.zero_le _))
theorem Wds.le {L : List UInt8} {p e : Nat} {ts : List Tok} (h : Wds L p ts e) : p ≤ e ∧ e ≤ L.length := by
  induction h with
  | fin => omega
  | stuck h _ => omega
  | @go p t ts e h hw hr ih => have := nx_ge L (p + t.text.size); omega
/-- Each word lies within the text. -/
theorem Wds.mem {L : List UInt8} {p e : Nat} {ts : List Tok} (h : Wds L p ts e) : ∀ x ∈ ts, 0 ≤ x.pl ∧ 1 ≤ x.text.size ∧ x.pl + x.text.size ≤ L.length ∧ inW x.vn ∧ (x.kind = 1 ∨ x.kind = 2 ∨ x.kind = 3 ∨ x.kind = 4) ∧ (p : Int) ≤ x.pl := by
  induction h with
  | fin => intro x hx; cases hx
  | stuck h _ => intro x hx; cases hx
  | @go p t ts e h hw hr ih =>
    intro x hx
    rcases List.mem_cons.1 hx with rfl | hx
    · have h1 := Wd.fits h hw
      have h2 := hw.of
      refine ⟨by rw [h2.1]; omega, h1.1, by rw [h2.1]; omega, h2.2.2.2, ?_, by rw [h2.1]; omega⟩
      rw [h2.2.2.1]; exact outl_kind _
    · have h3 := ih x hx
      have h2 := nx_ge L (p + t.text.size)
      exact ⟨h3.1, h3.2.1, h3.2.2.1, h3.2.2.2.1, h3.2.2.2.2.1, by omega⟩
theorem Wds.len {L : List UInt8} {p e : Nat} {ts : List Tok} (h : Wds L p ts e) : ts.length + p ≤ L.length := by
  induction h with
  | fin => simp
  | stuck h _ => simp; omega
  | @go p t ts e h hw hr ih => have := Wd.fits h hw; have := nx_ge L (p + t.text.size); simp; omega
/-- The place behind the last word. -/
def endT (p : Int) : List Tok → Int
  | [] => p
  | t :: ts => endT (t.pl + t.text.size) ts
theorem endT_snoc (p : Int) (ts : List Tok) (t : Tok) : endT p (ts ++ [t]) = t.pl + t.text.size := by
  induction ts generalizing p with
  | nil => rfl
  | cons a r ih => exact ih _
theorem Wds.last {L : List UInt8} {p e : Nat} {ts : List Tok} (h : Wds L p ts e) : ∀ b : Nat, b ≤ L.length → p = nx L b → ∃ b' : Nat, endT (b : Int) ts = (b' : Int) ∧ b' ≤ L.length ∧ nx L b' = e := by
  induction h with
  | fin => intro b hb hp; exact ⟨b, rfl, hb, hp.symm⟩
  | stuck h _ => intro b hb hp; exact ⟨b, rfl, hb, hp.symm⟩
  | @go p t ts e h hw hr ih =>
    intro b hb hp
    obtain ⟨b', h1, h2, h3⟩ := ih (p + t.text.size) (Wd.fits h hw).2 rfl
    refine ⟨b', ?_, h2, h3⟩
    show endT (t.pl + t.text.size) ts = _
    rw [hw.of.1]; exact h1
end Go.Proofs.YtdmdakkibgjffaaDoor
