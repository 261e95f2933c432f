/- Reading an event off bits, as functions: what is read, what is wrong first, what is left. No program in this text. -/
import Derived.Test.YthjhbnfedelniaaBackm
import Derived.Test.YthjhbnfedelniaaFm4
namespace Go.Proofs.Ythjhbnfedelniaa
open Go Go.RowKit

/-- An error, and the bits that are left. -/
abbrev Qs := Nat × List Bool
def qB (n : Nat) (s : Qs) : Nat × Qs := if s.1 = 0 then (bitsVal s.2 n, (bitsErr n s.2.length, bitsRest s.2 n)) else (0, s)
def qN (s : Qs) : Nat × Qs := if s.1 = 0 then (natValL s.2, (natErrL s.2, natRestL s.2)) else (0, s)
def qI (s : Qs) : Int × Qs := if s.1 = 0 then (numValL s.2, (natErrL s.2, natRestL s.2)) else (0, s)
def qT (s : Qs) : ByteArray × Qs := if s.1 = 0 then (textStr s.2, (textErrL s.2, textRestL s.2)) else (⟨#[]⟩, s)
theorem qB_err {n : Nat} {s : Qs} (h : s.1 ≠ 0) : qB n s = (0, s) := by unfold qB; rw [if_neg h]
theorem qN_err {s : Qs} (h : s.1 ≠ 0) : qN s = (0, s) := by unfold qN; rw [if_neg h]
theorem qI_err {s : Qs} (h : s.1 ≠ 0) : qI s = (0, s) := by unfold qI; rw [if_neg h]
theorem qT_err {s : Qs} (h : s.1 ≠ 0) : qT s = (⟨#[]⟩, s) := by unfold qT; rw [if_neg h]

def atZ : At := ⟨⟨#[]⟩, 0, 0, ⟨#[]⟩⟩
/-- An attribute: its name; two bits of kind; a number or a text. -/
def qName (s : Qs) := qT s
def qKind (s : Qs) := qB 2 (qName s).2
def qVal (s : Qs) : At × Qs :=
  if (qKind s).1 = 1 then (⟨(qName s).1, 1, (qI (qKind s).2).1, ⟨#[]⟩⟩, (qI (qKind s).2).2)
  else if (qKind s).1 = 2 then (⟨(qName s).1, 2, 0, (qT (qKind s).2).1⟩, (qT (qKind s).2).2)
  else (⟨(qName s).1, ((qKind s).1 : Nat), 0, ⟨#[]⟩⟩, (40, (qKind s).2.2))
def qAttr (s : Qs) : At × Qs := if (qKind s).2.1 ≠ 0 then (atZ, (qKind s).2) else qVal s
theorem qAttr_err {s : Qs} (h : s.1 ≠ 0) : qAttr s = (atZ, s) := by
  have h1 : qName s = (⟨#[]⟩, s) := qT_err h
  have h2 : qKind s = (0, s) := by unfold qKind; rw [h1]; exact qB_err h
  unfold qAttr; rw [h2, if_pos h]
/-- The first k attributes, as far as they are read. -/
def qGo (s : Qs) : Nat → List At × Qs
  | 0 => ([], s)
  | k + 1 => ((qGo s k).1 ++ [(qAttr (qGo s k).2).1], (qAttr (qGo s k).2).2)
theorem qGo_stays (s : Qs) (k m : Nat) (h : (qGo s k).2.1 ≠ 0) (hkm : k ≤ m) : (qGo s m).2 = (qGo s k).2 := by
  induction m with
  | zero => obtain rfl : k = 0 := by omega
            rfl
  | succ m ih =>
    by_cases e : k = m + 1
    · rw [e]
    · have hm := ih (by omega)
      show (qAttr (qGo s m).2).2 = _
      rw [hm, qAttr_err h]
theorem qGo_len (s : Qs) (k : Nat) : (qGo s k).1.length = k := by
  induction k with
  | zero => rfl
  | succ k ih => simp [qGo, ih]
theorem qGo_zero (s : Qs) (k j : Nat) (h : (qGo s k).2.1 = 0) (hj : j ≤ k) : (qGo s j).2.1 = 0 := by
  by_cases h2 : (qGo s j).2.1 = 0
  · exact h2
  · rw [qGo_stays s j k h2 hj] at h; exact absurd h h2
def qMany (s : Qs) := qB 4 s
def qAttrs (s : Qs) : List At × Qs :=
  if 8 < (qMany s).1 then ([], (40, (qMany s).2.2))
  else if (qGo (qMany s).2 (qMany s).1).2.1 ≠ 0 then ([], (qGo (qMany s).2 (qMany s).1).2)
  else qGo (qMany s).2 (qMany s).1
theorem qAttrs_err {s : Qs} (h : s.1 ≠ 0) : qAttrs s = ([], s) := by
  have h1 : qMany s = (0, s) := qB_err h
  unfold qAttrs; rw [h1]
  show (if 8 < 0 then _ else if s.1 ≠ 0 then (([] : List At), s) else _) = _
  rw [if_neg (by decide), if_pos h]
def qSrc (s : Qs) := qB 4 s
def qSeq (s : Qs) := qN (qSrc s).2
def qTime (s : Qs) := qN (qSeq s).2
def qTy (s : Qs) := qT (qTime s).2
def qAts (s : Qs) := qAttrs (qTy s).2
def qEvent (s : Qs) : Ev × Qs := (⟨((qSrc s).1 : Nat), wrap64 ((qSeq s).1 : Nat), wrap64 ((qTime s).1 : Nat), (qTy s).1, (qAts s).1⟩, (qAts s).2)

theorem qSrc_stays {s : Qs} (h : (qSrc s).2.1 ≠ 0) : (qEvent s).2 = (qSrc s).2 := by
  have h1 : qSeq s = (0, (qSrc s).2) := qN_err h
  have h2 : qTime s = (0, (qSrc s).2) := by unfold qTime; rw [h1]; exact qN_err h
  have h3 : qTy s = (⟨#[]⟩, (qSrc s).2) := by unfold qTy; rw [h2]; exact qT_err h
  show (qAts s).2 = _
  unfold qAts; rw [h3, qAttrs_err h]
theorem qSeq_stays {s : Qs} (h : (qSeq s).2.1 ≠ 0) : (qEvent s).2 = (qSeq s).2 := by
  have h2 : qTime s = (0, (qSeq s).2) := by unfold qTime; exact qN_err h
  have h3 : qTy s = (⟨#[]⟩, (qSeq s).2) := by unfold qTy; rw [h2]; exact qT_err h
  show (qAts s).2 = _
  unfold qAts; rw [h3, qAttrs_err h]
theorem qTime_stays {s : Qs} (h : (qTime s).2.1 ≠ 0) : (qEvent s).2 = (qTime s).2 := by
  have h3 : qTy s = (⟨#[]⟩, (qTime s).2) := by unfold qTy; exact qT_err h
  show (qAts s).2 = _
  unfold qAts; rw [h3, qAttrs_err h]
theorem qTy_stays {s : Qs} (h : (qTy s).2.1 ≠ 0) : (qEvent s).2 = (qTy s).2 := by
  show (qAts s).2 = _
  unfold qAts; rw [qAttrs_err h]

/-- What Take tells: the error, the event, what is left. -/
def tkErr (l : List Bool) : Int := if (qEvent (0, l)).2.1 ≠ 0 then ((qEvent (0, l)).2.1 : Nat) else ckE (qEvent (0, l)).1
def evZ : Ev := ⟨0, 0, 0, ⟨#[]⟩, []⟩
def tkEv (l : List Bool) : Ev := if tkErr l = 0 then (qEvent (0, l)).1 else evZ
def tkRest (l : List Bool) : List Bool := if tkErr l = 0 then (qEvent (0, l)).2.2 else l
theorem tkErr_read {l : List Bool} (h : (qEvent (0, l)).2.1 ≠ 0) : tkErr l = ((qEvent (0, l)).2.1 : Nat) := by unfold tkErr; rw [if_pos h]
theorem tkErr_ck {l : List Bool} (h : (qEvent (0, l)).2.1 = 0) : tkErr l = ckE (qEvent (0, l)).1 := by unfold tkErr; rw [if_neg (by simp [h])]
theorem tkErr_ok {l : List Bool} (h : tkErr l = 0) : (qEvent (0, l)).2.1 = 0 ∧ ckE (qEvent (0, l)).1 = 0 := by
  by_cases h1 : (qEvent (0, l)).2.1 = 0
  · exact ⟨h1, by rw [← tkErr_ck h1]; exact h⟩
  · rw [tkErr_read h1] at h; exact absurd (by exact_mod_cast h) h1
theorem tkEv_no {l : List Bool} (h : tkErr l ≠ 0) : tkEv l = evZ := by unfold tkEv; rw [if_neg h]
theorem tkEv_ok {l : List Bool} (h : tkErr l = 0) : tkEv l = (qEvent (0, l)).1 := by unfold tkEv; rw [if_pos h]
theorem tkRest_no {l : List Bool} (h : tkErr l ≠ 0) : tkRest l = l := by unfold tkRest; rw [if_neg h]
theorem tkRest_ok {l : List Bool} (h : tkErr l = 0) : tkRest l = (qEvent (0, l)).2.2 := by unfold tkRest; rw [if_pos h]
/-- What Parse tells. -/
def psErr (l : List Bool) : Int := if tkErr l ≠ 0 then tkErr l else ((endErrL (tkRest l) : Nat) : Int)
def psEv (l : List Bool) : Ev := if psErr l = 0 then tkEv l else evZ
theorem psErr_take {l : List Bool} (h : tkErr l ≠ 0) : psErr l = tkErr l := by unfold psErr; rw [if_pos h]
theorem psErr_end {l : List Bool} (h : tkErr l = 0) : psErr l = ((endErrL (tkRest l) : Nat) : Int) := by unfold psErr; rw [if_neg (by simp [h])]
theorem psErr_ok {l : List Bool} (h : psErr l = 0) : tkErr l = 0 ∧ endErrL (tkRest l) = 0 := by
  by_cases h1 : tkErr l = 0
  · rw [psErr_end h1] at h; exact ⟨h1, by exact_mod_cast h⟩
  · rw [psErr_take h1] at h; exact absurd h h1
theorem psEv_no {l : List Bool} (h : psErr l ≠ 0) : psEv l = evZ := by unfold psEv; rw [if_neg h]
theorem psEv_ok {l : List Bool} (h : psErr l = 0) : psEv l = tkEv l := by unfold psEv; rw [if_pos h]
end Go.Proofs.Ythjhbnfedelniaa
namespace Go.Proofs.Ythjhbnfedelniaa
open Go Go.RowKit

theorem natRestL_len (l : List Bool) : (natRestL l).length ≤ l.length := by
  unfold natRestL; split <;> simp
theorem bitsRest_len (l : List Bool) (n : Int) : (bitsRest l n).length ≤ l.length := by
  unfold bitsRest; split <;> simp
theorem textRestL_len (l : List Bool) : (textRestL l).length ≤ l.length := by
  have := natRestL_len l
  unfold textRestL; split
  · rw [List.length_drop]; omega
  · exact Nat.le_refl _
theorem textStr_size (l : List Bool) : 8 * (textStr l).size ≤ l.length := by
  have hr := natRestL_len l
  have e : (textStr l).size = (textBytesL l).length := by simp [textStr, strOfNums, ByteArray.size]
  rw [e]
  unfold textBytesL
  split
  · rename_i h
    unfold textErrL at h
    split at h
    · rename_i h2; exact absurd h h2
    · split at h
      · cases h
      · rw [List.length_map, List.length_range]; omega
  · simp
theorem qT_wide (s : Qs) : 8 * (qT s).1.size ≤ s.2.length ∧ (qT s).2.2.length ≤ s.2.length := by
  unfold qT; split
  · exact ⟨textStr_size _, textRestL_len _⟩
  · exact ⟨by show 8 * 0 ≤ _; omega, Nat.le_refl _⟩
theorem qB_len (n : Nat) (s : Qs) : (qB n s).2.2.length ≤ s.2.length := by
  unfold qB; split
  · exact bitsRest_len _ _
  · exact Nat.le_refl _
theorem qN_len (s : Qs) : (qN s).2.2.length ≤ s.2.length := by
  unfold qN; split
  · exact natRestL_len _
  · exact Nat.le_refl _
theorem qI_len (s : Qs) : (qI s).2.2.length ≤ s.2.length := by
  unfold qI; split
  · exact natRestL_len _
  · exact Nat.le_refl _
theorem numValL_wf (l : List Bool) : (Lit.int .i64 (numValL l)).wf = true := by
  have h := natValL_lt l
  have key : -9223372036854775808 ≤ numValL l ∧ numValL l ≤ 9223372036854775807 := by
    unfold numValL numOf
    split
    · split <;> omega
    · omega
  simp [Lit.wf, IntKind.min, IntKind.max, IntKind.signed, IntKind.bits]; omega
theorem qAttr_wide (s : Qs) : 8 * (qAttr s).1.name.size ≤ s.2.length ∧ 8 * (qAttr s).1.s.size ≤ s.2.length ∧ (qAttr s).2.2.length ≤ s.2.length := by
  have h1 := qT_wide s
  have h2 := qB_len 2 (qName s).2
  have h3 := qI_len (qKind s).2
  have h4 := qT_wide (qKind s).2
  have e1 : qName s = qT s := rfl
  have e2 : qKind s = qB 2 (qName s).2 := rfl
  have z : (⟨#[]⟩ : ByteArray).size = 0 := rfl
  rw [← e1] at h1
  rw [← e2] at h2
  unfold qAttr; split
  · exact ⟨by show 8 * (⟨#[]⟩ : ByteArray).size ≤ _; omega, by show 8 * (⟨#[]⟩ : ByteArray).size ≤ _; omega, by show (qKind s).2.2.length ≤ _; omega⟩
  · unfold qVal; split
    · exact ⟨h1.1, by show 8 * (⟨#[]⟩ : ByteArray).size ≤ _; omega, by show (qI (qKind s).2).2.2.length ≤ _; omega⟩
    · split
      · exact ⟨h1.1, by show 8 * (qT (qKind s).2).1.size ≤ _; omega, by show (qT (qKind s).2).2.2.length ≤ _; omega⟩
      · exact ⟨h1.1, by show 8 * (⟨#[]⟩ : ByteArray).size ≤ _; omega, by show (qKind s).2.2.length ≤ _; omega⟩
theorem qGo_wide (s : Qs) : ∀ k, (∀ x ∈ (qGo s k).1, 8 * x.name.size ≤ s.2.length ∧ 8 * x.s.size ≤ s.2.length) ∧ (qGo s k).2.2.length ≤ s.2.length
  | 0 => ⟨fun x hx => (by cases hx), Nat.le_refl _⟩
  | k + 1 => by
    obtain ⟨h1, h2⟩ := qGo_wide s k
    have h3 := qAttr_wide (qGo s k).2
    refine ⟨fun x hx => ?_, by show (qAttr (qGo s k).2).2.2.length ≤ _; omega⟩
    rcases List.mem_append.1 (show x ∈ (qGo s k).1 ++ [(qAttr (qGo s k).2).1] from hx) with hx | hx
    · exact h1 x hx
    · rw [List.mem_singleton.1 hx]; exact ⟨by omega, by omega⟩
theorem qAttrs_wide (s : Qs) : (∀ x ∈ (qAttrs s).1, 8 * x.name.size ≤ s.2.length ∧ 8 * x.s.size ≤ s.2.length) ∧ (qAttrs s).1.length ≤ 8 ∧ (qAttrs s).2.2.length ≤ s.2.length := by
  have hB := qB_len 4 s
  have e : qMany s = qB 4 s := rfl
  rw [← e] at hB
  unfold qAttrs
  split
  · exact ⟨fun x hx => (by cases hx), by simp, hB⟩
  · split
    · obtain ⟨_, h2⟩ := qGo_wide (qMany s).2 (qMany s).1
      exact ⟨fun x hx => (by cases hx), by simp, by show (qGo (qMany s).2 (qMany s).1).2.2.length ≤ _; omega⟩
    · obtain ⟨h1, h2⟩ := qGo_wide (qMany s).2 (qMany s).1
      exact ⟨fun x hx => ⟨by have := (h1 x hx).1; omega, by have := (h1 x hx).2; omega⟩, by rw [qGo_len]; omega, by omega⟩
theorem qEvent_wide (s : Qs) : 8 * (qEvent s).1.ty.size ≤ s.2.length ∧ (∀ x ∈ (qEvent s).1.ats, 8 * x.name.size ≤ s.2.length ∧ 8 * x.s.size ≤ s.2.length) ∧ (qEvent s).1.ats.length ≤ 8 ∧ (qEvent s).2.2.length ≤ s.2.length := by
  have h1 : (qSrc s).2.2.length ≤ s.2.length := qB_len 4 s
  have h2 : (qSeq s).2.2.length ≤ (qSrc s).2.2.length := qN_len _
  have h3 : (qTime s).2.2.length ≤ (qSeq s).2.2.length := qN_len _
  have h4 : 8 * (qTy s).1.size ≤ (qTime s).2.2.length ∧ (qTy s).2.2.length ≤ (qTime s).2.2.length := qT_wide _
  obtain ⟨h5, h6, h7⟩ := qAttrs_wide (qTy s).2
  exact ⟨by show 8 * (qTy s).1.size ≤ _; omega, fun x hx => by
    have := h5 x hx
    omega, h6, by show (qAttrs (qTy s).2).2.2.length ≤ _; omega⟩
end Go.Proofs.Ythjhbnfedelniaa
