/- Joined: Qm, Qp0, Stext, Es, Er, Ec. -/
import Derived.Test.YtpbloplbpkedcaaJrc
import Derived.Test.YtpbloplbpkedcaaJrb
import Derived.Deep.RegionHeld3
import Derived.Test.YtpbloplbpkedcaaJra
/- Reading an event off bits, as functions: what is read, what is wrong first, what is left. No program in this text. -/
namespace Go.Proofs.Ytpbloplbpkedcaa
open Go Go.RowKit

/-- An error, and the bits that are left. -/
abbrev Qs := Nat × List Bool
def qB (n : Nat) (s : Qs) : Nat × Qs := if s.1 = 0 then (bitsVal s.2 n, (bitsErr n s.2.length, bitsRest s.2 n)) else (0, s)
def qN (s : Qs) : Nat × Qs := if s.1 = 0 then (natValL s.2, (natErrL s.2, natRestL s.2)) else (0, s)
def qI (s : Qs) : Int × Qs := if s.1 = 0 then (numValL s.2, (natErrL s.2, natRestL s.2)) else (0, s)
def qT (s : Qs) : ByteArray × Qs := if s.1 = 0 then (textStr s.2, (textErrL s.2, textRestL s.2)) else (⟨#[]⟩, s)
theorem qB_err {n : Nat} {s : Qs} (h : s.1 ≠ 0) : qB n s = (0, s) := by unfold qB; rw [if_neg h]
theorem qN_err {s : Qs} (h : s.1 ≠ 0) : qN s = (0, s) := by unfold qN; rw [if_neg h]
theorem qI_err {s : Qs} (h : s.1 ≠ 0) : qI s = (0, s) := by unfold qI; rw [if_neg h]
theorem qT_err {s : Qs} (h : s.1 ≠ 0) : qT s = (⟨#[]⟩, s) := by unfold qT; rw [if_neg h]

def atZ : At := ⟨⟨#[]⟩, 0, 0, ⟨#[]⟩⟩
/-- An attribute: its name; two bits of kind; a number or a text. -/
def qName (s : Qs) := qT s
def qKind (s : Qs) := qB 2 (qName s).2
def qVal (s : Qs) : At × Qs :=
  if (qKind s).1 = 1 then (⟨(qName s).1, 1, (qI (qKind s).2).1, ⟨#[]⟩⟩, (qI (qKind s).2).2)
  else if (qKind s).1 = 2 then (⟨(qName s).1, 2, 0, (qT (qKind s).2).1⟩, (qT (qKind s).2).2)
  else (⟨(qName s).1, ((qKind s).1 : Nat), 0, ⟨#[]⟩⟩, (40, (qKind s).2.2))
def qAttr (s : Qs) : At × Qs := if (qKind s).2.1 ≠ 0 then (atZ, (qKind s).2) else qVal s
theorem qAttr_err {s : Qs} (h : s.1 ≠ 0) : qAttr s = (atZ, s) := by
  have h1 : qName s = (⟨#[]⟩, s) := qT_err h
  have h2 : qKind s = (0, s) := by unfold qKind; rw [h1]; exact qB_err h
  unfold qAttr; rw [h2, if_pos h]
/-- The first k attributes, as far as they are read. -/
def qGo (s : Qs) : Nat → List At × Qs
  | 0 => ([], s)
  | k + 1 => ((qGo s k).1 ++ [(qAttr (qGo s k).2).1], (qAttr (qGo s k).2).2)
theorem qGo_stays (s : Qs) (k m : Nat) (h : (qGo s k).2.1 ≠ 0) (hkm : k ≤ m) : (qGo s m).2 = (qGo s k).2 := by
  induction m with
  | zero => obtain rfl : k = 0 := by omega
            rfl
  | succ m ih =>
    by_cases e : k = m + 1
    · rw [e]
    · have hm := ih (by omega)
      show (qAttr (qGo s m).2).2 = _
      rw [hm, qAttr_err h]
theorem qGo_len (s : Qs) (k : Nat) : (qGo s k).1.length = k := by
  induction k with
  | zero => rfl
  | succ k ih => simp [qGo, ih]
theorem qGo_zero (s : Qs) (k j : Nat) (h : (qGo s k).2.1 = 0) (hj : j ≤ k) : (qGo s j).2.1 = 0 := by
  by_cases h2 : (qGo s j).2.1 = 0
  · exact h2
  · rw [qGo_stays s j k h2 hj] at h; exact absurd h h2
def qMany (s : Qs) := qB 4 s
def qAttrs (s : Qs) : List At × Qs :=
  if 8 < (qMany s).1 then ([], (40, (qMany s).2.2))
  else if (qGo (qMany s).2 (qMany s).1).2.1 ≠ 0 then ([], (qGo (qMany s).2 (qMany s).1).2)
  else qGo (qMany s).2 (qMany s).1
theorem qAttrs_err {s : Qs} (h : s.1 ≠ 0) : qAttrs s = ([], s) := by
  have h1 : qMany s = (0, s) := qB_err h
  unfold qAttrs; rw [h1]
  show (if 8 < 0 then _ else if s.1 ≠ 0 then (([] : List At), s) else _) = _
  rw [if_neg (by decide), if_pos h]
def qSrc (s : Qs) := qB 4 s
def qSeq (s : Qs) := qN (qSrc s).2
def qTime (s : Qs) := qN (qSeq s).2
def qTy (s : Qs) := qT (qTime s).2
def qAts (s : Qs) := qAttrs (qTy s).2
def qEvent (s : Qs) : Ev × Qs := (⟨((qSrc s).1 : Nat), wrap64 ((qSeq s).1 : Nat), wrap64 ((qTime s).1 : Nat), (qTy s).1, (qAts s).1⟩, (qAts s).2)

theorem qSrc_stays {s : Qs} (h : (qSrc s).2.1 ≠ 0) : (qEvent s).2 = (qSrc s).2 := by
  have h1 : qSeq s = (0, (qSrc s).2) := qN_err h
  have h2 : qTime s = (0, (qSrc s).2) := by unfold qTime; rw [h1]; exact qN_err h
  have h3 : qTy s = (⟨#[]⟩, (qSrc s).2) := by unfold qTy; rw [h2]; exact qT_err h
  show (qAts s).2 = _
  unfold qAts; rw [h3, qAttrs_err h]
theorem qSeq_stays {s : Qs} (h : (qSeq s).2.1 ≠ 0) : (qEvent s).2 = (qSeq s).2 := by
  have h2 : qTime s = (0, (qSeq s).2) := by unfold qTime; exact qN_err h
  have h3 : qTy s = (⟨#[]⟩, (qSeq s).2) := by unfold qTy; rw [h2]; exact qT_err h
  show (qAts s).2 = _
  unfold qAts; rw [h3, qAttrs_err h]
theorem qTime_stays {s : Qs} (h : (qTime s).2.1 ≠ 0) : (qEvent s).2 = (qTime s).2 := by
  have h3 : qTy s = (⟨#[]⟩, (qTime s).2) := by unfold qTy; exact qT_err h
  show (qAts s).2 = _
  unfold qAts; rw [h3, qAttrs_err h]
theorem qTy_stays {s : Qs} (h : (qTy s).2.1 ≠ 0) : (qEvent s).2 = (qTy s).2 := by
  show (qAts s).2 = _
  unfold qAts; rw [qAttrs_err h]

/-- What Take tells: the error, the event, what is left. -/
def tkErr (l : List Bool) : Int := if (qEvent (0, l)).2.1 ≠ 0 then ((qEvent (0, l)).2.1 : Nat) else ckE (qEvent (0, l)).1
def evZ : Ev := ⟨0, 0, 0, ⟨#[]⟩, []⟩
def tkEv (l : List Bool) : Ev := if tkErr l = 0 then (qEvent (0, l)).1 else evZ
def tkRest (l : List Bool) : List Bool := if tkErr l = 0 then (qEvent (0, l)).2.2 else l
theorem tkErr_read {l : List Bool} (h : (qEvent (0, l)).2.1 ≠ 0) : tkErr l = ((qEvent (0, l)).2.1 : Nat) := by unfold tkErr; rw [if_pos h]
theorem tkErr_ck {l : List Bool} (h : (qEvent (0, l)).2.1 = 0) : tkErr l = ckE (qEvent (0, l)).1 := by unfold tkErr; rw [if_neg (by simp [h])]
theorem tkErr_ok {l : List Bool} (h : tkErr l = 0) : (qEvent (0, l)).2.1 = 0 ∧ ckE (qEvent (0, l)).1 = 0 := by
  by_cases h1 : (qEvent (0, l)).2.1 = 0
  · exact ⟨h1, by rw [← tkErr_ck h1]; exact h⟩
  · rw [tkErr_read h1] at h; exact absurd (by exact_mod_cast h) h1
theorem tkEv_no {l : List Bool} (h : tkErr l ≠ 0) : tkEv l = evZ := by unfold tkEv; rw [if_neg h]
theorem tkEv_ok {l : List Bool} (h : tkErr l = 0) : tkEv l = (qEvent (0, l)).1 := by unfold tkEv; rw [if_pos h]
theorem tkRest_no {l : List Bool} (h : tkErr l ≠ 0) : tkRest l = l := by unfold tkRest; rw [if_neg h]
theorem tkRest_ok {l : List Bool} (h : tkErr l = 0) : tkRest l = (qEvent (0, l)).2.2 := by unfold tkRest; rw [if_pos h]
/-- What Parse tells. -/
def psErr (l : List Bool) : Int := if tkErr l ≠ 0 then tkErr l else ((endErrL (tkRest l) : Nat) : Int)
def psEv (l : List Bool) : Ev := if psErr l = 0 then tkEv l else evZ
theorem psErr_take {l : List Bool} (h : tkErr l ≠ 0) : psErr l = tkErr l := by unfold psErr; rw [if_pos h]
theorem psErr_end {l : List Bool} (h : tkErr l = 0) : psErr l = ((endErrL (tkRest l) : Nat) : Int) := by unfold psErr; rw [if_neg (by simp [h])]
theorem psErr_ok {l : List Bool} (h : psErr l = 0) : tkErr l = 0 ∧ endErrL (tkRest l) = 0 := by
  by_cases h1 : tkErr l = 0
  · rw [psErr_end h1] at h; exact ⟨h1, by exact_mod_cast h⟩
  · rw [psErr_take h1] at h; exact absurd h h1
theorem psEv_no {l : List Bool} (h : psErr l ≠ 0) : psEv l = evZ := by unfold psEv; rw [if_neg h]
theorem psEv_ok {l : List Bool} (h : psErr l = 0) : psEv l = tkEv l := by unfold psEv; rw [if_pos h]
end Go.Proofs.Ytpbloplbpkedcaa
namespace Go.Proofs.Ytpbloplbpkedcaa
open Go Go.RowKit

theorem natRestL_len (l : List Bool) : (natRestL l).length ≤ l.length := by
  unfold natRestL; split <;> simp
theorem bitsRest_len (l : List Bool) (n : Int) : (bitsRest l n).length ≤ l.length := by
  unfold bitsRest; split <;> simp
theorem textRestL_len (l : List Bool) : (textRestL l).length ≤ l.length := by
  have := natRestL_len l
  unfold textRestL; split
  · rw [List.length_drop]; omega
  · exact Nat.le_refl _
theorem textStr_size (l : List Bool) : 8 * (textStr l).size ≤ l.length := by
  have hr := natRestL_len l
  have e : (textStr l).size = (textBytesL l).length := by simp [textStr, strOfNums, ByteArray.size]
  rw [e]
  unfold textBytesL
  split
  · rename_i h
    unfold textErrL at h
    split at h
    · rename_i h2; exact absurd h h2
    · split at h
      · cases h
      · rw [List.length_map, List.length_range]; omega
  · simp
theorem qT_wide (s : Qs) : 8 * (qT s).1.size ≤ s.2.length ∧ (qT s).2.2.length ≤ s.2.length := by
  unfold qT; split
  · exact ⟨textStr_size _, textRestL_len _⟩
  · exact ⟨by show 8 * 0 ≤ _; omega, Nat.le_refl _⟩
theorem qB_len (n : Nat) (s : Qs) : (qB n s).2.2.length ≤ s.2.length := by
  unfold qB; split
  · exact bitsRest_len _ _
  · exact Nat.le_refl _
theorem qN_len (s : Qs) : (qN s).2.2.length ≤ s.2.length := by
  unfold qN; split
  · exact natRestL_len _
  · exact Nat.le_refl _
theorem qI_len (s : Qs) : (qI s).2.2.length ≤ s.2.length := by
  unfold qI; split
  · exact natRestL_len _
  · exact Nat.le_refl _
theorem numValL_wf (l : List Bool) : (Lit.int .i64 (numValL l)).wf = true := by
  have h := natValL_lt l
  have key : -9223372036854775808 ≤ numValL l ∧ numValL l ≤ 9223372036854775807 := by
    unfold numValL numOf
    split
    · split <;> omega
    · omega
  simp [Lit.wf, IntKind.min, IntKind.max, IntKind.signed, IntKind.bits]; omega
theorem qAttr_wide (s : Qs) : 8 * (qAttr s).1.name.size ≤ s.2.length ∧ 8 * (qAttr s).1.s.size ≤ s.2.length ∧ (qAttr s).2.2.length ≤ s.2.length := by
  have h1 := qT_wide s
  have h2 := qB_len 2 (qName s).2
  have h3 := qI_len (qKind s).2
  have h4 := qT_wide (qKind s).2
  have e1 : qName s = qT s := rfl
  have e2 : qKind s = qB 2 (qName s).2 := rfl
  have z : (⟨#[]⟩ : ByteArray).size = 0 := rfl
  rw [← e1] at h1
  rw [← e2] at h2
  unfold qAttr; split
  · exact ⟨by show 8 * (⟨#[]⟩ : ByteArray).size ≤ _; omega, by show 8 * (⟨#[]⟩ : ByteArray).size ≤ _; omega, by show (qKind s).2.2.length ≤ _; omega⟩
  · unfold qVal; split
    · exact ⟨h1.1, by show 8 * (⟨#[]⟩ : ByteArray).size ≤ _; omega, by show (qI (qKind s).2).2.2.length ≤ _; omega⟩
    · split
      · exact ⟨h1.1, by show 8 * (qT (qKind s).2).1.size ≤ _; omega, by show (qT (qKind s).2).2.2.length ≤ _; omega⟩
      · exact ⟨h1.1, by show 8 * (⟨#[]⟩ : ByteArray).size ≤ _; omega, by show (qKind s).2.2.length ≤ _; omega⟩
theorem qGo_wide (s : Qs) : ∀ k, (∀ x ∈ (qGo s k).1, 8 * x.name.size ≤ s.2.length ∧ 8 * x.s.size ≤ s.2.length) ∧ (qGo s k).2.2.length ≤ s.2.length
  | 0 => ⟨fun x hx => (by cases hx), Nat.le_refl _⟩
  | k + 1 => by
    obtain ⟨h1, h2⟩ := qGo_wide s k
    have h3 := qAttr_wide (qGo s k).2
    refine ⟨fun x hx => ?_, by show (qAttr (qGo s k).2).2.2.length ≤ _; omega⟩
    rcases List.mem_append.1 (show x ∈ (qGo s k).1 ++ [(qAttr (qGo s k).2).1] from hx) with hx | hx
    · exact h1 x hx
    · rw [List.mem_singleton.1 hx]; exact ⟨by omega, by omega⟩
theorem qAttrs_wide (s : Qs) : (∀ x ∈ (qAttrs s).1, 8 * x.name.size ≤ s.2.length ∧ 8 * x.s.size ≤ s.2.length) ∧ (qAttrs s).1.length ≤ 8 ∧ (qAttrs s).2.2.length ≤ s.2.length := by
  have hB := qB_len 4 s
  have e : qMany s = qB 4 s := rfl
  rw [← e] at hB
  unfold qAttrs
  split
  · exact ⟨fun x hx => (by cases hx), by simp, hB⟩
  · split
    · obtain ⟨_, h2⟩ := qGo_wide (qMany s).2 (qMany s).1
      exact ⟨fun x hx => (by cases hx), by simp, by show (qGo (qMany s).2 (qMany s).1).2.2.length ≤ _; omega⟩
    · obtain ⟨h1, h2⟩ := qGo_wide (qMany s).2 (qMany s).1
      exact ⟨fun x hx => ⟨by have := (h1 x hx).1; omega, by have := (h1 x hx).2; omega⟩, by rw [qGo_len]; omega, by omega⟩
theorem qEvent_wide (s : Qs) : 8 * (qEvent s).1.ty.size ≤ s.2.length ∧ (∀ x ∈ (qEvent s).1.ats, 8 * x.name.size ≤ s.2.length ∧ 8 * x.s.size ≤ s.2.length) ∧ (qEvent s).1.ats.length ≤ 8 ∧ (qEvent s).2.2.length ≤ s.2.length := by
  have h1 : (qSrc s).2.2.length ≤ s.2.length := qB_len 4 s
  have h2 : (qSeq s).2.2.length ≤ (qSrc s).2.2.length := qN_len _
  have h3 : (qTime s).2.2.length ≤ (qSeq s).2.2.length := qN_len _
  have h4 : 8 * (qTy s).1.size ≤ (qTime s).2.2.length ∧ (qTy s).2.2.length ≤ (qTime s).2.2.length := qT_wide _
  obtain ⟨h5, h6, h7⟩ := qAttrs_wide (qTy s).2
  exact ⟨by show 8 * (qTy s).1.size ≤ _; omega, fun x hx => by
    have := h5 x hx
    omega, h6, by show (qAttrs (qTy s).2).2.2.length ≤ _; omega⟩
end Go.Proofs.Ytpbloplbpkedcaa

/- Reading a partial match off bits, as functions. -/
namespace Go.Proofs.Ytpbloplbpkedcaa
open Go Go.RowKit

def bdZ : Bd := ⟨⟨#[]⟩, evZ⟩
/-- One bound: what is wrong first, the bound, the bits behind it. -/
def rbErr (l : List Bool) : Int := if textErrL l ≠ 0 then ((textErrL l : Nat) : Int) else tkErr (textRestL l)
def rbBd (l : List Bool) : Bd := ⟨textStr l, tkEv (textRestL l)⟩
def rbRest (l : List Bool) : List Bool := tkRest (textRestL l)
/-- n bounds: what is wrong first, those that were read, the bits behind them. -/
def rdGo : Nat → List Bool → Int × List Bd × List Bool
  | 0, l => (0, [], l)
  | n + 1, l =>
    if (rdGo n l).1 ≠ 0 then rdGo n l
    else if rbErr (rdGo n l).2.2 ≠ 0 then (rbErr (rdGo n l).2.2, (rdGo n l).2)
    else (0, (rdGo n l).2.1 ++ [rbBd (rdGo n l).2.2], rbRest (rdGo n l).2.2)
theorem rdGo_go {n : Nat} {l : List Bool} (h : (rdGo n l).1 = 0) (h1 : rbErr (rdGo n l).2.2 = 0) : rdGo (n + 1) l = (0, (rdGo n l).2.1 ++ [rbBd (rdGo n l).2.2], rbRest (rdGo n l).2.2) := by
  rw [rdGo, if_neg (by simp [h]), if_neg (by simp [h1])]
theorem rdGo_bad {n : Nat} {l : List Bool} (h : (rdGo n l).1 = 0) (h1 : rbErr (rdGo n l).2.2 ≠ 0) : (rdGo (n + 1) l).1 = rbErr (rdGo n l).2.2 := by
  rw [rdGo, if_neg (by simp [h]), if_pos h1]
theorem rdGo_stays {n : Nat} {l : List Bool} (h : (rdGo n l).1 ≠ 0) : ∀ m, n ≤ m → (rdGo m l).1 = (rdGo n l).1
  | 0, hm => by obtain rfl : n = 0 := by omega
                rfl
  | m + 1, hm => by
    by_cases e : n = m + 1
    · rw [e]
    · have := rdGo_stays h m (by omega)
      rw [rdGo, if_pos (by rw [this]; exact h), this]
theorem rdGo_len (n : Nat) (l : List Bool) : (rdGo n l).2.1.length ≤ n := by
  induction n with
  | zero => simp [rdGo]
  | succ n ih =>
    rw [rdGo]
    split
    · omega
    · split
      · show (rdGo n l).2.1.length ≤ _; omega
      · simp only [List.length_append, List.length_singleton]; omega
/-- What take reads: what is wrong first, the bounds, the bits behind them. -/
def rdP (l : List Bool) : Int × List Bd × List Bool :=
  if bitsErr 4 l.length ≠ 0 then (((bitsErr 4 l.length : Nat) : Int), [], l) else if 12 < bitsVal l 4 then (100, [], l) else rdGo (bitsVal l 4) (bitsRest l 4)
theorem rdP_short {l : List Bool} (h : bitsErr 4 l.length ≠ 0) : rdP l = (((bitsErr 4 l.length : Nat) : Int), [], l) := by unfold rdP; rw [if_pos h]
theorem rdP_many {l : List Bool} (h : bitsErr 4 l.length = 0) (h1 : 12 < bitsVal l 4) : rdP l = (100, [], l) := by unfold rdP; rw [if_neg (by simp [h]), if_pos h1]
theorem rdP_go {l : List Bool} (h : bitsErr 4 l.length = 0) (h1 : ¬ 12 < bitsVal l 4) : rdP l = rdGo (bitsVal l 4) (bitsRest l 4) := by unfold rdP; rw [if_neg (by simp [h]), if_neg h1]
/-- Take. -/
def tpErr (l : List Bool) : Int := if (rdP l).1 ≠ 0 then (rdP l).1 else ckP (rdP l).2.1
def tpL (l : List Bool) : List Bd := if tpErr l = 0 then (rdP l).2.1 else []
def tpRest (l : List Bool) : List Bool := if tpErr l = 0 then (rdP l).2.2 else l
theorem tpErr_read {l : List Bool} (h : (rdP l).1 ≠ 0) : tpErr l = (rdP l).1 := by unfold tpErr; rw [if_pos h]
theorem tpErr_ck {l : List Bool} (h : (rdP l).1 = 0) : tpErr l = ckP (rdP l).2.1 := by unfold tpErr; rw [if_neg (by simp [h])]
theorem tpErr_ok {l : List Bool} (h : tpErr l = 0) : (rdP l).1 = 0 ∧ ckP (rdP l).2.1 = 0 := by
  by_cases h1 : (rdP l).1 = 0
  · exact ⟨h1, by rw [← tpErr_ck h1]; exact h⟩
  · rw [tpErr_read h1] at h; exact absurd h h1
theorem tpL_no {l : List Bool} (h : tpErr l ≠ 0) : tpL l = [] := by unfold tpL; rw [if_neg h]
theorem tpL_ok {l : List Bool} (h : tpErr l = 0) : tpL l = (rdP l).2.1 := by unfold tpL; rw [if_pos h]
theorem tpRest_no {l : List Bool} (h : tpErr l ≠ 0) : tpRest l = l := by unfold tpRest; rw [if_neg h]
theorem tpRest_ok {l : List Bool} (h : tpErr l = 0) : tpRest l = (rdP l).2.2 := by unfold tpRest; rw [if_pos h]
/-- Parse. -/
def ppErr (l : List Bool) : Int := if tpErr l ≠ 0 then tpErr l else ((endErrL (tpRest l) : Nat) : Int)
def ppL (l : List Bool) : List Bd := if ppErr l = 0 then tpL l else []
theorem ppErr_take {l : List Bool} (h : tpErr l ≠ 0) : ppErr l = tpErr l := by unfold ppErr; rw [if_pos h]
theorem ppErr_end {l : List Bool} (h : tpErr l = 0) : ppErr l = ((endErrL (tpRest l) : Nat) : Int) := by unfold ppErr; rw [if_neg (by simp [h])]
theorem ppL_no {l : List Bool} (h : ppErr l ≠ 0) : ppL l = [] := by unfold ppL; rw [if_neg h]
theorem ppL_ok {l : List Bool} (h : ppErr l = 0) : ppL l = tpL l := by unfold ppL; rw [if_pos h]
end Go.Proofs.Ytpbloplbpkedcaa

/- Contract of Text of the program's source. -/
namespace Go.Proofs.Ytpbloplbpkedcaa
open Go Go.RowKit

/-- A source, its slice of bytes named. -/
def SrcAt (w : World) (B q : Nat) (bytes : List Nat) (p : Nat) (v : Value) : Prop :=
  w.heap[q]? = some (.cells #[.bool true, v, .int .i64 (p : Int)] 101 (0, 0)) ∧ w.ownsRow B 5 1 v bytes.length (byteVs bytes)
theorem SrcAt.is {w w0 : World} {B q : Nat} {bytes : List Nat} {p p' : Nat} {v : Value} (h : SrcAt w B q bytes p' v) (h0 : SrcIs w0 B q bytes p) (hp : p' ≤ 8 * bytes.length) : SrcIs w B q bytes p' :=
  ⟨h0.from_, h0.len, hp, h0.small, v, h.1, h.2⟩
theorem SrcAt.moved {w : World} {B q : Nat} {bytes : List Nat} {p : Nat} {v : Value} (h : SrcAt w B q bytes p v) (p' : Nat) : SrcAt (w.setCell ⟨q, 2, none⟩ (.int .i64 (p' : Int))) B q bytes p' v := by
  refine ⟨?_, ownsRow_setCell_typed h.2 h.1 (by decide) _⟩
  rw [heap_setCell_same h.1]; simp
theorem SrcAt.alloc {w : World} {B q : Nat} {bytes : List Nat} {p : Nat} {v : Value} (h : SrcAt w B q bytes p v) (o : Obj) : SrcAt (w.alloc o) B q bytes p v :=
  ⟨heap_alloc_keeps h.1 o, h.2.alloc o⟩
theorem SrcAt.other {w : World} {B q g k : Nat} {bytes : List Nat} {p : Nat} {v : Value} (h : SrcAt w B q bytes p v) (u : Value) (h1 : q ≠ g) (h2 : v.ownBlock ≠ some g) : SrcAt (w.setCell ⟨g, k, none⟩ u) B q bytes p v :=
  ⟨by rw [Below.heap_setCell _ _ _ _ h1]; exact h.1, ownsRow_setCell_other h.2 h2 u⟩

set_option maxRecDepth 100000 in
theorem sTake_at (B q n : Nat) (bytes : List Nat) (p : Nat) (w : World) (hs : SrcIs w B q bytes p) (hn : n ≤ 64) (hle : p + n ≤ 8 * bytes.length) :
    Calls Try.prog 62 #[.pointer (some ⟨q, 0, none⟩), .int .i64 (n : Int)] w fun e w' => e = .returned (.int .u64 ((valAt bytes p n : Nat) : Int)) ∧ w.setCell ⟨q, 2, none⟩ (.int .i64 ((p + n : Nat) : Int)) = w' := by
  have hpos := hs.pos
  have hfree := hs.free
  have hl := hs.len
  have C := sPeek_any B q bytes p p n w hs hn hle
  clear hs
  go_enter Try.func62, Try.ntmps62
  go_wp2_with (go_at_call 85; refine C.mono ?_; rintro e w' ⟨rfl, rfl⟩)
  go_ret
  exact ⟨rfl, rfl⟩

theorem made_bytes (w : World) (k : Nat) (hk : k ≤ 140737488355328) : (w.alloc (.cells (madeCells #[.int .u8 0] k) 5)).ownsRow w.heap.size 5 1 (.slice (some ⟨w.heap.size, 0, none⟩) k k) k (byteVs (List.replicate k 0)) := by
  have e' : (madeCells #[.int .u8 0] k).toList = byteVs (List.replicate k 0) := by rw [toList_madeCells_one]; simp [byteVs]
  have hs : (madeCells #[Value.int .u8 0] k).size = k := by rw [size_madeCells]
  refine ⟨by simp [byteVs_length], .inr ⟨w.heap.size, k, _, rfl, Nat.le_refl _, heap_alloc_new _ _, Nat.le_refl _, by unfold maxLen; omega, by rw [hs]; omega, ?_⟩⟩
  rw [Nat.mul_one, List.take_of_length_le (by rw [Array.length_toList, hs]; omega)]
  exact e'

/-- The first k bytes of f, then zeros. -/
def filled (f : Nat → Nat) (V k : Nat) : List Nat := (List.range V).map fun i => if i < k then f i else 0
theorem filled_zero (f : Nat → Nat) (V : Nat) : filled f V 0 = List.replicate V 0 := by
  unfold filled
  apply List.ext_getElem <;> simp
theorem filled_full (f : Nat → Nat) (V : Nat) : filled f V V = (List.range V).map f := by
  unfold filled
  apply List.map_congr_left
  intro i hi
  simp at hi
  simp [hi]
theorem filled_length (f : Nat → Nat) (V k : Nat) : (filled f V k).length = V := by simp [filled]
theorem filled_set (f : Nat → Nat) (V k : Nat) (_hk : k < V) : (byteVs (filled f V k)).set k (.int .u8 ((f k : Nat) : Int)) = byteVs (filled f V (k + 1)) := by
  apply List.ext_getElem
  · simp [byteVs, filled]
  · intro i h1 h2
    simp [byteVs, filled] at h1 h2 ⊢
    rw [List.getElem_set]
    by_cases hik : k = i
    · subst hik; simp
    · rw [if_neg hik]
      simp only [List.getElem_map, List.getElem_range]
      by_cases hlt : i < k
      · simp [hlt, show i < k + 1 by omega]
      · simp [hlt, show ¬ i < k + 1 by omega]

theorem chunk_left (bytes : List Nat) (p i : Nat) : chunk (leftL bytes p) i = valAt bytes (p + 8 * i) 8 := by
  rw [valAt_left]; rfl

set_option maxRecDepth 100000 in
set_option maxHeartbeats 1600000 in
theorem sText_any (B q : Nat) (bytes : List Nat) (p : Nat) (w : World) (hs : SrcIs w B q bytes p) :
    Calls Try.prog 119 #[.pointer (some ⟨q, 0, none⟩)] w fun e w' => e = .returned (.tuple #[.string (textStr (leftL bytes p)), .int .i64 ((textErrL (leftL bytes p) : Nat) : Int)]) ∧
      (∃ p', SrcIs w' B q bytes p' ∧ leftL bytes p' = textRestL (leftL bytes p)) ∧ KeptS B q w w' := by
  have hp := hs.at_
  have hpos := hs.pos
  have hmade := hs.made
  have hlenb := hs.len
  have C := sNat_any B q bytes p w hs
  rw [natErr_left, natVal_left] at C
  obtain ⟨l, hl⟩ : ∃ l, l = leftL bytes p := ⟨_, rfl⟩
  rw [← hl] at C ⊢
  have hlt := natValL_lt l
  obtain ⟨E, hE⟩ : ∃ E, E = natErrL l := ⟨_, rfl⟩
  obtain ⟨V, hV⟩ : ∃ V, V = natValL l := ⟨_, rfl⟩
  obtain ⟨p1, hp1⟩ : ∃ p1, p1 = natNext bytes p := ⟨_, rfl⟩
  have hrest : leftL bytes p1 = natRestL l := by rw [hp1, hl]; exact natRest_left bytes p
  rw [← hE, ← hV, ← hp1] at C
  rw [← hV] at hlt
  have HE := hide hE
  have HV := hide hV
  have HL := hide hl
  have HRest := hide hrest
  have HP1 := hide hp1
  clear hE hV hl hrest hp1
  have hV' : (V : Int) ≤ 18446744073709551615 := by omega
  have HVlt := hide hlt; clear hlt
  have HS0 := hide hs; clear hs
  by_cases h0 : E = 0
  · subst h0
    have hErr2 : (natErrL l) = 0 := HE.out.symm
    have HErr2 := hide hErr2; clear hErr2
    go_enter Try.func119, Try.ntmps119
    go_wp2_with fail
    refine (sIsMade_any q _ hmade).mono ?_
    rintro e w' ⟨rfl, rfl⟩
    go_wp2_with fail
    refine C.mono ?_
    clear C
    rintro e w1 ⟨rfl, hs1, k1⟩
    have H1 := hide hs1; have K1 := hide k1; clear hs1 k1
    have hp1b := H1.out.at_
    obtain ⟨Lf, hLf⟩ : ∃ Lf, Lf = 8 * bytes.length - p1 := ⟨_, rfl⟩
    have C2 := sLeft_k B q bytes p1 w1 H1.out
    rw [← hLf] at C2
    have HLf := hide hLf; clear hLf
    have hLb : Lf ≤ 1125899906842624 := by have := HLf.out; omega
    go_wp2_with fail
    refine C2.mono ?_
    clear C2
    rintro e w2 ⟨rfl, hs2, k2⟩
    have H2 := hide hs2; have K2 := hide k2; clear hs2 k2
    have hfree2 := H2.out.free
    have hpos2 := H2.out.pos
    have HNl : Hid ((natRestL l).length = Lf) := by rw [← HRest.out, leftL_length]; exact HLf.out.symm
    by_cases hmuch : Lf / 8 < V
    · have he : textErrL l = 10 := by unfold textErrL; rw [HErr2.out, ← HV.out, HNl.out]; simp [hmuch]
      have HTE := hide he; clear he
      go_wp2_with fail
      go_ret2
      rw [textStr, textBytesL, textRestL, HTE.out]
      exact ⟨rfl, ⟨p, H2.out.moved p hp, HL.out.symm⟩, (K1.out.trans K2.out).trans (H2.out.keeps _)⟩
    · have he : textErrL l = 0 := by unfold textErrL; rw [HErr2.out, ← HV.out, HNl.out]; simp [hmuch]
      have hV8 : 8 * V ≤ Lf := by omega
      have hV9 : V ≤ 140737488355328 := by omega
      have HT : Hid (textBytesL l = (List.range V).map (chunk (natRestL l)) ∧ textRestL l = (natRestL l).drop (8 * V)) := by
        unfold textBytesL textRestL; rw [he, if_pos rfl, if_pos rfl, ← HV.out]; exact ⟨rfl, rfl⟩
      have HTE := hide he; clear he
      have hmk := run_make_row' (P := Try.prog) 53 5 (.int .u8 0) 1 Try.underlying53 Try.info5 rfl .u64 .u64 V (by omega) (by omega)
      obtain ⟨v, hat⟩ : ∃ v, SrcAt w2 B q bytes p1 v := by
        obtain ⟨v, h1, h2⟩ := H2.out.row
        exact ⟨v, h1, h2⟩
      have HAt := hide hat; clear hat
      have hqlt : q < w2.heap.size := H2.out.lt
      obtain ⟨M, hM⟩ : ∃ M, M = w2.heap.size := ⟨_, rfl⟩
      have hq2 : q ≠ M := by omega
      have hv2 : v.ownBlock ≠ some M := by
        intro h
        have := (HAt.out.2.lt M h).2
        omega
      have HQ2 := hide hq2; have HV2 := hide hv2; clear hq2 hv2
      have hB : B ≤ M := by have := H2.out.from_; omega
      have HM := hide hM
      go_wp2_with fail
      rw [← hM]
      clear hM hmk
      go_loopw [38] (fun i wr => ∃ k : Nat, k ≤ V ∧ i = .int .i64 k ∧ wr.ownsRow M 5 1 (.slice (some ⟨M, 0, none⟩) V V) V (byteVs (filled (chunk (natRestL l)) V k)) ∧ SrcAt wr B q bytes (p1 + 8 * k) v ∧ KeptS B q w2 wr) (fun i _ => V - (intOf i).toNat)
      case atStart =>
        refine ⟨0, Nat.zero_le _, rfl, ?_, HAt.out.alloc _, (KeptS.refl _ _ _).alloc (by have := HM.out; omega) _⟩
        rw [filled_zero, HM.out]
        exact made_bytes w2 V hV9
      case round =>
        obtain ⟨k, hk, rfl, hown, hsr, hkr⟩ := hrel
        have HO := hide hown; have HR := hide hsr; have HK := hide hkr; clear hown hsr hkr
        by_cases hltk : k < V
        · have hle : p1 + 8 * k + 8 ≤ 8 * bytes.length := by have := HLf.out; omega
          have CT := sTake_at B q 8 bytes (p1 + 8 * k) wr (HR.out.is H2.out (by omega)) (by omega) hle
          obtain ⟨c, hcc⟩ : ∃ c, c = chunk (natRestL l) k := ⟨_, rfl⟩
          have hcv : valAt bytes (p1 + 8 * k) 8 = c := by rw [hcc, ← HRest.out, chunk_left]
          rw [hcv] at CT
          have hc256 : c < 256 := by rw [hcc]; exact chunk_lt _ _
          have hcw : (c : Int) % 256 = (c : Int) := by omega
          have HCC := hide hcc; clear hcc hcv
          have hcellt : (wr.setCell ⟨q, 2, none⟩ (.int .i64 ((p1 + 8 * k + 8 : Nat) : Int))).ownsRow M 5 1 (.slice (some ⟨M, 0, none⟩) V V) V (byteVs (filled (chunk (natRestL l)) V k)) := ownsRow_setCell_typed HO.out HR.out.1 (by decide) _
          obtain ⟨w3, hw3⟩ : ∃ w3, w3 = wr.setCell ⟨q, 2, none⟩ (.int .i64 ((p1 + 8 * k + 8 : Nat) : Int)) := ⟨_, rfl⟩
          have hsr3 := HR.out.moved (p1 + 8 * k + 8)
          have hkr3 := HK.out.setCell (p := ⟨q, 2, none⟩) H2.out.from_ HR.out.1 rfl (.int .i64 ((p1 + 8 * k + 8 : Nat) : Int))
          rw [← hw3] at hcellt CT hsr3 hkr3
          clear hw3
          have hcl := hcellt.cells (g := M) rfl k (.int .u8 (((filled (chunk (natRestL l)) V k).getD k 0 : Nat) : Int)) (by simp [byteVs, filled_length, hltk])
          rw [add_off] at hcl
          obtain ⟨x0, hx0⟩ : ∃ x0 : Nat, x0 = (filled (chunk (natRestL l)) V k).getD k 0 := ⟨_, rfl⟩
          rw [← hx0] at hcl
          clear hx0
          have hfr : w3.frozen? ⟨M, k, none⟩ = false := by
            rcases hcellt.2 with ⟨h, _⟩ | ⟨g, cap, cur, h, _, hgg, _⟩
            · cases h
            · simp only [Value.slice.injEq, Option.some.injEq, Addr.mk.injEq, and_true, true_and] at h
              obtain ⟨rfl, _⟩ := h
              simp [World.frozen?, hgg]
          have HO3 := hide hcellt; have HR3 := hide hsr3; have HK3 := hide hkr3; clear hcellt hsr3 hkr3
          go_wp2_with fail
          refine CT.mono ?_
          clear CT
          rintro e w' ⟨rfl, rfl⟩
          go_wp2
          go_roundw
          case rel =>
            have hst := (HO3.out.stored k (.int .u8 (c : Int))).1
            rw [HCC.out, filled_set _ _ _ hltk] at hst
            rw [HCC.out]
            refine ⟨k + 1, by omega, by go_num, hst, ?_, HK3.out.setCell_fresh (p := ⟨M, k, none⟩) hB (by have := HM.out; simp; omega) _⟩
            have := HR3.out.other (k := k) (.int .u8 ((chunk (natRestL l) k : Nat) : Int)) HQ2.out HV2.out
            rw [show p1 + 8 * (k + 1) = p1 + 8 * k + 8 by omega]
            exact this
          case measure => simp [intOf]; omega
        · obtain rfl : k = V := by omega
          have hcv := conv_own HO.out (filled_length _ _ _)
          rw [filled_full] at hcv
          go_wp2
          go_ret2
          rw [textStr, HT.out.1, HT.out.2, HTE.out]
          refine ⟨by rw [List.map_map]; rfl, ⟨p1 + 8 * k, HR.out.is H2.out (by have := HLf.out; omega), ?_⟩, (K1.out.trans K2.out).trans HK.out⟩
          rw [← HRest.out]
          simp [leftL, List.drop_drop]
  · have hb : ((E : Int) != 0) = true := by simp; omega
    have H0 := hide h0; clear h0
    go_enter Try.func119, Try.ntmps119
    go_wp2_with fail
    refine (sIsMade_any q _ hmade).mono ?_
    rintro e w' ⟨rfl, rfl⟩
    go_wp2_with fail
    refine C.mono ?_
    clear C
    rintro e w1 ⟨rfl, hs1, k1⟩
    have H1 := hide hs1; have K1 := hide k1; clear hs1 k1
    go_wp2
    go_ret2
    have he : textErrL l = E := by unfold textErrL; rw [← HE.out, if_pos H0.out]
    have hr : natRestL l = l := by unfold natRestL; rw [← HE.out, if_neg H0.out]
    have ht : textBytesL l = [] := by unfold textBytesL; rw [he, if_neg H0.out]
    have ht2 : textRestL l = l := by unfold textRestL; rw [he, if_neg H0.out]
    rw [textStr, ht, ht2, he]
    exact ⟨rfl, ⟨p1, H1.out, by rw [HRest.out, hr]⟩, K1.out⟩
end Go.Proofs.Ytpbloplbpkedcaa

/- What a source is within a reader of events, and the contracts of its calls: as those of a source of its own. -/
namespace Go.Proofs.Ytpbloplbpkedcaa
open Go Go.RowKit

def erT (e : Nat) : Bool := e == 198
theorem es_cell {w : World} {q : Nat} {c0 c1 c2 c3 : Value} {t : Nat} (h : w.heap[q]? = some (.cells #[c0, c1, c2, c3] t (0, 0))) :
    w.cell? ⟨q, 0, none⟩ = some c0 ∧ w.cell? ⟨q, 1, none⟩ = some c1 ∧ w.cell? ⟨q, 2, none⟩ = some c2 ∧ w.cell? ⟨q, 3, none⟩ = some c3 := by
  refine ⟨?_, ?_, ?_, ?_⟩ <;> simp [World.cell?, h]
theorem es_free {w : World} {q : Nat} {c0 c1 c2 c3 : Value} {t : Nat} (h : w.heap[q]? = some (.cells #[c0, c1, c2, c3] t (0, 0))) :
    w.frozen? ⟨q, 0, none⟩ = false ∧ w.frozen? ⟨q, 1, none⟩ = false ∧ w.frozen? ⟨q, 2, none⟩ = false ∧ w.frozen? ⟨q, 3, none⟩ = false := by
  refine ⟨?_, ?_, ?_, ?_⟩ <;> simp [World.frozen?, h]
/-- In w the block q is a reader: a source of the bytes that stands at bit p, and an error. -/
structure EsIs (w : World) (B q : Nat) (ec : Int) (bytes : List Nat) (p : Nat) : Prop where
  from_ : B ≤ q
  len : bytes.length ≤ 140737488355328
  at_ : p ≤ 8 * bytes.length
  small : ∀ c ∈ bytes, c < 256
  row : ∃ v, w.heap[q]? = some (.cells #[.bool true, v, .int .i64 (p : Int), .int .i64 ec] 198 (0, 0)) ∧ w.ownsRow B 5 1 v bytes.length (byteVs bytes)
theorem EsIs.made {w : World} {B q : Nat} {ec : Int} {bytes : List Nat} {p : Nat} (h : EsIs w B q ec bytes p) : w.cell? ⟨q, 0, none⟩ = some (.bool true) := by
  obtain ⟨v, h1, _⟩ := h.row
  exact (es_cell h1).1
theorem EsIs.pos {w : World} {B q : Nat} {ec : Int} {bytes : List Nat} {p : Nat} (h : EsIs w B q ec bytes p) : w.cell? ⟨q, 2, none⟩ = some (.int .i64 (p : Int)) := by
  obtain ⟨v, h1, _⟩ := h.row
  exact (es_cell h1).2.2.1
theorem EsIs.lt {w : World} {B q : Nat} {ec : Int} {bytes : List Nat} {p : Nat} (h : EsIs w B q ec bytes p) : q < w.heap.size := by
  obtain ⟨v, h1, _⟩ := h.row
  exact lt_of_block h1
theorem EsIs.drew {w : World} {B q : Nat} {ec : Int} {bytes : List Nat} {p : Nat} (h : EsIs w B q ec bytes p) : EsIs w.drew B q ec bytes p := ⟨h.from_, h.len, h.at_, h.small, h.row⟩
theorem EsIs.drewN {w : World} {B q : Nat} {ec : Int} {bytes : List Nat} {p : Nat} (h : EsIs w B q ec bytes p) (n : Nat) : EsIs (w.drewN n) B q ec bytes p := ⟨h.from_, h.len, h.at_, h.small, h.row⟩
/-- The value of the field b, the bytes' own cells. -/
theorem EsIs.slice {w : World} {B q : Nat} {ec : Int} {bytes : List Nat} {p : Nat} (h : EsIs w B q ec bytes p) :
    ∃ ao cap, w.cell? ⟨q, 1, none⟩ = some (.slice ao bytes.length cap) ∧ (∀ g, ao = some g → ∀ j, j < bytes.length → w.cell? (g.add j) = some (.int .u8 ((bytes.getD j 0 : Nat) : Int))) ∧ (ao = none → bytes.length = 0) ∧ (∀ g, ao = some g → g.off = 0 ∧ g.spot = none) := by
  obtain ⟨v, h1, ho⟩ := h.row
  rcases ho.2 with ⟨hv, hn0⟩ | ⟨g, cap, cur, hv, hg, hgg, hgn, hcapm, hcsz, htake⟩
  · refine ⟨none, 0, ?_, ?_, fun _ => hn0, ?_⟩
    · rw [(es_cell h1).2.1, hv, hn0]
    · intro g hg; cases hg
    · intro g hg; cases hg
  · refine ⟨some ⟨g, 0, none⟩, cap, ?_, ?_, ?_, ?_⟩
    · rw [(es_cell h1).2.1, hv]
    · intro g' hg' j hj
      simp only [Option.some.injEq] at hg'
      subst hg'
      subst hv
      refine ho.cells (g := g) rfl j _ ?_
      simp [byteVs, hj]
    · intro h; cases h
    · intro g' hg'; simp only [Option.some.injEq] at hg'; subst hg'; exact ⟨rfl, rfl⟩

theorem esLeft_any (B q : Nat) (ec : Int) (bytes : List Nat) (p : Nat) (w : World) (hs : EsIs w B q ec bytes p) :
    Calls Try.prog 29 #[.pointer (some ⟨q, 0, none⟩)] w fun e w' => e = .returned (.int .i64 ((8 * bytes.length - p : Nat) : Int)) ∧ ∃ n, w' = w.drewN n := by
  obtain ⟨ao, cap, h1, _, _, _⟩ := hs.slice
  have h0 := hs.made
  have h2 := hs.pos
  have hp := hs.at_
  have hl := hs.len
  obtain ⟨N, hN⟩ : ∃ N, N = bytes.length := ⟨_, rfl⟩
  rw [← hN] at h1 hp hl
  have HN := hide hN; clear hN
  go_enter Try.func29, Try.ntmps29
  go_wp2_with fail
  refine (sIsMade_any q _ h0).mono ?_
  rintro e w' ⟨rfl, rfl⟩
  go_wp2_with fail
  go_quiet (fail)
  go_wp2
  go_ret
  refine ⟨?_, _, rfl⟩
  rw [← HN.out]
  show Ending.returned (.int .i64 (8 * (N : Int) - p)) = _
  rw [show 8 * (N : Int) - p = ((8 * N - p : Nat) : Int) by omega]

set_option maxRecDepth 100000 in
set_option maxHeartbeats 400000 in
theorem esPeek_any (B q : Nat) (ec : Int) (bytes : List Nat) (p a n : Nat) (w : World) (hs : EsIs w B q ec bytes p) (hn : n ≤ 64) (ha : a + n ≤ 8 * bytes.length) :
    Calls Try.prog 85 #[.pointer (some ⟨q, 0, none⟩), .int .i64 (a : Int), .int .i64 (n : Int)] w fun e w' => e = .returned (.int .u64 ((valAt bytes a n : Nat) : Int)) ∧ w = w' := by
  obtain ⟨ao, cap, h1, hc, hnone, hoff⟩ := hs.slice
  have hl := hs.len
  obtain ⟨N, hN⟩ : ∃ N, N = bytes.length := ⟨_, rfl⟩
  rw [← hN] at h1 ha hl
  have HC := hide hc; clear hc
  have HNone := hide hnone; clear hnone
  have HOff := hide hoff; clear hoff
  have HN := hide hN; clear hN
  have HS := hide hs.small
  clear hs
  go_enter Try.func85, Try.ntmps85
  go_wp2
  go_loop [7, 11] (fun u i => ∃ k : Nat, k ≤ n ∧ i = .int .i64 k ∧ u = .int .u64 ((valAt bytes a k : Nat) : Int)) (fun _ i => n - (intOf i).toNat)
  case atStart => exact ⟨0, Nat.zero_le _, rfl, by rw [valAt_zero]; rfl⟩
  case round =>
    obtain ⟨k, hk, rfl, rfl⟩ := hrel
    by_cases hlt : k < n
    · have hgo : ∃ g : Nat, ao = some ⟨g, 0, none⟩ := by
        cases ao with
        | none => have h1 := HNone.out rfl; have h2 := HN.out; omega
        | some g => obtain ⟨h1, h2⟩ := HOff.out g rfl; obtain ⟨g1, g2, g3⟩ := g; simp at h1 h2; subst h1; subst h2; exact ⟨g1, rfl⟩
      obtain ⟨g, rfl⟩ := hgo
      have hidx : (a + k) / 8 < N := by omega
      obtain ⟨c, hcc⟩ : ∃ c, c = bytes.getD ((a + k) / 8) 0 := ⟨_, rfl⟩
      have hcell : w.cell? ⟨g, (a + k) / 8, none⟩ = some (.int .u8 (c : Int)) := by
        have := HC.out _ rfl ((a + k) / 8) (by rw [← HN.out]; exact hidx)
        rw [hcc]
        rw [add_off] at this
        exact this
      have hc256 : c < 256 := by
        have hidx' : (a + k) / 8 < bytes.length := by rw [← HN.out]; exact hidx
        rw [hcc, List.getD, List.getElem?_eq_getElem hidx']
        exact HS.out _ (List.getElem_mem _)
      obtain ⟨V, hV⟩ : ∃ V, V = valAt bytes a k := ⟨_, rfl⟩
      have hVlt : V < 2 ^ 63 := by
        have := valAt_lt bytes a k
        have := Nat.pow_le_pow_right (n := 2) (by omega) (show k ≤ 63 by omega)
        omega
      have hsucc := valAt_succ bytes a k (by rw [← HN.out]; omega)
      rw [← hV] at hsucc
      obtain ⟨b, hb⟩ : ∃ b, b = bitAt bytes (a + k) := ⟨_, rfl⟩
      rw [← hb] at hsucc
      have e1 : bits BinOp.and IntKind.u8 ((c : Int) / 2 ^ (7 - (a + k) % 8)) 1 = (b.toNat : Int) := by
        rw [and_bit8 c _ hc256 (by omega), hb, hcc]; rfl
      rw [← hV]
      have hV' : (V : Int) ≤ 9223372036854775807 := by omega
      have HV := hide hV; clear hV
      have HB := hide hb; clear hb
      have HCC := hide hcc; clear hcc
      have HSu := hide hsucc; clear hsucc
      obtain ⟨b', hb'⟩ : ∃ b' : Nat, b' = b.toNat := ⟨_, rfl⟩
      have e2 := or_bit64 V b hVlt
      obtain ⟨V2, hV2⟩ : ∃ V2 : Nat, V2 = 2 * V + b.toNat := ⟨_, rfl⟩
      rw [← hV2, ← hb'] at e2
      rw [← hb'] at e1
      have hb2 : b' ≤ 1 := by rw [hb']; cases b <;> simp
      have HV2 := hide hV2; clear hV2 hb' hVlt
      go_wp2
      go_round
      case rel => exact ⟨k + 1, by omega, by go_num, by rw [HSu.out, HV2.out]⟩
      case measure => simp [intOf]; omega
    · go_wp2
      go_ret
      obtain rfl : k = n := by omega
      exact ⟨rfl, rfl⟩


set_option maxRecDepth 100000 in
set_option maxHeartbeats 400000 in
theorem esZeros_any (B q : Nat) (ec : Int) (bytes : List Nat) (p : Nat) (w : World) (hs : EsIs w B q ec bytes p) :
    Calls Try.prog 174 #[.pointer (some ⟨q, 0, none⟩)] w fun e w' => e = .returned (.int .i64 ((zerosAt bytes p : Nat) : Int)) ∧ ∃ n, w' = w.drewN n := by
  have hp := hs.at_
  have hl := hs.len
  have h2 := hs.pos
  obtain ⟨M, hM⟩ : ∃ M, M = min (8 * bytes.length - p) 65 := ⟨_, rfl⟩
  have eM : min ((8 * bytes.length - p : Nat) : Int) 65 = (M : Int) := by omega
  have hM65 : M ≤ 65 := by omega
  have hMp : p + M ≤ 8 * bytes.length := by omega
  have HM := hide hM; clear hM
  go_enter Try.func174, Try.ntmps174
  go_wp2_with fail
  refine (esLeft_any B q ec bytes p _ hs).mono ?_
  rintro e w' ⟨rfl, nn, rfl⟩
  go_wp2_with fail
  go_loop [9] (fun i => ∃ k : Nat, k ≤ M ∧ i = .int .i64 k ∧ ∀ i, i < k → bitAt bytes (p + i) = false) (fun i => M - (intOf i).toNat)
  case atStart => exact ⟨0, Nat.zero_le _, rfl, by intro i hi; omega⟩
  case round =>
    obtain ⟨k, hk, rfl, hz⟩ := hrel
    have HZ := hide hz; clear hz
    by_cases hlt : k < M
    · have hv := valAt_one bytes (p + k) (by omega)
      have C : ∀ w0, EsIs w0 B q ec bytes p → Calls Try.prog 85 #[.pointer (some ⟨q, 0, none⟩), .int .i64 ((p : Int) + (k : Int)), .int .i64 1] w0 fun e w' => e = .returned (.int .u64 (((bitAt bytes (p + k)).toNat : Nat) : Int)) ∧ w0 = w' := by
        intro w0 hs0
        have := esPeek_any B q ec bytes p (p + k) 1 w0 hs0 (by omega) (by omega)
        rw [hv] at this
        exact this
      have hsN := hs.drewN nn
      cases hb : bitAt bytes (p + k) with
      | true =>
        rw [hb] at C
        have HB := hide hb; clear hb
        go_wp2_with fail
        refine (C _ hsN).mono ?_
        rintro e w' ⟨rfl, rfl⟩
        go_wp2
        go_ret
        have hz := HM.out
        refine ⟨?_, _, rfl⟩
        rw [zerosAt_eq bytes p k hp (by omega) HZ.out (fun _ => HB.out)]
        rfl
      | false =>
        rw [hb] at C
        have HB := hide hb; clear hb
        go_wp2_with fail
        refine (C _ hsN).mono ?_
        rintro e w' ⟨rfl, rfl⟩
        go_wp2
        go_round
        case rel =>
          refine ⟨k + 1, by omega, by go_num, fun i hi => ?_⟩
          by_cases hik : i = k
          · rw [hik]; exact HB.out
          · exact HZ.out i (by omega)
        case measure => simp [intOf]; omega
    · go_wp2
      go_ret
      have hz := HM.out
      refine ⟨?_, _, rfl⟩
      obtain rfl : k = M := by omega
      rw [zerosAt_eq bytes p k hp (by omega) HZ.out (fun h => by omega)]
      rfl

/-- The same, the world behind the call left a variable. -/
theorem esLeft_k (B q : Nat) (ec : Int) (bytes : List Nat) (p : Nat) (w : World) (hs : EsIs w B q ec bytes p) :
    Calls Try.prog 29 #[.pointer (some ⟨q, 0, none⟩)] w fun e w' => e = .returned (.int .i64 ((8 * bytes.length - p : Nat) : Int)) ∧ EsIs w' B q ec bytes p ∧ Kept B erT w w' :=
  (esLeft_any B q ec bytes p w hs).mono fun e w' ⟨he, n, hw⟩ => by rw [hw]; exact ⟨he, hs.drewN n, (Kept.refl _ _ _).drewN n⟩
theorem esZeros_k (B q : Nat) (ec : Int) (bytes : List Nat) (p : Nat) (w : World) (hs : EsIs w B q ec bytes p) :
    Calls Try.prog 174 #[.pointer (some ⟨q, 0, none⟩)] w fun e w' => e = .returned (.int .i64 ((zerosAt bytes p : Nat) : Int)) ∧ EsIs w' B q ec bytes p ∧ Kept B erT w w' :=
  (esZeros_any B q ec bytes p w hs).mono fun e w' ⟨he, n, hw⟩ => by rw [hw]; exact ⟨he, hs.drewN n, (Kept.refl _ _ _).drewN n⟩
end Go.Proofs.Ytpbloplbpkedcaa
namespace Go.Proofs.Ytpbloplbpkedcaa
open Go Go.RowKit
/-- The block of a source behind a store into its place. -/
theorem EsIs.moved {w : World} {B q : Nat} {ec : Int} {bytes : List Nat} {p : Nat} (h : EsIs w B q ec bytes p) (p' : Nat) (hp : p' ≤ 8 * bytes.length) : EsIs (w.setCell ⟨q, 2, none⟩ (.int .i64 (p' : Int))) B q ec bytes p' := by
  obtain ⟨v, h1, ho⟩ := h.row
  refine ⟨h.from_, h.len, hp, h.small, v, ?_, ownsRow_setCell_typed ho h1 (by decide) _⟩
  rw [heap_setCell_same h1]; simp
theorem EsIs.keeps {w : World} {B q : Nat} {ec : Int} {bytes : List Nat} {p : Nat} (h : EsIs w B q ec bytes p) (u : Value) : Kept B erT w (w.setCell ⟨q, 2, none⟩ u) := by
  obtain ⟨v, h1, ho⟩ := h.row
  exact (Kept.refl _ _ _).setCell h.from_ h1 rfl u
theorem EsIs.free {w : World} {B q : Nat} {ec : Int} {bytes : List Nat} {p : Nat} (h : EsIs w B q ec bytes p) : w.frozen? ⟨q, 2, none⟩ = false := by
  obtain ⟨v, h1, _⟩ := h.row
  exact (es_free h1).2.2.1

set_option maxRecDepth 100000 in
set_option maxHeartbeats 400000 in
theorem esNat_any (B q : Nat) (ec : Int) (bytes : List Nat) (p : Nat) (w : World) (hs : EsIs w B q ec bytes p) :
    Calls Try.prog 157 #[.pointer (some ⟨q, 0, none⟩)] w fun e w' => e = .returned (.tuple #[.int .u64 ((natVal bytes p : Nat) : Int), .int .i64 ((natErr bytes p : Nat) : Int)]) ∧ EsIs w' B q ec bytes (natNext bytes p) ∧ Kept B erT w w' := by
  have hp := hs.at_
  have hl := hs.len
  obtain ⟨k, hk⟩ : ∃ k, k = zerosAt bytes p := ⟨_, rfl⟩
  have C := esZeros_k B q ec bytes p w hs
  rw [← hk] at C
  have HK := hide hk; clear hk
  go_enter Try.func157, Try.ntmps157
  go_wp2_with fail
  refine (sIsMade_any q _ hs.made).mono ?_
  rintro e w' ⟨rfl, rfl⟩
  go_wp2_with fail
  refine C.mono ?_
  rintro e w1 ⟨rfl, hs1, k1⟩
  by_cases h64 : 64 < k
  · go_wp2_with fail
    go_ret2
    have he : natErr bytes p = 11 := by unfold natErr; rw [← HK.out, if_pos h64]
    rw [natVal, natNext, he]
    exact ⟨rfl, hs1, k1⟩
  obtain ⟨Lf, hLf⟩ : ∃ Lf, Lf = 8 * bytes.length - p := ⟨_, rfl⟩
  have C2 := esLeft_k B q ec bytes p w1 hs1
  rw [← hLf] at C2
  have HL := hide hLf; clear hLf
  have hLb : Lf ≤ 1125899906842624000 := by have := HL.out; omega
  go_wp2_with fail
  refine C2.mono ?_
  rintro e w2 ⟨rfl, hs2, k2⟩
  have hpos := hs2.pos
  have hfree := hs2.free
  by_cases hfew : Lf < 2 * k + 1
  · go_wp2_with fail
    go_ret2
    have he : natErr bytes p = 10 := by unfold natErr; rw [← HK.out, if_neg h64, if_pos (by have := HL.out; omega)]
    rw [natVal, natNext, he]
    exact ⟨rfl, hs2, k1.trans k2⟩
  obtain ⟨V, hV⟩ : ∃ V, V = valAt bytes (p + k + 1) k := ⟨_, rfl⟩
  have hVlt : V < 2 ^ k := by rw [hV]; exact valAt_lt _ _ _
  have C3 := esPeek_any B q ec bytes p (p + k + 1) k w2 hs2 (by omega) (by have := HL.out; omega)
  rw [← hV] at C3
  have C4 : Calls Try.prog 85 #[.pointer (some ⟨q, 0, none⟩), .int .i64 ((p : Int) + (k : Int) + 1), .int .i64 (k : Int)] w2 fun e w' => e = .returned (.int .u64 ((V : Nat) : Int)) ∧ w2 = w' := C3
  have HV := hide hV; clear hV
  clear C C2 C3
  have hp2 : p ≤ 1125899906842624000 := by omega
  have HP := hide hp; clear hp
  have he0 : natErr bytes p = if k = 64 ∧ V ≠ 0 then 11 else 0 := by unfold natErr; rw [← HK.out, ← HV.out, if_neg h64, if_neg (by have := HL.out; omega)]
  have HE := hide he0; clear he0
  by_cases hk64 : k = 64
  · subst hk64
    by_cases hV0 : V = 0
    · have hVb : ((V : Int) != 0) = false := by simp; omega
      have hV0' := hide hV0; clear hV0
      go_wp2_with fail
      refine C4.mono ?_
      rintro e w' ⟨rfl, rfl⟩
      clear C4
      go_wp2
      go_ret2
      have he : natErr bytes p = 0 := HE.out.trans (if_neg (fun h => h.2 hV0'.out))
      have hm := hs2.moved (p + (2 * 64 + 1)) (by have := HL.out; have := HP.out; omega)
      rw [natVal, natNext, he, if_pos rfl, if_pos rfl, ← HK.out, ← HV.out, hV0'.out]
      refine ⟨?_, ?_, ?_⟩
      · show Ending.returned (.tuple #[.int .u64 (IntKind.u64.wrap (IntKind.u64.wrap (IntKind.u64.wrap 18446744073709551616 + ((0 : Nat) : Int)) - 1)), .int .i64 0]) = _
        have e : IntKind.u64.wrap (IntKind.u64.wrap (IntKind.u64.wrap 18446744073709551616 + ((0 : Nat) : Int)) - 1) = ((2 ^ 64 + 0 - 1 : Nat) : Int) := by decide +kernel
        rw [e]; rfl
      · exact hm
      · exact (k1.trans k2).trans (hs2.keeps _)
    · have hVb : ((V : Int) != 0) = true := by simp; omega
      have hV0' := hide hV0; clear hV0
      go_wp2_with fail
      refine C4.mono ?_
      rintro e w' ⟨rfl, rfl⟩
      clear C4
      go_wp2
      go_ret2
      have he : natErr bytes p = 11 := HE.out.trans (if_pos ⟨by trivial, hV0'.out⟩)
      rw [natVal, natNext, he]
      exact ⟨rfl, hs2, k1.trans k2⟩
  · have hk63 : k ≤ 63 := by omega
    have hkb : ((k : Int) == 64) = false := by simp; omega
    have hk64' := hide hk64; clear hk64
    go_wp2_with fail
    refine C4.mono ?_
    rintro e w' ⟨rfl, rfl⟩
    clear C4
    go_wp2
    go_ret2
    have he := HE.out
    rw [if_neg (by rintro ⟨h, _⟩; exact hk64'.out h)] at he
    have hm := hs2.moved (p + (2 * k + 1)) (by have := HL.out; have := HP.out; omega)
    rw [natVal, natNext, he, if_pos rfl, if_pos rfl, ← HK.out, ← HV.out]
    refine ⟨?_, ?_, ?_⟩
    · show Ending.returned (.tuple #[.int .u64 (IntKind.u64.wrap (IntKind.u64.wrap (IntKind.u64.wrap (2 ^ k) + (V : Int)) - 1)), .int .i64 0]) = _
      have h2k : (2 : Nat) ^ k ≤ 2 ^ 63 := Nat.pow_le_pow_right (by omega) hk63
      have h1k : 0 < (2 : Nat) ^ k := Nat.two_pow_pos k
      have hck : ((2 : Int) ^ k) = ((2 ^ k : Nat) : Int) := by push_cast; rfl
      have e : IntKind.u64.wrap (IntKind.u64.wrap (IntKind.u64.wrap (2 ^ k) + (V : Int)) - 1) = ((2 ^ k + V - 1 : Nat) : Int) := by
        rw [hck]; simp only [IntKind.wrap_u64]; omega
      rw [e]; rfl
    · exact hm
    · exact (k1.trans k2).trans (hs2.keeps _)
set_option maxRecDepth 100000 in
theorem esTake_any (B q n : Nat) (ec : Int) (bytes : List Nat) (p : Nat) (w : World) (hs : EsIs w B q ec bytes p) (hn : n ≤ 64) (hle : p + n ≤ 8 * bytes.length) :
    Calls Try.prog 62 #[.pointer (some ⟨q, 0, none⟩), .int .i64 (n : Int)] w fun e w' => e = .returned (.int .u64 ((valAt bytes p n : Nat) : Int)) ∧ EsIs w' B q ec bytes (p + n) ∧ Kept B erT w w' := by
  have hpos := hs.pos
  have hfree := hs.free
  have hl := hs.len
  have C := esPeek_any B q ec bytes p p n w hs hn hle
  have HM := hide (hs.moved (p + n) hle)
  have HK := hide (fun u => hs.keeps u)
  clear hs
  go_enter Try.func62, Try.ntmps62
  go_wp2_with (go_at_call 85; refine C.mono ?_; rintro e w' ⟨rfl, rfl⟩)
  go_ret
  exact ⟨rfl, HM.out, HK.out _⟩

set_option maxRecDepth 100000 in
theorem esBits_any (B q : Nat) (n : Int) (ec : Int) (bytes : List Nat) (p : Nat) (w : World) (hs : EsIs w B q ec bytes p) (hw : (Lit.int .i64 n).wf = true) :
    Calls Try.prog 26 #[.pointer (some ⟨q, 0, none⟩), .int .i64 n] w fun e w' => e = .returned (.tuple #[.int .u64 ((bitsVal (leftL bytes p) n : Nat) : Int), .int .i64 ((bitsErr n (leftL bytes p).length : Nat) : Int)]) ∧
      (∃ p', EsIs w' B q ec bytes p' ∧ leftL bytes p' = bitsRest (leftL bytes p) n) ∧ Kept B erT w w' := by
  have hw2 : -9223372036854775808 ≤ n ∧ n ≤ 9223372036854775807 := by simpa [Lit.wf, IntKind.min, IntKind.max, IntKind.signed, IntKind.bits] using hw
  have hp := hs.at_
  by_cases h1 : n < 0
  · have he := bitsErr_arg (n := n) (len := (leftL bytes p).length) (.inl h1)
    rw [bitsVal, bitsRest, he]
    have hm := hs.made
    have HS := hide hs; clear hs he hw
    go_enter Try.func26, Try.ntmps26
    go_wp2_with (go_at_call 61; refine (sIsMade_any q _ hm).mono ?_; rintro e w' ⟨rfl, rfl⟩)
    go_ret2
    exact ⟨rfl, ⟨p, HS.out, rfl⟩, Kept.refl _ _ _⟩
  by_cases h2 : 64 < n
  · have he := bitsErr_arg (n := n) (len := (leftL bytes p).length) (.inr h2)
    rw [bitsVal, bitsRest, he]
    have hm := hs.made
    have HS := hide hs; clear hs he hw
    go_enter Try.func26, Try.ntmps26
    go_wp2_with (go_at_call 61; refine (sIsMade_any q _ hm).mono ?_; rintro e w' ⟨rfl, rfl⟩)
    go_ret2
    exact ⟨rfl, ⟨p, HS.out, rfl⟩, Kept.refl _ _ _⟩
  obtain ⟨m, rfl⟩ : ∃ m : Nat, n = m := ⟨n.toNat, by omega⟩
  obtain ⟨Lf, hLf⟩ : ∃ Lf, Lf = 8 * bytes.length - p := ⟨_, rfl⟩
  have C2 := esLeft_k B q ec bytes p w hs
  rw [← hLf] at C2
  have hm := hs.made
  by_cases h3 : Lf < m
  · have he := bitsErr_ends (n := (m : Int)) (len := (leftL bytes p).length) (by omega) (by rw [leftL_length]; omega)
    rw [bitsVal, bitsRest, he]
    clear hs he hw hLf
    go_enter Try.func26, Try.ntmps26
    go_wp2_with fail
    refine (sIsMade_any q _ hm).mono ?_; rintro e w' ⟨rfl, rfl⟩
    go_wp2_with fail
    refine C2.mono ?_; rintro e w1 ⟨rfl, hs1, k1⟩
    have HS1 := hide hs1; have HK1 := hide k1; clear hs1 k1
    go_wp2
    go_ret2
    exact ⟨rfl, ⟨p, HS1.out, rfl⟩, HK1.out⟩
  · have he := bitsErr_ok (n := m) (len := (leftL bytes p).length) (by omega) (by rw [leftL_length]; omega)
    rw [bitsVal, bitsRest, he, if_pos rfl, if_pos rfl]
    have hv := valAt_left bytes p 0 m
    rw [Nat.add_zero, List.drop_zero] at hv
    have hr : leftL bytes (p + m) = (leftL bytes p).drop m := by simp [leftL, List.drop_drop]
    have hle : p + m ≤ 8 * bytes.length := by omega
    rw [show ((m : Int)).toNat = m from rfl, ← hv]
    have HR := hide hr
    clear hs he hw hLf hr hv
    go_enter Try.func26, Try.ntmps26
    go_wp2_with fail
    refine (sIsMade_any q _ hm).mono ?_; rintro e w' ⟨rfl, rfl⟩
    go_wp2_with fail
    refine C2.mono ?_; rintro e w1 ⟨rfl, hs1, k1⟩
    have HK1 := hide k1; clear k1
    go_wp2_with fail
    refine (esTake_any B q m ec bytes p w1 hs1 (by omega) hle).mono ?_; rintro e w2 ⟨rfl, hs2, k2⟩
    have HS2 := hide hs2; have HK2 := hide k2; clear hs2 k2 hs1
    go_wp2
    go_ret2
    exact ⟨rfl, ⟨p + m, HS2.out, HR.out⟩, HK1.out.trans HK2.out⟩
/-- A source, its slice of bytes named. -/
def EsAt (w : World) (B q : Nat) (ec : Int) (bytes : List Nat) (p : Nat) (v : Value) : Prop :=
  w.heap[q]? = some (.cells #[.bool true, v, .int .i64 (p : Int), .int .i64 ec] 198 (0, 0)) ∧ w.ownsRow B 5 1 v bytes.length (byteVs bytes)
theorem EsAt.is {w w0 : World} {B q : Nat} {ec : Int} {bytes : List Nat} {p p' : Nat} {v : Value} (h : EsAt w B q ec bytes p' v) (h0 : EsIs w0 B q ec bytes p) (hp : p' ≤ 8 * bytes.length) : EsIs w B q ec bytes p' :=
  ⟨h0.from_, h0.len, hp, h0.small, v, h.1, h.2⟩
theorem EsAt.moved {w : World} {B q : Nat} {ec : Int} {bytes : List Nat} {p : Nat} {v : Value} (h : EsAt w B q ec bytes p v) (p' : Nat) : EsAt (w.setCell ⟨q, 2, none⟩ (.int .i64 (p' : Int))) B q ec bytes p' v := by
  refine ⟨?_, ownsRow_setCell_typed h.2 h.1 (by decide) _⟩
  rw [heap_setCell_same h.1]; simp
theorem EsAt.alloc {w : World} {B q : Nat} {ec : Int} {bytes : List Nat} {p : Nat} {v : Value} (h : EsAt w B q ec bytes p v) (o : Obj) : EsAt (w.alloc o) B q ec bytes p v :=
  ⟨heap_alloc_keeps h.1 o, h.2.alloc o⟩
theorem EsAt.other {w : World} {B q g k : Nat} {ec : Int} {bytes : List Nat} {p : Nat} {v : Value} (h : EsAt w B q ec bytes p v) (u : Value) (h1 : q ≠ g) (h2 : v.ownBlock ≠ some g) : EsAt (w.setCell ⟨g, k, none⟩ u) B q ec bytes p v :=
  ⟨by rw [Below.heap_setCell _ _ _ _ h1]; exact h.1, ownsRow_setCell_other h.2 h2 u⟩

set_option maxRecDepth 100000 in
theorem esTake_at (B q n : Nat) (ec : Int) (bytes : List Nat) (p : Nat) (w : World) (hs : EsIs w B q ec bytes p) (hn : n ≤ 64) (hle : p + n ≤ 8 * bytes.length) :
    Calls Try.prog 62 #[.pointer (some ⟨q, 0, none⟩), .int .i64 (n : Int)] w fun e w' => e = .returned (.int .u64 ((valAt bytes p n : Nat) : Int)) ∧ w.setCell ⟨q, 2, none⟩ (.int .i64 ((p + n : Nat) : Int)) = w' := by
  have hpos := hs.pos
  have hfree := hs.free
  have hl := hs.len
  have C := esPeek_any B q ec bytes p p n w hs hn hle
  clear hs
  go_enter Try.func62, Try.ntmps62
  go_wp2_with (go_at_call 85; refine C.mono ?_; rintro e w' ⟨rfl, rfl⟩)
  go_ret
  exact ⟨rfl, rfl⟩

set_option maxRecDepth 100000 in
set_option maxHeartbeats 1600000 in
theorem esText_any (B q : Nat) (ec : Int) (bytes : List Nat) (p : Nat) (w : World) (hs : EsIs w B q ec bytes p) :
    Calls Try.prog 119 #[.pointer (some ⟨q, 0, none⟩)] w fun e w' => e = .returned (.tuple #[.string (textStr (leftL bytes p)), .int .i64 ((textErrL (leftL bytes p) : Nat) : Int)]) ∧
      (∃ p', EsIs w' B q ec bytes p' ∧ leftL bytes p' = textRestL (leftL bytes p)) ∧ Kept B erT w w' := by
  have hp := hs.at_
  have hpos := hs.pos
  have hmade := hs.made
  have hlenb := hs.len
  have C := esNat_any B q ec bytes p w hs
  rw [natErr_left, natVal_left] at C
  obtain ⟨l, hl⟩ : ∃ l, l = leftL bytes p := ⟨_, rfl⟩
  rw [← hl] at C ⊢
  have hlt := natValL_lt l
  obtain ⟨E, hE⟩ : ∃ E, E = natErrL l := ⟨_, rfl⟩
  obtain ⟨V, hV⟩ : ∃ V, V = natValL l := ⟨_, rfl⟩
  obtain ⟨p1, hp1⟩ : ∃ p1, p1 = natNext bytes p := ⟨_, rfl⟩
  have hrest : leftL bytes p1 = natRestL l := by rw [hp1, hl]; exact natRest_left bytes p
  rw [← hE, ← hV, ← hp1] at C
  rw [← hV] at hlt
  have HE := hide hE
  have HV := hide hV
  have HL := hide hl
  have HRest := hide hrest
  have HP1 := hide hp1
  clear hE hV hl hrest hp1
  have hV' : (V : Int) ≤ 18446744073709551615 := by omega
  have HVlt := hide hlt; clear hlt
  have HS0 := hide hs; clear hs
  by_cases h0 : E = 0
  · subst h0
    have hErr2 : (natErrL l) = 0 := HE.out.symm
    have HErr2 := hide hErr2; clear hErr2
    go_enter Try.func119, Try.ntmps119
    go_wp2_with fail
    refine (sIsMade_any q _ hmade).mono ?_
    rintro e w' ⟨rfl, rfl⟩
    go_wp2_with fail
    refine C.mono ?_
    clear C
    rintro e w1 ⟨rfl, hs1, k1⟩
    have H1 := hide hs1; have K1 := hide k1; clear hs1 k1
    have hp1b := H1.out.at_
    obtain ⟨Lf, hLf⟩ : ∃ Lf, Lf = 8 * bytes.length - p1 := ⟨_, rfl⟩
    have C2 := esLeft_k B q ec bytes p1 w1 H1.out
    rw [← hLf] at C2
    have HLf := hide hLf; clear hLf
    have hLb : Lf ≤ 1125899906842624 := by have := HLf.out; omega
    go_wp2_with fail
    refine C2.mono ?_
    clear C2
    rintro e w2 ⟨rfl, hs2, k2⟩
    have H2 := hide hs2; have K2 := hide k2; clear hs2 k2
    have hfree2 := H2.out.free
    have hpos2 := H2.out.pos
    have HNl : Hid ((natRestL l).length = Lf) := by rw [← HRest.out, leftL_length]; exact HLf.out.symm
    by_cases hmuch : Lf / 8 < V
    · have he : textErrL l = 10 := by unfold textErrL; rw [HErr2.out, ← HV.out, HNl.out]; simp [hmuch]
      have HTE := hide he; clear he
      go_wp2_with fail
      go_ret2
      rw [textStr, textBytesL, textRestL, HTE.out]
      exact ⟨rfl, ⟨p, H2.out.moved p hp, HL.out.symm⟩, (K1.out.trans K2.out).trans (H2.out.keeps _)⟩
    · have he : textErrL l = 0 := by unfold textErrL; rw [HErr2.out, ← HV.out, HNl.out]; simp [hmuch]
      have hV8 : 8 * V ≤ Lf := by omega
      have hV9 : V ≤ 140737488355328 := by omega
      have HT : Hid (textBytesL l = (List.range V).map (chunk (natRestL l)) ∧ textRestL l = (natRestL l).drop (8 * V)) := by
        unfold textBytesL textRestL; rw [he, if_pos rfl, if_pos rfl, ← HV.out]; exact ⟨rfl, rfl⟩
      have HTE := hide he; clear he
      have hmk := run_make_row' (P := Try.prog) 53 5 (.int .u8 0) 1 Try.underlying53 Try.info5 rfl .u64 .u64 V (by omega) (by omega)
      obtain ⟨v, hat⟩ : ∃ v, EsAt w2 B q ec bytes p1 v := by
        obtain ⟨v, h1, h2⟩ := H2.out.row
        exact ⟨v, h1, h2⟩
      have HAt := hide hat; clear hat
      have hqlt : q < w2.heap.size := H2.out.lt
      obtain ⟨M, hM⟩ : ∃ M, M = w2.heap.size := ⟨_, rfl⟩
      have hq2 : q ≠ M := by omega
      have hv2 : v.ownBlock ≠ some M := by
        intro h
        have := (HAt.out.2.lt M h).2
        omega
      have HQ2 := hide hq2; have HV2 := hide hv2; clear hq2 hv2
      have hB : B ≤ M := by have := H2.out.from_; omega
      have HM := hide hM
      go_wp2_with fail
      rw [← hM]
      clear hM hmk
      go_loopw [38] (fun i wr => ∃ k : Nat, k ≤ V ∧ i = .int .i64 k ∧ wr.ownsRow M 5 1 (.slice (some ⟨M, 0, none⟩) V V) V (byteVs (filled (chunk (natRestL l)) V k)) ∧ EsAt wr B q ec bytes (p1 + 8 * k) v ∧ Kept B erT w2 wr) (fun i _ => V - (intOf i).toNat)
      case atStart =>
        refine ⟨0, Nat.zero_le _, rfl, ?_, HAt.out.alloc _, (Kept.refl _ _ _).alloc (by have := HM.out; omega) _⟩
        rw [filled_zero, HM.out]
        exact made_bytes w2 V hV9
      case round =>
        obtain ⟨k, hk, rfl, hown, hsr, hkr⟩ := hrel
        have HO := hide hown; have HR := hide hsr; have HK := hide hkr; clear hown hsr hkr
        by_cases hltk : k < V
        · have hle : p1 + 8 * k + 8 ≤ 8 * bytes.length := by have := HLf.out; omega
          have CT := esTake_at B q 8 ec bytes (p1 + 8 * k) wr (HR.out.is H2.out (by omega)) (by omega) hle
          obtain ⟨c, hcc⟩ : ∃ c, c = chunk (natRestL l) k := ⟨_, rfl⟩
          have hcv : valAt bytes (p1 + 8 * k) 8 = c := by rw [hcc, ← HRest.out, chunk_left]
          rw [hcv] at CT
          have hc256 : c < 256 := by rw [hcc]; exact chunk_lt _ _
          have hcw : (c : Int) % 256 = (c : Int) := by omega
          have HCC := hide hcc; clear hcc hcv
          have hcellt : (wr.setCell ⟨q, 2, none⟩ (.int .i64 ((p1 + 8 * k + 8 : Nat) : Int))).ownsRow M 5 1 (.slice (some ⟨M, 0, none⟩) V V) V (byteVs (filled (chunk (natRestL l)) V k)) := ownsRow_setCell_typed HO.out HR.out.1 (by decide) _
          obtain ⟨w3, hw3⟩ : ∃ w3, w3 = wr.setCell ⟨q, 2, none⟩ (.int .i64 ((p1 + 8 * k + 8 : Nat) : Int)) := ⟨_, rfl⟩
          have hsr3 := HR.out.moved (p1 + 8 * k + 8)
          have hkr3 := HK.out.setCell (p := ⟨q, 2, none⟩) H2.out.from_ HR.out.1 rfl (.int .i64 ((p1 + 8 * k + 8 : Nat) : Int))
          rw [← hw3] at hcellt CT hsr3 hkr3
          clear hw3
          have hcl := hcellt.cells (g := M) rfl k (.int .u8 (((filled (chunk (natRestL l)) V k).getD k 0 : Nat) : Int)) (by simp [byteVs, filled_length, hltk])
          rw [add_off] at hcl
          obtain ⟨x0, hx0⟩ : ∃ x0 : Nat, x0 = (filled (chunk (natRestL l)) V k).getD k 0 := ⟨_, rfl⟩
          rw [← hx0] at hcl
          clear hx0
          have hfr : w3.frozen? ⟨M, k, none⟩ = false := by
            rcases hcellt.2 with ⟨h, _⟩ | ⟨g, cap, cur, h, _, hgg, _⟩
            · cases h
            · simp only [Value.slice.injEq, Option.some.injEq, Addr.mk.injEq, and_true, true_and] at h
              obtain ⟨rfl, _⟩ := h
              simp [World.frozen?, hgg]
          have HO3 := hide hcellt; have HR3 := hide hsr3; have HK3 := hide hkr3; clear hcellt hsr3 hkr3
          go_wp2_with fail
          refine CT.mono ?_
          clear CT
          rintro e w' ⟨rfl, rfl⟩
          go_wp2
          go_roundw
          case rel =>
            have hst := (HO3.out.stored k (.int .u8 (c : Int))).1
            rw [HCC.out, filled_set _ _ _ hltk] at hst
            rw [HCC.out]
            refine ⟨k + 1, by omega, by go_num, hst, ?_, HK3.out.setCell_fresh (p := ⟨M, k, none⟩) hB (by have := HM.out; simp; omega) _⟩
            have := HR3.out.other (k := k) (.int .u8 ((chunk (natRestL l) k : Nat) : Int)) HQ2.out HV2.out
            rw [show p1 + 8 * (k + 1) = p1 + 8 * k + 8 by omega]
            exact this
          case measure => simp [intOf]; omega
        · obtain rfl : k = V := by omega
          have hcv := conv_own HO.out (filled_length _ _ _)
          rw [filled_full] at hcv
          go_wp2
          go_ret2
          rw [textStr, HT.out.1, HT.out.2, HTE.out]
          refine ⟨by rw [List.map_map]; rfl, ⟨p1 + 8 * k, HR.out.is H2.out (by have := HLf.out; omega), ?_⟩, (K1.out.trans K2.out).trans HK.out⟩
          rw [← HRest.out]
          simp [leftL, List.drop_drop]
  · have hb : ((E : Int) != 0) = true := by simp; omega
    have H0 := hide h0; clear h0
    go_enter Try.func119, Try.ntmps119
    go_wp2_with fail
    refine (sIsMade_any q _ hmade).mono ?_
    rintro e w' ⟨rfl, rfl⟩
    go_wp2_with fail
    refine C.mono ?_
    clear C
    rintro e w1 ⟨rfl, hs1, k1⟩
    have H1 := hide hs1; have K1 := hide k1; clear hs1 k1
    go_wp2
    go_ret2
    have he : textErrL l = E := by unfold textErrL; rw [← HE.out, if_pos H0.out]
    have hr : natRestL l = l := by unfold natRestL; rw [← HE.out, if_neg H0.out]
    have ht : textBytesL l = [] := by unfold textBytesL; rw [he, if_neg H0.out]
    have ht2 : textRestL l = l := by unfold textRestL; rw [he, if_neg H0.out]
    rw [textStr, ht, ht2, he]
    exact ⟨rfl, ⟨p1, H1.out, by rw [HRest.out, hr]⟩, K1.out⟩
/-- The same of the program's source, in the words of the bits that are left. -/
theorem esNat_left (B q : Nat) (ec : Int) (bytes : List Nat) (p : Nat) (w : World) (hs : EsIs w B q ec bytes p) :
    Calls Try.prog 157 #[.pointer (some ⟨q, 0, none⟩)] w fun e w' => e = .returned (.tuple #[.int .u64 ((natValL (leftL bytes p) : Nat) : Int), .int .i64 ((natErrL (leftL bytes p) : Nat) : Int)]) ∧
      (∃ p', EsIs w' B q ec bytes p' ∧ leftL bytes p' = natRestL (leftL bytes p)) ∧ Kept B erT w w' :=
  (esNat_any B q ec bytes p w hs).mono fun e w' ⟨he, h1, h2⟩ => ⟨by rw [he, natErr_left, natVal_left], ⟨_, h1, natRest_left bytes p⟩, h2⟩
set_option maxRecDepth 100000 in
theorem esNum_any (B q : Nat) (ec : Int) (bytes : List Nat) (p : Nat) (w : World) (hs : EsIs w B q ec bytes p) :
    Calls Try.prog 190 #[.pointer (some ⟨q, 0, none⟩)] w fun e w' => e = .returned (.tuple #[.int .i64 (numValL (leftL bytes p)), .int .i64 ((natErrL (leftL bytes p) : Nat) : Int)]) ∧
      (∃ p', EsIs w' B q ec bytes p' ∧ leftL bytes p' = natRestL (leftL bytes p)) ∧ Kept B erT w w' := by
  have C := esNat_left B q ec bytes p w hs
  have hlt := natValL_lt (leftL bytes p)
  obtain ⟨E, hE⟩ : ∃ E, E = natErrL (leftL bytes p) := ⟨_, rfl⟩
  obtain ⟨V, hV⟩ : ∃ V, V = natValL (leftL bytes p) := ⟨_, rfl⟩
  have hn : numValL (leftL bytes p) = if E = 0 then numOf V else 0 := by unfold numValL; rw [hE, hV]
  rw [← hE, ← hV] at C
  rw [← hV] at hlt
  rw [hn, ← hE]
  clear hE hV hn hs
  have U := fun w => unfold_any V hlt w
  by_cases h0 : E = 0
  · subst h0
    rw [if_pos rfl]
    go_enter Try.func190, Try.ntmps190
    go_wp2_with fail
    refine C.mono ?_
    clear C
    rintro e w1 ⟨rfl, h1, h2⟩
    have H1 := hide h1; have H2 := hide h2; clear h1 h2
    go_wp2_with fail
    refine (U _).mono ?_
    rintro e w' ⟨rfl, rfl⟩
    go_wp2
    go_ret2
    exact ⟨rfl, H1.out, H2.out⟩
  · rw [if_neg h0]
    have hb : ((E : Int) != 0) = true := by simp; omega
    have H0 := hide h0; clear h0
    go_enter Try.func190, Try.ntmps190
    go_wp2_with fail
    refine C.mono ?_
    clear C
    rintro e w1 ⟨rfl, h1, h2⟩
    have H1 := hide h1; have H2 := hide h2; clear h1 h2
    go_wp2
    go_ret2
    exact ⟨rfl, H1.out, H2.out⟩

end Go.Proofs.Ytpbloplbpkedcaa

/- Contracts: the calls of event's reader. -/
namespace Go.Proofs.Ytpbloplbpkedcaa
open Go Go.RowKit

/-- In w the block q is a reader: its error, and what is left. -/
def ErIs (w : World) (B q : Nat) (bytes : List Nat) (s : Qs) : Prop := ∃ p, EsIs w B q ((s.1 : Nat) : Int) bytes p ∧ leftL bytes p = s.2
theorem EsIs.setErr {w : World} {B q : Nat} {ec : Int} {bytes : List Nat} {p : Nat} (h : EsIs w B q ec bytes p) (e : Int) : EsIs (w.setCell ⟨q, 3, none⟩ (.int .i64 e)) B q e bytes p := by
  obtain ⟨v, h1, ho⟩ := h.row
  refine ⟨h.from_, h.len, h.at_, h.small, v, ?_, ownsRow_setCell_typed ho h1 (by decide) _⟩
  rw [heap_setCell_same h1]; simp
theorem EsIs.keepsErr {w : World} {B q : Nat} {ec : Int} {bytes : List Nat} {p : Nat} (h : EsIs w B q ec bytes p) (u : Value) : Kept B erT w (w.setCell ⟨q, 3, none⟩ u) := by
  obtain ⟨v, h1, ho⟩ := h.row
  exact (Kept.refl _ _ _).setCell h.from_ h1 rfl u
theorem EsIs.freeErr {w : World} {B q : Nat} {ec : Int} {bytes : List Nat} {p : Nat} (h : EsIs w B q ec bytes p) : w.frozen? ⟨q, 3, none⟩ = false := by
  obtain ⟨v, h1, _⟩ := h.row
  exact (es_free h1).2.2.2
theorem EsIs.err {w : World} {B q : Nat} {ec : Int} {bytes : List Nat} {p : Nat} (h : EsIs w B q ec bytes p) : w.cell? ⟨q, 3, none⟩ = some (.int .i64 ec) := by
  obtain ⟨v, h1, _⟩ := h.row
  exact (es_cell h1).2.2.2
theorem EsIs.kept {w w' : World} {B B' q : Nat} {ec : Int} {bytes : List Nat} {p : Nat} {T : Nat → Bool} (h : EsIs w B q ec bytes p) (hk : Kept B' T w w') (h1 : T 198 = false) (h2 : T 5 = false) : EsIs w' B q ec bytes p := by
  obtain ⟨v, hq, ho⟩ := h.row
  exact ⟨h.from_, h.len, h.at_, h.small, v, hk.typed _ _ _ _ hq h1, hk.ownsRow ho h2⟩
theorem EsIs.below {w w' : World} {B B' q : Nat} {ec : Int} {bytes : List Nat} {p : Nat} (h : EsIs w B q ec bytes p) (hb : Below B' w w') (hB : w.heap.size ≤ B') : EsIs w' B q ec bytes p := by
  obtain ⟨v, hq, ho⟩ := h.row
  exact ⟨h.from_, h.len, h.at_, h.small, v, by rw [hb.block q (by have := lt_of_block hq; omega)]; exact hq, ownsRow_below ho hb hB⟩
theorem ErIs.err {w : World} {B q : Nat} {bytes : List Nat} {s : Qs} (h : ErIs w B q bytes s) : w.cell? ⟨q, 3, none⟩ = some (.int .i64 ((s.1 : Nat) : Int)) := by
  obtain ⟨p, h1, _⟩ := h; exact h1.err
theorem ErIs.free {w : World} {B q : Nat} {bytes : List Nat} {s : Qs} (h : ErIs w B q bytes s) : w.frozen? ⟨q, 3, none⟩ = false := by
  obtain ⟨p, h1, _⟩ := h; exact h1.freeErr
theorem ErIs.kept {w w' : World} {B B' q : Nat} {bytes : List Nat} {s : Qs} {T : Nat → Bool} (h : ErIs w B q bytes s) (hk : Kept B' T w w') (h1 : T 198 = false) (h2 : T 5 = false) : ErIs w' B q bytes s := by
  obtain ⟨p, h3, h4⟩ := h; exact ⟨p, h3.kept hk h1 h2, h4⟩
theorem ErIs.below {w w' : World} {B B' q : Nat} {bytes : List Nat} {s : Qs} (h : ErIs w B q bytes s) (hb : Below B' w w') (hB : w.heap.size ≤ B') : ErIs w' B q bytes s := by
  obtain ⟨p, h3, h4⟩ := h; exact ⟨p, h3.below hb hB, h4⟩
theorem ErIs.setErr {w : World} {B q : Nat} {bytes : List Nat} {s : Qs} (h : ErIs w B q bytes s) (e : Nat) : ErIs (w.setCell ⟨q, 3, none⟩ (.int .i64 ((e : Nat) : Int))) B q bytes (e, s.2) ∧ Kept B erT w (w.setCell ⟨q, 3, none⟩ (.int .i64 ((e : Nat) : Int))) := by
  obtain ⟨p, h3, h4⟩ := h
  exact ⟨⟨p, h3.setErr _, h4⟩, h3.keepsErr _⟩

set_option maxRecDepth 100000 in
set_option maxHeartbeats 800000 in
theorem reBits_any (B q n : Nat) (bytes : List Nat) (s : Qs) (w : World) (h : ErIs w B q bytes s) (hn : n ≤ 64) :
    Calls Try.prog 175 #[.pointer (some ⟨q, 0, none⟩), .int .i64 (n : Int)] w fun e w' => e = .returned (.int .u64 (((qB n s).1 : Nat) : Int)) ∧ ErIs w' B q bytes (qB n s).2 ∧ Kept B erT w w' := by
  by_cases h0 : s.1 = 0
  · obtain ⟨p, hp1, hp2⟩ := h
    rw [h0] at hp1
    have c3 := hp1.err
    have e1 : (qB n s).1 = bitsVal s.2 (n : Int) := by unfold qB; rw [if_pos h0]
    have e2 : (qB n s).2 = (bitsErr (n : Int) s.2.length, bitsRest s.2 (n : Int)) := by unfold qB; rw [if_pos h0]
    rw [e1, e2]
    have C := esBits_any B q (n : Int) 0 bytes p w hp1 (by simp [Lit.wf, IntKind.min, IntKind.max, IntKind.signed, IntKind.bits]; omega)
    rw [hp2] at C
    obtain ⟨V, hV⟩ : ∃ V, V = bitsVal s.2 (n : Int) := ⟨_, rfl⟩
    obtain ⟨E, hE⟩ : ∃ E, E = bitsErr (n : Int) s.2.length := ⟨_, rfl⟩
    obtain ⟨R, hR⟩ : ∃ R, R = bitsRest s.2 (n : Int) := ⟨_, rfl⟩
    rw [← hV, ← hE, ← hR] at C
    rw [← hV, ← hE, ← hR]
    clear hV hE hR e1 e2 hp1 hp2 h0
    go_enter Try.func175, Try.ntmps175
    go_wp2_with fail
    refine C.mono ?_
    clear C
    rintro e w1 ⟨rfl, ⟨p1, hs1, hl1⟩, k1⟩
    have g3 := hs1.freeErr
    have d3 := hs1.err
    have HS1 := hide hs1; have K1 := hide k1; have HL1 := hide hl1
    clear hs1 k1 hl1
    go_wp2
    go_ret
    exact ⟨rfl, ⟨p1, HS1.out.setErr _, HL1.out⟩, K1.out.trans (HS1.out.keepsErr _)⟩
  · have h1 : ((s.1 : Int) != 0) = true := by simp; omega
    have hr : qB n s = (0, s) := qB_err h0
    rw [hr]
    have c3 := h.err
    have HI := hide h
    obtain ⟨E, hE⟩ : ∃ E : Int, E = (s.1 : Int) := ⟨_, rfl⟩
    rw [← hE] at c3 h1
    clear hr h h0 hE
    go_enter Try.func175, Try.ntmps175
    go_wp2
    go_ret
    exact ⟨rfl, HI.out, Kept.refl _ _ _⟩

set_option maxRecDepth 100000 in
set_option maxHeartbeats 800000 in
theorem reNat_any (B q : Nat) (bytes : List Nat) (s : Qs) (w : World) (h : ErIs w B q bytes s) :
    Calls Try.prog 185 #[.pointer (some ⟨q, 0, none⟩)] w fun e w' => e = .returned (.int .u64 (((qN s).1 : Nat) : Int)) ∧ ErIs w' B q bytes (qN s).2 ∧ Kept B erT w w' := by
  by_cases h0 : s.1 = 0
  · obtain ⟨p, hp1, hp2⟩ := h
    rw [h0] at hp1
    have c3 := hp1.err
    have e1 : (qN s).1 = natValL s.2 := by unfold qN; rw [if_pos h0]
    have e2 : (qN s).2 = (natErrL s.2, natRestL s.2) := by unfold qN; rw [if_pos h0]
    rw [e1, e2]
    have C := esNat_left B q 0 bytes p w hp1
    rw [hp2] at C
    obtain ⟨V, hV⟩ : ∃ V, V = natValL s.2 := ⟨_, rfl⟩
    obtain ⟨E, hE⟩ : ∃ E, E = natErrL s.2 := ⟨_, rfl⟩
    obtain ⟨R, hR⟩ : ∃ R, R = natRestL s.2 := ⟨_, rfl⟩
    rw [← hV, ← hE, ← hR] at C
    rw [← hV, ← hE, ← hR]
    clear hV hE hR e1 e2 hp1 hp2 h0
    go_enter Try.func185, Try.ntmps185
    go_wp2_with fail
    refine C.mono ?_
    clear C
    rintro e w1 ⟨rfl, ⟨p1, hs1, hl1⟩, k1⟩
    have g3 := hs1.freeErr
    have d3 := hs1.err
    have HS1 := hide hs1; have K1 := hide k1; have HL1 := hide hl1
    clear hs1 k1 hl1
    go_wp2
    go_ret
    exact ⟨rfl, ⟨p1, HS1.out.setErr _, HL1.out⟩, K1.out.trans (HS1.out.keepsErr _)⟩
  · have h1 : ((s.1 : Int) != 0) = true := by simp; omega
    have hr : qN s = (0, s) := qN_err h0
    rw [hr]
    have c3 := h.err
    have HI := hide h
    obtain ⟨E, hE⟩ : ∃ E : Int, E = (s.1 : Int) := ⟨_, rfl⟩
    rw [← hE] at c3 h1
    clear hr h h0 hE
    go_enter Try.func185, Try.ntmps185
    go_wp2
    go_ret
    exact ⟨rfl, HI.out, Kept.refl _ _ _⟩

set_option maxRecDepth 100000 in
set_option maxHeartbeats 800000 in
theorem reNum_any (B q : Nat) (bytes : List Nat) (s : Qs) (w : World) (h : ErIs w B q bytes s) :
    Calls Try.prog 188 #[.pointer (some ⟨q, 0, none⟩)] w fun e w' => e = .returned (.int .i64 (qI s).1) ∧ ErIs w' B q bytes (qI s).2 ∧ Kept B erT w w' := by
  by_cases h0 : s.1 = 0
  · obtain ⟨p, hp1, hp2⟩ := h
    rw [h0] at hp1
    have c3 := hp1.err
    have e1 : (qI s).1 = numValL s.2 := by unfold qI; rw [if_pos h0]
    have e2 : (qI s).2 = (natErrL s.2, natRestL s.2) := by unfold qI; rw [if_pos h0]
    rw [e1, e2]
    have C := esNum_any B q 0 bytes p w hp1
    rw [hp2] at C
    obtain ⟨V, hV⟩ : ∃ V, V = numValL s.2 := ⟨_, rfl⟩
    obtain ⟨E, hE⟩ : ∃ E, E = natErrL s.2 := ⟨_, rfl⟩
    obtain ⟨R, hR⟩ : ∃ R, R = natRestL s.2 := ⟨_, rfl⟩
    rw [← hV, ← hE, ← hR] at C
    rw [← hV, ← hE, ← hR]
    clear hV hE hR e1 e2 hp1 hp2 h0
    go_enter Try.func188, Try.ntmps188
    go_wp2_with fail
    refine C.mono ?_
    clear C
    rintro e w1 ⟨rfl, ⟨p1, hs1, hl1⟩, k1⟩
    have g3 := hs1.freeErr
    have d3 := hs1.err
    have HS1 := hide hs1; have K1 := hide k1; have HL1 := hide hl1
    clear hs1 k1 hl1
    go_wp2
    go_ret
    exact ⟨rfl, ⟨p1, HS1.out.setErr _, HL1.out⟩, K1.out.trans (HS1.out.keepsErr _)⟩
  · have h1 : ((s.1 : Int) != 0) = true := by simp; omega
    have hr : qI s = (0, s) := qI_err h0
    rw [hr]
    have c3 := h.err
    have HI := hide h
    obtain ⟨E, hE⟩ : ∃ E : Int, E = (s.1 : Int) := ⟨_, rfl⟩
    rw [← hE] at c3 h1
    clear hr h h0 hE
    go_enter Try.func188, Try.ntmps188
    go_wp2
    go_ret
    exact ⟨rfl, HI.out, Kept.refl _ _ _⟩

set_option maxRecDepth 100000 in
set_option maxHeartbeats 800000 in
theorem reText_any (B q : Nat) (bytes : List Nat) (s : Qs) (w : World) (h : ErIs w B q bytes s) :
    Calls Try.prog 177 #[.pointer (some ⟨q, 0, none⟩)] w fun e w' => e = .returned (.string (qT s).1) ∧ ErIs w' B q bytes (qT s).2 ∧ Kept B erT w w' := by
  by_cases h0 : s.1 = 0
  · obtain ⟨p, hp1, hp2⟩ := h
    rw [h0] at hp1
    have c3 := hp1.err
    have e1 : (qT s).1 = textStr s.2 := by unfold qT; rw [if_pos h0]
    have e2 : (qT s).2 = (textErrL s.2, textRestL s.2) := by unfold qT; rw [if_pos h0]
    rw [e1, e2]
    have C := esText_any B q 0 bytes p w hp1
    rw [hp2] at C
    obtain ⟨V, hV⟩ : ∃ V, V = textStr s.2 := ⟨_, rfl⟩
    obtain ⟨E, hE⟩ : ∃ E, E = textErrL s.2 := ⟨_, rfl⟩
    obtain ⟨R, hR⟩ : ∃ R, R = textRestL s.2 := ⟨_, rfl⟩
    rw [← hV, ← hE, ← hR] at C
    rw [← hV, ← hE, ← hR]
    clear hV hE hR e1 e2 hp1 hp2 h0
    go_enter Try.func177, Try.ntmps177
    go_wp2_with fail
    refine C.mono ?_
    clear C
    rintro e w1 ⟨rfl, ⟨p1, hs1, hl1⟩, k1⟩
    have g3 := hs1.freeErr
    have d3 := hs1.err
    have HS1 := hide hs1; have K1 := hide k1; have HL1 := hide hl1
    clear hs1 k1 hl1
    go_wp2
    go_ret
    exact ⟨rfl, ⟨p1, HS1.out.setErr _, HL1.out⟩, K1.out.trans (HS1.out.keepsErr _)⟩
  · have h1 : ((s.1 : Int) != 0) = true := by simp; omega
    have hr : qT s = (⟨#[]⟩, s) := qT_err h0
    rw [hr]
    have c3 := h.err
    have HI := hide h
    obtain ⟨E, hE⟩ : ∃ E : Int, E = (s.1 : Int) := ⟨_, rfl⟩
    rw [← hE] at c3 h1
    clear hr h h0 hE
    go_enter Try.func177, Try.ntmps177
    go_wp2
    go_ret
    exact ⟨rfl, HI.out, Kept.refl _ _ _⟩

set_option maxRecDepth 100000 in
theorem reCount_any (B q : Nat) (bytes : List Nat) (s : Qs) (w : World) (h : ErIs w B q bytes s) :
    Calls Try.prog 176 #[.pointer (some ⟨q, 0, none⟩)] w fun e w' => e = .returned (.int .i64 (wrap64 (((qN s).1 : Nat) : Int))) ∧ ErIs w' B q bytes (qN s).2 ∧ Kept B erT w w' := by
  have C := reNat_any B q bytes s w h
  obtain ⟨V, hV⟩ : ∃ V : Int, V = (((qN s).1 : Nat) : Int) := ⟨_, rfl⟩
  rw [← hV] at C
  rw [← hV]
  clear hV h
  go_enter Try.func176, Try.ntmps176
  go_wp2_with fail
  refine C.mono ?_
  clear C
  rintro e w1 ⟨rfl, hs1, k1⟩
  have HS1 := hide hs1; have K1 := hide k1; clear hs1 k1
  go_wp2
  go_ret
  exact ⟨rfl, HS1.out, K1.out⟩
end Go.Proofs.Ytpbloplbpkedcaa

/- Events: Clone, the program's and the document's: the same event, its attributes a row of its own. -/
namespace Go.Proofs.Ytpbloplbpkedcaa
open Go Go.RowKit

theorem infoAttr : (Try.prog.info? 78).map (fun i => (i.zero, i.size, i.bytes)) = some (some (.agg #[.string ⟨#[]⟩, .int .i64 0, .int .i64 0, .string ⟨#[]⟩]), 4, 48) := by kernel_rfl
theorem cell_of_five {w : World} {q : Nat} {c0 c1 c2 c3 c4 : Value} {t : Nat} {fr : Nat × Nat} (h : w.heap[q]? = some (.cells #[c0, c1, c2, c3, c4] t fr)) :
    w.cell? ⟨q, 0, none⟩ = some c0 ∧ w.cell? ⟨q, 1, none⟩ = some c1 ∧ w.cell? ⟨q, 2, none⟩ = some c2 ∧ w.cell? ⟨q, 3, none⟩ = some c3 ∧ w.cell? ⟨q, 4, none⟩ = some c4 := by
  refine ⟨?_, ?_, ?_, ?_, ?_⟩ <;> simp [World.cell?, h]
theorem free_of_five {w : World} {q : Nat} {c0 c1 c2 c3 c4 : Value} {t : Nat} (h : w.heap[q]? = some (.cells #[c0, c1, c2, c3, c4] t (0, 0))) :
    w.frozen? ⟨q, 0, none⟩ = false ∧ w.frozen? ⟨q, 1, none⟩ = false ∧ w.frozen? ⟨q, 2, none⟩ = false ∧ w.frozen? ⟨q, 3, none⟩ = false ∧ w.frozen? ⟨q, 4, none⟩ = false := by
  refine ⟨?_, ?_, ?_, ?_, ?_⟩ <;> simp [World.frozen?, h]
theorem own_lower0 {w : World} {B B' e size n : Nat} {v : Value} {xs : List Value} (h : w.ownsRow B e size v n xs) (hB : B' ≤ B) : w.ownsRow B' e size v n xs := by
  refine ⟨h.1, ?_⟩
  rcases h.2 with hn | ⟨g, cap, cur, rfl, hg, rest⟩
  · exact .inl hn
  · exact .inr ⟨g, cap, cur, rfl, by omega, rest⟩
theorem own_slice {w : World} {B e size n : Nat} {v : Value} {xs : List Value} (h : w.ownsRow B e size v n xs) : ∃ ao cap, v = .slice ao n cap := by
  rcases h.2 with ⟨hv, hn0⟩ | ⟨g, cap, cur, hv, _⟩
  · exact ⟨none, 0, by rw [hv, hn0]⟩
  · exact ⟨_, _, hv⟩
theorem heap_alloc_at {w : World} {ob o : Obj} {q : Nat} (hq : q = w.heap.size) (h : ob = o) : (w.alloc o).heap[q]? = some ob := by
  subst hq h; exact heap_alloc_new w _
theorem five_set {w : World} {q : Nat} {c0 c1 c2 c3 c4 : Value} {t : Nat} (h : w.heap[q]? = some (.cells #[c0, c1, c2, c3, c4] t (0, 0))) (d0 d1 d2 d3 d4 : Value) :
    (((((w.setCell ⟨q, 0, none⟩ d0).setCell ⟨q, 1, none⟩ d1).setCell ⟨q, 2, none⟩ d2).setCell ⟨q, 3, none⟩ d3).setCell ⟨q, 4, none⟩ d4).heap[q]? = some (.cells #[d0, d1, d2, d3, d4] t (0, 0)) := by
  rw [heap_setCell_same (heap_setCell_same (heap_setCell_same (heap_setCell_same (heap_setCell_same h _) _) _) _) _]
  simp
theorem heap_setCell_far {w : World} {q : Nat} {p : Addr} {ob : Obj} (h : w.heap[q]? = some ob) (hne : q ≠ p.block) (u : Value) : (w.setCell p u).heap[q]? = some ob := by
  rw [Below.heap_setCell _ _ _ _ hne]; exact h
theorem below_five {B q : Nat} {a w : World} (h : Below B a w) (hq : B ≤ q) (d0 d1 d2 d3 d4 : Value) :
    Below B a (((((w.setCell ⟨q, 0, none⟩ d0).setCell ⟨q, 1, none⟩ d1).setCell ⟨q, 2, none⟩ d2).setCell ⟨q, 3, none⟩ d3).setCell ⟨q, 4, none⟩ d4) :=
  ((((h.setCell (p := ⟨q, 0, none⟩) hq _).setCell (p := ⟨q, 1, none⟩) hq _).setCell (p := ⟨q, 2, none⟩) hq _).setCell (p := ⟨q, 3, none⟩) hq _).setCell (p := ⟨q, 4, none⟩) hq _
theorem own_five {w : World} {base e size n q t : Nat} {v : Value} {xs : List Value} (h : w.ownsRow base e size v n xs) {c0 c1 c2 c3 c4 : Value} (hq : w.heap[q]? = some (.cells #[c0, c1, c2, c3, c4] t (0, 0))) (hne : t ≠ e) (d0 d1 d2 d3 d4 : Value) :
    (((((w.setCell ⟨q, 0, none⟩ d0).setCell ⟨q, 1, none⟩ d1).setCell ⟨q, 2, none⟩ d2).setCell ⟨q, 3, none⟩ d3).setCell ⟨q, 4, none⟩ d4).ownsRow base e size v n xs := by
  have a0 := heap_setCell_same (k := 0) hq d0
  have a1 := heap_setCell_same (k := 1) a0 d1
  have a2 := heap_setCell_same (k := 2) a1 d2
  have a3 := heap_setCell_same (k := 3) a2 d3
  have b0 := ownsRow_setCell_typed (a := ⟨q, 0, none⟩) h hq hne d0
  have b1 := ownsRow_setCell_typed (a := ⟨q, 1, none⟩) b0 a0 hne d1
  have b2 := ownsRow_setCell_typed (a := ⟨q, 2, none⟩) b1 a1 hne d2
  have b3 := ownsRow_setCell_typed (a := ⟨q, 3, none⟩) b2 a2 hne d3
  exact ownsRow_setCell_typed (a := ⟨q, 4, none⟩) b3 a3 hne d4

set_option maxRecDepth 100000 in
set_option maxHeartbeats 1600000 in
/-- What comes back: the same attributes in a row of the call's own; nil of nil. -/
theorem cloneAt_any (B : Nat) (ao : Option Addr) (n cap : Nat) (xs : List At) (w : World) (h : Av w B (.slice ao n cap) xs) :
    Calls Try.prog 147 #[.slice ao n cap] w fun e w' => ∃ v', e = .returned v' ∧ w'.ownsRow w.heap.size 78 4 v' xs.length (xs.flatMap enc4) ∧ Below w.heap.size w w' := by
  obtain ⟨i0, hi, hz0, hz1, hz2⟩ := info_parts infoAttr
  obtain ⟨hn, hn63⟩ := h.num
  have q := fun (w : World) (a : Option Addr) (n c n' c' : Nat) => Lib.run_eql_slice_nil w 34 78 a n c n' c' Try.underlying34
  cases ao with
  | none =>
    have h0 : n = 0 := by
      rcases Nat.eq_zero_or_pos n with h0 | h0
      · exact h0
      · obtain ⟨b, o, he, _⟩ := h.at h0
        cases he
    obtain rfl : xs = [] := List.length_eq_zero_iff.1 (by omega)
    clear h hn
    go_enter Try.func147, Try.ntmps147
    go_wp2
    go_ret
    exact ⟨_, rfl, World.ownsRow_nil _ _ _ _, Below.refl _ _⟩
  | some ad =>
    have hc : ∀ j u, (xs.flatMap enc4)[j]? = some u → w.cell? (ad.add j) = some u := fun j u hj => by
      have hjl := (List.getElem?_eq_some_iff.1 hj).1
      rw [flat4_len] at hjl
      obtain ⟨b, o, he, _, _, _, _, hc⟩ := h.at (by omega)
      simp only [Option.some.injEq] at he
      subst he
      have h1 : j / 4 < xs.length := by omega
      have hx : (enc4 xs[j / 4]!)[j % 4]? = some u := by
        have hlt : j % 4 < (enc4 xs[j / 4]!).length := by rw [enc4_len]; omega
        have h2 := flat_at xs (j / 4) (j % 4) h1 _ (List.getElem?_eq_getElem hlt)
        rw [show j / 4 * 4 + j % 4 = j by omega, hj] at h2
        rw [List.getElem?_eq_getElem hlt, ← h2]
      have h3 := hc (j / 4) h1 (j % 4) u hx
      have e : (⟨b, o, none⟩ : Addr).add j = ⟨b, o + j, none⟩ := by unfold Addr.add; split <;> simp_all
      rw [e, show o + j = o + j / 4 * 4 + j % 4 by omega]; exact h3
    have hl48 := h.len
    have HC := Lib.hid hc; have HN := Lib.hid hn
    clear h hn hc
    go_enter Try.func147, Try.ntmps147
    go_wp2_with (at_builtin; refine wpList_append_own _ rfl _ _ 34 rfl w.heap.size 78 i0 (.agg #[.string ⟨#[]⟩, .int .i64 0, .int .i64 0, .string ⟨#[]⟩]) 4 48 Try.underlying34 hi hz0 hz1 hz2 rfl (by decide) _ _ _ rfl (World.ownsRow_made w #[] 0 (Nat.le_refl _) (Nat.zero_le _) (by simp)) ad n cap (xs.flatMap enc4) rfl (by rw [flat4_len, HN.out]) (fun j u hj => Lib.cell?_alloc_some _ (HC.out j u hj)) (flat4_one xs) (by unfold maxLen; omega) (by have := HN.out; omega) (by simp) ?_; intro v' w1 hown hgrow hnil; clear hnil; have HO := Lib.hid hown; have HG := Lib.hid hgrow; clear hown hgrow)
    go_ret
    refine ⟨_, rfl, by have := HO.out; rw [HN.out] at this; simpa using this, ?_⟩
    exact ((Below.refl _ w).alloc (Nat.le_refl _) _).grown HG.out (by simp) (fun k hk => ((World.ownsRow_made (base := w.heap.size) (e := 78) (size := 4) w #[] 0 (Nat.le_refl _) (Nat.zero_le _) (by simp)).lt k hk).1)

set_option maxRecDepth 100000 in
set_option maxHeartbeats 1600000 in
theorem eClone_any (ev : Ev) (B : Nat) (ao : Option Addr) (n cap : Nat) (w : World) (h : Av w B (.slice ao n cap) ev.ats) (hB : B ≤ w.heap.size) :
    Calls Try.prog 115 #[evV ev (.slice ao n cap)] w fun e w' => ∃ v', e = .returned (evV ev v') ∧ w'.ownsRow w.heap.size 78 4 v' ev.ats.length (ev.ats.flatMap enc4) ∧ Below w.heap.size w w' := by
  obtain ⟨s, q, t, ty, ats⟩ := ev
  simp only at h
  unfold evV
  simp only
  have hbel : Below w.heap.size w ((w.alloc (.cells #[.int .i64 s, .int .i64 q, .int .i64 t, .string ty, .slice ao n cap] 36)).alloc (.cells #[.int .i64 0, .int .i64 0, .int .i64 0, .string ⟨#[]⟩, .slice none 0 0] 36)) := ((Below.refl _ _).alloc (Nat.le_refl _) _).alloc (by simp) _
  have C := cloneAt_any B ao n cap ats _ (h.below hbel hB)
  have hq0 : ((w.alloc (.cells #[.int .i64 s, .int .i64 q, .int .i64 t, .string ty, .slice ao n cap] 36)).alloc (.cells #[.int .i64 0, .int .i64 0, .int .i64 0, .string ⟨#[]⟩, .slice none 0 0] 36)).heap[w.heap.size]? = some (.cells #[.int .i64 s, .int .i64 q, .int .i64 t, .string ty, .slice ao n cap] 36 (0, 0)) := heap_alloc_keeps (heap_alloc_new w _) _
  have hq1 : ((w.alloc (.cells #[.int .i64 s, .int .i64 q, .int .i64 t, .string ty, .slice ao n cap] 36)).alloc (.cells #[.int .i64 0, .int .i64 0, .int .i64 0, .string ⟨#[]⟩, .slice none 0 0] 36)).heap[w.heap.size + 1]? = some (.cells #[.int .i64 0, .int .i64 0, .int .i64 0, .string ⟨#[]⟩, .slice none 0 0] 36 (0, 0)) := heap_alloc_at (by simp) rfl
  have HQ0 := hide hq0; have HQ1 := hide hq1; have HBel := hide hbel
  obtain ⟨X, hX⟩ : ∃ X, X = ats.length := ⟨_, rfl⟩
  obtain ⟨Y, hY⟩ : ∃ Y, Y = ats.flatMap enc4 := ⟨_, rfl⟩
  rw [← hX, ← hY] at C ⊢
  have HC := hide C
  clear h hB hq0 hq1 hbel hX hY C
  go_enter Try.func115, Try.ntmps115
  go_wp2_with fail
  refine HC.out.mono ?_
  rintro e w3 ⟨v3, rfl, hown, hb⟩
  obtain ⟨ao3, cap3, rfl⟩ := own_slice hown
  have p0 := (hb.block w.heap.size (by simp <;> omega)).trans HQ0.out
  have p1 := (hb.block (w.heap.size + 1) (by simp)).trans HQ1.out
  obtain ⟨c0, c1, c2, c3, c4⟩ := cell_of_five p0
  obtain ⟨f0, f1, f2, f3, f4⟩ := free_of_five p0
  obtain ⟨d0, d1, d2, d3, d4⟩ := cell_of_five p1
  obtain ⟨g0, g1, g2, g3, g4⟩ := free_of_five p1
  have HP0 := hide p0
  have HP1 := hide (heap_setCell_far (p := ⟨w.heap.size, 4, none⟩) p1 (by simp) (.slice ao3 X cap3))
  have HO := hide hown; have HB := hide hb
  clear hown hb p0 p1
  go_wp2
  have z := cell_of_five (five_set HP1.out (.int .i64 s) (.int .i64 q) (.int .i64 t) (.string ty) (.slice ao3 X cap3))
  refine bodyPost_ret (v := .agg #[.int .i64 s, .int .i64 q, .int .i64 t, .string ty, .slice ao3 X cap3]) (by simp [results, Try.results115, go_sem, z]) rfl ⟨_, rfl, ?_, ?_⟩
  · have o1 := ownsRow_setCell_typed (a := ⟨w.heap.size, 4, none⟩) HO.out HP0.out (by decide) (.slice ao3 X cap3)
    exact own_lower0 (own_five o1 HP1.out (by decide) _ _ _ _ _) (by simp <;> omega)
  · exact below_five ((HBel.out.trans (HB.out.mono (by simp <;> omega))).setCell (p := ⟨w.heap.size, 4, none⟩) (Nat.le_refl _) _) (by omega) _ _ _ _ _
end Go.Proofs.Ytpbloplbpkedcaa
namespace Go.Proofs.Ytpbloplbpkedcaa
open Go Go.RowKit

theorem cell_of_two' {w : World} {q : Nat} {c0 c1 : Value} {t : Nat} {fr : Nat × Nat} (h : w.heap[q]? = some (.cells #[c0, c1] t fr)) : w.cell? ⟨q, 0, none⟩ = some c0 ∧ w.cell? ⟨q, 1, none⟩ = some c1 := by
  refine ⟨?_, ?_⟩ <;> simp [World.cell?, h]

theorem cmpID_src {s q s' q' : Int} (h : s < s') : cmpID s q s' q' = -1 := by unfold cmpID; rw [cmpI_lt h]; rfl
theorem cmpID_src' {s q s' q' : Int} (h : s' < s) : cmpID s q s' q' = 1 := by unfold cmpID; rw [cmpI_gt h]; rfl
theorem cmpID_seq (s q q' : Int) : cmpID s q s q' = cmpI q q' := by unfold cmpID; rw [cmpI_eq]; rfl
/-- append(row of the call's own, attributes..). -/
theorem wpList_append_av {w : World} {ops : Array Oper} {rest : List Oper} {o : Oper} {a : Act} {Q : Exit → Act → World → Prop} (hgd : o.guard = none) (s x : Operand)
    (ho : o.op = .call { callee := .builtin .append, args := #[s, x], argTypes := #[34, 34] }) (base : Nat) (v : Value) (n : Nat) (xs : List Value) (hs : a.eval s = v) (hown : w.ownsRow base 78 4 v n xs)
    (B : Nat) (ao : Option Addr) (m c : Nat) (ys : List At) (hx : a.eval x = .slice ao m c) (hy : Av w B (.slice ao m c) ys) (hnil : ao = none → c = 0) (hb : (n + m) * 48 ≤ 140737488355328) (hbase : base ≤ w.heap.size)
    (h : ∀ v' w', w'.ownsRow base 78 4 v' (n + m) (xs ++ ys.flatMap enc4) → w.grownBy w' v.ownBlock → wpList Try.prog ops Q rest (a.put o.dst v') w') : wpList Try.prog ops Q (o :: rest) a w := by
  obtain ⟨i0, hi, hz0, hz1, hz2⟩ := info_parts infoAttr
  obtain ⟨hm, hm63⟩ := hy.num
  cases ao with
  | none =>
    have h0 : m = 0 := by
      rcases Nat.eq_zero_or_pos m with h0 | h0
      · exact h0
      · obtain ⟨b, o, he, _⟩ := hy.at h0
        cases he
    obtain rfl : ys = [] := List.length_eq_zero_iff.1 (by omega)
    subst h0
    obtain rfl : c = 0 := hnil rfl
    exact wpList_append_own_none hgd s x 34 ho base 78 i0 4 Try.underlying34 hi v n xs hs hown hx (h v w (by simpa using hown) (World.grownBy.refl w _))
  | some ad =>
    have hc : ∀ j u, (ys.flatMap enc4)[j]? = some u → w.cell? (ad.add j) = some u := fun j u hj => by
      have hjl := (List.getElem?_eq_some_iff.1 hj).1
      rw [flat4_len] at hjl
      obtain ⟨b, o, he, _, _, _, _, hc⟩ := hy.at (by omega)
      simp only [Option.some.injEq] at he
      subst he
      have h1 : j / 4 < ys.length := by omega
      have hx : (enc4 ys[j / 4]!)[j % 4]? = some u := by
        have hlt : j % 4 < (enc4 ys[j / 4]!).length := by rw [enc4_len]; omega
        have h2 := flat_at ys (j / 4) (j % 4) h1 _ (List.getElem?_eq_getElem hlt)
        rw [show j / 4 * 4 + j % 4 = j by omega, hj] at h2
        rw [List.getElem?_eq_getElem hlt, ← h2]
      have h3 := hc (j / 4) h1 (j % 4) u hx
      have e : (⟨b, o, none⟩ : Addr).add j = ⟨b, o + j, none⟩ := by unfold Addr.add; split <;> simp_all
      rw [e, show o + j = o + j / 4 * 4 + j % 4 by omega]; exact h3
    exact wpList_append_own w hgd s x 34 ho base 78 i0 (.agg #[.string ⟨#[]⟩, .int .i64 0, .int .i64 0, .string ⟨#[]⟩]) 4 48 Try.underlying34 hi hz0 hz1 hz2 rfl (by decide) v n xs hs hown ad m c (ys.flatMap enc4) hx (by rw [flat4_len, hm]) hc (flat4_one ys) (by unfold maxLen; omega) (by omega) hbase (fun v' w' h1 h2 _ => h v' w' h1 h2)

end Go.Proofs.Ytpbloplbpkedcaa
