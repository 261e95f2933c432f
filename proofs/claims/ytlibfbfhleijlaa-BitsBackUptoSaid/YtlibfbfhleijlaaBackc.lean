/- What was put is taken: the source's calls at bits that a sink laid; a row of parts. -/
import Derived.Test.YtlibfbfhleijlaaPuts
import Derived.Test.YtlibfbfhleijlaaBackm
namespace Go.Proofs.Ytlibfbfhleijlaa
open Go Go.RowKit

/-- The source stands at the first of the given bits. -/
def SrcHas (w : World) (B q : Nat) (bytes : List Nat) (l : List Bool) : Prop := ∃ p, SrcIs w B q bytes p ∧ leftL bytes p = l

theorem back_bits (B q u m : Nat) (bytes : List Nat) (rest : List Bool) (w : World) (hs : SrcHas w B q bytes (bitsOf u m ++ rest)) (hm : m ≤ 64) (hu : u < 2 ^ m) :
    Calls Try.prog 21 #[.pointer (some ⟨q, 0, none⟩), .int .i64 (m : Int)] w fun e w' => e = .returned (.tuple #[.int .u64 (u : Int), .int .i64 0]) ∧ SrcHas w' B q bytes rest ∧ Kept B srcT w w' := by
  obtain ⟨p, h1, h2⟩ := hs
  refine (sBits_any B q (m : Int) bytes p w h1 (by simp [Lit.wf, IntKind.min, IntKind.max, IntKind.signed, IntKind.bits]; omega)).mono fun e w' ⟨he, h3, h4⟩ => ⟨?_, ?_, h4⟩
  · rw [he, h2, bitsVal_front u m rest hm hu, bitsErr_front u m rest hm]; rfl
  · obtain ⟨p', h5, h6⟩ := h3
    exact ⟨p', h5, by rw [h6, h2, bitsRest_front u m rest hm]⟩
theorem back_nat (B q u : Nat) (bytes : List Nat) (rest : List Bool) (w : World) (hs : SrcHas w B q bytes (natBits u ++ rest)) (hu : u < 2 ^ 64) :
    Calls Try.prog 22 #[.pointer (some ⟨q, 0, none⟩)] w fun e w' => e = .returned (.tuple #[.int .u64 (u : Int), .int .i64 0]) ∧ SrcHas w' B q bytes rest ∧ Kept B srcT w w' := by
  obtain ⟨p, h1, h2⟩ := hs
  refine (sNat_left B q bytes p w h1).mono fun e w' ⟨he, h3, h4⟩ => ⟨?_, ?_, h4⟩
  · rw [he, h2, natValL_front u hu, natErrL_front u hu]; rfl
  · obtain ⟨p', h5, h6⟩ := h3
    exact ⟨p', h5, by rw [h6, h2, natRestL_front u hu]⟩
theorem back_num (B q : Nat) (n : Int) (bytes : List Nat) (rest : List Bool) (w : World) (hs : SrcHas w B q bytes (natBits (zigN n) ++ rest)) (hn : -9223372036854775808 ≤ n ∧ n ≤ 9223372036854775807) :
    Calls Try.prog 23 #[.pointer (some ⟨q, 0, none⟩)] w fun e w' => e = .returned (.tuple #[.int .i64 n, .int .i64 0]) ∧ SrcHas w' B q bytes rest ∧ Kept B srcT w w' := by
  obtain ⟨p, h1, h2⟩ := hs
  have hz := zigN_lt n hn
  refine (sNum_any B q bytes p w h1).mono fun e w' ⟨he, h3, h4⟩ => ⟨?_, ?_, h4⟩
  · rw [he, h2, numValL, natValL_front _ hz, natErrL_front _ hz, if_pos rfl, numOf_zigN]; rfl
  · obtain ⟨p', h5, h6⟩ := h3
    exact ⟨p', h5, by rw [h6, h2, natRestL_front _ hz]⟩
theorem back_text (B q : Nat) (s : ByteArray) (bytes : List Nat) (rest : List Bool) (w : World) (hs : SrcHas w B q bytes (textBits s.data.toList ++ rest)) (hsz : s.size ≤ 1048576) :
    Calls Try.prog 24 #[.pointer (some ⟨q, 0, none⟩)] w fun e w' => e = .returned (.tuple #[.string s, .int .i64 0]) ∧ SrcHas w' B q bytes rest ∧ Kept B srcT w w' := by
  obtain ⟨p, h1, h2⟩ := hs
  have hd : s.data.toList.length = s.size := Array.length_toList
  refine (sText_any B q bytes p w h1).mono fun e w' ⟨he, h3, h4⟩ => ⟨?_, ?_, h4⟩
  · rw [he, h2, textStr_front s rest (by omega), textErrL_front _ rest (by omega)]; rfl
  · obtain ⟨p', h5, h6⟩ := h3
    exact ⟨p', h5, by rw [h6, h2, textRestL_front _ rest (by omega)]⟩
theorem back_flag (B q : Nat) (b : Bool) (bytes : List Nat) (rest : List Bool) (w : World) (hs : SrcHas w B q bytes (b :: rest)) :
    Calls Try.prog 25 #[.pointer (some ⟨q, 0, none⟩)] w fun e w' => e = .returned (.tuple #[.bool b, .int .i64 0]) ∧ SrcHas w' B q bytes rest ∧ Kept B srcT w w' := by
  obtain ⟨p, h1, h2⟩ := hs
  refine (sFlag_any B q bytes p w h1).mono fun e w' ⟨he, h3, h4⟩ => ⟨?_, ?_, h4⟩
  · rw [he, h2, flagVal_front, flagErr_front]; rfl
  · obtain ⟨p', h5, h6⟩ := h3
    exact ⟨p', h5, by rw [h6, h2, flagRest_front]⟩
theorem SrcHas.below {w w' : World} {B B' q : Nat} {bytes : List Nat} {l : List Bool} (h : SrcHas w B q bytes l) (hb : Below B' w w') (hB : w.heap.size ≤ B') : SrcHas w' B q bytes l := by
  obtain ⟨p, h1, h2⟩ := h
  exact ⟨p, h1.below hb hB, h2⟩
theorem SrcHas.drew {w : World} {B q : Nat} {bytes : List Nat} {l : List Bool} (h : SrcHas w B q bytes l) : SrcHas w.drew B q bytes l := by
  obtain ⟨p, h1, h2⟩ := h
  exact ⟨p, h1.drew, h2⟩
theorem SrcHas.lower {w : World} {B B' q : Nat} {bytes : List Nat} {l : List Bool} (h : SrcHas w B q bytes l) (hB : B' ≤ B) : SrcHas w B' q bytes l := by
  obtain ⟨p, h1, h2⟩ := h
  obtain ⟨v, h3, h4⟩ := h1.row
  exact ⟨p, ⟨Nat.le_trans hB h1.from_, h1.len, h1.at_, h1.small, v, h3, ownsRow_lower h4 hB⟩, h2⟩

/-- A part, and what holds of one that was put. -/
structure Pt where
  kind : Int
  u : Nat
  n : Int
  s : ByteArray
def Pt.cells (x : Pt) : List Value := [.int .i64 x.kind, .int .u64 (x.u : Int), .int .i64 x.n, .string x.s]
def Pt.bits (x : Pt) : List Bool := partNew x.kind x.u x.n x.s
def Pt.ok (x : Pt) : Prop := partMay x.kind x.u x.n = true ∧ x.u < 2 ^ 64 ∧ (Lit.int .i64 x.n).wf = true ∧ x.s.size ≤ 1048576
def ptCells (ps : List Pt) : List Value := ps.flatMap Pt.cells
def ptBits (ps : List Pt) : List Bool := ps.flatMap Pt.bits
theorem ptCells_snoc (ps : List Pt) (x : Pt) : ptCells (ps ++ [x]) = ptCells ps ++ x.cells := by simp [ptCells]
theorem ptBits_snoc (ps : List Pt) (x : Pt) : ptBits (ps ++ [x]) = ptBits ps ++ x.bits := by simp [ptBits]
theorem ptCells_length (ps : List Pt) : (ptCells ps).length = ps.length * 4 := by
  induction ps with
  | nil => rfl
  | cons x r ih =>
    unfold ptCells at ih ⊢
    rw [List.flatMap_cons, List.length_append, ih, List.length_cons]
    simp [Pt.cells]; omega
theorem ptCells_at (ps : List Pt) (j : Nat) (h : j < ps.length) (i : Nat) (hi : i < 4) : (ptCells ps)[j * 4 + i]? = (ps[j]).cells[i]? := by
  have e : ptCells ps = ptCells (ps.take j) ++ (ps[j].cells ++ ptCells (ps.drop (j + 1))) := by
    unfold ptCells
    conv => lhs; rw [← List.take_append_drop j ps, List.flatMap_append, List.drop_eq_getElem_cons h, List.flatMap_cons]
  have hl : (ptCells (ps.take j)).length = j * 4 := by rw [ptCells_length, List.length_take]; omega
  have hc : (ps[j]).cells.length = 4 := rfl
  rw [e, List.getElem?_append_right (by omega), List.getElem?_append_left (by omega), hl, Nat.add_sub_cancel_left]
theorem ptCells_one (x : Pt) : ∀ u ∈ x.cells, u.oneCell' = true := by
  intro u hu
  simp [Pt.cells] at hu
  rcases hu with rfl | rfl | rfl | rfl <;> rfl
/-- The row's cells at its part j. -/
theorem row_part {w : World} {B g n cap : Nat} {ps : List Pt} (h : w.ownsRow B 29 4 (.slice (some ⟨g, 0, none⟩) n cap) n (ptCells ps)) (j : Nat) (hj : j < ps.length) :
    w.cell? ⟨g, j * 4, none⟩ = some (.int .i64 ps[j].kind) ∧ w.cell? ⟨g, j * 4 + 1, none⟩ = some (.int .u64 (ps[j].u : Int)) ∧ w.cell? ⟨g, j * 4 + 2, none⟩ = some (.int .i64 ps[j].n) ∧ w.cell? ⟨g, j * 4 + 3, none⟩ = some (.string ps[j].s) := by
  have c := fun i (hi : i < 4) v (hv : (ps[j]).cells[i]? = some v) => h.cells (g := g) rfl (j * 4 + i) v ((ptCells_at ps j hj i hi).trans hv)
  refine ⟨?_, ?_, ?_, ?_⟩
  · have := c 0 (by omega) _ rfl; rw [add_off] at this; exact this
  · have := c 1 (by omega) _ rfl; rw [add_off] at this; exact this
  · have := c 2 (by omega) _ rfl; rw [add_off] at this; exact this
  · have := c 3 (by omega) _ rfl; rw [add_off] at this; exact this
theorem ptBits_drop (ps : List Pt) (j : Nat) (h : j < ps.length) : ptBits (ps.drop j) = ps[j].bits ++ ptBits (ps.drop (j + 1)) := by
  unfold ptBits
  rw [List.drop_eq_getElem_cons h, List.flatMap_cons]
/-- A part's four cells, alone in a block. -/
theorem cells_fresh (w : World) (x : Pt) (t : Nat) : ∀ j u, x.cells[j]? = some u → (w.alloc (.cells #[.int .i64 x.kind, .int .u64 (x.u : Int), .int .i64 x.n, .string x.s] t)).cell? ((⟨w.heap.size, 0, none⟩ : Addr).add j) = some u := by
  intro j u h
  rw [add_off]
  obtain ⟨c0, c1, c2, c3⟩ := cell_of_four (heap_alloc_new w (.cells #[.int .i64 x.kind, .int .u64 (x.u : Int), .int .i64 x.n, .string x.s] t))
  match j with
  | 0 => simp [Pt.cells] at h; rw [c0, h]
  | 1 => simp [Pt.cells] at h; rw [c1, h]
  | 2 => simp [Pt.cells] at h; rw [c2, h]
  | 3 => simp [Pt.cells] at h; rw [c3, h]
  | k + 4 => simp [Pt.cells] at h
end Go.Proofs.Ytlibfbfhleijlaa
