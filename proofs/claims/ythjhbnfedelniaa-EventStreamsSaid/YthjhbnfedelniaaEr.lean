/- Contracts: the calls of event's reader. -/
import Derived.Test.YthjhbnfedelniaaEs
import Derived.Test.YthjhbnfedelniaaQm
namespace Go.Proofs.Ythjhbnfedelniaa
open Go Go.RowKit

/-- In w the block q is a reader: its error, and what is left. -/
def ErIs (w : World) (B q : Nat) (bytes : List Nat) (s : Qs) : Prop := ∃ p, EsIs w B q ((s.1 : Nat) : Int) bytes p ∧ leftL bytes p = s.2
theorem EsIs.setErr {w : World} {B q : Nat} {ec : Int} {bytes : List Nat} {p : Nat} (h : EsIs w B q ec bytes p) (e : Int) : EsIs (w.setCell ⟨q, 3, none⟩ (.int .i64 e)) B q e bytes p := by
  obtain ⟨v, h1, ho⟩ := h.row
  refine ⟨h.from_, h.len, h.at_, h.small, v, ?_, ownsRow_setCell_typed ho h1 (by decide) _⟩
  rw [heap_setCell_same h1]; simp
theorem EsIs.keepsErr {w : World} {B q : Nat} {ec : Int} {bytes : List Nat} {p : Nat} (h : EsIs w B q ec bytes p) (u : Value) : Kept B erT w (w.setCell ⟨q, 3, none⟩ u) := by
  obtain ⟨v, h1, ho⟩ := h.row
  exact (Kept.refl _ _ _).setCell h.from_ h1 rfl u
theorem EsIs.freeErr {w : World} {B q : Nat} {ec : Int} {bytes : List Nat} {p : Nat} (h : EsIs w B q ec bytes p) : w.frozen? ⟨q, 3, none⟩ = false := by
  obtain ⟨v, h1, _⟩ := h.row
  exact (es_free h1).2.2.2
theorem EsIs.err {w : World} {B q : Nat} {ec : Int} {bytes : List Nat} {p : Nat} (h : EsIs w B q ec bytes p) : w.cell? ⟨q, 3, none⟩ = some (.int .i64 ec) := by
  obtain ⟨v, h1, _⟩ := h.row
  exact (es_cell h1).2.2.2
theorem EsIs.kept {w w' : World} {B B' q : Nat} {ec : Int} {bytes : List Nat} {p : Nat} {T : Nat → Bool} (h : EsIs w B q ec bytes p) (hk : Kept B' T w w') (h1 : T 86 = false) (h2 : T 5 = false) : EsIs w' B q ec bytes p := by
  obtain ⟨v, hq, ho⟩ := h.row
  exact ⟨h.from_, h.len, h.at_, h.small, v, hk.typed _ _ _ _ hq h1, hk.ownsRow ho h2⟩
theorem EsIs.below {w w' : World} {B B' q : Nat} {ec : Int} {bytes : List Nat} {p : Nat} (h : EsIs w B q ec bytes p) (hb : Below B' w w') (hB : w.heap.size ≤ B') : EsIs w' B q ec bytes p := by
  obtain ⟨v, hq, ho⟩ := h.row
  exact ⟨h.from_, h.len, h.at_, h.small, v, by rw [hb.block q (by have := lt_of_block hq; omega)]; exact hq, ownsRow_below ho hb hB⟩
theorem ErIs.err {w : World} {B q : Nat} {bytes : List Nat} {s : Qs} (h : ErIs w B q bytes s) : w.cell? ⟨q, 3, none⟩ = some (.int .i64 ((s.1 : Nat) : Int)) := by
  obtain ⟨p, h1, _⟩ := h; exact h1.err
theorem ErIs.free {w : World} {B q : Nat} {bytes : List Nat} {s : Qs} (h : ErIs w B q bytes s) : w.frozen? ⟨q, 3, none⟩ = false := by
  obtain ⟨p, h1, _⟩ := h; exact h1.freeErr
theorem ErIs.kept {w w' : World} {B B' q : Nat} {bytes : List Nat} {s : Qs} {T : Nat → Bool} (h : ErIs w B q bytes s) (hk : Kept B' T w w') (h1 : T 86 = false) (h2 : T 5 = false) : ErIs w' B q bytes s := by
  obtain ⟨p, h3, h4⟩ := h; exact ⟨p, h3.kept hk h1 h2, h4⟩
theorem ErIs.below {w w' : World} {B B' q : Nat} {bytes : List Nat} {s : Qs} (h : ErIs w B q bytes s) (hb : Below B' w w') (hB : w.heap.size ≤ B') : ErIs w' B q bytes s := by
  obtain ⟨p, h3, h4⟩ := h; exact ⟨p, h3.below hb hB, h4⟩
theorem ErIs.setErr {w : World} {B q : Nat} {bytes : List Nat} {s : Qs} (h : ErIs w B q bytes s) (e : Nat) : ErIs (w.setCell ⟨q, 3, none⟩ (.int .i64 ((e : Nat) : Int))) B q bytes (e, s.2) ∧ Kept B erT w (w.setCell ⟨q, 3, none⟩ (.int .i64 ((e : Nat) : Int))) := by
  obtain ⟨p, h3, h4⟩ := h
  exact ⟨⟨p, h3.setErr _, h4⟩, h3.keepsErr _⟩

set_option maxRecDepth 100000 in
set_option maxHeartbeats 800000 in
theorem reBits_any (B q n : Nat) (bytes : List Nat) (s : Qs) (w : World) (h : ErIs w B q bytes s) (hn : n ≤ 64) :
    Calls Try.prog 61 #[.pointer (some ⟨q, 0, none⟩), .int .i64 (n : Int)] w fun e w' => e = .returned (.int .u64 (((qB n s).1 : Nat) : Int)) ∧ ErIs w' B q bytes (qB n s).2 ∧ Kept B erT w w' := by
  by_cases h0 : s.1 = 0
  · obtain ⟨p, hp1, hp2⟩ := h
    rw [h0] at hp1
    have c3 := hp1.err
    have e1 : (qB n s).1 = bitsVal s.2 (n : Int) := by unfold qB; rw [if_pos h0]
    have e2 : (qB n s).2 = (bitsErr (n : Int) s.2.length, bitsRest s.2 (n : Int)) := by unfold qB; rw [if_pos h0]
    rw [e1, e2]
    have C := esBits_any B q (n : Int) 0 bytes p w hp1 (by simp [Lit.wf, IntKind.min, IntKind.max, IntKind.signed, IntKind.bits]; omega)
    rw [hp2] at C
    obtain ⟨V, hV⟩ : ∃ V, V = bitsVal s.2 (n : Int) := ⟨_, rfl⟩
    obtain ⟨E, hE⟩ : ∃ E, E = bitsErr (n : Int) s.2.length := ⟨_, rfl⟩
    obtain ⟨R, hR⟩ : ∃ R, R = bitsRest s.2 (n : Int) := ⟨_, rfl⟩
    rw [← hV, ← hE, ← hR] at C
    rw [← hV, ← hE, ← hR]
    clear hV hE hR e1 e2 hp1 hp2 h0
    go_enter Try.func61, Try.ntmps61
    go_wp2_with fail
    refine C.mono ?_
    clear C
    rintro e w1 ⟨rfl, ⟨p1, hs1, hl1⟩, k1⟩
    have g3 := hs1.freeErr
    have d3 := hs1.err
    have HS1 := hide hs1; have K1 := hide k1; have HL1 := hide hl1
    clear hs1 k1 hl1
    go_wp2
    go_ret
    exact ⟨rfl, ⟨p1, HS1.out.setErr _, HL1.out⟩, K1.out.trans (HS1.out.keepsErr _)⟩
  · have h1 : ((s.1 : Int) != 0) = true := by simp; omega
    have hr : qB n s = (0, s) := qB_err h0
    rw [hr]
    have c3 := h.err
    have HI := hide h
    obtain ⟨E, hE⟩ : ∃ E : Int, E = (s.1 : Int) := ⟨_, rfl⟩
    rw [← hE] at c3 h1
    clear hr h h0 hE
    go_enter Try.func61, Try.ntmps61
    go_wp2
    go_ret
    exact ⟨rfl, HI.out, Kept.refl _ _ _⟩

set_option maxRecDepth 100000 in
set_option maxHeartbeats 800000 in
theorem reNat_any (B q : Nat) (bytes : List Nat) (s : Qs) (w : World) (h : ErIs w B q bytes s) :
    Calls Try.prog 78 #[.pointer (some ⟨q, 0, none⟩)] w fun e w' => e = .returned (.int .u64 (((qN s).1 : Nat) : Int)) ∧ ErIs w' B q bytes (qN s).2 ∧ Kept B erT w w' := by
  by_cases h0 : s.1 = 0
  · obtain ⟨p, hp1, hp2⟩ := h
    rw [h0] at hp1
    have c3 := hp1.err
    have e1 : (qN s).1 = natValL s.2 := by unfold qN; rw [if_pos h0]
    have e2 : (qN s).2 = (natErrL s.2, natRestL s.2) := by unfold qN; rw [if_pos h0]
    rw [e1, e2]
    have C := esNat_left B q 0 bytes p w hp1
    rw [hp2] at C
    obtain ⟨V, hV⟩ : ∃ V, V = natValL s.2 := ⟨_, rfl⟩
    obtain ⟨E, hE⟩ : ∃ E, E = natErrL s.2 := ⟨_, rfl⟩
    obtain ⟨R, hR⟩ : ∃ R, R = natRestL s.2 := ⟨_, rfl⟩
    rw [← hV, ← hE, ← hR] at C
    rw [← hV, ← hE, ← hR]
    clear hV hE hR e1 e2 hp1 hp2 h0
    go_enter Try.func78, Try.ntmps78
    go_wp2_with fail
    refine C.mono ?_
    clear C
    rintro e w1 ⟨rfl, ⟨p1, hs1, hl1⟩, k1⟩
    have g3 := hs1.freeErr
    have d3 := hs1.err
    have HS1 := hide hs1; have K1 := hide k1; have HL1 := hide hl1
    clear hs1 k1 hl1
    go_wp2
    go_ret
    exact ⟨rfl, ⟨p1, HS1.out.setErr _, HL1.out⟩, K1.out.trans (HS1.out.keepsErr _)⟩
  · have h1 : ((s.1 : Int) != 0) = true := by simp; omega
    have hr : qN s = (0, s) := qN_err h0
    rw [hr]
    have c3 := h.err
    have HI := hide h
    obtain ⟨E, hE⟩ : ∃ E : Int, E = (s.1 : Int) := ⟨_, rfl⟩
    rw [← hE] at c3 h1
    clear hr h h0 hE
    go_enter Try.func78, Try.ntmps78
    go_wp2
    go_ret
    exact ⟨rfl, HI.out, Kept.refl _ _ _⟩

set_option maxRecDepth 100000 in
set_option maxHeartbeats 800000 in
theorem reNum_any (B q : Nat) (bytes : List Nat) (s : Qs) (w : World) (h : ErIs w B q bytes s) :
    Calls Try.prog 85 #[.pointer (some ⟨q, 0, none⟩)] w fun e w' => e = .returned (.int .i64 (qI s).1) ∧ ErIs w' B q bytes (qI s).2 ∧ Kept B erT w w' := by
  by_cases h0 : s.1 = 0
  · obtain ⟨p, hp1, hp2⟩ := h
    rw [h0] at hp1
    have c3 := hp1.err
    have e1 : (qI s).1 = numValL s.2 := by unfold qI; rw [if_pos h0]
    have e2 : (qI s).2 = (natErrL s.2, natRestL s.2) := by unfold qI; rw [if_pos h0]
    rw [e1, e2]
    have C := esNum_any B q 0 bytes p w hp1
    rw [hp2] at C
    obtain ⟨V, hV⟩ : ∃ V, V = numValL s.2 := ⟨_, rfl⟩
    obtain ⟨E, hE⟩ : ∃ E, E = natErrL s.2 := ⟨_, rfl⟩
    obtain ⟨R, hR⟩ : ∃ R, R = natRestL s.2 := ⟨_, rfl⟩
    rw [← hV, ← hE, ← hR] at C
    rw [← hV, ← hE, ← hR]
    clear hV hE hR e1 e2 hp1 hp2 h0
    go_enter Try.func85, Try.ntmps85
    go_wp2_with fail
    refine C.mono ?_
    clear C
    rintro e w1 ⟨rfl, ⟨p1, hs1, hl1⟩, k1⟩
    have g3 := hs1.freeErr
    have d3 := hs1.err
    have HS1 := hide hs1; have K1 := hide k1; have HL1 := hide hl1
    clear hs1 k1 hl1
    go_wp2
    go_ret
    exact ⟨rfl, ⟨p1, HS1.out.setErr _, HL1.out⟩, K1.out.trans (HS1.out.keepsErr _)⟩
  · have h1 : ((s.1 : Int) != 0) = true := by simp; omega
    have hr : qI s = (0, s) := qI_err h0
    rw [hr]
    have c3 := h.err
    have HI := hide h
    obtain ⟨E, hE⟩ : ∃ E : Int, E = (s.1 : Int) := ⟨_, rfl⟩
    rw [← hE] at c3 h1
    clear hr h h0 hE
    go_enter Try.func85, Try.ntmps85
    go_wp2
    go_ret
    exact ⟨rfl, HI.out, Kept.refl _ _ _⟩

set_option maxRecDepth 100000 in
set_option maxHeartbeats 800000 in
theorem reText_any (B q : Nat) (bytes : List Nat) (s : Qs) (w : World) (h : ErIs w B q bytes s) :
    Calls Try.prog 63 #[.pointer (some ⟨q, 0, none⟩)] w fun e w' => e = .returned (.string (qT s).1) ∧ ErIs w' B q bytes (qT s).2 ∧ Kept B erT w w' := by
  by_cases h0 : s.1 = 0
  · obtain ⟨p, hp1, hp2⟩ := h
    rw [h0] at hp1
    have c3 := hp1.err
    have e1 : (qT s).1 = textStr s.2 := by unfold qT; rw [if_pos h0]
    have e2 : (qT s).2 = (textErrL s.2, textRestL s.2) := by unfold qT; rw [if_pos h0]
    rw [e1, e2]
    have C := esText_any B q 0 bytes p w hp1
    rw [hp2] at C
    obtain ⟨V, hV⟩ : ∃ V, V = textStr s.2 := ⟨_, rfl⟩
    obtain ⟨E, hE⟩ : ∃ E, E = textErrL s.2 := ⟨_, rfl⟩
    obtain ⟨R, hR⟩ : ∃ R, R = textRestL s.2 := ⟨_, rfl⟩
    rw [← hV, ← hE, ← hR] at C
    rw [← hV, ← hE, ← hR]
    clear hV hE hR e1 e2 hp1 hp2 h0
    go_enter Try.func63, Try.ntmps63
    go_wp2_with fail
    refine C.mono ?_
    clear C
    rintro e w1 ⟨rfl, ⟨p1, hs1, hl1⟩, k1⟩
    have g3 := hs1.freeErr
    have d3 := hs1.err
    have HS1 := hide hs1; have K1 := hide k1; have HL1 := hide hl1
    clear hs1 k1 hl1
    go_wp2
    go_ret
    exact ⟨rfl, ⟨p1, HS1.out.setErr _, HL1.out⟩, K1.out.trans (HS1.out.keepsErr _)⟩
  · have h1 : ((s.1 : Int) != 0) = true := by simp; omega
    have hr : qT s = (⟨#[]⟩, s) := qT_err h0
    rw [hr]
    have c3 := h.err
    have HI := hide h
    obtain ⟨E, hE⟩ : ∃ E : Int, E = (s.1 : Int) := ⟨_, rfl⟩
    rw [← hE] at c3 h1
    clear hr h h0 hE
    go_enter Try.func63, Try.ntmps63
    go_wp2
    go_ret
    exact ⟨rfl, HI.out, Kept.refl _ _ _⟩

set_option maxRecDepth 100000 in
theorem reCount_any (B q : Nat) (bytes : List Nat) (s : Qs) (w : World) (h : ErIs w B q bytes s) :
    Calls Try.prog 62 #[.pointer (some ⟨q, 0, none⟩)] w fun e w' => e = .returned (.int .i64 (wrap64 (((qN s).1 : Nat) : Int))) ∧ ErIs w' B q bytes (qN s).2 ∧ Kept B erT w w' := by
  have C := reNat_any B q bytes s w h
  obtain ⟨V, hV⟩ : ∃ V : Int, V = (((qN s).1 : Nat) : Int) := ⟨_, rfl⟩
  rw [← hV] at C
  rw [← hV]
  clear hV h
  go_enter Try.func62, Try.ntmps62
  go_wp2_with fail
  refine C.mono ?_
  clear C
  rintro e w1 ⟨rfl, hs1, k1⟩
  have HS1 := hide hs1; have K1 := hide k1; clear hs1 k1
  go_wp2
  go_ret
  exact ⟨rfl, HS1.out, K1.out⟩
end Go.Proofs.Ythjhbnfedelniaa
