/- Contracts: the reader's calls. -/
import Derived.Test.YtebojmjbolphfaaDcm
import Derived.Test.YtebojmjbolphfaaFcl
namespace Go.Proofs.Ytebojmjbolphfaa
open Go Go.RowKit

/-- The source stands at the first of the given bits. -/
def SrcHas (w : World) (B q : Nat) (bytes : List Nat) (l : List Bool) : Prop := ∃ p, SrcIs w B q bytes p ∧ leftL bytes p = l
theorem SrcHas.below {w w' : World} {B B' q : Nat} {bytes : List Nat} {l : List Bool} (h : SrcHas w B q bytes l) (hb : Below B' w w') (hB : w.heap.size ≤ B') : SrcHas w' B q bytes l := by
  obtain ⟨p, h1, h2⟩ := h
  exact ⟨p, h1.below hb hB, h2⟩
theorem SrcHas.kept {w w' : World} {B B' q : Nat} {bytes : List Nat} {l : List Bool} {T : Nat → Bool} (h : SrcHas w B q bytes l) (hk : Kept B' T w w') (h1 : T 84 = false) (h2 : T 5 = false) : SrcHas w' B q bytes l := by
  obtain ⟨p, h3, h4⟩ := h
  exact ⟨p, h3.kept hk h1 h2, h4⟩
theorem SrcHas.lower {w : World} {B B' q : Nat} {bytes : List Nat} {l : List Bool} (h : SrcHas w B q bytes l) (hB : B' ≤ B) : SrcHas w B' q bytes l := by
  obtain ⟨p, h1, h2⟩ := h
  obtain ⟨v, h3, h4⟩ := h1.row
  exact ⟨p, ⟨Nat.le_trans hB h1.from_, h1.len, h1.at_, h1.small, v, h3, ownsRow_lower h4 hB⟩, h2⟩
theorem SrcHas.drew {w : World} {B q : Nat} {bytes : List Nat} {l : List Bool} (h : SrcHas w B q bytes l) : SrcHas w.drew B q bytes l := by
  obtain ⟨p, h1, h2⟩ := h
  exact ⟨p, h1.drew, h2⟩

def rdT (e : Nat) : Bool := e == 84 || e == 74
theorem rdT_src (e : Nat) (h : rdT e = false) : srcT e = false := by unfold rdT at h; simp at h; simpa [srcT] using h.1

/-- In w the block p is a reader over the source q. -/
structure RdIs (w : World) (B p q : Nat) (bytes : List Nat) (s : St) : Prop where
  from_ : B ≤ p
  box : w.heap[p]? = some (.cells #[.pointer (some ⟨q, 0, none⟩), .int .i64 (s.1 : Int)] 74 (0, 0))
  src : ∃ l, SrcHas w B q bytes l ∧ (s.1 = 0 → l = s.2)
theorem RdIs.below {w w' : World} {B B' p q : Nat} {bytes : List Nat} {s : St} (h : RdIs w B p q bytes s) (hb : Below B' w w') (hB : w.heap.size ≤ B') : RdIs w' B p q bytes s := by
  obtain ⟨l, h1, h2⟩ := h.src
  exact ⟨h.from_, (hb.block p (Nat.lt_of_lt_of_le (lt_of_block h.box) hB)).trans h.box, l, h1.below hb hB, h2⟩
theorem cell_of_two {w : World} {q : Nat} {c0 c1 : Value} {t : Nat} (h : w.heap[q]? = some (.cells #[c0, c1] t (0, 0))) : w.cell? ⟨q, 0, none⟩ = some c0 ∧ w.cell? ⟨q, 1, none⟩ = some c1 := by
  refine ⟨?_, ?_⟩ <;> simp [World.cell?, h]
theorem free_of_two {w : World} {q : Nat} {c0 c1 : Value} {t : Nat} (h : w.heap[q]? = some (.cells #[c0, c1] t (0, 0))) : w.frozen? ⟨q, 0, none⟩ = false ∧ w.frozen? ⟨q, 1, none⟩ = false := by
  refine ⟨?_, ?_⟩ <;> simp [World.frozen?, h]
/-- A reader whose error is laid anew. -/
theorem RdIs.setErr {w : World} {B p q : Nat} {bytes : List Nat} {e0 e : Nat} {l : List Bool} (hB : B ≤ p) (hbox : w.heap[p]? = some (.cells #[.pointer (some ⟨q, 0, none⟩), .int .i64 (e0 : Int)] 74 (0, 0))) (hs : SrcHas w B q bytes l) (m : List Bool) (hm : e = 0 → l = m) :
    RdIs (w.setCell ⟨p, 1, none⟩ (.int .i64 (e : Int))) B p q bytes (e, m) ∧ Kept B rdT w (w.setCell ⟨p, 1, none⟩ (.int .i64 (e : Int))) := by
  have hk : Kept B (fun e => e == 74) w (w.setCell ⟨p, 1, none⟩ (.int .i64 (e : Int))) := (Kept.refl _ _ _).setCell (p := ⟨p, 1, none⟩) hB hbox rfl _
  refine ⟨⟨hB, ?_, l, hs.kept hk (by decide) (by decide), hm⟩, hk.mono (Nat.le_refl _) (fun e he => ?_)⟩
  · rw [heap_setCell_same hbox]; simp
  · unfold rdT at he; simp at he; simpa using he.2
theorem kept_src {B : Nat} {w w' : World} (h : Kept B srcT w w') : Kept B rdT w w' := h.mono (Nat.le_refl _) rdT_src

set_option maxRecDepth 100000 in
set_option maxHeartbeats 800000 in
theorem fdBits_any (B p q n : Nat) (bytes : List Nat) (s : St) (w : World) (h : RdIs w B p q bytes s) (hn : n ≤ 64) :
    Calls Try.prog 60 #[.pointer (some ⟨p, 0, none⟩), .int .i64 (n : Int)] w fun e w' => e = .returned (.int .u64 (((rdB n s).1 : Nat) : Int)) ∧ RdIs w' B p q bytes (rdB n s).2 ∧ Kept B rdT w w' := by
  obtain ⟨c0, c1⟩ := cell_of_two h.box
  by_cases h0 : s.1 = 0
  · obtain ⟨l, hl, hl2⟩ := h.src
    have hl3 := hl2 h0
    subst hl3
    have hbox := h.box
    have hfr := h.from_
    rw [h0] at hbox c1
    have e1 : (rdB n s).1 = bitsVal s.2 n := by unfold rdB; rw [if_pos h0]
    have e2 : (rdB n s).2 = (bitsErr n s.2.length, bitsRest s.2 n) := by unfold rdB; rw [if_pos h0]
    rw [e1, e2]
    have HBx := hide hbox
    obtain ⟨p', hp1, hp2⟩ := hl
    have C := sBits_any B q (n : Int) bytes p' w hp1 (by simp [Lit.wf, IntKind.min, IntKind.max, IntKind.signed, IntKind.bits]; omega)
    rw [hp2] at C
    obtain ⟨V, hV⟩ : ∃ V, V = bitsVal s.2 (n : Int) := ⟨_, rfl⟩
    obtain ⟨E, hE⟩ : ∃ E, E = bitsErr (n : Int) s.2.length := ⟨_, rfl⟩
    obtain ⟨R, hR⟩ : ∃ R, R = bitsRest s.2 (n : Int) := ⟨_, rfl⟩
    rw [← hV, ← hE, ← hR] at C
    rw [← hV, ← hE, ← hR]
    clear hV hE hR e1 e2 hbox hp1 hp2 hl2 h0 h
    go_enter Try.func60, Try.ntmps60
    go_wp2_with fail
    refine C.mono ?_
    clear C
    rintro e w1 ⟨rfl, hs1, k1⟩
    have hb1 := k1.typed _ _ _ _ HBx.out (by decide)
    obtain ⟨d0, d1⟩ := cell_of_two hb1
    obtain ⟨g0, g1⟩ := free_of_two hb1
    have HS1 := hide (show SrcHas w1 B q bytes R from hs1)
    have HB1 := hide hb1; have K1 := hide k1
    clear hs1 hb1 k1
    go_wp2
    go_ret
    have hr := RdIs.setErr (e := E) hfr HB1.out HS1.out R (fun _ => rfl)
    exact ⟨rfl, hr.1, (kept_src K1.out).trans hr.2⟩
  · have h1 : ((s.1 : Int) != 0) = true := by simp; omega
    have hr := rdB_err n s h0
    rw [hr]
    have HI := hide h
    obtain ⟨E, hE⟩ : ∃ E : Int, E = (s.1 : Int) := ⟨_, rfl⟩
    rw [← hE] at c1 h1
    clear hr h h0 hE
    go_enter Try.func60, Try.ntmps60
    go_wp2
    go_ret
    exact ⟨rfl, HI.out, Kept.refl _ _ _⟩

set_option maxRecDepth 100000 in
set_option maxHeartbeats 800000 in
theorem fdNat_any (B p q : Nat) (bytes : List Nat) (s : St) (w : World) (h : RdIs w B p q bytes s) :
    Calls Try.prog 66 #[.pointer (some ⟨p, 0, none⟩)] w fun e w' => e = .returned (.int .u64 (((rdN s).1 : Nat) : Int)) ∧ RdIs w' B p q bytes (rdN s).2 ∧ Kept B rdT w w' := by
  obtain ⟨c0, c1⟩ := cell_of_two h.box
  by_cases h0 : s.1 = 0
  · obtain ⟨l, hl, hl2⟩ := h.src
    have hl3 := hl2 h0
    subst hl3
    have hbox := h.box
    have hfr := h.from_
    rw [h0] at hbox c1
    have e1 : (rdN s).1 = natValL s.2 := by unfold rdN; rw [if_pos h0]
    have e2 : (rdN s).2 = (natErrL s.2, natRestL s.2) := by unfold rdN; rw [if_pos h0]
    rw [e1, e2]
    have HBx := hide hbox
    obtain ⟨p', hp1, hp2⟩ := hl
    have C := sNat_left B q bytes p' w hp1
    rw [hp2] at C
    obtain ⟨V, hV⟩ : ∃ V, V = natValL s.2 := ⟨_, rfl⟩
    obtain ⟨E, hE⟩ : ∃ E, E = natErrL s.2 := ⟨_, rfl⟩
    obtain ⟨R, hR⟩ : ∃ R, R = natRestL s.2 := ⟨_, rfl⟩
    rw [← hV, ← hE, ← hR] at C
    rw [← hV, ← hE, ← hR]
    clear hV hE hR e1 e2 hbox hp1 hp2 hl2 h0 h
    go_enter Try.func66, Try.ntmps66
    go_wp2_with fail
    refine C.mono ?_
    clear C
    rintro e w1 ⟨rfl, hs1, k1⟩
    have hb1 := k1.typed _ _ _ _ HBx.out (by decide)
    obtain ⟨d0, d1⟩ := cell_of_two hb1
    obtain ⟨g0, g1⟩ := free_of_two hb1
    have HS1 := hide (show SrcHas w1 B q bytes R from hs1)
    have HB1 := hide hb1; have K1 := hide k1
    clear hs1 hb1 k1
    go_wp2
    go_ret
    have hr := RdIs.setErr (e := E) hfr HB1.out HS1.out R (fun _ => rfl)
    exact ⟨rfl, hr.1, (kept_src K1.out).trans hr.2⟩
  · have h1 : ((s.1 : Int) != 0) = true := by simp; omega
    have hr := rdN_err s h0
    rw [hr]
    have HI := hide h
    obtain ⟨E, hE⟩ : ∃ E : Int, E = (s.1 : Int) := ⟨_, rfl⟩
    rw [← hE] at c1 h1
    clear hr h h0 hE
    go_enter Try.func66, Try.ntmps66
    go_wp2
    go_ret
    exact ⟨rfl, HI.out, Kept.refl _ _ _⟩

set_option maxRecDepth 100000 in
theorem fdCount_any (B p q : Nat) (bytes : List Nat) (s : St) (w : World) (h : RdIs w B p q bytes s) :
    Calls Try.prog 61 #[.pointer (some ⟨p, 0, none⟩)] w fun e w' => e = .returned (.int .i64 (wrap64 (((rdN s).1 : Nat) : Int))) ∧ RdIs w' B p q bytes (rdN s).2 ∧ Kept B rdT w w' := by
  have C := fdNat_any B p q bytes s w h
  obtain ⟨V, hV⟩ : ∃ V : Int, V = (((rdN s).1 : Nat) : Int) := ⟨_, rfl⟩
  rw [← hV] at C
  rw [← hV]
  clear hV h
  go_enter Try.func61, Try.ntmps61
  go_wp2_with fail
  refine C.mono ?_
  clear C
  rintro e w1 ⟨rfl, hs1, k1⟩
  have HS1 := hide hs1; have K1 := hide k1; clear hs1 k1
  go_wp2
  go_ret
  exact ⟨rfl, HS1.out, K1.out⟩

set_option maxRecDepth 100000 in
set_option maxHeartbeats 800000 in
theorem fdEnd_any (B p q : Nat) (bytes : List Nat) (s : St) (w : World) (h : RdIs w B p q bytes s) :
    Calls Try.prog 52 #[.pointer (some ⟨p, 0, none⟩)] w fun e w' => e = .returned (.tuple #[]) ∧ w'.heap[p]? = some (.cells #[.pointer (some ⟨q, 0, none⟩), .int .i64 ((rdE s : Nat) : Int)] 74 (0, 0)) ∧ Kept B rdT w w' := by
  obtain ⟨c0, c1⟩ := cell_of_two h.box
  by_cases h0 : s.1 = 0
  · obtain ⟨l, hl, hl2⟩ := h.src
    have hl3 := hl2 h0
    subst hl3
    have hbox := h.box
    have hfr := h.from_
    rw [h0] at hbox c1
    rw [show rdE s = endErrL s.2 by unfold rdE; rw [if_pos h0]]
    have HBx := hide hbox
    obtain ⟨p', hp1, hp2⟩ := hl
    have C := sEnd_left B q bytes p' w hp1
    rw [hp2] at C
    obtain ⟨E, hE⟩ : ∃ E, E = endErrL s.2 := ⟨_, rfl⟩
    rw [← hE] at C
    rw [← hE]
    clear hE hbox hp1 hp2 hl2 h0 h
    go_enter Try.func52, Try.ntmps52
    go_wp2_with fail
    refine C.mono ?_
    clear C
    rintro e w1 ⟨rfl, hs1, k1⟩
    have hb1 := k1.typed _ _ _ _ HBx.out (by decide)
    obtain ⟨d0, d1⟩ := cell_of_two hb1
    obtain ⟨g0, g1⟩ := free_of_two hb1
    have HB1 := hide hb1; have K1 := hide k1
    clear hs1 hb1 k1
    go_wp2
    go_end0
    refine ⟨rfl, ?_, (kept_src K1.out).setCell (p := ⟨p, 1, none⟩) hfr HB1.out rfl _⟩
    rw [heap_setCell_same HB1.out]; simp
  · have h1 : ((s.1 : Int) == 0) = false := by simp; omega
    have hr : rdE s = s.1 := by unfold rdE; rw [if_neg h0]
    rw [hr]
    have HI := hide h
    obtain ⟨E, hE⟩ : ∃ E : Int, E = (s.1 : Int) := ⟨_, rfl⟩
    rw [← hE] at c1 h1
    have HE := hide hE
    clear hr h h0 hE
    go_enter Try.func52, Try.ntmps52
    go_wp2
    go_end0
    exact ⟨rfl, HI.out.box, Kept.refl _ _ _⟩
end Go.Proofs.Ytebojmjbolphfaa
