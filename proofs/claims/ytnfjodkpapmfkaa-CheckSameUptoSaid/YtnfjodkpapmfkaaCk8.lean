/- Contract: the closure of Clone: a node's conditions and kids in memory of their own. -/
import Derived.Test.YtnfjodkpapmfkaaCl8
namespace Go.Proofs.Ytnfjodkpapmfkaa
open Go Go.RowKit

/-- How things stand while a node's kids are gone through. -/
structure CkS (w : World) (d : Nt) (k : Fo) (b o : Nat) (cs : Array Value) (t : TypeId) (ao : Option Addr) (c1 : Nat) (ko : Option Addr) (c2 R : Nat) (cs0 : Array Value) (S3 i : Nat) (u : World) : Prop where
  box : u.heap[b]? = some (.cells ((cs.setIfInBounds (o + 3) (.slice ao d.tests.length c1)).setIfInBounds (o + 4) (.slice ko k.len c2)) t (0, 0))
  chg : Chg (fun x => x = b) w u
  mid : ∃ m, w.heap.size ≤ m ∧ m ≤ u.heap.size ∧ CdO u (fun x => w.heap.size ≤ x ∧ x < m) ao d.tests ∧ (0 < k.len → m ≤ R)
  row : 0 < k.len → ko = some ⟨R, 0, none⟩ ∧ b ≠ R ∧ R < S3 ∧ S3 ≤ u.heap.size ∧ ∃ cs' ys, u.heap[R]? = some (.cells cs' 25 (0, 0)) ∧ 5 * k.len ≤ cs'.size ∧ cs'.toList = ys ++ cs0.toList.drop (5 * i) ∧ ys.length = 5 * i ∧ VF u (k.take i) ys (fun x => S3 ≤ x ∧ x < u.heap.size)
theorem CkS.fin {w : World} {d : Nt} {k : Fo} {b o : Nat} {cs : Array Value} {t : TypeId} {ao : Option Addr} {c1 : Nat} {ko : Option Addr} {c2 R : Nat} {cs0 : Array Value} {S3 : Nat} {u : World} (h : CkS w d k b o cs t ao c1 ko c2 R cs0 S3 k.len u) :
    BlO u d (VF u k) k.len (fun x => w.heap.size ≤ x ∧ x < u.heap.size) ao ko := by
  obtain ⟨m, hm, hmu, hcd, hmR⟩ := h.mid
  by_cases hk : 0 < k.len
  · obtain ⟨rfl, _, hR, hS, cs', ys, hb, hs, he, hl, hv⟩ := h.row hk
    have hmR := hmR hk
    refine ⟨fun x => w.heap.size ≤ x ∧ x < m, fun x => m ≤ x ∧ x < u.heap.size, fun x hx => ⟨hx.1, by omega⟩, fun x hx => ⟨by omega, hx.2⟩, fun x hx hh => by omega, hcd, fun _ => ⟨R, cs', rfl, ⟨hmR, by omega⟩, hb, hs, ?_⟩⟩
    rw [he, ← hl, List.take_left]
    rw [Fo.take_len] at hv
    exact hv.mono (fun x hx => ⟨⟨by omega, hx.2⟩, by omega⟩)
  · exact ⟨fun x => w.heap.size ≤ x ∧ x < m, fun _ => False, fun x hx => ⟨hx.1, by omega⟩, fun _ h => h.elim, fun _ _ h => h, hcd, fun h => absurd h hk⟩
theorem CkS.step {w : World} {d : Nt} {k : Fo} {b o : Nat} {cs : Array Value} {t : TypeId} {ao : Option Addr} {c1 : Nat} {ko : Option Addr} {c2 R : Nat} {cs0 : Array Value} {S3 i : Nat} {u u2 : World} (h : CkS w d k b o cs t ao c1 ko c2 R cs0 S3 i u) (hi : i < k.len)
    {d' : Nt} {k' : Fo} (hd : k.drop i = .cons d' k' (k.drop (i + 1))) {ta : Option Addr} {tc : Nat} {ka : Option Addr} {kc : Nat} {rest : List Value} (hsrc : cs0.toList.drop (5 * i) = nd5 d' ta tc ka k'.len kc ++ rest) (hRw : w.heap.size ≤ R)
    {cs' : Array Value} (hb : u.heap[R]? = some (.cells cs' 25 (0, 0))) {ta' : Option Addr} {tc' : Nat} {ka' : Option Addr} {kc' : Nat}
    (hb2 : u2.heap[R]? = some (.cells ((cs'.setIfInBounds (5 * i + 3) (.slice ta' d'.tests.length tc')).setIfInBounds (5 * i + 4) (.slice ka' k'.len kc')) 25 (0, 0)))
    (hc : Chg (fun x => x = R) u u2) (hbl : BlO u2 d' (VF u2 k') k'.len (fun x => u.heap.size ≤ x ∧ x < u2.heap.size) ta' ka') : CkS w d k b o cs t ao c1 ko c2 R cs0 S3 (i + 1) u2 := by
  obtain ⟨m, hm, hmu, hcd, hmR⟩ := h.mid
  have hk : 0 < k.len := by omega
  obtain ⟨rfl, hbR, hR, hS, cs1, ys, hb1, hs, he, hl, hv⟩ := h.row hk
  have hmR := hmR hk
  rw [hb1] at hb
  simp only [Option.some.injEq, Obj.cells.injEq, and_true] at hb
  subst hb
  have hbu : b < u.heap.size := lt_of_block h.box
  have hsz := hc.size
  refine ⟨(hc.block b hbu hbR).trans h.box, h.chg.trans hc (fun j hj => .inr (by rw [hj]; exact hRw)), ⟨m, hm, by omega, hcd.keep (fun x hx => hc.block x (by omega) (by omega)), fun _ => hmR⟩, fun _ => ⟨rfl, hbR, hR, by omega, _, ys ++ nd5 d' ta' tc' ka' k'.len kc', hb2, by simpa using hs, ?_, by rw [List.length_append, hl, nd5_len]; omega, ?_⟩⟩
  · have h5 : 5 * (i + 1) = 5 * i + 5 := by omega
    rw [hsrc] at he
    rw [set5 he hl, h5, ← List.drop_drop, hsrc]
    simp [nd5]
  · rw [Fo.take_snoc hd]
    exact VF.app (hv.keep (fun x hx => hc.block x hx.2 (by omega))) (VF.single hbl tc' kc') (fun x hx hh => by omega) (fun x hx => ⟨hx.1, by omega⟩) (fun x hx => ⟨by omega, hx.2⟩)
theorem CkS.drew {w : World} {d : Nt} {k : Fo} {b o : Nat} {cs : Array Value} {t : TypeId} {ao : Option Addr} {c1 : Nat} {ko : Option Addr} {c2 R : Nat} {cs0 : Array Value} {S3 i : Nat} {u : World} (h : CkS w d k b o cs t ao c1 ko c2 R cs0 S3 i u) : CkS w d k b o cs t ao c1 ko c2 R cs0 S3 i u.drew := by
  obtain ⟨m, hm, hmu, hcd, hmR⟩ := h.mid
  refine ⟨h.box, h.chg.drew, ⟨m, hm, hmu, hcd.keep (fun _ _ => rfl), hmR⟩, fun hk => ?_⟩
  obtain ⟨a1, a2, a3, a4, cs', ys, a5, a6, a7, a8, a9⟩ := h.row hk
  exact ⟨a1, a2, a3, a4, cs', ys, a5, a6, a7, a8, VF.keep (w := u) (w' := u.drew) (fun _ _ => rfl) a9⟩
/-- The first state: both slices have been written. -/
theorem CkS.start {X : Array Value → Prop} {w w1 w2 : World} {d : Nt} {k : Fo} {b o : Nat} {cs : Array Value} {t : TypeId} {ao : Option Addr} {c1 : Nat} {ko : Option Addr} {c2 : Nat} (hbox : w.heap[b]? = some (.cells cs t (0, 0)))
    (h1 : Below w.heap.size w w1) (hcd : CdO w1 (fun x => w.heap.size ≤ x ∧ x < w1.heap.size) ao d.tests) (h2 : Below w1.heap.size (w1.setCell ⟨b, o + 3, none⟩ (.slice ao d.tests.length c1)) w2)
    (hrow : 0 < k.len → ∃ g cs0, ko = some ⟨g, 0, none⟩ ∧ w1.heap.size ≤ g ∧ g < w2.heap.size ∧ w2.heap[g]? = some (.cells cs0 25 (0, 0)) ∧ 5 * k.len ≤ cs0.size ∧ X cs0) :
    ∃ R cs0, (0 < k.len → (X cs0 ∧ 5 * k.len ≤ cs0.size) ∧ w1.heap.size ≤ R ∧ ko = some ⟨R, 0, none⟩) ∧ CkS w d k b o cs t ao c1 ko c2 R cs0 w2.heap.size 0 (w2.setCell ⟨b, o + 4, none⟩ (.slice ko k.len c2)) := by
  have hbw : b < w.heap.size := lt_of_block hbox
  have hz1 := h1.size
  have hz2 := h2.size
  rw [show (w1.setCell ⟨b, o + 3, none⟩ (.slice ao d.tests.length c1)).heap.size = w1.heap.size by simp] at hz2
  have b1 : w1.heap[b]? = some (.cells cs t (0, 0)) := (h1.block b hbw).trans hbox
  have b1s := heap_setCell_same (k := o + 3) b1 (.slice ao d.tests.length c1)
  have b2 : w2.heap[b]? = _ := (h2.block b (by omega)).trans b1s
  have b2s := heap_setCell_same (k := o + 4) b2 (.slice ko k.len c2)
  have ch : Chg (fun x => x = b) w (w2.setCell ⟨b, o + 4, none⟩ (.slice ko k.len c2)) := by
    have c1' : Chg (fun x => x = b) w (w1.setCell ⟨b, o + 3, none⟩ (.slice ao d.tests.length c1)) := Chg.setCell (F := fun x => x = b) (Chg.of_below h1) (p := ⟨b, o + 3, none⟩) rfl _
    have c2' : Chg (fun x => x = b) (w1.setCell ⟨b, o + 3, none⟩ (.slice ao d.tests.length c1)) w2 := Chg.of_below (by simpa using h2)
    exact (c1'.trans c2' (fun j hj => .inl hj)).setCell (p := ⟨b, o + 4, none⟩) rfl _
  have hcd2 : CdO (w2.setCell ⟨b, o + 4, none⟩ (.slice ko k.len c2)) (fun x => w.heap.size ≤ x ∧ x < w1.heap.size) ao d.tests := hcd.keep (fun x hx => by
    rw [Below.heap_setCell _ _ _ _ (show x ≠ b by omega), h2.block x hx.2, Below.heap_setCell _ _ _ _ (show x ≠ b by omega)])
  by_cases hk : 0 < k.len
  · obtain ⟨g, cs0, he, hg1, hg2, hg3, hg4, hX⟩ := hrow hk
    refine ⟨g, cs0, fun _ => ⟨⟨hX, hg4⟩, hg1, he⟩, b2s, ch, ⟨w1.heap.size, hz1, by simpa using hz2, hcd2, fun _ => hg1⟩, fun _ => ⟨he, by omega, hg2, by simp, cs0, [], ?_, hg4, by simp, rfl, ?_⟩⟩
    · rw [Below.heap_setCell _ _ _ _ (show g ≠ b by omega)]; exact hg3
    · rw [Fo.take_zero]; exact VF.nil _ _
  · exact ⟨0, #[], fun h => absurd h hk, b2s, ch, ⟨w1.heap.size, hz1, by simpa using hz2, hcd2, fun h => absurd h hk⟩, fun h => absurd h hk⟩
theorem SF.node {w : World} {G : Nat → Prop} {k : Fo} {cs0 : Array Value} (h : SF w G k (cs0.toList.take (5 * k.len))) (hs : 5 * k.len ≤ cs0.size) {i : Nat} (hi : i < k.len) {d' : Nt} {k' : Fo} (hd : k.drop i = .cons d' k' (k.drop (i + 1))) :
    ∃ ta tc ka kc rest, cs0.toList.drop (5 * i) = nd5 d' ta tc ka k'.len kc ++ rest ∧ CdV w G (.slice ta d'.tests.length tc) d'.tests ∧ (k'.isNil = false → ∃ b o, ka = some ⟨b, o, none⟩ ∧ G b ∧ FoAt w G k' b o) := by
  have h1 := h.drop i
  rw [hd] at h1
  obtain ⟨ta, tc, ka, kc, rest, e, ht, hk, _⟩ := h1
  refine ⟨ta, tc, ka, kc, rest ++ cs0.toList.drop (5 * k.len), ?_, ht, hk⟩
  have hl : (cs0.toList.take (5 * k.len)).length = 5 * k.len := by rw [List.length_take]; simp; omega
  have := List.take_append_drop (5 * k.len) cs0.toList
  rw [← List.append_assoc, ← e, ← List.drop_append_of_le_length (by rw [hl]; omega), this]
theorem len7 {n : Nat} (h : n ≤ 1048576) : n ≤ 140737488355328 := by omega
theorem lt7 {i n : Nat} (h : i < n) : (i : Int) < (n : Int) := by omega
set_option maxRecDepth 100000 in
set_option maxHeartbeats 4000000 in
theorem cClone1_any (q : Nat) (G : Nat → Prop) (d : Nt) (k : Fo) :
    ∀ (w : World) (b o : Nat) (cs : Array Value) (t : TypeId) (ta : Option Addr) (tc : Nat) (ka : Option Addr) (kc : Nat), w.heap[b]? = some (.cells cs t (0, 0)) → (∀ j u, (nd5 d ta tc ka k.len kc)[j]? = some u → cs[o + j]? = some u) →
      CdV w G (.slice ta d.tests.length tc) d.tests → (k.isNil = false → ∃ b o, ka = some ⟨b, o, none⟩ ∧ G b ∧ FoAt w G k b o) → (∀ x, G x → x < w.heap.size ∧ x ≠ b) → q ≠ b →
      w.heap[q]? = some (.cells #[.func (.func 54) #[] #[.pointer (some ⟨q, 0, none⟩)]] 38 (0, 0)) → szD d + szF k ≤ 1048576 →
      Calls Try.prog 54 #[.pointer (some ⟨b, o, none⟩), .pointer (some ⟨q, 0, none⟩)] w fun e w' => e = .returned (.tuple #[]) ∧ ∃ ta' tc' ka' kc', w'.heap[b]? = some (.cells ((cs.setIfInBounds (o + 3) (.slice ta' d.tests.length tc')).setIfInBounds (o + 4) (.slice ka' k.len kc')) t (0, 0)) ∧
        Chg (fun x => x = b) w w' ∧ BlO w' d (VF w' k) k.len (fun x => w.heap.size ≤ x ∧ x < w'.heap.size) ta' ka' := by
  revert d k
  refine Fo.node_ind (p := fun d k => ∀ (w : World) (b o : Nat) (cs : Array Value) (t : TypeId) (ta : Option Addr) (tc : Nat) (ka : Option Addr) (kc : Nat), w.heap[b]? = some (.cells cs t (0, 0)) → (∀ j u, (nd5 d ta tc ka k.len kc)[j]? = some u → cs[o + j]? = some u) →
      CdV w G (.slice ta d.tests.length tc) d.tests → (k.isNil = false → ∃ b o, ka = some ⟨b, o, none⟩ ∧ G b ∧ FoAt w G k b o) → (∀ x, G x → x < w.heap.size ∧ x ≠ b) → q ≠ b →
      w.heap[q]? = some (.cells #[.func (.func 54) #[] #[.pointer (some ⟨q, 0, none⟩)]] 38 (0, 0)) → szD d + szF k ≤ 1048576 →
      Calls Try.prog 54 #[.pointer (some ⟨b, o, none⟩), .pointer (some ⟨q, 0, none⟩)] w fun e w' => e = .returned (.tuple #[]) ∧ ∃ ta' tc' ka' kc', w'.heap[b]? = some (.cells ((cs.setIfInBounds (o + 3) (.slice ta' d.tests.length tc')).setIfInBounds (o + 4) (.slice ka' k.len kc')) t (0, 0)) ∧
        Chg (fun x => x = b) w w' ∧ BlO w' d (VF w' k) k.len (fun x => w.heap.size ≤ x ∧ x < w'.heap.size) ta' ka') ?_
  intro d k ih w b o cs t ta tc ka kc hbox hcs ht hk hG hqb hq hsz
  have hbw := lt_of_block hbox
  have hqw := lt_of_block hq
  have hlen : k.len ≤ 1048576 := by have := szF_len k; omega
  have htl : d.tests.length ≤ 1048576 := by have := szT_len d.tests; simp only [szD] at hsz; omega
  have hcell : ∀ (u : World) (cs2 : Array Value), u.heap[b]? = some (.cells cs2 t (0, 0)) → ∀ j x, cs2[o + j]? = some x → u.cell? ⟨b, o + j, none⟩ = some x := fun u cs2 hu j x hj => by
    rw [cell_of_row u b (o + j) cs2 t (0, 0) hu]; exact hj
  have c3 := hcell w cs hbox 3 _ (hcs 3 _ rfl)
  have c4 := hcell w cs hbox 4 _ (hcs 4 _ rfl)
  have HC1 := Lib.hid (clonedC_any ta tc d.tests G w ht htl)
  have HBX := Lib.hid hbox; have HCS := Lib.hid hcs; have HK := Lib.hid hk; have HG := Lib.hid hG; have HQB := Lib.hid hqb; have HQ := Lib.hid hq; have HSZ := Lib.hid hsz; have HIH := Lib.hid ih
  have HBW := Lib.hid hbw; have HQW := Lib.hid hqw; have HLEN := Lib.hid hlen; have HCELL := Lib.hid hcell
  -- the first store
  have HA1 := Lib.hid (fun (w1 : World) (ao : Option Addr) (c1 : Nat) (h1 : Below w.heap.size w w1) => (by
    have b1 := (h1.block b hbw).trans hbox
    have b1s := heap_setCell_same (k := o + 3) b1 (.slice ao d.tests.length c1)
    refine ⟨hcell w1 cs b1 3 _ (hcs 3 _ rfl), frozen_of_row w1 b (o + 3) cs t b1, hcell _ _ b1s 4 _ (by rw [Array.getElem?_setIfInBounds_ne (by omega)]; exact hcs 4 _ rfl), ?_⟩
    refine clonedN_any ka kc k G _ (fun hh => ?_) hlen
    obtain ⟨b', o', e, hb', hf⟩ := hk hh
    refine ⟨b', o', e, hb', FoAt.keep (fun x hx => ?_) hb' hf⟩
    rw [Below.heap_setCell _ _ _ _ (hG x hx).2]; exact h1.block x (hG x hx).1 :
    w1.cell? ⟨b, o + 3, none⟩ = some (.slice ta d.tests.length tc) ∧ w1.frozen? ⟨b, o + 3, none⟩ = false ∧ (w1.setCell ⟨b, o + 3, none⟩ (.slice ao d.tests.length c1)).cell? ⟨b, o + 4, none⟩ = some (.slice ka k.len kc) ∧
      Calls Try.prog 56 #[.slice ka k.len kc] (w1.setCell ⟨b, o + 3, none⟩ (.slice ao d.tests.length c1)) fun e w' => ∃ ao2 cap, e = .returned (.slice ao2 k.len cap) ∧ Below (w1.setCell ⟨b, o + 3, none⟩ (.slice ao d.tests.length c1)).heap.size (w1.setCell ⟨b, o + 3, none⟩ (.slice ao d.tests.length c1)) w' ∧ (0 < k.len → ∃ g cs xs, ao2 = some ⟨g, 0, none⟩ ∧ (w1.setCell ⟨b, o + 3, none⟩ (.slice ao d.tests.length c1)).heap.size ≤ g ∧ g < w'.heap.size ∧ w'.heap[g]? = some (.cells cs 25 (0, 0)) ∧ 5 * k.len ≤ cs.size ∧ cs.toList.take (5 * k.len) = xs ∧ SF (w1.setCell ⟨b, o + 3, none⟩ (.slice ao d.tests.length c1)) G k xs)))
  have HA2 := Lib.hid (fun (w1 w2 : World) (ao : Option Addr) (c1 : Nat) (ko : Option Addr) (c2 : Nat) (h1 : Below w.heap.size w w1) (h2 : Below w1.heap.size (w1.setCell ⟨b, o + 3, none⟩ (.slice ao d.tests.length c1)) w2) => (by
    have hz1 := h1.size
    have b1 := (h1.block b hbw).trans hbox
    have b1s := heap_setCell_same (k := o + 3) b1 (.slice ao d.tests.length c1)
    have b2 := (h2.block b (by omega)).trans b1s
    have b2s := heap_setCell_same (k := o + 4) b2 (.slice ko k.len c2)
    have hlt : o + 4 < cs.size := by
      have := hcs 4 _ rfl
      exact (Array.getElem?_eq_some_iff.1 this).1
    exact ⟨⟨_, hcell w2 _ b2 4 _ (by rw [Array.getElem?_setIfInBounds_ne (by omega)]; exact hcs 4 _ rfl)⟩, frozen_of_row w2 b (o + 4) _ t b2, hcell _ _ b2s 4 _ (by rw [Array.getElem?_setIfInBounds_self_of_lt (by simpa using hlt)])⟩ :
    (∃ u, w2.cell? ⟨b, o + 4, none⟩ = some u) ∧ w2.frozen? ⟨b, o + 4, none⟩ = false ∧ (w2.setCell ⟨b, o + 4, none⟩ (.slice ko k.len c2)).cell? ⟨b, o + 4, none⟩ = some (.slice ko k.len c2)))
  clear hbox hcs ht hk hG hqb hq hsz ih hbw hqw hlen hcell htl
  go_enter Try.func54, Try.ntmps54
  go_wp2_with (first
    | (go_at_call 55; (with_reducible refine HC1.out.mono ?_); rintro e w1 ⟨ao, c1, rfl, hcd, hb1⟩; have HCD := Lib.hid hcd; have HB1 := Lib.hid hb1; clear c3 c4; obtain ⟨g1, g2, g3, g4⟩ := HA1.out w1 ao c1 hb1; have HC2 := Lib.hid g4; clear hcd hb1 g4)
    | (go_at_call 56; (with_reducible refine HC2.out.mono ?_); rintro e w2 ⟨ko, c2, rfl, hb2, hrow⟩; have hb2' := hb2; rw [show (w1.setCell ⟨b, o + 3, none⟩ (.slice ao d.tests.length c1)).heap.size = w1.heap.size by simp] at hb2'; clear g1 g2 g3; obtain ⟨⟨_, g1⟩, g2, g3⟩ := HA2.out w1 w2 ao c1 ko c2 HB1.out hb2'; have HB2 := Lib.hid hb2'; have HROW := Lib.hid hrow; clear hb2 hb2' hrow))
  obtain ⟨R, cs0, hX, hst⟩ := CkS.start (X := fun cs0 => SF (w1.setCell ⟨b, o + 3, none⟩ (.slice ao d.tests.length c1)) G k (cs0.toList.take (5 * k.len))) (c2 := c2) HBX.out HB1.out HCD.out HB2.out (fun hk => by
    obtain ⟨g, cs, xs, e1, e2, e3, e4, e5, rfl, e6⟩ := HROW.out hk
    exact ⟨g, cs, e1, by simpa using e2, e3, e4, e5, e6⟩)
  have HX := Lib.hid hX; have HST := Lib.hid hst
  have HU := Lib.hid (fun (u : World) (i : Nat) (h : CkS w d k b o cs t ao c1 ko c2 R cs0 w2.heap.size i u) => (by
    have hlt : o + 4 < cs.size := (Array.getElem?_eq_some_iff.1 (HCS.out 4 _ rfl)).1
    exact ⟨cell_of_one ((h.chg.block q HQW.out HQB.out).trans HQ.out), HCELL.out u _ h.box 4 _ (by rw [Array.getElem?_setIfInBounds_self_of_lt (by simpa using hlt)])⟩ :
      u.cell? ⟨q, 0, none⟩ = some (.func (.func 54) #[] #[.pointer (some ⟨q, 0, none⟩)]) ∧ u.cell? ⟨b, o + 4, none⟩ = some (.slice ko k.len c2)))
  have HKE := Lib.hid (fun (u : World) (i : Nat) (h : CkS w d k b o cs t ao c1 ko c2 R cs0 w2.heap.size i u) => ((fun x hx => by
    obtain ⟨g1, g2⟩ := HG.out x hx
    rw [h.chg.block x g1 g2, Below.heap_setCell _ _ _ _ g2, HB1.out.block x g1]) : Keep G (w1.setCell ⟨b, o + 3, none⟩ (.slice ao d.tests.length c1)) u))
  have HS1 := Lib.hid HB1.out.size
  clear hX hst g1 g2 g3 HROW HA1 HA2 HC1 HC2 HCD HB1 HB2
  generalize w2.setCell ⟨b, o + 4, none⟩ (.slice ko k.len c2) = W3 at HST ⊢
  go_loopw [25] (fun iv wr => ∃ i : Nat, i ≤ k.len ∧ iv = .int .i64 (i : Int) ∧ Hid (CkS w d k b o cs t ao c1 ko c2 R cs0 w2.heap.size i wr)) (fun iv _ => k.len - (intOf iv).toNat)
  case atStart => exact ⟨0, Nat.zero_le _, rfl, HST⟩
  case round =>
    obtain ⟨i, hi, rfl, HI⟩ := hrel
    by_cases hlt : i < k.len
    · obtain ⟨d', k', hd⟩ := Fo.drop_cons hlt
      obtain ⟨⟨hsf, hs0⟩, hR1, rfl⟩ := HX.out (by omega)
      obtain ⟨_, hbR, hRS, hSu, cs', ys, hb', hs', he, hl, hv⟩ := HI.out.row (by omega)
      obtain ⟨ta', tc', ka', kc', rest, hsrc, htt, hkk⟩ := hsf.node hs0 hlt hd
      have hRw : w.heap.size ≤ R := Nat.le_trans HS1.out hR1
      have hkeep := HKE.out _ _ HI.out
      obtain ⟨z, hz⟩ : ∃ z : Nat, z = 0 := ⟨0, rfl⟩
      have hal := Fo.All.drop i HIH.out
      have hsd := szF_drop k i
      rw [hd] at hal hsd
      simp only [szF] at hsd
      have HC3 := Lib.hid (hal.1 wr.drew R (z + i * 5) cs' 25 ta' tc' ka' kc' hb' (fun j u hj => by
          rw [hz, show 0 + i * 5 + j = 5 * i + j by omega]
          rw [hsrc] at he
          exact at5 he hl j u hj) (htt.keep hkeep) (fun hh => by
          obtain ⟨b2, o2, e, hb2, hf⟩ := hkk hh
          exact ⟨b2, o2, e, hb2, FoAt.keep (w' := wr.drew) hkeep hb2 hf⟩) (fun x hx => ⟨Nat.lt_of_lt_of_le (HG.out x hx).1 HI.out.chg.size, by have := (HG.out x hx).1; omega⟩) (by have := HQW.out; omega)
          ((HI.out.chg.block q HQW.out HQB.out).trans HQ.out) (by have := HSZ.out; omega))
      obtain ⟨x1, x2⟩ := HU.out _ _ HI.out
      rw [← hz] at x2
      have HU2 := Lib.hid (fun (u : World) (j : Nat) (h : CkS w d k b o cs t ao c1 (some ⟨R, z, none⟩) c2 R cs0 w2.heap.size j u) => (by
        rw [hz] at h
        have := HU.out u j h
        exact ⟨this.1, by rw [hz]; exact this.2⟩ :
        u.cell? ⟨q, 0, none⟩ = some (.func (.func 54) #[] #[.pointer (some ⟨q, 0, none⟩)]) ∧ u.cell? ⟨b, o + 4, none⟩ = some (.slice (some ⟨R, z, none⟩) k.len c2)))
      have HSTEP := Lib.hid (fun (u2 : World) (ta2 : Option Addr) (tc2 : Nat) (ka2 : Option Addr) (kc2 : Nat) (h1 : u2.heap[R]? = some (.cells ((cs'.setIfInBounds (z + i * 5 + 3) (.slice ta2 d'.tests.length tc2)).setIfInBounds (z + i * 5 + 4) (.slice ka2 k'.len kc2)) 25 (0, 0))) (h2 : Chg (fun x => x = R) wr.drew u2) (h3 : BlO u2 d' (VF u2 k') k'.len (fun x => wr.drew.heap.size ≤ x ∧ x < u2.heap.size) ta2 ka2) => (by
        rw [hz, show 0 + i * 5 = 5 * i by omega] at h1
        rw [hz]
        exact HI.out.drew.step hlt hd hsrc hRw hb' h1 h2 h3 : CkS w d k b o cs t ao c1 (some ⟨R, z, none⟩) c2 R cs0 w2.heap.size (i + 1) u2))
      have hls := wr7 hlt (len7 HLEN.out)
      have hlti := lt7 hlt
      have HLT := Lib.hid hlt; have HZ := Lib.hid hz
      clear hkeep hal hsd hd hsf hs0 hR1 hbR hRS hSu hb' hs' he hl hv hsrc htt hkk hRw hlt hi hz
      go_wp2_with fail
      go_region_held3 (fun u => u.cell? ⟨q, 0, none⟩ = some (.func (.func 54) #[] #[.pointer (some ⟨q, 0, none⟩)]) ∧ u.cell? ⟨b, o + 4, none⟩ = some (.slice (some ⟨R, z, none⟩) k.len c2)) (first | exact ⟨x1, x2⟩ | exact ⟨y1, y2⟩ | go_keep)
        (first | (go_at_call 54; (with_reducible refine HC3.out.mono ?_); rintro e u2 ⟨rfl, ta2, tc2, ka2, kc2, h1, h2, h3⟩; have HS2 := Lib.hid (HSTEP.out u2 ta2 tc2 ka2 kc2 h1 h2 h3); obtain ⟨y1, y2⟩ := HU2.out _ _ HS2.out; clear h1 h2 h3))
      all_goals go_wp2
      all_goals go_roundw
      all_goals first
        | exact ⟨i + 1, HLT.out, by go_num, by have := HS2.out; rw [HZ.out] at this; exact this⟩
        | (rw [hls]; exact meas7 HLT.out)
        | exact meas7 HLT.out
    · obtain rfl : i = k.len := by omega
      have hnl : ¬ ((k.len : Int) < (k.len : Int)) := by omega
      clear hlt hi
      go_wp2
      go_end0
      exact ⟨rfl, ao, c1, ko, ⟨c2, HI.out.box⟩, HI.out.chg, HI.out.fin⟩
end Go.Proofs.Ytnfjodkpapmfkaa
