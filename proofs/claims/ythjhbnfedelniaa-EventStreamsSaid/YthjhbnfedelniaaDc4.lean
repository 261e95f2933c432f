/- The document's own Close. -/
import Derived.Test.YthjhbnfedelniaaDs4
import Derived.Test.YthjhbnfedelniaaCls
import Derived.Test.YthjhbnfedelniaaFla4
import Derived.Lib.BufferMore
namespace Go.Proofs.Ythjhbnfedelniaa
open Go Go.RowKit

def rClsErr (k : Nat) (gone : List Bool) (n : Int) : Int := if hasB k n = false then 1 else if gone[n.toNat]! then 43 else 0
def rClsGone (k : Nat) (gone : List Bool) (n : Int) : List Bool := if rClsErr k gone n = 0 then gone.set n.toNat true else gone
theorem set_at (l : List Bool) (j i : Nat) (hi : i < l.length) : (l.set j true)[i]! = if j = i then true else l[i]! := by
  rw [getElem!_pos _ i (by rw [List.length_set]; exact hi), List.getElem_set, getElem!_pos l i hi]
/-- A row of flags, one of which is set: its cells. -/
theorem flag_cells {w : World} {B g cap : Nat} {gone : List Bool} (h : w.ownsRow B 4 1 (.slice (some ⟨g, 0, none⟩) gone.length cap) gone.length (boolVs gone)) :
    B ≤ g ∧ gone.length ≤ cap ∧ ∃ cur : Array Value, w.heap[g]? = some (.cells cur 4 (0, 0)) ∧ cur.size = cap ∧ ∀ i, i < gone.length → cur[i]? = some (.bool gone[i]!) := by
  rcases h.2 with ⟨hv, _⟩ | ⟨g', cap', cur, hv, hB, hg, hc, _, hs, ht⟩
  · cases hv
  · cases hv
    refine ⟨hB, hc, cur, hg, by simpa using hs, fun i hi => ?_⟩
    have h1 : (cur.toList.take (gone.length * 1))[i]? = (boolVs gone)[i]? := by rw [ht]
    rw [List.getElem?_take_of_lt (by omega)] at h1
    have h2 : (boolVs gone)[i]? = some (.bool gone[i]!) := by
      unfold boolVs
      rw [List.getElem?_map, List.getElem?_eq_getElem hi, getElem!_pos gone i hi]; rfl
    rw [h2] at h1
    simpa using h1

theorem setIn2 {w : World} {q : Nat} {c0 c1 c2 : Value} {t : Nat} (h : w.heap[q]? = some (.cells #[c0, c1, c2] t (0, 0))) (u : Value) : (w.setCell ⟨q, 2, none⟩ u).heap[q]? = some (.cells #[c0, c1, u] t (0, 0)) := by
  have := Lib.heap_setCell_same (i := 2) h u
  simpa using this

set_option maxRecDepth 100000 in
set_option maxHeartbeats 1600000 in
theorem r4Close_any (G : Nat → Prop) (q k : Nat) (evs : List Ev) (vs : List Value) (gone : List Bool) (n : Int) (w : World) (h : RsAt w G q k evs vs gone) :
    Calls Try.prog 11 #[.pointer (some ⟨q, 0, none⟩), .int .i64 n] w fun e w' => e = .returned (.int .i64 (rClsErr k gone n)) ∧ RsAt w' (Fnew G w.heap.size w'.heap.size) q k evs vs (rClsGone k gone n) ∧ Chg (fun b => b = q) w w' := by
  have C := r4is_any G q k evs vs gone n w h
  have hwid : RsAt w (Fnew G w.heap.size w.heap.size) q k evs vs gone := by
    have : Fnew G w.heap.size w.heap.size = G := by
      funext b; unfold Fnew; exact propext ⟨fun hh => hh.elim id (fun hh => by omega), .inl⟩
    rw [this]; exact h
  have hG16 := h.k16
  have hgl := h.gl
  obtain ⟨ao, cap, ag, cg, h1, h2, h3, hcap, hcg, _⟩ := h.row
  obtain ⟨q0, q1, q2⟩ := cell_of_three h1
  obtain ⟨f0, f1, f2⟩ := free_of_three h1
  cases hh : hasB k n with
  | false =>
    have he : rClsErr k gone n = 1 := by unfold rClsErr; rw [hh]; rfl
    rw [show rClsGone k gone n = gone by unfold rClsGone; rw [he]; rfl, he]
    rw [hh] at C
    have HC := hide C; have HW := hide hwid
    clear C h h1 h2 h3 hh he hwid hgl
    go_enter Try.func11, Try.ntmps11
    go_wp2_with (go_at_call 34; (with_reducible refine (HC.out).mono ?_); rintro e w1 ⟨rfl, rfl⟩)
    go_ret
    exact ⟨rfl, HW.out, Chg.refl _ _⟩
  | true =>
    rw [hh] at C
    obtain ⟨j, rfl, hj⟩ := hasB_nat hh
    have hj0 : (0 : Int) ≤ (j : Int) := by omega
    have hj1 : (j : Int) < (k : Int) := by omega
    have hn : ((j : Int)).toNat = j := rfl
    obtain ⟨b, o, rfl, hbG, hcl⟩ := h3 (by omega)
    have hb := h.glt b hbG
    have hcj := hcl j hj
    cases hg : gone[j]! with
    | true =>
      have he : rClsErr k gone j = 43 := by unfold rClsErr; rw [hh, hn, hg]; rfl
      rw [show rClsGone k gone j = gone by unfold rClsGone; rw [he]; rfl, he]
      rw [hg] at hcj
      have HC := hide C; have HW := hide hwid
      clear C h h1 h2 h3 hh he hwid hgl hg hn hcl
      go_enter Try.func11, Try.ntmps11
      go_wp2_with (go_at_call 34; (with_reducible refine (HC.out).mono ?_); rintro e w1 ⟨rfl, rfl⟩)
      go_ret
      exact ⟨rfl, HW.out, Chg.refl _ _⟩
    | false =>
      have he : rClsErr k gone j = 0 := by unfold rClsErr; rw [hh, hn, hg]; rfl
      rw [show rClsGone k gone j = gone.set j true by unfold rClsGone; rw [he, hn]; rfl, he]
      rw [hg] at hcj
      have HGJ := hide hg
      obtain ⟨i0, hi, hz0, hz1, hz2⟩ := info_parts Try.info4
      have hnw : ∀ (i : Nat) (u : Value), (boolVs gone)[i]? = some u → w.cell? ((⟨b, o, none⟩ : Addr).add i) = some u := fun i u hu => by
        have hi : i < gone.length := by have := (List.getElem?_eq_some_iff.1 hu).1; rwa [boolVs_length] at this
        have h2 : (boolVs gone)[i]? = some (.bool gone[i]!) := by
          unfold boolVs
          rw [List.getElem?_map, List.getElem?_eq_getElem hi, getElem!_pos gone i hi]; rfl
        rw [h2] at hu
        cases hu
        have := hcl i (by omega)
        rw [Addr.add_lit]; exact this
      have HNW := hide hnw
      clear hnw
      have HC := hide C; have HH := hide h; have HCL := hide hcl; have HGL := hide hgl; have HR := hide h1
      clear C h h2 h3 hh he hwid hg hn hcl hgl h1
      go_enter Try.func11, Try.ntmps11
      go_wp2_with (first
        | (go_at_call 34; (with_reducible refine (HC.out).mono ?_); rintro e w1 ⟨rfl, rfl⟩)
        | (at_builtin; go_loud (refine wpList_append_own _ rfl (.const (.slice none 0 0)) (.tmp 20) 45 rfl w.heap.size 4 i0 (.bool false) 1 1 Try.underlying45 hi hz0 hz1 hz2 rfl (by decide) (.slice none 0 0) 0 [] rfl (World.ownsRow_nil _ _ _ _) ⟨b, o, none⟩ k cg (boolVs gone) rfl (by rw [boolVs_length, Nat.mul_one]; exact HGL.out) (fun i u hu => HNW.out i u hu) (boolVs_one _) (by unfold maxLen; omega) (by omega) (Nat.le_refl _) ?_; intro v' w1 hown' hgrow _; have ho : Flags w1 w.heap.size v' gone := (by have hgl := HGL.out; rw [List.nil_append, Nat.zero_add] at hown'; unfold Flags; rw [hgl]; exact hown'); obtain ⟨g, cap', rfl⟩ := flags_pos ho (by have := HGL.out; omega); obtain ⟨hgB, hcap', cur, hgc, hcs, hcur⟩ := flag_cells ho; have hbw : Below w.heap.size w w1 := (Below.refl _ _).grown hgrow (Nat.le_refl _) (fun k e => by cases e); have hj' : j < gone.length := (by have := HGL.out; omega); have hcj' : w1.cell? ⟨g, j, none⟩ = some (.bool false) := (by simp [World.cell?, hgc, hcur j hj', HGJ.out]); have hfj : w1.frozen? ⟨g, j, none⟩ = false := (by simp [World.frozen?, hgc]); have hq1 := (hbw.block q HH.out.qlt).trans HR.out; obtain ⟨p0, p1, p2⟩ := cell_of_three hq1; obtain ⟨e0, e1, e2⟩ := free_of_three hq1; have hqg : q ≠ g := (by have := HH.out.qlt; omega); have hcapk : k ≤ cap' := (by have := HGL.out; omega); have hlk : gone.length = k := HGL.out; rw [hlk] at *; clear hown' hgrow ho; have HCU := hide hcur; have HGB := hide hgB; clear hcur hgB; have HGC := hide hgc; have HBW := hide hbw; clear hgc hbw)))
      go_ret
      have hb2 : Below w.heap.size w (w1.setCell ⟨g, j, none⟩ (.bool true)) := HBW.out.setCell (p := ⟨g, j, none⟩) HGB.out _
      have hq2 : (w1.setCell ⟨g, j, none⟩ (.bool true)).heap[q]? = some (.cells #[.int .i64 (k : Int), .slice ao evs.length cap, .slice (some ⟨b, o, none⟩) k cg] 47 (0, 0)) := by
        rw [Below.heap_setCell _ _ _ _ hqg]; exact hq1
      have hq3 := setIn2 hq2 (.slice (some ⟨g, 0, none⟩) k cap')
      have hg2 : ((w1.setCell ⟨g, j, none⟩ (.bool true)).setCell ⟨q, 2, none⟩ (.slice (some ⟨g, 0, none⟩) k cap')).heap[g]? = some (.cells (cur.setIfInBounds j (.bool true)) 4 (0, 0)) := by
        rw [Below.heap_setCell _ _ _ _ (Ne.symm hqg)]; exact Lib.heap_setCell_same (i := j) HGC.out _
      have hsz : w.heap.size ≤ ((w1.setCell ⟨g, j, none⟩ (.bool true)).setCell ⟨q, 2, none⟩ (.slice (some ⟨g, 0, none⟩) k cap')).heap.size := by have := hb2.size; simpa using this
      have hgl : g < ((w1.setCell ⟨g, j, none⟩ (.bool true)).setCell ⟨q, 2, none⟩ (.slice (some ⟨g, 0, none⟩) k cap')).heap.size := (Array.getElem?_eq_some_iff.1 hg2).1
      have hc : Chg (fun b => b = q) w ((w1.setCell ⟨g, j, none⟩ (.bool true)).setCell ⟨q, 2, none⟩ (.slice (some ⟨g, 0, none⟩) k cap')) := Chg.setCell (F := fun b => b = q) (Chg.of_below hb2) (p := ⟨q, 2, none⟩) rfl _
      refine ⟨rfl, HH.out.newGone hc (fun b hb => .inl hb) (fun b hb => ?_) (fun hb => ?_) (by rw [List.length_set]; exact HGL.out) HR.out hq3 (.inr ⟨HGB.out, hgl⟩) hcapk (fun i hi => ?_), hc⟩
      · rcases hb with hb | hb
        · exact Nat.lt_of_lt_of_le (HH.out.glt b hb) hsz
        · exact hb.2
      · rcases hb with hb | hb
        · exact HH.out.nq hb
        · have := HH.out.qlt; omega
      · have hi' : i < gone.length := by rw [HGL.out]; exact hi
        rw [set_at gone j i hi']
        simp only [World.cell?, hg2, Nat.zero_add]
        have hci := HCU.out i hi'
        have his : i < cur.size := (Array.getElem?_eq_some_iff.1 hci).1
        by_cases hij : j = i
        · subst hij; simp [his]
        · simp [hij, Array.getElem?_setIfInBounds_ne hij, hci]
end Go.Proofs.Ythjhbnfedelniaa
