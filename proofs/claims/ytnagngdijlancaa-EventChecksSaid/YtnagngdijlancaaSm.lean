/- Streams: what a store into them makes of them; what an event that is accepted makes of them. -/
import Derived.Test.YtnagngdijlancaaSo
import Derived.Test.YtnagngdijlancaaAb
namespace Go.Proofs.Ytnagngdijlancaa
open Go Go.RowKit

theorem set_flat3 : ∀ (sd : List Sd) (j : Nat) (a b : Int), j < sd.length →
    ((sd.flatMap enc3).set (j * 3) (.int .i64 a)).set (j * 3 + 1) (.int .i64 b) = (sd.set j ⟨a, b, sd[j]!.gone⟩).flatMap enc3
  | [], j, a, b, h => by simp at h
  | x :: r, 0, a, b, h => by simp [enc3]
  | x :: r, j + 1, a, b, h => by
    have ih := set_flat3 r j a b (by simpa using h)
    rw [List.flatMap_cons, List.set_cons_succ, List.flatMap_cons, List.getElem!_cons_succ, ← ih]
    rw [List.set_append_right _ _ (by rw [enc3_len]; omega), enc3_len, show (j + 1) * 3 - 3 = j * 3 by omega]
    rw [List.set_append_right _ _ (by rw [enc3_len]; omega), enc3_len, show (j + 1) * 3 + 1 - 3 = j * 3 + 1 by omega]
theorem set_flat3g : ∀ (sd : List Sd) (j : Nat) (g : Bool), j < sd.length →
    (sd.flatMap enc3).set (j * 3 + 2) (.bool g) = (sd.set j ⟨sd[j]!.many, sd[j]!.last, g⟩).flatMap enc3
  | [], j, g, h => by simp at h
  | x :: r, 0, g, h => by simp [enc3]
  | x :: r, j + 1, g, h => by
    have ih := set_flat3g r j g (by simpa using h)
    rw [List.flatMap_cons, List.set_cons_succ, List.flatMap_cons, List.getElem!_cons_succ, ← ih]
    rw [List.set_append_right _ _ (by rw [enc3_len]; omega), enc3_len, show (j + 1) * 3 + 2 - 3 = j * 3 + 2 by omega]
theorem stCells_set (k : Int) (sd : List Sd) (v : Value) (j : Nat) (a b : Int) (hj : j < sd.length) :
    ((stCells k sd v).set (1 + j * 3) (.int .i64 a)).set (1 + j * 3 + 1) (.int .i64 b) = stCells k (sd.set j ⟨a, b, sd[j]!.gone⟩) v := by
  unfold stCells
  rw [show 1 + j * 3 = j * 3 + 1 by omega, List.set_cons_succ, List.set_cons_succ, List.set_append_left _ _ (by rw [flat3_len]; omega), List.set_append_left _ _ (by rw [List.length_set, flat3_len]; omega), set_flat3 sd j a b hj]
theorem stCells_setg (k : Int) (sd : List Sd) (v : Value) (j : Nat) (g : Bool) (hj : j < sd.length) :
    (stCells k sd v).set (1 + j * 3 + 2) (.bool g) = stCells k (sd.set j ⟨sd[j]!.many, sd[j]!.last, g⟩) v := by
  unfold stCells
  rw [show 1 + j * 3 + 2 = j * 3 + 2 + 1 by omega, List.set_cons_succ, List.set_append_left _ _ (by rw [flat3_len]; omega), set_flat3g sd j g hj]
theorem stCells_setv (k : Int) (sd : List Sd) (v v' : Value) (hl : sd.length = 16) : (stCells k sd v).set 49 v' = stCells k sd v' := by
  unfold stCells
  rw [List.set_cons_succ, List.set_append_right _ _ (by rw [flat3_len]; omega), flat3_len, hl]
  rfl
theorem setCell_list {w : World} {q i : Nat} {cs : List Value} {t : Nat} {fr : Nat × Nat} (h : w.heap[q]? = some (.cells cs.toArray t fr)) (u : Value) :
    (w.setCell ⟨q, i, none⟩ u).heap[q]? = some (.cells (cs.set i u).toArray t fr) := by
  rw [heap_setCell_same h u]; simp
theorem Chg.setCell {F : Nat → Prop} {a w : World} (h : Chg F a w) {p : Addr} (hp : F p.block) (u : Value) : Chg F a (w.setCell p u) :=
  ⟨h.os, h.tape, h.output, by simpa using h.size, fun k hk hf => by
    rw [Below.heap_setCell _ _ _ _ (fun e => hf (by rw [e]; exact hp))]; exact h.block k hk hf⟩
theorem Chg.drew {F : Nat → Prop} {a w : World} (h : Chg F a w) : Chg F a w.drew := ⟨h.os, h.tape, h.output, h.size, h.block⟩

/-- A store into the streams' own block leaves their rows. -/
theorem StAt.store {w : World} {F : Nat → Prop} {q k : Nat} {sd sd' : List Sd} {evs : List Ev} {v : Value} {vs : List Value} (h : StAt w F q k sd evs v vs) {w' : World}
    (hc : Chg (fun b => b = q) w w') (hq : w'.heap[q]? = some (.cells (stCells k sd' v).toArray 96 (0, 0))) (hl : sd'.length = 16) : StAt w' F q k sd' evs v vs := by
  refine ⟨h.fq, fun b hb => Nat.lt_of_lt_of_le (h.flt b hb) hc.size, h.k0, h.k16, hl, h.many, h.wide, hq, ?_, h.vsl, h.fv, fun i hi => ?_, h.apart⟩
  · refine ⟨h.own.1, ?_⟩
    rcases h.own.2 with hn | ⟨g, cap, cur, hv, hb, hg, rest⟩
    · exact .inl hn
    · have hgq : g ≠ q := by
        rintro rfl
        have := h.blk
        rw [hg] at this
        simp only [Option.some.injEq, Obj.cells.injEq] at this
        exact absurd this.2.1 (by decide)
      exact .inr ⟨g, cap, cur, hv, hb, by rw [hc.block g (h.flt g (h.fv _ _ _ hv)) hgq]; exact hg, rest⟩
  · obtain ⟨ao, c, h6, h7, h8, h9⟩ := h.each i hi
    refine ⟨ao, c, h6, h7, ?_, h9⟩
    obtain ⟨ao2, cap2, a1, a2, a2', a3⟩ := h8.row
    refine ⟨h8.wide, h8.len, ao2, cap2, a1, a2, a2', fun hn => ?_⟩
    obtain ⟨b, o, a4, a5, a6⟩ := a3 hn
    have hbq : b ≠ q := (h.apart i hi ⟨b, o, none⟩ _ _ (by rw [a1, a4])).1
    refine ⟨b, o, a4, Nat.lt_of_lt_of_le a5 hc.size, fun j hj i u hu => ?_⟩
    have := World.cell?_of_block (w := w) (w' := w') (a := ⟨b, o + j * 4 + i, none⟩) (hc.block b a5 hbq)
    rw [this]; exact a6 j hj i u hu

theorem rowCells_snoc : ∀ (evs : List Ev) (vs : List Value) (e : Ev) (v : Value), vs.length = evs.length → rowCells (evs ++ [e]) (vs ++ [v]) = rowCells evs vs ++ evCells e v
  | [], [], e, v, _ => by simp [rowCells]
  | [], _ :: _, e, v, h => by simp at h
  | _ :: _, [], e, v, h => by simp at h
  | a :: r, b :: t, e, v, h => by
    have ih := rowCells_snoc r t e v (by simpa using h)
    unfold rowCells at ih ⊢
    simp only [List.cons_append, List.zip_cons_cons, List.flatMap_cons, List.append_assoc] at ih ⊢
    rw [ih]
theorem getElem!_snoc_lt {α : Type} [Inhabited α] (l : List α) (x : α) (i : Nat) (h : i < l.length) : (l ++ [x])[i]! = l[i]! := by
  rw [getElem!_pos (l ++ [x]) i (by simp; omega), getElem!_pos l i h, List.getElem_append_left]
theorem getElem!_snoc_eq {α : Type} [Inhabited α] (l : List α) (x : α) : (l ++ [x])[l.length]! = x := by
  rw [getElem!_pos (l ++ [x]) l.length (by simp)]; simp
/-- The blocks of F, and those that came since. -/
def Fnew (F : Nat → Prop) (a b : Nat) : Nat → Prop := fun j => F j ∨ (a ≤ j ∧ j < b)

theorem StAt.qv {w : World} {F : Nat → Prop} {q k : Nat} {sd : List Sd} {evs : List Ev} {v : Value} {vs : List Value} (h : StAt w F q k sd evs v vs) : v.ownBlock ≠ some q := fun e => by
  rcases h.own.2 with ⟨hv, _⟩ | ⟨g, cap, cur, hv, _, hgg, _⟩
  · rw [hv] at e; simp [Value.ownBlock] at e
  · rw [hv] at e
    simp only [Value.ownBlock, Option.some.injEq] at e
    subst e
    have := h.blk
    rw [hgg] at this
    simp only [Option.some.injEq, Obj.cells.injEq] at this
    exact absurd this.2.1 (by decide)
/-- An event that is accepted: its copy in memory of its own, its cells behind the row, the row laid into the streams. -/
theorem StAt.accepted {wa wb wc wd : World} {F : Nat → Prop} {q k : Nat} {sd : List Sd} {evs : List Ev} {v v3 v' : Value} {vs : List Value} {ev : Ev} (h : StAt wa F q k sd evs v vs)
    (hty : ev.ty.size ≤ maxLen) (hw : ∀ x ∈ ev.ats, x.name.size ≤ maxLen ∧ x.s.size ≤ maxLen) (hal : ev.ats.length * 48 ≤ 140737488355328)
    (hb : Below wa.heap.size wa wb) (ho : wb.ownsRow wa.heap.size 91 4 v3 ev.ats.length (ev.ats.flatMap enc4)) (hbc : Below wb.heap.size wb wc)
    (hrow : wd.ownsRow 0 26 5 v' (evs.length + 1) (rowCells evs vs ++ evCells ev v3)) (hg : wc.grownBy wd v.ownBlock) (hblk : BlkOk wc v v') (hlen : evs.length + 1 ≤ 65536) :
    StAt (wd.setCell ⟨q, 49, none⟩ v') (Fnew F wa.heap.size wd.heap.size) q k sd (evs ++ [ev]) v' (vs ++ [v3]) ∧ Chg F wa (wd.setCell ⟨q, 49, none⟩ v') := by
  have hac : Below wa.heap.size wa wc := hb.trans (hbc.mono hb.size)
  have hqv : v.ownBlock ≠ some q := fun e => by
    rcases h.own.2 with ⟨hv, _⟩ | ⟨g, cap, cur, hv, _, hgg, _⟩
    · rw [hv] at e; simp [Value.ownBlock] at e
    · rw [hv] at e
      simp only [Value.ownBlock, Option.some.injEq] at e
      subst e
      have := h.blk
      rw [hgg] at this
      simp only [Option.some.injEq, Obj.cells.injEq] at this
      exact absurd this.2.1 (by decide)
  have hvF : ∀ j, v.ownBlock = some j → F j := fun j hj => by
    cases v with
    | slice a n c =>
      cases a with
      | none => simp [Value.ownBlock] at hj
      | some a => simp only [Value.ownBlock, Option.some.injEq] at hj; rw [← hj]; exact h.fv a n c rfl
    | _ => simp [Value.ownBlock] at hj
  have sz1 := hac.size; have sz2 := hg.size
  have hcd : Chg F wa wd := ⟨hg.os.trans hac.os, hg.tape.trans hac.tape, hg.output.trans hac.output, by omega, fun j hj hf => by
    rw [hg.block j (by omega) (fun e => hf (hvF j e.symm))]; exact hac.block j hj⟩
  have hce : Chg F wa (wd.setCell ⟨q, 49, none⟩ v') := hcd.setCell h.fq _
  have hqd : wd.heap[q]? = some (.cells (stCells k sd v).toArray 96 (0, 0)) := by
    rw [hg.block q (by have := h.flt q h.fq; omega) (fun e => hqv e.symm), hac.block q (h.flt q h.fq)]; exact h.blk
  have hown' := ownsRow_setCell_typed (a := ⟨q, 49, none⟩) hrow hqd (by decide) v'
  have hvb' : ∀ a n c, v' = .slice (some a) n c → Fnew F wa.heap.size wd.heap.size a.block := fun a n c e => by
    have hb' : v'.ownBlock = some a.block := by rw [e]; rfl
    have hlt := (hrow.lt _ hb').2
    rcases hblk with h1 | h1
    · exact .inl (hvF _ (by rw [← h1]; exact hb'))
    · exact .inr ⟨by have := h1 _ hb'; omega, hlt⟩
  refine ⟨⟨.inl h.fq, fun b hb => ?_, h.k0, h.k16, h.sdl, by simpa using hlen, ?_, ?_, ?_, by simp [h.vsl], hvb', fun i hi => ?_, fun i hi a n c e => ?_⟩, hce⟩
  · simp only [World.setCell, Array.size_modify]
    rcases hb with hb | hb
    · have := h.flt b hb; omega
    · exact hb.2
  · intro e he
    rcases List.mem_append.1 he with he | he
    · exact h.wide e he
    · simp only [List.mem_singleton] at he; subst he; exact hty
  · rw [setCell_list hqd, stCells_setv _ _ _ _ h.sdl]
  · rw [rowCells_snoc _ _ _ _ h.vsl, List.length_append]; exact hown'
  · simp only [List.length_append, List.length_singleton] at hi
    by_cases hlt : i < evs.length
    · rw [getElem!_snoc_lt evs ev i hlt, getElem!_snoc_lt vs v3 i (by rw [h.vsl]; exact hlt)]
      obtain ⟨ao, c, h6, h7, h8, h9⟩ := h.each i hlt
      refine ⟨ao, c, h6, h7, ?_, fun a n c e => .inl (h9 a n c e)⟩
      obtain ⟨ao2, cap2, a1, a2, a2', a3⟩ := h8.row
      refine ⟨h8.wide, h8.len, ao2, cap2, a1, a2, a2', fun hn => ?_⟩
      obtain ⟨b, o, a4, a5, a6⟩ := a3 hn
      obtain ⟨n1, n2⟩ := h.apart i hlt ⟨b, o, none⟩ _ _ (by rw [a1, a4])
      refine ⟨b, o, a4, by simp only [World.setCell, Array.size_modify]; omega, fun j hj i u hu => ?_⟩
      have e1 : (wd.setCell ⟨q, 49, none⟩ v').heap[b]? = wa.heap[b]? := by
        rw [Below.heap_setCell _ _ _ _ n1, hg.block b (by omega) (fun e => n2 e.symm), hac.block b a5]
      rw [World.cell?_of_block (w := wa) (a := ⟨b, o + j * 4 + i, none⟩) e1]; exact a6 j hj i u hu
    · obtain rfl : i = evs.length := by omega
      rw [getElem!_snoc_eq]
      have e0 : (vs ++ [v3])[evs.length]! = v3 := by rw [← h.vsl]; exact getElem!_snoc_eq vs v3
      rw [e0]
      have hav := Av.of_own ho hw hal
      have hbe : ∀ j, wa.heap.size ≤ j → j < wb.heap.size → (wd.setCell ⟨q, 49, none⟩ v').heap[j]? = wb.heap[j]? := fun j h1 h2 => by
        rw [Below.heap_setCell _ _ _ _ (by have := h.flt q h.fq; simp; omega), hg.block j (by have := hbc.size; omega) (fun e => by have := h.flt j (hvF j e.symm); omega), hbc.block j h2]
      obtain ⟨ao, c, rfl⟩ := own_slice ho
      have hnil : ao = none → c = 0 := fun e => by
        rcases ho.2 with ⟨h0, _⟩ | ⟨g, cap, cur, h0, _⟩
        · simp only [Value.slice.injEq] at h0; exact h0.2.2
        · subst e; cases h0
      refine ⟨ao, c, rfl, hnil, ?_, fun a n c e => .inr ?_⟩
      · obtain ⟨ao2, cap2, a1, a2, a2', a3⟩ := hav.row
        refine ⟨hav.wide, hav.len, ao2, cap2, a1, a2, a2', fun hn => ?_⟩
        obtain ⟨b, o, a4, a5, a6⟩ := a3 hn
        have hlo : wa.heap.size ≤ b := (ho.lt b (by rw [a1, a4]; rfl)).1
        refine ⟨b, o, a4, by simp only [World.setCell, Array.size_modify]; have := hbc.size; omega, fun j hj i u hu => ?_⟩
        rw [World.cell?_of_block (w := wb) (a := ⟨b, o + j * 4 + i, none⟩) (hbe b hlo a5)]; exact a6 j hj i u hu
      · have := ho.lt a.block (by rw [e]; rfl)
        have := hbc.size
        exact ⟨by omega, by omega⟩
  · simp only [List.length_append, List.length_singleton] at hi
    by_cases hlt : i < evs.length
    · rw [getElem!_snoc_lt vs v3 i (by rw [h.vsl]; exact hlt)] at e
      obtain ⟨n1, n2⟩ := h.apart i hlt a n c e
      refine ⟨n1, ?_⟩
      obtain ⟨ao, c', h6, h7, h8, h9⟩ := h.each i hlt
      have hF := h9 a n c e
      rcases hblk with h1 | h1
      · rw [h1]; exact n2
      · intro e2; have := h1 _ e2; have := h.flt _ hF; omega
    · obtain rfl : i = evs.length := by omega
      rw [← h.vsl, getElem!_snoc_eq] at e
      have hl := ho.lt a.block (by rw [e]; rfl)
      refine ⟨by have := h.flt q h.fq; omega, ?_⟩
      rcases hblk with h1 | h1
      · rw [h1]; intro e2; have := h.flt _ (hvF _ e2); omega
      · intro e2
        have := h1 _ e2
        have := hbc.size
        omega

theorem Av.apart {G : Nat → Prop} {w w' : World} {B : Nat} {v : Value} {xs : List At} (h : Av w B v xs) (hB : B ≤ w.heap.size) (hc : Chg G w w') (hne : ∀ a n c, v = .slice (some a) n c → ¬ G a.block) : Av w' B v xs := by
  obtain ⟨ao, cap, h1, h2, h2', h3⟩ := h.row
  refine ⟨h.wide, h.len, ao, cap, h1, h2, h2', fun hn => ?_⟩
  obtain ⟨b, o, h4, h5, h6⟩ := h3 hn
  refine ⟨b, o, h4, h5, fun j hj i u hu => ?_⟩
  have := World.cell?_of_block (w := w) (w' := w') (a := ⟨b, o + j * 4 + i, none⟩) (hc.block b (by omega) (hne ⟨b, o, none⟩ _ _ (by rw [h1, h4])))
  rw [this]; exact h6 j hj i u hu
theorem StAt.evv {w : World} {F : Nat → Prop} {q k : Nat} {sd : List Sd} {evs : List Ev} {v : Value} {vs : List Value} (h : StAt w F q k sd evs v vs) : w.cell? ⟨q, 49, none⟩ = some v := by
  rw [cell_of_st h.blk, stCells, List.getElem?_cons_succ, List.getElem?_append_right (by rw [flat3_len, h.sdl]; omega), flat3_len, h.sdl]
  rfl
/-- Two stores into what a source has said. -/
theorem StAt.wrote {w : World} {F : Nat → Prop} {q k : Nat} {sd : List Sd} {evs : List Ev} {v : Value} {vs : List Value} (h : StAt w F q k sd evs v vs) (j : Nat) (hj : j < 16) (a b : Int) :
    StAt ((w.setCell ⟨q, 1 + j * 3, none⟩ (.int .i64 a)).setCell ⟨q, 1 + j * 3 + 1, none⟩ (.int .i64 b)) F q k (sd.set j ⟨a, b, sd[j]!.gone⟩) evs v vs := by
  refine h.store (((Chg.refl (fun b => b = q) _).setCell (p := ⟨q, 1 + j * 3, none⟩) rfl _).setCell (p := ⟨q, 1 + j * 3 + 1, none⟩) rfl _) ?_ (by rw [List.length_set]; exact h.sdl)
  rw [setCell_list (setCell_list h.blk _), stCells_set _ _ _ _ _ _ (by rw [h.sdl]; exact hj)]
theorem StAt.widen {w : World} {F G : Nat → Prop} {q k : Nat} {sd : List Sd} {evs : List Ev} {v : Value} {vs : List Value} (h : StAt w F q k sd evs v vs) (hFG : ∀ b, F b → G b) (hG : ∀ b, G b → b < w.heap.size) : StAt w G q k sd evs v vs :=
  ⟨hFG _ h.fq, hG, h.k0, h.k16, h.sdl, h.many, h.wide, h.blk, h.own, h.vsl, fun a n c e => hFG _ (h.fv a n c e), fun i hi => by
    obtain ⟨ao, c, h1, h2, h3, h4⟩ := h.each i hi
    exact ⟨ao, c, h1, h2, h3, fun a n c e => hFG _ (h4 a n c e)⟩, h.apart⟩
theorem StIs.widen {w : World} {F G : Nat → Prop} {q k : Nat} {sd : List Sd} {evs : List Ev} (h : StIs w F q k sd evs) (hFG : ∀ b, F b → G b) (hG : ∀ b, G b → b < w.heap.size) : StIs w G q k sd evs := by
  obtain ⟨v, vs, h⟩ := h
  exact ⟨v, vs, h.widen hFG hG⟩
end Go.Proofs.Ytnagngdijlancaa
