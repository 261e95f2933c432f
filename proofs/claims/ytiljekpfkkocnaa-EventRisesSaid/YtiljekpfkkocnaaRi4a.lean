/- How things stand within EventRises. -/
import Derived.Test.YtiljekpfkkocnaaArgo
namespace Go.Proofs.Ytiljekpfkkocnaa
open Go Go.RowKit

/-- Four numbers in a row. -/
def cells4 (f : Nat → Int) : Array Value := #[.int .i64 (f 0), .int .i64 (f 1), .int .i64 (f 2), .int .i64 (f 3)]
theorem cells4_at {w : World} {q t : Nat} {fr : Nat × Nat} {f : Nat → Int} (h : w.heap[q]? = some (.cells (cells4 f) t fr)) (j : Nat) (hj : j < 4) : w.cell? ⟨q, j, none⟩ = some (.int .i64 (f j)) := by
  match j, hj with
  | 0, _ => simp [World.cell?, h, cells4]
  | 1, _ => simp [World.cell?, h, cells4]
  | 2, _ => simp [World.cell?, h, cells4]
  | 3, _ => simp [World.cell?, h, cells4]
theorem cells4_free {w : World} {q t : Nat} {f : Nat → Int} (h : w.heap[q]? = some (.cells (cells4 f) t (0, 0))) (j : Nat) : w.frozen? ⟨q, j, none⟩ = false := by
  simp [World.frozen?, h]
theorem cells4_set {w : World} {q t : Nat} {fr : Nat × Nat} {f : Nat → Int} (h : w.heap[q]? = some (.cells (cells4 f) t fr)) (j : Nat) (hj : j < 4) (v : Int) :
    (w.setCell ⟨q, j, none⟩ (.int .i64 v)).heap[q]? = some (.cells (cells4 fun i => if i = j then v else f i) t fr) := by
  rw [heap_setCell_same h _]
  match j, hj with
  | 0, _ => simp [cells4]
  | 1, _ => simp [cells4]
  | 2, _ => simp [cells4]
  | 3, _ => simp [cells4]
theorem cells4_ext {f g : Nat → Int} (h : ∀ j, j < 4 → f j = g j) : cells4 f = cells4 g := by
  unfold cells4; rw [h 0 (by omega), h 1 (by omega), h 2 (by omega), h 3 (by omega)]

/-- How things stand between two operations: what next and last hold is what the streams were told. -/
structure Rs (W : World) (q n0 l0 : Nat) (F : Nat → Prop) (sd : List Sd) (evs : List Ev) (w : World) : Prop where
  below : Below W.heap.size W w
  st : StIs w F q 4 sd evs
  fB : ∀ b, F b → W.heap.size ≤ b
  nn : ¬ F n0
  nl : ¬ F l0
  hn : W.heap.size ≤ n0
  hl : W.heap.size ≤ l0
  ne : n0 ≠ l0
  bn : w.heap[n0]? = some (.cells (cells4 fun j => sd[j]!.many) 86 (0, 0))
  bl : w.heap[l0]? = some (.cells (cells4 fun j => sd[j]!.last) 86 (0, 0))
  ts : ∀ j, j < 4 → sd[j]!.last ≤ 1099511627777
theorem Rs.call {W : World} {q n0 l0 : Nat} {F : Nat → Prop} {sd : List Sd} {evs : List Ev} {w w' : World} (h : Rs W q n0 l0 F sd evs w) (hb : Below w.heap.size w w') : Rs W q n0 l0 F sd evs w' :=
  ⟨h.below.trans (hb.mono h.below.size), h.st.below hb, h.fB, h.nn, h.nl, h.hn, h.hl, h.ne, (hb.block n0 (lt_of_block h.bn)).trans h.bn, (hb.block l0 (lt_of_block h.bl)).trans h.bl, h.ts⟩
/-- How things stand within a round: the operation's box, its attributes, the marks ahead of it. -/
structure Rr (W : World) (q n0 l0 P : Nat) (o : Op4) (m : Nat → Int) (F : Nat → Prop) (sd : List Sd) (evs : List Ev) (w : World) : Prop where
  rs : Rs W q n0 l0 F sd evs w
  hP : W.heap.size ≤ P
  pn : P ≠ n0
  pl : P ≠ l0
  pn1 : P + 1 ≠ n0
  pl1 : P + 1 ≠ l0
  bo : w.heap[P]? = some (.cells (encO o).toArray 73 (0, 0))
  bw : w.heap[P + 1]? = some (.cells (cells4 m) 86 (0, 0))
  no : ¬ F P
  nw : ¬ F (P + 1)
  av : Av w W.heap.size o.v o.ev.ats
theorem Rr.call {W : World} {q n0 l0 P : Nat} {o : Op4} {m : Nat → Int} {F : Nat → Prop} {sd : List Sd} {evs : List Ev} {w w' : World} (h : Rr W q n0 l0 P o m F sd evs w) (hb : Below w.heap.size w w') : Rr W q n0 l0 P o m F sd evs w' :=
  ⟨h.rs.call hb, h.hP, h.pn, h.pl, h.pn1, h.pl1, (hb.block P (lt_of_block h.bo)).trans h.bo, (hb.block (P + 1) (lt_of_block h.bw)).trans h.bw, h.no, h.nw, h.av.below hb h.rs.below.size⟩
theorem Rr.drew {W : World} {q n0 l0 P : Nat} {o : Op4} {m : Nat → Int} {F : Nat → Prop} {sd : List Sd} {evs : List Ev} {w : World} (h : Rr W q n0 l0 P o m F sd evs w) : Rr W q n0 l0 P o m F sd evs w.drew := h.call ((Below.refl _ _).drew)
theorem op_cells {w : World} {P : Nat} {o : Op4} {t : Nat} {fr : Nat × Nat} (hb : w.heap[P]? = some (.cells (encO o).toArray t fr)) :
    w.cell? ⟨P, 0, none⟩ = some (.int .i64 o.do_) ∧ w.cell? ⟨P, 1, none⟩ = some (.int .i64 o.ev.src) ∧ w.cell? ⟨P, 2, none⟩ = some (.int .i64 o.ev.seq) ∧ w.cell? ⟨P, 3, none⟩ = some (.int .i64 o.ev.time) ∧ w.cell? ⟨P, 4, none⟩ = some (.string o.ev.ty) ∧ w.cell? ⟨P, 5, none⟩ = some o.v ∧ w.cell? ⟨P, 6, none⟩ = some (.int .i64 o.src) := by
  refine ⟨?_, ?_, ?_, ?_, ?_, ?_, ?_⟩ <;> simp [World.cell?, hb, encO]
theorem Rr.op {W : World} {q n0 l0 P : Nat} {o : Op4} {m : Nat → Int} {F : Nat → Prop} {sd : List Sd} {evs : List Ev} {w : World} (h : Rr W q n0 l0 P o m F sd evs w) :
    w.cell? ⟨P, 0, none⟩ = some (.int .i64 o.do_) ∧ w.cell? ⟨P, 1, none⟩ = some (.int .i64 o.ev.src) ∧ w.cell? ⟨P, 2, none⟩ = some (.int .i64 o.ev.seq) ∧ w.cell? ⟨P, 3, none⟩ = some (.int .i64 o.ev.time) ∧ w.cell? ⟨P, 4, none⟩ = some (.string o.ev.ty) ∧ w.cell? ⟨P, 5, none⟩ = some o.v ∧ w.cell? ⟨P, 6, none⟩ = some (.int .i64 o.src) := by
  have hb := h.bo
  refine ⟨?_, ?_, ?_, ?_, ?_, ?_, ?_⟩ <;> simp [World.cell?, hb, encO]
theorem chg_low {F : Nat → Prop} {w w' : World} (hc : Chg F w w') {k : Nat} {ob : Obj} (h : w.heap[k]? = some ob) (hk : ¬ F k) : w'.heap[k]? = some ob :=
  (hc.block k (lt_of_block h) hk).trans h
theorem Av.apartB {F : Nat → Prop} {w w' : World} {B : Nat} {v : Value} {xs : List At} (h : Av w B v xs) (hB : B ≤ w.heap.size) (hc : Chg F w w') (hF : ∀ b, F b → B ≤ b) : Av w' B v xs :=
  h.below (hc.below hB hF) (Nat.le_refl _)
/-- What turns no more than what the streams own. -/
theorem Rr.turn {W : World} {q n0 l0 P : Nat} {o : Op4} {m : Nat → Int} {F F' : Nat → Prop} {sd sd' : List Sd} {evs evs' : List Ev} {w w' : World} (h : Rr W q n0 l0 P o m F sd evs w) (hst : StIs w' F' q 4 sd' evs') (hc : Chg F w w')
    (hF : ∀ b, F' b → F b ∨ w.heap.size ≤ b) (hm : ∀ j, j < 4 → sd'[j]!.many = sd[j]!.many) (hl : ∀ j, j < 4 → sd'[j]!.last = sd[j]!.last) : Rr W q n0 l0 P o m F' sd' evs' w' := by
  have hz := h.rs.below.size
  have far : ∀ k ob, w.heap[k]? = some ob → ¬ F k → ¬ F' k := fun k ob hk hn hf => (hF k hf).elim hn (fun hh => by have := lt_of_block hk; omega)
  refine ⟨⟨h.rs.below.trans (hc.below hz h.rs.fB), hst, fun b hb => (hF b hb).elim (h.rs.fB b) (fun hh => by omega), far _ _ h.rs.bn h.rs.nn, far _ _ h.rs.bl h.rs.nl, h.rs.hn, h.rs.hl, h.rs.ne, ?_, ?_, fun j hj => by rw [hl j hj]; exact h.rs.ts j hj⟩,
    h.hP, h.pn, h.pl, h.pn1, h.pl1, chg_low hc h.bo h.no, chg_low hc h.bw h.nw, far _ _ h.bo h.no, far _ _ h.bw h.nw, h.av.apartB hz hc h.rs.fB⟩
  · rw [cells4_ext hm]; exact chg_low hc h.rs.bn h.rs.nn
  · rw [cells4_ext hl]; exact chg_low hc h.rs.bl h.rs.nl
theorem clsSd_same (k : Nat) (sd : List Sd) (n : Int) (j : Nat) : (clsSd k sd n)[j]!.many = sd[j]!.many ∧ (clsSd k sd n)[j]!.last = sd[j]!.last := by
  unfold clsSd
  split
  · by_cases h : n.toNat = j
    · subst h
      by_cases hj : n.toNat < sd.length
      · simp [hj]
      · rw [List.set_eq_of_length_le (by omega)]; exact ⟨rfl, rfl⟩
    · simp [List.getElem?_set_ne h, List.getElem!_eq_getElem?_getD]
  · exact ⟨rfl, rfl⟩
theorem clsSd_gone (k : Nat) (sd : List Sd) (n : Int) (j : Nat) (h : sd[j]!.gone = true) : (clsSd k sd n)[j]!.gone = true := by
  unfold clsSd
  split
  · by_cases he : n.toNat = j
    · subst he
      by_cases hj : n.toNat < sd.length
      · simp [hj]
      · rw [List.set_eq_of_length_le (by omega)]; exact h
    · rw [List.getElem!_eq_getElem?_getD, List.getElem?_set_ne he, ← List.getElem!_eq_getElem?_getD]; exact h
  · exact h
theorem clsSd_mark (k : Nat) (sd : List Sd) (n : Int) (j : Nat) (h : sd[j]!.last ≤ 1099511627777) : markI sd[j]! ≤ markI (clsSd k sd n)[j]! := by
  obtain ⟨_, h2⟩ := clsSd_same k sd n j
  have h3 := clsSd_gone k sd n j
  unfold markI
  rw [h2]
  cases hg : sd[j]!.gone with
  | true => rw [h3 hg]; exact Int.le_refl _
  | false =>
    cases (clsSd k sd n)[j]!.gone with
    | true => exact h
    | false => exact Int.le_refl _
theorem accSd_at {sd : List Sd} {s q t : Int} {ty : ByteArray} {ats : List At} (S : Nat) (hs : s = (S : Int)) (hS : S < sd.length) (j : Nat) : (accSd sd ⟨s, q, t, ty, ats⟩)[j]! = if j = S then ⟨sd[S]!.many + 1, t, sd[S]!.gone⟩ else sd[j]! := by
  subst hs
  unfold accSd
  simp only [Int.toNat_natCast]
  by_cases h : j = S
  · subst h; simp [hS]
  · rw [if_neg h, List.getElem!_eq_getElem?_getD, List.getElem?_set_ne (by omega), ← List.getElem!_eq_getElem?_getD]
/-- An event is accepted, and it is set down. -/
theorem Rr.acc {W : World} {q n0 l0 P : Nat} {o : Op4} {m : Nat → Int} {F : Nat → Prop} {sd : List Sd} {evs evs' : List Ev} {w w' : World} (h : Rr W q n0 l0 P o m F sd evs w) {S : Nat} (hS : S < 4) (hs : o.ev.src = (S : Int)) (ht : o.ev.time ≤ 1099511627777)
    (hp : AccPost F q 4 (accSd sd o.ev) evs' w w') (u : Int) (hu : u = sd[S]!.many + 1) :
    Rr W q n0 l0 P o m (Fnew F w.heap.size w'.heap.size) (accSd sd o.ev) evs' ((w'.setCell ⟨n0, S, none⟩ (.int .i64 u)).setCell ⟨l0, S, none⟩ (.int .i64 o.ev.time)) := by
  subst hu
  obtain ⟨hst, hc⟩ := hp
  have hz := h.rs.below.size
  have hsl := h.rs.st.sdl
  have hat : ∀ j, (accSd sd o.ev)[j]! = if j = S then ⟨sd[S]!.many + 1, o.ev.time, sd[S]!.gone⟩ else sd[j]! := fun j => accSd_at (sd := sd) (s := o.ev.src) (q := o.ev.seq) (t := o.ev.time) (ty := o.ev.ty) (ats := o.ev.ats) S hs (by omega) j
  have far : ∀ k ob, w.heap[k]? = some ob → ¬ F k → ¬ Fnew F w.heap.size w'.heap.size k := fun k ob hk hn hf => hf.elim hn (fun hh => by have := lt_of_block hk; omega)
  have hc2 : Chg (fun b => b = n0 ∨ b = l0) w' ((w'.setCell ⟨n0, S, none⟩ (.int .i64 (sd[S]!.many + 1))).setCell ⟨l0, S, none⟩ (.int .i64 o.ev.time)) :=
    ((Chg.refl (fun b => b = n0 ∨ b = l0) w').setCell (p := ⟨n0, S, none⟩) (Or.inl rfl) _).setCell (p := ⟨l0, S, none⟩) (Or.inr rfl) _
  have bn1 : w'.heap[n0]? = _ := chg_low hc h.rs.bn h.rs.nn
  have bl1 : w'.heap[l0]? = _ := chg_low hc h.rs.bl h.rs.nl
  have hz2 : W.heap.size ≤ w'.heap.size := Nat.le_trans hz hc.size
  refine ⟨⟨(h.rs.below.trans (hc.below hz h.rs.fB)).trans (hc2.below hz2 (fun k hk => hk.elim (fun e => by rw [e]; exact h.rs.hn) (fun e => by rw [e]; exact h.rs.hl))), hst.chg hc2 (fun b hb hh => ?_), fun b hb => hb.elim (h.rs.fB b) (fun hh => by omega), far _ _ h.rs.bn h.rs.nn, far _ _ h.rs.bl h.rs.nl, h.rs.hn, h.rs.hl, h.rs.ne, ?_, ?_, fun j hj => ?_⟩,
    h.hP, h.pn, h.pl, h.pn1, h.pl1, chg_low hc2 (chg_low hc h.bo h.no) (fun hh => hh.elim h.pn h.pl), chg_low hc2 (chg_low hc h.bw h.nw) (fun hh => hh.elim h.pn1 h.pl1), far _ _ h.bo h.no, far _ _ h.bw h.nw, (h.av.apartB hz hc h.rs.fB).apartB hz2 hc2 (fun k hk => hk.elim (fun e => by rw [e]; exact h.rs.hn) (fun e => by rw [e]; exact h.rs.hl))⟩
  · rcases hh with rfl | rfl
    · exact far _ _ h.rs.bn h.rs.nn hb
    · exact far _ _ h.rs.bl h.rs.nl hb
  · rw [heap_setCell_far (cells4_set bn1 S hS _) h.rs.ne]
    rw [cells4_ext (fun j _ => ?_)]
    rw [hat j]; split <;> rfl
  · have e1 : (w'.setCell ⟨n0, S, none⟩ (.int .i64 (sd[S]!.many + 1))).heap[l0]? = _ := heap_setCell_far bl1 (fun e => h.rs.ne e.symm) _
    rw [cells4_set e1 S hS _]
    rw [cells4_ext (fun j _ => ?_)]
    rw [hat j]; split <;> rfl
  · rw [hat j]; split
    · exact ht
    · exact h.rs.ts j hj
theorem AccPost.drewN {F : Nat → Prop} {q k : Nat} {sd : List Sd} {evs : List Ev} {w w' : World} (h : AccPost F q k sd evs w w') (n : Nat) : AccPost F q k sd evs w (w'.drewN n) :=
  ⟨h.1.chg (G := fun _ => False) (w' := w'.drewN n) ⟨rfl, rfl, rfl, Nat.le_refl _, fun _ _ _ => rfl⟩ (fun _ _ h => h), ⟨h.2.os, h.2.tape, h.2.output, h.2.size, h.2.block⟩⟩
/-- A mark is noted. -/
theorem Rr.mark {W : World} {q n0 l0 P : Nat} {o : Op4} {m : Nat → Int} {F : Nat → Prop} {sd : List Sd} {evs : List Ev} {w : World} (h : Rr W q n0 l0 P o m F sd evs w) (j : Nat) (hj : j < 4) (u : Int) :
    Rr W q n0 l0 P o (fun i => if i = j then u else m i) F sd evs (w.setCell ⟨P + 1, j, none⟩ (.int .i64 u)) := by
  have hz := h.rs.below.size
  have hc : Chg (fun b => b = P + 1) w (w.setCell ⟨P + 1, j, none⟩ (.int .i64 u)) := (Chg.refl (fun b => b = P + 1) w).setCell (p := ⟨P + 1, j, none⟩) rfl _
  have hlow : ∀ b, b = P + 1 → W.heap.size ≤ b := fun b e => by have := h.hP; omega
  refine ⟨⟨h.rs.below.trans (hc.below hz hlow), h.rs.st.chg hc (fun b hb e => h.nw (e ▸ hb)), h.rs.fB, h.rs.nn, h.rs.nl, h.rs.hn, h.rs.hl, h.rs.ne, chg_low hc h.rs.bn (fun e => h.pn1 e.symm), chg_low hc h.rs.bl (fun e => h.pl1 e.symm), h.rs.ts⟩,
    h.hP, h.pn, h.pl, h.pn1, h.pl1, chg_low hc h.bo (by omega), cells4_set h.bw j hj u, h.no, h.nw, h.av.apartB hz hc hlow⟩
theorem accSd_mark {sd : List Sd} {ev : Ev} {S : Nat} (hs : ev.src = (S : Int)) (hS : S < sd.length) (hg : sd[S]!.gone = false) (ht : sd[S]!.last ≤ ev.time) (j : Nat) : markI sd[j]! ≤ markI (accSd sd ev)[j]! := by
  have hat := accSd_at (sd := sd) (s := ev.src) (q := ev.seq) (t := ev.time) (ty := ev.ty) (ats := ev.ats) S hs hS j
  rw [show (⟨ev.src, ev.seq, ev.time, ev.ty, ev.ats⟩ : Ev) = ev from rfl] at hat
  rw [hat]
  split
  · rename_i e; subst e
    unfold markI; simp only [hg]; exact ht
  · exact Int.le_refl _
end Go.Proofs.Ytiljekpfkkocnaa
