/- How things stand within EventRises. -/
import Derived.Test.YthjhbnfedelniaaArgo
namespace Go.Proofs.Ythjhbnfedelniaa
open Go Go.RowKit

/-- Four numbers in a row. -/
def cells4 (f : Nat → Int) : Array Value := #[.int .i64 (f 0), .int .i64 (f 1), .int .i64 (f 2), .int .i64 (f 3)]
theorem cells4_at {w : World} {q t : Nat} {fr : Nat × Nat} {f : Nat → Int} (h : w.heap[q]? = some (.cells (cells4 f) t fr)) (j : Nat) (hj : j < 4) : w.cell? ⟨q, j, none⟩ = some (.int .i64 (f j)) := by
  match j, hj with
  | 0, _ => simp [World.cell?, h, cells4]
  | 1, _ => simp [World.cell?, h, cells4]
  | 2, _ => simp [World.cell?, h, cells4]
  | 3, _ => simp [World.cell?, h, cells4]
theorem cells4_free {w : World} {q t : Nat} {f : Nat → Int} (h : w.heap[q]? = some (.cells (cells4 f) t (0, 0))) (j : Nat) : w.frozen? ⟨q, j, none⟩ = false := by
  simp [World.frozen?, h]
theorem cells4_set {w : World} {q t : Nat} {fr : Nat × Nat} {f : Nat → Int} (h : w.heap[q]? = some (.cells (cells4 f) t fr)) (j : Nat) (hj : j < 4) (v : Int) :
    (w.setCell ⟨q, j, none⟩ (.int .i64 v)).heap[q]? = some (.cells (cells4 fun i => if i = j then v else f i) t fr) := by
  rw [heap_setCell_same h _]
  match j, hj with
  | 0, _ => simp [cells4]
  | 1, _ => simp [cells4]
  | 2, _ => simp [cells4]
  | 3, _ => simp [cells4]
theorem cells4_ext {f g : Nat → Int} (h : ∀ j, j < 4 → f j = g j) : cells4 f = cells4 g := by
  unfold cells4; rw [h 0 (by omega), h 1 (by omega), h 2 (by omega), h 3 (by omega)]

theorem op_cells {w : World} {P : Nat} {o : Op4} {t : Nat} {fr : Nat × Nat} (hb : w.heap[P]? = some (.cells (encO o).toArray t fr)) :
    w.cell? ⟨P, 0, none⟩ = some (.int .i64 o.do_) ∧ w.cell? ⟨P, 1, none⟩ = some (.int .i64 o.ev.src) ∧ w.cell? ⟨P, 2, none⟩ = some (.int .i64 o.ev.seq) ∧ w.cell? ⟨P, 3, none⟩ = some (.int .i64 o.ev.time) ∧ w.cell? ⟨P, 4, none⟩ = some (.string o.ev.ty) ∧ w.cell? ⟨P, 5, none⟩ = some o.v ∧ w.cell? ⟨P, 6, none⟩ = some (.int .i64 o.src) := by
  refine ⟨?_, ?_, ?_, ?_, ?_, ?_, ?_⟩ <;> simp [World.cell?, hb, encO]
theorem chg_low {F : Nat → Prop} {w w' : World} (hc : Chg F w w') {k : Nat} {ob : Obj} (h : w.heap[k]? = some ob) (hk : ¬ F k) : w'.heap[k]? = some ob :=
  (hc.block k (lt_of_block h) hk).trans h
theorem Av.apartB {F : Nat → Prop} {w w' : World} {B : Nat} {v : Value} {xs : List At} (h : Av w B v xs) (hB : B ≤ w.heap.size) (hc : Chg F w w') (hF : ∀ b, F b → B ≤ b) : Av w' B v xs :=
  h.below (hc.below hB hF) (Nat.le_refl _)
theorem clsSd_same (k : Nat) (sd : List Sd) (n : Int) (j : Nat) : (clsSd k sd n)[j]!.many = sd[j]!.many ∧ (clsSd k sd n)[j]!.last = sd[j]!.last := by
  unfold clsSd
  split
  · by_cases h : n.toNat = j
    · subst h
      by_cases hj : n.toNat < sd.length
      · simp [hj]
      · rw [List.set_eq_of_length_le (by omega)]; exact ⟨rfl, rfl⟩
    · simp [List.getElem?_set_ne h, List.getElem!_eq_getElem?_getD]
  · exact ⟨rfl, rfl⟩
theorem clsSd_gone (k : Nat) (sd : List Sd) (n : Int) (j : Nat) (h : sd[j]!.gone = true) : (clsSd k sd n)[j]!.gone = true := by
  unfold clsSd
  split
  · by_cases he : n.toNat = j
    · subst he
      by_cases hj : n.toNat < sd.length
      · simp [hj]
      · rw [List.set_eq_of_length_le (by omega)]; exact h
    · rw [List.getElem!_eq_getElem?_getD, List.getElem?_set_ne he, ← List.getElem!_eq_getElem?_getD]; exact h
  · exact h
theorem clsSd_mark (k : Nat) (sd : List Sd) (n : Int) (j : Nat) (h : sd[j]!.last ≤ 1099511627777) : markI sd[j]! ≤ markI (clsSd k sd n)[j]! := by
  obtain ⟨_, h2⟩ := clsSd_same k sd n j
  have h3 := clsSd_gone k sd n j
  unfold markI
  rw [h2]
  cases hg : sd[j]!.gone with
  | true => rw [h3 hg]; exact Int.le_refl _
  | false =>
    cases (clsSd k sd n)[j]!.gone with
    | true => exact h
    | false => exact Int.le_refl _
theorem accSd_at {sd : List Sd} {s q t : Int} {ty : ByteArray} {ats : List At} (S : Nat) (hs : s = (S : Int)) (hS : S < sd.length) (j : Nat) : (accSd sd ⟨s, q, t, ty, ats⟩)[j]! = if j = S then ⟨sd[S]!.many + 1, t, sd[S]!.gone⟩ else sd[j]! := by
  subst hs
  unfold accSd
  simp only [Int.toNat_natCast]
  by_cases h : j = S
  · subst h; simp [hS]
  · rw [if_neg h, List.getElem!_eq_getElem?_getD, List.getElem?_set_ne (by omega), ← List.getElem!_eq_getElem?_getD]
theorem AccPost.drewN {F : Nat → Prop} {q k : Nat} {sd : List Sd} {evs : List Ev} {w w' : World} (h : AccPost F q k sd evs w w') (n : Nat) : AccPost F q k sd evs w (w'.drewN n) :=
  ⟨h.1.chg (G := fun _ => False) (w' := w'.drewN n) ⟨rfl, rfl, rfl, Nat.le_refl _, fun _ _ _ => rfl⟩ (fun _ _ h => h), ⟨h.2.os, h.2.tape, h.2.output, h.2.size, h.2.block⟩⟩
theorem accSd_mark {sd : List Sd} {ev : Ev} {S : Nat} (hs : ev.src = (S : Int)) (hS : S < sd.length) (hg : sd[S]!.gone = false) (ht : sd[S]!.last ≤ ev.time) (j : Nat) : markI sd[j]! ≤ markI (accSd sd ev)[j]! := by
  have hat := accSd_at (sd := sd) (s := ev.src) (q := ev.seq) (t := ev.time) (ty := ev.ty) (ats := ev.ats) S hs hS j
  rw [show (⟨ev.src, ev.seq, ev.time, ev.ty, ev.ats⟩ : Ev) = ev from rfl] at hat
  rw [hat]
  split
  · rename_i e; subst e
    unfold markI; simp only [hg]; exact ht
  · exact Int.le_refl _
end Go.Proofs.Ythjhbnfedelniaa
