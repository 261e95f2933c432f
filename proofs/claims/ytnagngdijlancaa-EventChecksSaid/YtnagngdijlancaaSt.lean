/- Streams: what they are in memory; the contracts of their small calls. -/
import Derived.Test.YtnagngdijlancaaEm
import Derived.Deep.QuietTactic
import Derived.BigQuiet
namespace Go.Proofs.Ytnagngdijlancaa
open Go Go.RowKit

/-- Of what was there, only blocks of F may have turned. -/
structure Chg (F : Nat → Prop) (w w' : World) : Prop where
  os : w'.os = w.os
  tape : w'.tape = w.tape
  output : w'.output = w.output
  size : w.heap.size ≤ w'.heap.size
  block : ∀ k, k < w.heap.size → ¬ F k → w'.heap[k]? = w.heap[k]?
theorem Chg.refl (F : Nat → Prop) (w : World) : Chg F w w := ⟨rfl, rfl, rfl, Nat.le_refl _, fun _ _ _ => rfl⟩
theorem Chg.trans {F G : Nat → Prop} {a b c : World} (h : Chg F a b) (k : Chg G b c) (hG : ∀ j, G j → F j ∨ a.heap.size ≤ j) : Chg F a c :=
  ⟨k.os.trans h.os, k.tape.trans h.tape, k.output.trans h.output, Nat.le_trans h.size k.size, fun i hi hf =>
    (k.block i (Nat.lt_of_lt_of_le hi h.size) (fun hg => (hG i hg).elim hf (fun hh => by omega))).trans (h.block i hi hf)⟩
theorem Chg.of_below {F : Nat → Prop} {w w' : World} (h : Below w.heap.size w w') : Chg F w w' := ⟨h.os, h.tape, h.output, h.size, fun k hk _ => h.block k hk⟩
theorem Chg.below {F : Nat → Prop} {w w' : World} (h : Chg F w w') {B : Nat} (hB : B ≤ w.heap.size) (hF : ∀ k, F k → B ≤ k) : Below B w w' :=
  ⟨h.os, h.tape, h.output, h.size, fun k hk => h.block k (by omega) (fun hf => by have := hF k hf; omega)⟩

/-- What a source has said. -/
structure Sd where
  many : Int
  last : Int
  gone : Bool
  deriving DecidableEq, Inhabited
def enc3 (s : Sd) : List Value := [.int .i64 s.many, .int .i64 s.last, .bool s.gone]
def evCells (e : Ev) (v : Value) : List Value := [.int .i64 e.src, .int .i64 e.seq, .int .i64 e.time, .string e.ty, v]
def rowCells (evs : List Ev) (vs : List Value) : List Value := (List.zip evs vs).flatMap fun x => evCells x.1 x.2
def stCells (k : Int) (sd : List Sd) (v : Value) : List Value := .int .i64 k :: (sd.flatMap enc3 ++ [v])
/-- The blocks of a slice that holds something lie in F. -/
def InF (F : Nat → Prop) (v : Value) : Prop := ∀ a n c, v = .slice (some a) n c → F a.block

/-- In w the block q is streams of k sources, that have said sd; evs were accepted; they lie in the row v, their attributes in vs. F has all blocks of theirs. -/
structure StAt (w : World) (F : Nat → Prop) (q k : Nat) (sd : List Sd) (evs : List Ev) (v : Value) (vs : List Value) : Prop where
  fq : F q
  flt : ∀ b, F b → b < w.heap.size
  k0 : 1 ≤ k
  k16 : k ≤ 16
  sdl : sd.length = 16
  many : evs.length ≤ 65536
  wide : ∀ e ∈ evs, e.ty.size ≤ maxLen
  blk : w.heap[q]? = some (.cells (stCells k sd v).toArray 96 (0, 0))
  own : w.ownsRow 0 26 5 v evs.length (rowCells evs vs)
  vsl : vs.length = evs.length
  fv : InF F v
  each : ∀ i, i < evs.length → ∃ ao c, vs[i]! = .slice ao evs[i]!.ats.length c ∧ (ao = none → c = 0) ∧ Av w w.heap.size vs[i]! evs[i]!.ats ∧ InF F vs[i]!
  apart : ∀ i, i < evs.length → ∀ a n c, vs[i]! = .slice (some a) n c → a.block ≠ q ∧ v.ownBlock ≠ some a.block
def StIs (w : World) (F : Nat → Prop) (q k : Nat) (sd : List Sd) (evs : List Ev) : Prop := ∃ v vs, StAt w F q k sd evs v vs
theorem StIs.fq {w : World} {F : Nat → Prop} {q k : Nat} {sd : List Sd} {evs : List Ev} (h : StIs w F q k sd evs) : F q := by obtain ⟨v, vs, h⟩ := h; exact h.fq
theorem StIs.flt {w : World} {F : Nat → Prop} {q k : Nat} {sd : List Sd} {evs : List Ev} (h : StIs w F q k sd evs) : ∀ b, F b → b < w.heap.size := by obtain ⟨v, vs, h⟩ := h; exact h.flt
theorem StIs.k0 {w : World} {F : Nat → Prop} {q k : Nat} {sd : List Sd} {evs : List Ev} (h : StIs w F q k sd evs) : 1 ≤ k := by obtain ⟨v, vs, h⟩ := h; exact h.k0
theorem StIs.k16 {w : World} {F : Nat → Prop} {q k : Nat} {sd : List Sd} {evs : List Ev} (h : StIs w F q k sd evs) : k ≤ 16 := by obtain ⟨v, vs, h⟩ := h; exact h.k16
theorem StIs.sdl {w : World} {F : Nat → Prop} {q k : Nat} {sd : List Sd} {evs : List Ev} (h : StIs w F q k sd evs) : sd.length = 16 := by obtain ⟨v, vs, h⟩ := h; exact h.sdl
theorem StIs.many {w : World} {F : Nat → Prop} {q k : Nat} {sd : List Sd} {evs : List Ev} (h : StIs w F q k sd evs) : evs.length ≤ 65536 := by obtain ⟨v, vs, h⟩ := h; exact h.many
theorem StIs.wide {w : World} {F : Nat → Prop} {q k : Nat} {sd : List Sd} {evs : List Ev} (h : StIs w F q k sd evs) : ∀ e ∈ evs, e.ty.size ≤ maxLen := by obtain ⟨v, vs, h⟩ := h; exact h.wide
theorem StIs.row {w : World} {F : Nat → Prop} {q k : Nat} {sd : List Sd} {evs : List Ev} (h : StIs w F q k sd evs) : ∃ v vs, w.heap[q]? = some (.cells (stCells k sd v).toArray 96 (0, 0)) ∧ w.ownsRow 0 26 5 v evs.length (rowCells evs vs) ∧ vs.length = evs.length ∧ InF F v ∧
    (∀ i, i < evs.length → ∃ ao c, vs[i]! = .slice ao evs[i]!.ats.length c ∧ (ao = none → c = 0) ∧ Av w w.heap.size vs[i]! evs[i]!.ats ∧ InF F vs[i]!) := by
  obtain ⟨v, vs, h⟩ := h; exact ⟨v, vs, h.blk, h.own, h.vsl, h.fv, h.each⟩

theorem Av.chg {G : Nat → Prop} {w w' : World} {v : Value} {xs : List At} (h : Av w w.heap.size v xs) (hc : Chg G w w') {F : Nat → Prop} (hF : InF F v) (hd : ∀ b, F b → ¬ G b) : Av w' w'.heap.size v xs := by
  obtain ⟨ao, cap, h1, h2, h2', h3⟩ := h.row
  refine ⟨h.wide, h.len, ao, cap, h1, h2, h2', fun hn => ?_⟩
  obtain ⟨b, o, h4, h5, h6⟩ := h3 hn
  refine ⟨b, o, h4, Nat.lt_of_lt_of_le h5 hc.size, fun j hj i u hu => ?_⟩
  have hb : F b := hF ⟨b, o, none⟩ xs.length cap (by rw [h1, h4])
  have := World.cell?_of_block (w := w) (w' := w') (a := ⟨b, o + j * 4 + i, none⟩) (hc.block b h5 (hd b hb))
  rw [this]; exact h6 j hj i u hu
/-- What turns no block of theirs leaves streams as they are. -/
theorem StAt.chg {G F : Nat → Prop} {w w' : World} {q k : Nat} {sd : List Sd} {evs : List Ev} {v : Value} {vs : List Value} (h : StAt w F q k sd evs v vs) (hc : Chg G w w') (hd : ∀ b, F b → ¬ G b) : StAt w' F q k sd evs v vs := by
  refine ⟨h.fq, fun b hb => Nat.lt_of_lt_of_le (h.flt b hb) hc.size, h.k0, h.k16, h.sdl, h.many, h.wide, ?_, ?_, h.vsl, h.fv, fun i hi => ?_, ?_⟩
  · rw [hc.block q (h.flt q h.fq) (hd q h.fq)]; exact h.blk
  · refine ⟨h.own.1, ?_⟩
    rcases h.own.2 with hn | ⟨g, cap, cur, hv, hb, hg, rest⟩
    · exact .inl hn
    · have hgF : F g := h.fv _ _ _ hv
      exact .inr ⟨g, cap, cur, hv, hb, by rw [hc.block g (h.flt g hgF) (hd g hgF)]; exact hg, rest⟩
  · obtain ⟨ao, c, h6, h7, h8, h9⟩ := h.each i hi
    exact ⟨ao, c, h6, h7, h8.chg hc h9 hd, h9⟩
  · exact h.apart
theorem StIs.chg {G F : Nat → Prop} {w w' : World} {q k : Nat} {sd : List Sd} {evs : List Ev} (h : StIs w F q k sd evs) (hc : Chg G w w') (hd : ∀ b, F b → ¬ G b) : StIs w' F q k sd evs := by
  obtain ⟨v, vs, h⟩ := h
  exact ⟨v, vs, h.chg hc hd⟩
theorem StAt.below {F : Nat → Prop} {w w' : World} {q k : Nat} {sd : List Sd} {evs : List Ev} {v : Value} {vs : List Value} (h : StAt w F q k sd evs v vs) (hb : Below w.heap.size w w') : StAt w' F q k sd evs v vs :=
  h.chg (G := fun _ => False) (Chg.of_below hb) (fun _ _ h => h)
theorem StIs.below {F : Nat → Prop} {w w' : World} {q k : Nat} {sd : List Sd} {evs : List Ev} (h : StIs w F q k sd evs) (hb : Below w.heap.size w w') : StIs w' F q k sd evs :=
  h.chg (G := fun _ => False) (Chg.of_below hb) (fun _ _ h => h)
theorem StIs.drew {F : Nat → Prop} {w : World} {q k : Nat} {sd : List Sd} {evs : List Ev} (h : StIs w F q k sd evs) : StIs w.drew F q k sd evs :=
  h.below ((Below.refl _ _).drew)

theorem enc3_len (s : Sd) : (enc3 s).length = 3 := rfl
theorem flat3_len (sd : List Sd) : (sd.flatMap enc3).length = sd.length * 3 := by
  induction sd with
  | nil => rfl
  | cons x r ih => rw [List.flatMap_cons, List.length_append, ih, enc3_len, List.length_cons]; omega
theorem flat3_at (sd : List Sd) (j i : Nat) (hj : j < sd.length) (u : Value) (h : (enc3 sd[j]!)[i]? = some u) : (sd.flatMap enc3)[j * 3 + i]? = some u := by
  induction sd generalizing j with
  | nil => simp at hj
  | cons x r ih =>
    cases j with
    | zero =>
      have hi : i < 3 := by have := (List.getElem?_eq_some_iff.1 h).1; simpa [enc3_len] using this
      rw [List.flatMap_cons, List.getElem?_append_left (by rw [enc3_len]; omega)]
      simpa using h
    | succ j =>
      rw [List.flatMap_cons, List.getElem?_append_right (by rw [enc3_len]; omega), enc3_len, show (j + 1) * 3 + i - 3 = j * 3 + i by omega]
      exact ih j (by simpa using hj) (by simpa using h)
theorem cell_of_st {w : World} {q : Nat} {cs : List Value} {t : Nat} {fr : Nat × Nat} (h : w.heap[q]? = some (.cells cs.toArray t fr)) (i : Nat) : w.cell? ⟨q, i, none⟩ = cs[i]? := by
  simp [World.cell?, h]
theorem free_of_st {w : World} {q : Nat} {cs : Array Value} {t : Nat} (h : w.heap[q]? = some (.cells cs t (0, 0))) (i : Nat) : w.frozen? ⟨q, i, none⟩ = false := by
  simp [World.frozen?, h]
theorem StIs.num {w : World} {F : Nat → Prop} {q k : Nat} {sd : List Sd} {evs : List Ev} (h : StIs w F q k sd evs) : w.cell? ⟨q, 0, none⟩ = some (.int .i64 (k : Int)) := by
  obtain ⟨v, vs, h1, _⟩ := h.row
  rw [cell_of_st h1]; rfl
theorem StIs.said {w : World} {F : Nat → Prop} {q k : Nat} {sd : List Sd} {evs : List Ev} (h : StIs w F q k sd evs) (j : Nat) (hj : j < 16) :
    w.cell? ⟨q, 1 + j * 3, none⟩ = some (.int .i64 sd[j]!.many) ∧ w.cell? ⟨q, 1 + j * 3 + 1, none⟩ = some (.int .i64 sd[j]!.last) ∧ w.cell? ⟨q, 1 + j * 3 + 2, none⟩ = some (.bool sd[j]!.gone) := by
  obtain ⟨v, vs, h1, _⟩ := h.row
  have hl := h.sdl
  have key : ∀ i u, (enc3 sd[j]!)[i]? = some u → w.cell? ⟨q, 1 + j * 3 + i, none⟩ = some u := fun i u hu => by
    have hi : i < 3 := by have := (List.getElem?_eq_some_iff.1 hu).1; simpa [enc3_len] using this
    rw [cell_of_st h1, stCells, show 1 + j * 3 + i = j * 3 + i + 1 by omega, List.getElem?_cons_succ, List.getElem?_append_left (by rw [flat3_len]; omega)]
    exact flat3_at sd j i (by omega) u hu
  exact ⟨key 0 _ rfl, key 1 _ rfl, key 2 _ rfl⟩
theorem StIs.free {w : World} {F : Nat → Prop} {q k : Nat} {sd : List Sd} {evs : List Ev} (h : StIs w F q k sd evs) (i : Nat) : w.frozen? ⟨q, i, none⟩ = false := by
  obtain ⟨v, vs, h1, _⟩ := h.row
  exact free_of_st h1 i
theorem StIs.evs {w : World} {F : Nat → Prop} {q k : Nat} {sd : List Sd} {evs : List Ev} (h : StIs w F q k sd evs) : ∃ ao c, w.cell? ⟨q, 49, none⟩ = some (.slice ao evs.length c) := by
  obtain ⟨v, vs, h1, h2, _⟩ := h.row
  obtain ⟨ao, c, rfl⟩ := own_slice h2
  refine ⟨ao, c, ?_⟩
  rw [cell_of_st h1, stCells, List.getElem?_cons_succ, List.getElem?_append_right (by rw [flat3_len, h.sdl]; omega), flat3_len, h.sdl]
  rfl

theorem sIsMadeS_any (q k : Nat) (w : World) (h : w.cell? ⟨q, 0, none⟩ = some (.int .i64 (k : Int))) (hk : 1 ≤ k) :
    Calls Try.prog 85 #[.pointer (some ⟨q, 0, none⟩)] w fun e w' => e = .returned (.bool true) ∧ w = w' := by
  have hd : decide (0 < k) = true := by simp; omega
  go_enter Try.func85, Try.ntmps85
  go_wp2
  go_ret
  exact ⟨rfl, rfl⟩
def hasB (k : Nat) (n : Int) : Bool := decide (0 ≤ n) && decide (n < (k : Int))
theorem sHas_any (q k : Nat) (n : Int) (w : World) (h : w.cell? ⟨q, 0, none⟩ = some (.int .i64 (k : Int))) :
    Calls Try.prog 86 #[.pointer (some ⟨q, 0, none⟩), .int .i64 n] w fun e w' => e = .returned (.bool (hasB k n)) ∧ w = w' := by
  by_cases h0 : 0 ≤ n
  · by_cases h1 : n < (k : Int)
    · rw [show hasB k n = true by simp [hasB, h0, h1]]
      go_enter Try.func86, Try.ntmps86
      go_wp2
      go_ret
      exact ⟨rfl, rfl⟩
    · rw [show hasB k n = false by simp [hasB, h1]]
      go_enter Try.func86, Try.ntmps86
      go_wp2
      go_ret
      exact ⟨rfl, rfl⟩
  · rw [show hasB k n = false by simp [hasB, h0]]
    go_enter Try.func86, Try.ntmps86
    go_wp2
    go_ret
    exact ⟨rfl, rfl⟩
theorem hasB_nat {k : Nat} {n : Int} (h : hasB k n = true) : ∃ j : Nat, n = (j : Int) ∧ j < k := by
  simp [hasB] at h
  exact ⟨n.toNat, by omega, by omega⟩

def nxErr (s : Sd) (e : Ev) : Int := if s.gone then 43 else if e.seq ≠ s.many then 42 else if e.time < s.last then 41 else 0
set_option maxRecDepth 100000 in
theorem sdNext_any (s : Sd) (ev : Ev) (ao : Option Addr) (n cap : Nat) (w : World) :
    Calls Try.prog 87 #[.agg #[.int .i64 s.many, .int .i64 s.last, .bool s.gone], evV ev (.slice ao n cap)] w fun e w' => e = .returned (.int .i64 (nxErr s ev)) ∧ Below w.heap.size w w' := by
  have hb0 : Below w.heap.size w ((w.alloc (.cells #[.int .i64 s.many, .int .i64 s.last, .bool s.gone] 93)).alloc (.cells #[.int .i64 ev.src, .int .i64 ev.seq, .int .i64 ev.time, .string ev.ty, .slice ao n cap] 26)) := ((Below.refl _ _).alloc (Nat.le_refl _) _).alloc (by simp) _
  have HB := hide hb0
  clear hb0
  unfold evV
  obtain ⟨m, l, g⟩ := s
  obtain ⟨a, b, c, d, e⟩ := ev
  simp only at HB ⊢
  cases g with
  | true =>
    rw [show nxErr _ _ = 43 from rfl]
    go_enter Try.func87, Try.ntmps87
    go_wp2
    go_ret
    exact ⟨rfl, HB.out⟩
  | false =>
    by_cases hq : b = m
    · subst hq
      by_cases ht : c < l
      · rw [show nxErr _ _ = 41 by simp [nxErr, ht]]
        go_enter Try.func87, Try.ntmps87
        go_wp2
        go_ret
        exact ⟨rfl, HB.out⟩
      · rw [show nxErr _ _ = 0 by simp [nxErr, ht]]
        go_enter Try.func87, Try.ntmps87
        go_wp2
        go_ret
        exact ⟨rfl, HB.out⟩
    · have h1 : (b == m) = false := by simp [hq]
      have h2 : (b != m) = true := by simp [hq]
      rw [show nxErr _ _ = 42 by simp [nxErr, hq]]
      go_enter Try.func87, Try.ntmps87
      go_wp2
      go_ret
      exact ⟨rfl, HB.out⟩

def of3 (s : Sd) : Value := .agg #[.int .i64 s.many, .int .i64 s.last, .bool s.gone]
def saidAt (k : Nat) (sd : List Sd) (n : Int) : Sd := if hasB k n then sd[n.toNat]! else ⟨0, 0, false⟩
theorem cell_of_three' {w : World} {q : Nat} {c0 c1 c2 : Value} {t : Nat} {fr : Nat × Nat} (h : w.heap[q]? = some (.cells #[c0, c1, c2] t fr)) : w.cell? ⟨q, 0, none⟩ = some c0 ∧ w.cell? ⟨q, 1, none⟩ = some c1 ∧ w.cell? ⟨q, 2, none⟩ = some c2 := by
  refine ⟨?_, ?_, ?_⟩ <;> simp [World.cell?, h]
end Go.Proofs.Ytnagngdijlancaa
