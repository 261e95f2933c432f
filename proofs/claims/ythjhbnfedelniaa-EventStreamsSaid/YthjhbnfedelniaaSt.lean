/- Streams: what they are in memory; the contracts of their small calls. -/
import Derived.Test.YthjhbnfedelniaaBase
import Derived.Laws.OwnMore
import Derived.Test.YthjhbnfedelniaaEc
import Derived.Deep.QuietTactic
import Derived.BigQuiet
namespace Go.Proofs.Ythjhbnfedelniaa
open Go Go.RowKit

/-- Of what was there, only blocks of F may have turned. -/
structure Chg (F : Nat → Prop) (w w' : World) : Prop where
  os : w'.os = w.os
  tape : w'.tape = w.tape
  output : w'.output = w.output
  size : w.heap.size ≤ w'.heap.size
  block : ∀ k, k < w.heap.size → ¬ F k → w'.heap[k]? = w.heap[k]?
theorem Chg.refl (F : Nat → Prop) (w : World) : Chg F w w := ⟨rfl, rfl, rfl, Nat.le_refl _, fun _ _ _ => rfl⟩
theorem Chg.trans {F G : Nat → Prop} {a b c : World} (h : Chg F a b) (k : Chg G b c) (hG : ∀ j, G j → F j ∨ a.heap.size ≤ j) : Chg F a c :=
  ⟨k.os.trans h.os, k.tape.trans h.tape, k.output.trans h.output, Nat.le_trans h.size k.size, fun i hi hf =>
    (k.block i (Nat.lt_of_lt_of_le hi h.size) (fun hg => (hG i hg).elim hf (fun hh => by omega))).trans (h.block i hi hf)⟩
theorem Chg.of_below {F : Nat → Prop} {w w' : World} (h : Below w.heap.size w w') : Chg F w w' := ⟨h.os, h.tape, h.output, h.size, fun k hk _ => h.block k hk⟩
theorem Chg.below {F : Nat → Prop} {w w' : World} (h : Chg F w w') {B : Nat} (hB : B ≤ w.heap.size) (hF : ∀ k, F k → B ≤ k) : Below B w w' :=
  ⟨h.os, h.tape, h.output, h.size, fun k hk => h.block k (by omega) (fun hf => by have := hF k hf; omega)⟩

/-- What a source has said. -/
structure Sd where
  many : Int
  last : Int
  gone : Bool
  deriving DecidableEq, Inhabited
def enc3 (s : Sd) : List Value := [.int .i64 s.many, .int .i64 s.last, .bool s.gone]
def evCells (e : Ev) (v : Value) : List Value := [.int .i64 e.src, .int .i64 e.seq, .int .i64 e.time, .string e.ty, v]
def rowCells (evs : List Ev) (vs : List Value) : List Value := (List.zip evs vs).flatMap fun x => evCells x.1 x.2
def stCells (k : Int) (sd : List Sd) (v : Value) : List Value := .int .i64 k :: (sd.flatMap enc3 ++ [v])
/-- The blocks of a slice that holds something lie in F. -/
def InF (F : Nat → Prop) (v : Value) : Prop := ∀ a n c, v = .slice (some a) n c → F a.block

/-- In w the block q is streams of k sources, that have said sd; evs were accepted; they lie in the row v, their attributes in vs. F has all blocks of theirs. -/
structure StAt (w : World) (F : Nat → Prop) (q k : Nat) (sd : List Sd) (evs : List Ev) (v : Value) (vs : List Value) : Prop where
  fq : F q
  flt : ∀ b, F b → b < w.heap.size
  k0 : 1 ≤ k
  k16 : k ≤ 16
  sdl : sd.length = 16
  many : evs.length ≤ 65536
  wide : ∀ e ∈ evs, e.ty.size ≤ maxLen
  blk : w.heap[q]? = some (.cells (stCells k sd v).toArray 63 (0, 0))
  own : w.ownsRow 0 35 5 v evs.length (rowCells evs vs)
  vsl : vs.length = evs.length
  fv : InF F v
  each : ∀ i, i < evs.length → ∃ ao c, vs[i]! = .slice ao evs[i]!.ats.length c ∧ (ao = none → c = 0) ∧ Av w w.heap.size vs[i]! evs[i]!.ats ∧ InF F vs[i]!
  apart : ∀ i, i < evs.length → ∀ a n c, vs[i]! = .slice (some a) n c → a.block ≠ q ∧ v.ownBlock ≠ some a.block
def StIs (w : World) (F : Nat → Prop) (q k : Nat) (sd : List Sd) (evs : List Ev) : Prop := ∃ v vs, StAt w F q k sd evs v vs
theorem StIs.fq {w : World} {F : Nat → Prop} {q k : Nat} {sd : List Sd} {evs : List Ev} (h : StIs w F q k sd evs) : F q := by obtain ⟨v, vs, h⟩ := h; exact h.fq
theorem StIs.flt {w : World} {F : Nat → Prop} {q k : Nat} {sd : List Sd} {evs : List Ev} (h : StIs w F q k sd evs) : ∀ b, F b → b < w.heap.size := by obtain ⟨v, vs, h⟩ := h; exact h.flt
theorem StIs.k0 {w : World} {F : Nat → Prop} {q k : Nat} {sd : List Sd} {evs : List Ev} (h : StIs w F q k sd evs) : 1 ≤ k := by obtain ⟨v, vs, h⟩ := h; exact h.k0
theorem StIs.k16 {w : World} {F : Nat → Prop} {q k : Nat} {sd : List Sd} {evs : List Ev} (h : StIs w F q k sd evs) : k ≤ 16 := by obtain ⟨v, vs, h⟩ := h; exact h.k16
theorem StIs.sdl {w : World} {F : Nat → Prop} {q k : Nat} {sd : List Sd} {evs : List Ev} (h : StIs w F q k sd evs) : sd.length = 16 := by obtain ⟨v, vs, h⟩ := h; exact h.sdl
theorem StIs.many {w : World} {F : Nat → Prop} {q k : Nat} {sd : List Sd} {evs : List Ev} (h : StIs w F q k sd evs) : evs.length ≤ 65536 := by obtain ⟨v, vs, h⟩ := h; exact h.many
theorem StIs.wide {w : World} {F : Nat → Prop} {q k : Nat} {sd : List Sd} {evs : List Ev} (h : StIs w F q k sd evs) : ∀ e ∈ evs, e.ty.size ≤ maxLen := by obtain ⟨v, vs, h⟩ := h; exact h.wide
theorem StIs.row {w : World} {F : Nat → Prop} {q k : Nat} {sd : List Sd} {evs : List Ev} (h : StIs w F q k sd evs) : ∃ v vs, w.heap[q]? = some (.cells (stCells k sd v).toArray 63 (0, 0)) ∧ w.ownsRow 0 35 5 v evs.length (rowCells evs vs) ∧ vs.length = evs.length ∧ InF F v ∧
    (∀ i, i < evs.length → ∃ ao c, vs[i]! = .slice ao evs[i]!.ats.length c ∧ (ao = none → c = 0) ∧ Av w w.heap.size vs[i]! evs[i]!.ats ∧ InF F vs[i]!) := by
  obtain ⟨v, vs, h⟩ := h; exact ⟨v, vs, h.blk, h.own, h.vsl, h.fv, h.each⟩

theorem Av.chg {G : Nat → Prop} {w w' : World} {v : Value} {xs : List At} (h : Av w w.heap.size v xs) (hc : Chg G w w') {F : Nat → Prop} (hF : InF F v) (hd : ∀ b, F b → ¬ G b) : Av w' w'.heap.size v xs := by
  obtain ⟨ao, cap, h1, h2, h2', h3⟩ := h.row
  refine ⟨h.wide, h.len, ao, cap, h1, h2, h2', fun hn => ?_⟩
  obtain ⟨b, o, h4, h5, h6⟩ := h3 hn
  refine ⟨b, o, h4, Nat.lt_of_lt_of_le h5 hc.size, fun j hj i u hu => ?_⟩
  have hb : F b := hF ⟨b, o, none⟩ xs.length cap (by rw [h1, h4])
  have := World.cell?_of_block (w := w) (w' := w') (a := ⟨b, o + j * 4 + i, none⟩) (hc.block b h5 (hd b hb))
  rw [this]; exact h6 j hj i u hu
/-- What turns no block of theirs leaves streams as they are. -/
theorem StAt.chg {G F : Nat → Prop} {w w' : World} {q k : Nat} {sd : List Sd} {evs : List Ev} {v : Value} {vs : List Value} (h : StAt w F q k sd evs v vs) (hc : Chg G w w') (hd : ∀ b, F b → ¬ G b) : StAt w' F q k sd evs v vs := by
  refine ⟨h.fq, fun b hb => Nat.lt_of_lt_of_le (h.flt b hb) hc.size, h.k0, h.k16, h.sdl, h.many, h.wide, ?_, ?_, h.vsl, h.fv, fun i hi => ?_, ?_⟩
  · rw [hc.block q (h.flt q h.fq) (hd q h.fq)]; exact h.blk
  · refine ⟨h.own.1, ?_⟩
    rcases h.own.2 with hn | ⟨g, cap, cur, hv, hb, hg, rest⟩
    · exact .inl hn
    · have hgF : F g := h.fv _ _ _ hv
      exact .inr ⟨g, cap, cur, hv, hb, by rw [hc.block g (h.flt g hgF) (hd g hgF)]; exact hg, rest⟩
  · obtain ⟨ao, c, h6, h7, h8, h9⟩ := h.each i hi
    exact ⟨ao, c, h6, h7, h8.chg hc h9 hd, h9⟩
  · exact h.apart
theorem StIs.chg {G F : Nat → Prop} {w w' : World} {q k : Nat} {sd : List Sd} {evs : List Ev} (h : StIs w F q k sd evs) (hc : Chg G w w') (hd : ∀ b, F b → ¬ G b) : StIs w' F q k sd evs := by
  obtain ⟨v, vs, h⟩ := h
  exact ⟨v, vs, h.chg hc hd⟩
theorem StAt.below {F : Nat → Prop} {w w' : World} {q k : Nat} {sd : List Sd} {evs : List Ev} {v : Value} {vs : List Value} (h : StAt w F q k sd evs v vs) (hb : Below w.heap.size w w') : StAt w' F q k sd evs v vs :=
  h.chg (G := fun _ => False) (Chg.of_below hb) (fun _ _ h => h)
theorem StIs.below {F : Nat → Prop} {w w' : World} {q k : Nat} {sd : List Sd} {evs : List Ev} (h : StIs w F q k sd evs) (hb : Below w.heap.size w w') : StIs w' F q k sd evs :=
  h.chg (G := fun _ => False) (Chg.of_below hb) (fun _ _ h => h)
theorem StIs.drew {F : Nat → Prop} {w : World} {q k : Nat} {sd : List Sd} {evs : List Ev} (h : StIs w F q k sd evs) : StIs w.drew F q k sd evs :=
  h.below ((Below.refl _ _).drew)

theorem enc3_len (s : Sd) : (enc3 s).length = 3 := rfl
theorem flat3_len (sd : List Sd) : (sd.flatMap enc3).length = sd.length * 3 := by
  induction sd with
  | nil => rfl
  | cons x r ih => rw [List.flatMap_cons, List.length_append, ih, enc3_len, List.length_cons]; omega
theorem flat3_at (sd : List Sd) (j i : Nat) (hj : j < sd.length) (u : Value) (h : (enc3 sd[j]!)[i]? = some u) : (sd.flatMap enc3)[j * 3 + i]? = some u := by
  induction sd generalizing j with
  | nil => simp at hj
  | cons x r ih =>
    cases j with
    | zero =>
      have hi : i < 3 := by have := (List.getElem?_eq_some_iff.1 h).1; simpa [enc3_len] using this
      rw [List.flatMap_cons, List.getElem?_append_left (by rw [enc3_len]; omega)]
      simpa using h
    | succ j =>
      rw [List.flatMap_cons, List.getElem?_append_right (by rw [enc3_len]; omega), enc3_len, show (j + 1) * 3 + i - 3 = j * 3 + i by omega]
      exact ih j (by simpa using hj) (by simpa using h)
theorem cell_of_st {w : World} {q : Nat} {cs : List Value} {t : Nat} {fr : Nat × Nat} (h : w.heap[q]? = some (.cells cs.toArray t fr)) (i : Nat) : w.cell? ⟨q, i, none⟩ = cs[i]? := by
  simp [World.cell?, h]
theorem free_of_st {w : World} {q : Nat} {cs : Array Value} {t : Nat} (h : w.heap[q]? = some (.cells cs t (0, 0))) (i : Nat) : w.frozen? ⟨q, i, none⟩ = false := by
  simp [World.frozen?, h]
theorem StIs.num {w : World} {F : Nat → Prop} {q k : Nat} {sd : List Sd} {evs : List Ev} (h : StIs w F q k sd evs) : w.cell? ⟨q, 0, none⟩ = some (.int .i64 (k : Int)) := by
  obtain ⟨v, vs, h1, _⟩ := h.row
  rw [cell_of_st h1]; rfl
theorem StIs.said {w : World} {F : Nat → Prop} {q k : Nat} {sd : List Sd} {evs : List Ev} (h : StIs w F q k sd evs) (j : Nat) (hj : j < 16) :
    w.cell? ⟨q, 1 + j * 3, none⟩ = some (.int .i64 sd[j]!.many) ∧ w.cell? ⟨q, 1 + j * 3 + 1, none⟩ = some (.int .i64 sd[j]!.last) ∧ w.cell? ⟨q, 1 + j * 3 + 2, none⟩ = some (.bool sd[j]!.gone) := by
  obtain ⟨v, vs, h1, _⟩ := h.row
  have hl := h.sdl
  have key : ∀ i u, (enc3 sd[j]!)[i]? = some u → w.cell? ⟨q, 1 + j * 3 + i, none⟩ = some u := fun i u hu => by
    have hi : i < 3 := by have := (List.getElem?_eq_some_iff.1 hu).1; simpa [enc3_len] using this
    rw [cell_of_st h1, stCells, show 1 + j * 3 + i = j * 3 + i + 1 by omega, List.getElem?_cons_succ, List.getElem?_append_left (by rw [flat3_len]; omega)]
    exact flat3_at sd j i (by omega) u hu
  exact ⟨key 0 _ rfl, key 1 _ rfl, key 2 _ rfl⟩
theorem StIs.free {w : World} {F : Nat → Prop} {q k : Nat} {sd : List Sd} {evs : List Ev} (h : StIs w F q k sd evs) (i : Nat) : w.frozen? ⟨q, i, none⟩ = false := by
  obtain ⟨v, vs, h1, _⟩ := h.row
  exact free_of_st h1 i
theorem StIs.evs {w : World} {F : Nat → Prop} {q k : Nat} {sd : List Sd} {evs : List Ev} (h : StIs w F q k sd evs) : ∃ ao c, w.cell? ⟨q, 49, none⟩ = some (.slice ao evs.length c) := by
  obtain ⟨v, vs, h1, h2, _⟩ := h.row
  obtain ⟨ao, c, rfl⟩ := own_slice h2
  refine ⟨ao, c, ?_⟩
  rw [cell_of_st h1, stCells, List.getElem?_cons_succ, List.getElem?_append_right (by rw [flat3_len, h.sdl]; omega), flat3_len, h.sdl]
  rfl

theorem sIsMadeS_any (q k : Nat) (w : World) (h : w.cell? ⟨q, 0, none⟩ = some (.int .i64 (k : Int))) (hk : 1 ≤ k) :
    Calls Try.prog 29 #[.pointer (some ⟨q, 0, none⟩)] w fun e w' => e = .returned (.bool true) ∧ w = w' := by
  have hd : decide (0 < k) = true := by simp; omega
  go_enter Try.func29, Try.ntmps29
  go_wp2
  go_ret
  exact ⟨rfl, rfl⟩
def hasB (k : Nat) (n : Int) : Bool := decide (0 ≤ n) && decide (n < (k : Int))
theorem sHas_any (q k : Nat) (n : Int) (w : World) (h : w.cell? ⟨q, 0, none⟩ = some (.int .i64 (k : Int))) :
    Calls Try.prog 31 #[.pointer (some ⟨q, 0, none⟩), .int .i64 n] w fun e w' => e = .returned (.bool (hasB k n)) ∧ w = w' := by
  by_cases h0 : 0 ≤ n
  · by_cases h1 : n < (k : Int)
    · rw [show hasB k n = true by simp [hasB, h0, h1]]
      go_enter Try.func31, Try.ntmps31
      go_wp2
      go_ret
      exact ⟨rfl, rfl⟩
    · rw [show hasB k n = false by simp [hasB, h1]]
      go_enter Try.func31, Try.ntmps31
      go_wp2
      go_ret
      exact ⟨rfl, rfl⟩
  · rw [show hasB k n = false by simp [hasB, h0]]
    go_enter Try.func31, Try.ntmps31
    go_wp2
    go_ret
    exact ⟨rfl, rfl⟩
theorem hasB_nat {k : Nat} {n : Int} (h : hasB k n = true) : ∃ j : Nat, n = (j : Int) ∧ j < k := by
  simp [hasB] at h
  exact ⟨n.toNat, by omega, by omega⟩

def nxErr (s : Sd) (e : Ev) : Int := if s.gone then 43 else if e.seq ≠ s.many then 42 else if e.time < s.last then 41 else 0
set_option maxRecDepth 100000 in
theorem sdNext_any (s : Sd) (ev : Ev) (ao : Option Addr) (n cap : Nat) (w : World) :
    Calls Try.prog 32 #[.agg #[.int .i64 s.many, .int .i64 s.last, .bool s.gone], evV ev (.slice ao n cap)] w fun e w' => e = .returned (.int .i64 (nxErr s ev)) ∧ Below w.heap.size w w' := by
  have hb0 : Below w.heap.size w ((w.alloc (.cells #[.int .i64 s.many, .int .i64 s.last, .bool s.gone] 60)).alloc (.cells #[.int .i64 ev.src, .int .i64 ev.seq, .int .i64 ev.time, .string ev.ty, .slice ao n cap] 35)) := ((Below.refl _ _).alloc (Nat.le_refl _) _).alloc (by simp) _
  have HB := hide hb0
  clear hb0
  unfold evV
  obtain ⟨m, l, g⟩ := s
  obtain ⟨a, b, c, d, e⟩ := ev
  simp only at HB ⊢
  cases g with
  | true =>
    rw [show nxErr _ _ = 43 from rfl]
    go_enter Try.func32, Try.ntmps32
    go_wp2
    go_ret
    exact ⟨rfl, HB.out⟩
  | false =>
    by_cases hq : b = m
    · subst hq
      by_cases ht : c < l
      · rw [show nxErr _ _ = 41 by simp [nxErr, ht]]
        go_enter Try.func32, Try.ntmps32
        go_wp2
        go_ret
        exact ⟨rfl, HB.out⟩
      · rw [show nxErr _ _ = 0 by simp [nxErr, ht]]
        go_enter Try.func32, Try.ntmps32
        go_wp2
        go_ret
        exact ⟨rfl, HB.out⟩
    · have h1 : (b == m) = false := by simp [hq]
      have h2 : (b != m) = true := by simp [hq]
      rw [show nxErr _ _ = 42 by simp [nxErr, hq]]
      go_enter Try.func32, Try.ntmps32
      go_wp2
      go_ret
      exact ⟨rfl, HB.out⟩

def of3 (s : Sd) : Value := .agg #[.int .i64 s.many, .int .i64 s.last, .bool s.gone]
def saidAt (k : Nat) (sd : List Sd) (n : Int) : Sd := if hasB k n then sd[n.toNat]! else ⟨0, 0, false⟩
theorem cell_of_three' {w : World} {q : Nat} {c0 c1 c2 : Value} {t : Nat} {fr : Nat × Nat} (h : w.heap[q]? = some (.cells #[c0, c1, c2] t fr)) : w.cell? ⟨q, 0, none⟩ = some c0 ∧ w.cell? ⟨q, 1, none⟩ = some c1 ∧ w.cell? ⟨q, 2, none⟩ = some c2 := by
  refine ⟨?_, ?_, ?_⟩ <;> simp [World.cell?, h]
end Go.Proofs.Ythjhbnfedelniaa
namespace Go.Proofs.Ythjhbnfedelniaa
open Go Go.RowKit

theorem three_set {w : World} {q : Nat} {c0 c1 c2 : Value} {t : Nat} (h : w.heap[q]? = some (.cells #[c0, c1, c2] t (0, 0))) (d0 d1 d2 : Value) :
    (((w.setCell ⟨q, 0, none⟩ d0).setCell ⟨q, 1, none⟩ d1).setCell ⟨q, 2, none⟩ d2).heap[q]? = some (.cells #[d0, d1, d2] t (0, 0)) := by
  rw [heap_setCell_same (heap_setCell_same (heap_setCell_same h _) _) _]
  simp
theorem below_three {B q : Nat} {a w : World} (h : Below B a w) (hq : B ≤ q) (d0 d1 d2 : Value) :
    Below B a (((w.setCell ⟨q, 0, none⟩ d0).setCell ⟨q, 1, none⟩ d1).setCell ⟨q, 2, none⟩ d2) :=
  ((h.setCell (p := ⟨q, 0, none⟩) hq _).setCell (p := ⟨q, 1, none⟩) hq _).setCell (p := ⟨q, 2, none⟩) hq _
theorem saidAt_no {k : Nat} {sd : List Sd} {n : Int} (h : hasB k n = false) : saidAt k sd n = ⟨0, 0, false⟩ := by unfold saidAt; rw [h]; rfl
theorem saidAt_nat {k : Nat} {sd : List Sd} {j : Nat} (h : j < k) : saidAt k sd (j : Int) = sd[j]! := by
  unfold saidAt; rw [show hasB k (j : Int) = true by simp [hasB]; omega, if_pos rfl]; rfl

set_option maxRecDepth 100000 in
set_option maxHeartbeats 1600000 in
theorem sOf_any (F : Nat → Prop) (q k : Nat) (sd : List Sd) (evs : List Ev) (n : Int) (w : World) (h : StIs w F q k sd evs) :
    Calls Try.prog 36 #[.pointer (some ⟨q, 0, none⟩), .int .i64 n] w fun e w' => e = .returned (of3 (saidAt k sd n)) ∧ Below w.heap.size w w' := by
  have hlt := h.flt q h.fq
  have h0 := h.num
  have hk1 := h.k0
  have hx : (w.alloc (.cells #[.int .i64 0, .int .i64 0, .bool false] 60)).heap[w.heap.size]? = some (.cells #[.int .i64 0, .int .i64 0, .bool false] 60 (0, 0)) := heap_alloc_new w _
  have HX := hide hx
  have hm : (w.alloc (.cells #[.int .i64 0, .int .i64 0, .bool false] 60)).cell? ⟨q, 0, none⟩ = some (.int .i64 (k : Int)) := Lib.cell?_alloc_some _ h0
  have C1 := sIsMadeS_any q k _ hm hk1
  have C2 := sHas_any q k n _ hm
  obtain ⟨f0, f1, f2⟩ := cell_of_three' hx
  have g0 := free_of_st hx 0; have g1 := free_of_st hx 1; have g2 := free_of_st hx 2
  cases hh : hasB k n with
  | false =>
    rw [saidAt_no hh]
    rw [hh] at C2
    have HC1 := hide C1; have HC2 := hide C2
    have HH := hide h
    clear C1 C2 h hh hx hm h0
    go_enter Try.func36, Try.ntmps36
    go_wp2_with (first | (go_at_call 29; (with_reducible refine (HC1.out).mono ?_); rintro e w1 ⟨rfl, rfl⟩) | (go_at_call 31; (with_reducible refine (HC2.out).mono ?_); rintro e w1 ⟨rfl, rfl⟩))
    refine bodyPost_ret (v := .agg #[.int .i64 0, .int .i64 0, .bool false]) (by simp [results, Try.results36, go_sem]) rfl ⟨rfl, ?_⟩
    exact (Below.refl _ _).alloc (Nat.le_refl _) _
  | true =>
    obtain ⟨j, rfl, hj⟩ := hasB_nat hh
    rw [saidAt_nat hj]
    rw [hh] at C2
    have hj16 : j < 16 := by have := h.k16; omega
    obtain ⟨s0, s1, s2⟩ := h.said j hj16
    have hne : q ≠ w.heap.size := by omega
    have hj0 : (0 : Int) ≤ (j : Int) := by omega
    have hj1 : (j : Int) < 16 := by omega
    generalize sd[j]! = sj at s0 s1 s2
    obtain ⟨m, l, g⟩ := sj
    simp only at s0 s1 s2
    unfold of3
    simp only
    have HC1 := hide C1; have HC2 := hide C2
    clear C1 C2 h hh hx hm h0
    go_enter Try.func36, Try.ntmps36
    go_wp2_with (first | (go_at_call 29; (with_reducible refine (HC1.out).mono ?_); rintro e w1 ⟨rfl, rfl⟩) | (go_at_call 31; (with_reducible refine (HC2.out).mono ?_); rintro e w1 ⟨rfl, rfl⟩))
    refine bodyPost_ret (v := .agg #[.int .i64 m, .int .i64 l, .bool g]) (by simp [results, Try.results36, go_sem]) rfl ⟨rfl, ?_⟩
    exact (Below.refl _ _).alloc (Nat.le_refl _) _

def markI (s : Sd) : Int := if s.gone then 1099511627777 else s.last
set_option maxRecDepth 100000 in
theorem sMark_any (F : Nat → Prop) (q k : Nat) (sd : List Sd) (evs : List Ev) (n : Int) (w : World) (h : StIs w F q k sd evs) :
    Calls Try.prog 15 #[.pointer (some ⟨q, 0, none⟩), .int .i64 n] w fun e w' => e = .returned (.int .i64 (markI (saidAt k sd n))) ∧ Below w.heap.size w w' := by
  have C := sOf_any F q k sd evs n w h
  generalize saidAt k sd n = sj at C
  obtain ⟨m, l, g⟩ := sj
  unfold of3 at C
  simp only at C
  have HC := hide C
  clear C h
  cases g with
  | true =>
    rw [show markI _ = 1099511627777 from rfl]
    go_enter Try.func15, Try.ntmps15
    go_wp2_with (go_at_call 36; (with_reducible refine (HC.out).mono ?_); rintro e w1 ⟨rfl, hb⟩; have HB := hide hb; clear hb)
    go_ret
    exact ⟨rfl, HB.out.alloc HB.out.size _⟩
  | false =>
    rw [show markI _ = l from rfl]
    go_enter Try.func15, Try.ntmps15
    go_wp2_with (go_at_call 36; (with_reducible refine (HC.out).mono ?_); rintro e w1 ⟨rfl, hb⟩; have HB := hide hb; clear hb)
    go_ret
    exact ⟨rfl, HB.out.alloc HB.out.size _⟩
theorem said_field0 (m l : Int) (g : Bool) (w : World) : (Instr.field 60 (.agg #[.int .i64 m, .int .i64 l, .bool g]) 0).run Try.prog w = .ok (.int .i64 m) w := by
  have a2 := Try.isAgg2; have z2 := Try.sizeOf2
  unfold Instr.field
  go_simp
  unfold asAgg
  go_simp
theorem said_field2 (m l : Int) (g : Bool) (w : World) : (Instr.field 60 (.agg #[.int .i64 m, .int .i64 l, .bool g]) 2).run Try.prog w = .ok (.bool g) w := by
  have a2 := Try.isAgg4; have z2 := Try.sizeOf4
  unfold Instr.field
  go_simp
  unfold asAgg
  go_simp
set_option maxRecDepth 100000 in
theorem sNext_any (F : Nat → Prop) (q k : Nat) (sd : List Sd) (evs : List Ev) (n : Int) (w : World) (h : StIs w F q k sd evs) :
    Calls Try.prog 13 #[.pointer (some ⟨q, 0, none⟩), .int .i64 n] w fun e w' => e = .returned (.int .i64 (saidAt k sd n).many) ∧ Below w.heap.size w w' := by
  have C := sOf_any F q k sd evs n w h
  generalize saidAt k sd n = sj at C
  obtain ⟨m, l, g⟩ := sj
  unfold of3 at C
  simp only at C
  have HC := hide C
  clear C h
  have e0 := said_field0 m l g
  go_enter Try.func13, Try.ntmps13
  go_wp2_with (go_at_call 36; (with_reducible refine (HC.out).mono ?_); rintro e w1 ⟨rfl, hb⟩; have HB := hide hb; clear hb)
  go_ret
  exact ⟨rfl, HB.out⟩
set_option maxRecDepth 100000 in
theorem sClosed_any (F : Nat → Prop) (q k : Nat) (sd : List Sd) (evs : List Ev) (n : Int) (w : World) (h : StIs w F q k sd evs) :
    Calls Try.prog 17 #[.pointer (some ⟨q, 0, none⟩), .int .i64 n] w fun e w' => e = .returned (.bool (saidAt k sd n).gone) ∧ Below w.heap.size w w' := by
  have C := sOf_any F q k sd evs n w h
  generalize saidAt k sd n = sj at C
  obtain ⟨m, l, g⟩ := sj
  unfold of3 at C
  simp only at C
  have HC := hide C
  clear C h
  have e2 := said_field2 m l g
  go_enter Try.func17, Try.ntmps17
  go_wp2_with (go_at_call 36; (with_reducible refine (HC.out).mono ?_); rintro e w1 ⟨rfl, hb⟩; have HB := hide hb; clear hb)
  go_ret
  exact ⟨rfl, HB.out⟩
set_option maxRecDepth 100000 in
theorem sLen_any (F : Nat → Prop) (q k : Nat) (sd : List Sd) (evs : List Ev) (w : World) (h : StIs w F q k sd evs) :
    Calls Try.prog 19 #[.pointer (some ⟨q, 0, none⟩)] w fun e w' => e = .returned (.int .i64 (evs.length : Int)) ∧ w = w' := by
  have C := sIsMadeS_any q k w h.num h.k0
  obtain ⟨ao, c, he⟩ := h.evs
  have hm := h.many
  generalize evs.length = m at he hm
  have HC := hide C
  clear C h
  go_enter Try.func19, Try.ntmps19
  go_wp2_with (go_at_call 29; (with_reducible refine (HC.out).mono ?_); rintro e w1 ⟨rfl, rfl⟩)
  go_ret
  exact ⟨rfl, rfl⟩
/-- New. -/
def sd0 : List Sd := List.replicate 16 ⟨0, 0, false⟩
set_option maxRecDepth 100000 in
set_option maxHeartbeats 1600000 in
theorem eNew_ok (k : Nat) (h1 : 1 ≤ k) (h2 : k ≤ 16) (w : World) :
    Calls Try.prog 5 #[.int .i64 (k : Int)] w fun e w' => e = .returned (.tuple #[.pointer (some ⟨w.heap.size, 0, none⟩), .int .i64 0]) ∧ StIs w' (fun b => b = w.heap.size) w.heap.size k sd0 [] ∧ Below w.heap.size w w' := by
  have hk1 : ¬ (k : Int) < 1 := by omega
  have hk2 : (k : Int) ≤ 16 := by omega
  go_enter Try.func5, Try.ntmps5
  go_wp2
  go_ret2
  refine ⟨rfl, ⟨.slice none 0 0, [], rfl, fun b hb => by rw [hb]; simp, h1, h2, rfl, by simp, by simp, ?_, World.ownsRow_nil _ _ _ _, rfl, (fun a n c h => by cases h), (fun i hi => by simp at hi), fun i hi => by simp at hi⟩, (Below.refl _ _).alloc (Nat.le_refl _) _⟩
  exact heap_alloc_new w _
theorem eNew_no (n : Int) (h : n < 1 ∨ 16 < n) (w : World) :
    Calls Try.prog 5 #[.int .i64 n] w fun e w' => e = .returned (.tuple #[.pointer none, .int .i64 1]) ∧ w = w' := by
  rcases h with h | h
  · go_enter Try.func5, Try.ntmps5
    go_wp2
    go_ret2
    exact ⟨rfl, rfl⟩
  · have h1 : ¬ n < 1 := by omega
    go_enter Try.func5, Try.ntmps5
    go_wp2
    go_ret2
    exact ⟨rfl, rfl⟩
end Go.Proofs.Ythjhbnfedelniaa
namespace Go.Proofs.Ythjhbnfedelniaa
open Go Go.RowKit

/-- The block of v' is the block of v, or a new one. -/
def BlkOk (w : World) (v v' : Value) : Prop := v'.ownBlock = v.ownBlock ∨ ∀ g, v'.ownBlock = some g → w.heap.size ≤ g
theorem run_append_blk {P : Program} (w : World) (base : Nat) (t ty e : TypeId) (i : TypeInfo) (z : Value) (size bytes : Nat) (ht : P.underlying t = some (.slice e)) (hi : P.info? e = some i) (hz : i.zero = some z)
    (hsize : i.size = size) (hby : i.bytes = bytes) (hzs : z.cells.size = size) (hsz : 0 < size)
    (v : Value) (n : Nat) (xs : List Value) (hown : w.ownsRow base e size v n xs)
    (a : Addr) (m c : Nat) (news : List Value) (hl : news.length = m * size) (hnews : ∀ j u, news[j]? = some u → w.cell? (a.add j) = some u) (h1 : ∀ u ∈ news, u.oneCell' = true)
    (h63 : n + m ≤ maxLen) (hbytes : (n + m) * bytes ≤ 140737488355328) (hbase : base ≤ w.heap.size) :
    ∃ v' w', (Builtin.append_ #[t, t] ty #[v, .slice (some a) m c]).run P w = .ok v' w' ∧ w'.ownsRow base e size v' (n + m) (xs ++ news) ∧ w.grownBy w' v.ownBlock ∧ BlkOk w v v' := by
  obtain ⟨v', w', hr, h2, h3, _⟩ := run_append_own (P := P) w base t ty e i z size bytes ht hi hz hsize hby hzs hsz v n xs hown a m c news hl hnews h1 h63 hbytes hbase
  refine ⟨v', w', hr, h2, h3, ?_⟩
  rcases hown.2 with ⟨rfl, rfl⟩ | ⟨g, cap, cur, rfl, hbg, hg, hnc, hcm, hcs, htake⟩
  · have hx : xs = [] := List.eq_nil_of_length_eq_zero (by simpa using hown.1)
    subst hx
    obtain ⟨v2, w2, hr2, h4, _, _⟩ := run_append_own (P := P) w w.heap.size t ty e i z size bytes ht hi hz hsize hby hzs hsz (.slice none 0 0) 0 [] (World.ownsRow_nil _ _ _ _) a m c news hl hnews h1 h63 hbytes (Nat.le_refl _)
    rw [hr] at hr2
    simp only [Result.ok.injEq] at hr2
    obtain ⟨rfl, rfl⟩ := hr2
    exact .inr fun g hg => (h4.lt g hg).1
  · by_cases hroom : n + m ≤ cap
    · obtain ⟨w2, hr2, _, _⟩ := run_append_fits (P := P) w base t ty e i size ht hi hsize g n cap xs hown a m c news hl hnews h1 hroom
      rw [hr] at hr2
      simp only [Result.ok.injEq] at hr2
      obtain ⟨rfl, rfl⟩ := hr2
      exact .inl rfl
    · subst hsize
      subst hby
      have hsmall : n + m ≤ 9223372036854775807 := by simp only [maxLen] at h63; omega
      have hr2 := run_append_grow (P := P) w t ty e i z ht hi hz ⟨g, 0, none⟩ n cap xs hown.1 (hown.cells (g := g) rfl) a m c news hl hnews (by omega) (by omega) (growslice_fits (by omega) hbytes)
      rw [hr] at hr2
      simp only [Result.ok.injEq] at hr2
      obtain ⟨rfl, rfl⟩ := hr2
      refine .inr fun g' hg' => ?_
      simp only [Value.ownBlock, Option.some.injEq] at hg'
      omega
theorem step_append_blk {P : Program} {ops : Array Oper} {o : Oper} {a : Act} {w : World} {K : Act → World → Prop} {Q : Exit → Act → World → Prop} {E : Prop}
    (hg : o.guard = none) (s x : Operand) (t : TypeId) (hop : o.op = Op.call { callee := Callee.builtin Builtin.append, args := #[s, x], argTypes := #[t, t] })
    (base : Nat) (e : TypeId) (i : TypeInfo) (z : Value) (size bytes : Nat) (h1 : P.underlying t = some (.slice e)) (h2 : P.info? e = some i) (h3 : i.zero = some z) (h4 : i.size = size) (h5 : i.bytes = bytes) (h6 : z.cells.size = size) (h7 : 0 < size)
    (v : Value) (n : Nat) (xs : List Value) (hs : a.eval s = v) (hown : w.ownsRow base e size v n xs)
    (ad : Addr) (m c : Nat) (news : List Value) (hx : a.eval x = .slice (some ad) m c) (hn : news.length = m * size) (hc : ∀ j u, news[j]? = some u → w.cell? (ad.add j) = some u) (h1c : ∀ u ∈ news, u.oneCell' = true)
    (b1 : n + m ≤ maxLen) (b2 : (n + m) * bytes ≤ 140737488355328) (hbase : base ≤ w.heap.size)
    (hK : ∀ v' w', w'.ownsRow base e size v' (n + m) (xs ++ news) → w.grownBy w' v.ownBlock → BlkOk w v v' → K (a.put o.dst v') w') :
    if Region.wanted o (yielded ops a.tmps) = true then Oper.wp P o a w K Q else E := by
  have hw : Region.wanted o (yielded ops a.tmps) = true := by simp [Region.wanted, hg]
  rw [if_pos hw]
  obtain ⟨v', w', hrun, r1, r2, r3⟩ := run_append_blk (P := P) w base t o.type e i z size bytes h1 h2 h3 h4 h5 h6 h7 v n xs hown ad m c news hn hc h1c b1 b2 hbase
  unfold Oper.wp
  simp [execOp, hop, resolve, invoke, builtin, hs, hx, hrun, Result.andThen]
  exact hK v' w' r1 r2 r3

/-- A call of a Go function by its contract, as one step of a region that draws its order. -/
theorem step_go_call {P : Program} {ops : Array Oper} {o : Oper} {a : Act} {w : World} {K : Act → World → Prop} {Q : Exit → Act → World → Prop} {E : Prop} {R : Ending → World → Prop}
    (hg : o.guard = none) (f : FuncId) {fn : Func} (hfn : P.funcs[f]? = some fn) (hnm : fn.name ≠ "runtime.NumGoroutine") (hbd : fn.body ≠ none) (x : Operand) (t : TypeId) (hop : o.op = Op.call { callee := Callee.value (Operand.func f), args := #[x], argTypes := #[t] })
    (v : Value) (hx : a.eval x = v) (hC : Calls P f #[v] w R) (hK : ∀ v w', R (.returned v) w' → K (a.put o.dst v) w') (hp : ∀ ch w', ¬ R (.panicked ch) w') (ho : ∀ w', ¬ R .outgrown w') :
    if Region.wanted o (yielded ops a.tmps) = true then Oper.wp P o a w K Q else E := by
  have hw : Region.wanted o (yielded ops a.tmps) = true := by simp [Region.wanted, hg]
  rw [if_pos hw]
  unfold Oper.wp
  have hf : a.eval (.func f) = .func (.func f) #[] #[] := rfl
  simp [execOp, hop, resolve, invoke, hx, hf, Result.andThen, Deferred.ofValue, callFunc, hfn, hnm, hbd]
  rw [Oper.upon_enter]
  refine hC.mono fun e w' h => ?_
  cases e with
  | returned v => exact hK v w' h
  | panicked ch => exact absurd h (hp ch w')
  | outgrown => exact absurd h (ho w')
end Go.Proofs.Ythjhbnfedelniaa
namespace Go.Proofs.Ythjhbnfedelniaa
open Go Go.RowKit

theorem set_flat3 : ∀ (sd : List Sd) (j : Nat) (a b : Int), j < sd.length →
    ((sd.flatMap enc3).set (j * 3) (.int .i64 a)).set (j * 3 + 1) (.int .i64 b) = (sd.set j ⟨a, b, sd[j]!.gone⟩).flatMap enc3
  | [], j, a, b, h => by simp at h
  | x :: r, 0, a, b, h => by simp [enc3]
  | x :: r, j + 1, a, b, h => by
    have ih := set_flat3 r j a b (by simpa using h)
    rw [List.flatMap_cons, List.set_cons_succ, List.flatMap_cons, List.getElem!_cons_succ, ← ih]
    rw [List.set_append_right _ _ (by rw [enc3_len]; omega), enc3_len, show (j + 1) * 3 - 3 = j * 3 by omega]
    rw [List.set_append_right _ _ (by rw [enc3_len]; omega), enc3_len, show (j + 1) * 3 + 1 - 3 = j * 3 + 1 by omega]
theorem set_flat3g : ∀ (sd : List Sd) (j : Nat) (g : Bool), j < sd.length →
    (sd.flatMap enc3).set (j * 3 + 2) (.bool g) = (sd.set j ⟨sd[j]!.many, sd[j]!.last, g⟩).flatMap enc3
  | [], j, g, h => by simp at h
  | x :: r, 0, g, h => by simp [enc3]
  | x :: r, j + 1, g, h => by
    have ih := set_flat3g r j g (by simpa using h)
    rw [List.flatMap_cons, List.set_cons_succ, List.flatMap_cons, List.getElem!_cons_succ, ← ih]
    rw [List.set_append_right _ _ (by rw [enc3_len]; omega), enc3_len, show (j + 1) * 3 + 2 - 3 = j * 3 + 2 by omega]
theorem stCells_set (k : Int) (sd : List Sd) (v : Value) (j : Nat) (a b : Int) (hj : j < sd.length) :
    ((stCells k sd v).set (1 + j * 3) (.int .i64 a)).set (1 + j * 3 + 1) (.int .i64 b) = stCells k (sd.set j ⟨a, b, sd[j]!.gone⟩) v := by
  unfold stCells
  rw [show 1 + j * 3 = j * 3 + 1 by omega, List.set_cons_succ, List.set_cons_succ, List.set_append_left _ _ (by rw [flat3_len]; omega), List.set_append_left _ _ (by rw [List.length_set, flat3_len]; omega), set_flat3 sd j a b hj]
theorem stCells_setg (k : Int) (sd : List Sd) (v : Value) (j : Nat) (g : Bool) (hj : j < sd.length) :
    (stCells k sd v).set (1 + j * 3 + 2) (.bool g) = stCells k (sd.set j ⟨sd[j]!.many, sd[j]!.last, g⟩) v := by
  unfold stCells
  rw [show 1 + j * 3 + 2 = j * 3 + 2 + 1 by omega, List.set_cons_succ, List.set_append_left _ _ (by rw [flat3_len]; omega), set_flat3g sd j g hj]
theorem stCells_setv (k : Int) (sd : List Sd) (v v' : Value) (hl : sd.length = 16) : (stCells k sd v).set 49 v' = stCells k sd v' := by
  unfold stCells
  rw [List.set_cons_succ, List.set_append_right _ _ (by rw [flat3_len]; omega), flat3_len, hl]
  rfl
theorem setCell_list {w : World} {q i : Nat} {cs : List Value} {t : Nat} {fr : Nat × Nat} (h : w.heap[q]? = some (.cells cs.toArray t fr)) (u : Value) :
    (w.setCell ⟨q, i, none⟩ u).heap[q]? = some (.cells (cs.set i u).toArray t fr) := by
  rw [heap_setCell_same h u]; simp
theorem Chg.setCell {F : Nat → Prop} {a w : World} (h : Chg F a w) {p : Addr} (hp : F p.block) (u : Value) : Chg F a (w.setCell p u) :=
  ⟨h.os, h.tape, h.output, by simpa using h.size, fun k hk hf => by
    rw [Below.heap_setCell _ _ _ _ (fun e => hf (by rw [e]; exact hp))]; exact h.block k hk hf⟩
theorem Chg.drew {F : Nat → Prop} {a w : World} (h : Chg F a w) : Chg F a w.drew := ⟨h.os, h.tape, h.output, h.size, h.block⟩

/-- A store into the streams' own block leaves their rows. -/
theorem StAt.store {w : World} {F : Nat → Prop} {q k : Nat} {sd sd' : List Sd} {evs : List Ev} {v : Value} {vs : List Value} (h : StAt w F q k sd evs v vs) {w' : World}
    (hc : Chg (fun b => b = q) w w') (hq : w'.heap[q]? = some (.cells (stCells k sd' v).toArray 63 (0, 0))) (hl : sd'.length = 16) : StAt w' F q k sd' evs v vs := by
  refine ⟨h.fq, fun b hb => Nat.lt_of_lt_of_le (h.flt b hb) hc.size, h.k0, h.k16, hl, h.many, h.wide, hq, ?_, h.vsl, h.fv, fun i hi => ?_, h.apart⟩
  · refine ⟨h.own.1, ?_⟩
    rcases h.own.2 with hn | ⟨g, cap, cur, hv, hb, hg, rest⟩
    · exact .inl hn
    · have hgq : g ≠ q := by
        rintro rfl
        have := h.blk
        rw [hg] at this
        simp only [Option.some.injEq, Obj.cells.injEq] at this
        exact absurd this.2.1 (by decide)
      exact .inr ⟨g, cap, cur, hv, hb, by rw [hc.block g (h.flt g (h.fv _ _ _ hv)) hgq]; exact hg, rest⟩
  · obtain ⟨ao, c, h6, h7, h8, h9⟩ := h.each i hi
    refine ⟨ao, c, h6, h7, ?_, h9⟩
    obtain ⟨ao2, cap2, a1, a2, a2', a3⟩ := h8.row
    refine ⟨h8.wide, h8.len, ao2, cap2, a1, a2, a2', fun hn => ?_⟩
    obtain ⟨b, o, a4, a5, a6⟩ := a3 hn
    have hbq : b ≠ q := (h.apart i hi ⟨b, o, none⟩ _ _ (by rw [a1, a4])).1
    refine ⟨b, o, a4, Nat.lt_of_lt_of_le a5 hc.size, fun j hj i u hu => ?_⟩
    have := World.cell?_of_block (w := w) (w' := w') (a := ⟨b, o + j * 4 + i, none⟩) (hc.block b a5 hbq)
    rw [this]; exact a6 j hj i u hu

theorem rowCells_snoc : ∀ (evs : List Ev) (vs : List Value) (e : Ev) (v : Value), vs.length = evs.length → rowCells (evs ++ [e]) (vs ++ [v]) = rowCells evs vs ++ evCells e v
  | [], [], e, v, _ => by simp [rowCells]
  | [], _ :: _, e, v, h => by simp at h
  | _ :: _, [], e, v, h => by simp at h
  | a :: r, b :: t, e, v, h => by
    have ih := rowCells_snoc r t e v (by simpa using h)
    unfold rowCells at ih ⊢
    simp only [List.cons_append, List.zip_cons_cons, List.flatMap_cons, List.append_assoc] at ih ⊢
    rw [ih]
theorem getElem!_snoc_lt {α : Type} [Inhabited α] (l : List α) (x : α) (i : Nat) (h : i < l.length) : (l ++ [x])[i]! = l[i]! := by
  rw [getElem!_pos (l ++ [x]) i (by simp; omega), getElem!_pos l i h, List.getElem_append_left]
theorem getElem!_snoc_eq {α : Type} [Inhabited α] (l : List α) (x : α) : (l ++ [x])[l.length]! = x := by
  rw [getElem!_pos (l ++ [x]) l.length (by simp)]; simp
/-- The blocks of F, and those that came since. -/
def Fnew (F : Nat → Prop) (a b : Nat) : Nat → Prop := fun j => F j ∨ (a ≤ j ∧ j < b)

theorem StAt.qv {w : World} {F : Nat → Prop} {q k : Nat} {sd : List Sd} {evs : List Ev} {v : Value} {vs : List Value} (h : StAt w F q k sd evs v vs) : v.ownBlock ≠ some q := fun e => by
  rcases h.own.2 with ⟨hv, _⟩ | ⟨g, cap, cur, hv, _, hgg, _⟩
  · rw [hv] at e; simp [Value.ownBlock] at e
  · rw [hv] at e
    simp only [Value.ownBlock, Option.some.injEq] at e
    subst e
    have := h.blk
    rw [hgg] at this
    simp only [Option.some.injEq, Obj.cells.injEq] at this
    exact absurd this.2.1 (by decide)
/-- An event that is accepted: its copy in memory of its own, its cells behind the row, the row laid into the streams. -/
theorem StAt.accepted {wa wb wc wd : World} {F : Nat → Prop} {q k : Nat} {sd : List Sd} {evs : List Ev} {v v3 v' : Value} {vs : List Value} {ev : Ev} (h : StAt wa F q k sd evs v vs)
    (hty : ev.ty.size ≤ maxLen) (hw : ∀ x ∈ ev.ats, x.name.size ≤ maxLen ∧ x.s.size ≤ maxLen) (hal : ev.ats.length * 48 ≤ 140737488355328)
    (hb : Below wa.heap.size wa wb) (ho : wb.ownsRow wa.heap.size 57 4 v3 ev.ats.length (ev.ats.flatMap enc4)) (hbc : Below wb.heap.size wb wc)
    (hrow : wd.ownsRow 0 35 5 v' (evs.length + 1) (rowCells evs vs ++ evCells ev v3)) (hg : wc.grownBy wd v.ownBlock) (hblk : BlkOk wc v v') (hlen : evs.length + 1 ≤ 65536) :
    StAt (wd.setCell ⟨q, 49, none⟩ v') (Fnew F wa.heap.size wd.heap.size) q k sd (evs ++ [ev]) v' (vs ++ [v3]) ∧ Chg F wa (wd.setCell ⟨q, 49, none⟩ v') := by
  have hac : Below wa.heap.size wa wc := hb.trans (hbc.mono hb.size)
  have hqv : v.ownBlock ≠ some q := fun e => by
    rcases h.own.2 with ⟨hv, _⟩ | ⟨g, cap, cur, hv, _, hgg, _⟩
    · rw [hv] at e; simp [Value.ownBlock] at e
    · rw [hv] at e
      simp only [Value.ownBlock, Option.some.injEq] at e
      subst e
      have := h.blk
      rw [hgg] at this
      simp only [Option.some.injEq, Obj.cells.injEq] at this
      exact absurd this.2.1 (by decide)
  have hvF : ∀ j, v.ownBlock = some j → F j := fun j hj => by
    cases v with
    | slice a n c =>
      cases a with
      | none => simp [Value.ownBlock] at hj
      | some a => simp only [Value.ownBlock, Option.some.injEq] at hj; rw [← hj]; exact h.fv a n c rfl
    | _ => simp [Value.ownBlock] at hj
  have sz1 := hac.size; have sz2 := hg.size
  have hcd : Chg F wa wd := ⟨hg.os.trans hac.os, hg.tape.trans hac.tape, hg.output.trans hac.output, by omega, fun j hj hf => by
    rw [hg.block j (by omega) (fun e => hf (hvF j e.symm))]; exact hac.block j hj⟩
  have hce : Chg F wa (wd.setCell ⟨q, 49, none⟩ v') := hcd.setCell h.fq _
  have hqd : wd.heap[q]? = some (.cells (stCells k sd v).toArray 63 (0, 0)) := by
    rw [hg.block q (by have := h.flt q h.fq; omega) (fun e => hqv e.symm), hac.block q (h.flt q h.fq)]; exact h.blk
  have hown' := ownsRow_setCell_typed (a := ⟨q, 49, none⟩) hrow hqd (by decide) v'
  have hvb' : ∀ a n c, v' = .slice (some a) n c → Fnew F wa.heap.size wd.heap.size a.block := fun a n c e => by
    have hb' : v'.ownBlock = some a.block := by rw [e]; rfl
    have hlt := (hrow.lt _ hb').2
    rcases hblk with h1 | h1
    · exact .inl (hvF _ (by rw [← h1]; exact hb'))
    · exact .inr ⟨by have := h1 _ hb'; omega, hlt⟩
  refine ⟨⟨.inl h.fq, fun b hb => ?_, h.k0, h.k16, h.sdl, by simpa using hlen, ?_, ?_, ?_, by simp [h.vsl], hvb', fun i hi => ?_, fun i hi a n c e => ?_⟩, hce⟩
  · simp only [World.setCell, Array.size_modify]
    rcases hb with hb | hb
    · have := h.flt b hb; omega
    · exact hb.2
  · intro e he
    rcases List.mem_append.1 he with he | he
    · exact h.wide e he
    · simp only [List.mem_singleton] at he; subst he; exact hty
  · rw [setCell_list hqd, stCells_setv _ _ _ _ h.sdl]
  · rw [rowCells_snoc _ _ _ _ h.vsl, List.length_append]; exact hown'
  · simp only [List.length_append, List.length_singleton] at hi
    by_cases hlt : i < evs.length
    · rw [getElem!_snoc_lt evs ev i hlt, getElem!_snoc_lt vs v3 i (by rw [h.vsl]; exact hlt)]
      obtain ⟨ao, c, h6, h7, h8, h9⟩ := h.each i hlt
      refine ⟨ao, c, h6, h7, ?_, fun a n c e => .inl (h9 a n c e)⟩
      obtain ⟨ao2, cap2, a1, a2, a2', a3⟩ := h8.row
      refine ⟨h8.wide, h8.len, ao2, cap2, a1, a2, a2', fun hn => ?_⟩
      obtain ⟨b, o, a4, a5, a6⟩ := a3 hn
      obtain ⟨n1, n2⟩ := h.apart i hlt ⟨b, o, none⟩ _ _ (by rw [a1, a4])
      refine ⟨b, o, a4, by simp only [World.setCell, Array.size_modify]; omega, fun j hj i u hu => ?_⟩
      have e1 : (wd.setCell ⟨q, 49, none⟩ v').heap[b]? = wa.heap[b]? := by
        rw [Below.heap_setCell _ _ _ _ n1, hg.block b (by omega) (fun e => n2 e.symm), hac.block b a5]
      rw [World.cell?_of_block (w := wa) (a := ⟨b, o + j * 4 + i, none⟩) e1]; exact a6 j hj i u hu
    · obtain rfl : i = evs.length := by omega
      rw [getElem!_snoc_eq]
      have e0 : (vs ++ [v3])[evs.length]! = v3 := by rw [← h.vsl]; exact getElem!_snoc_eq vs v3
      rw [e0]
      have hav := Av.of_own ho hw hal
      have hbe : ∀ j, wa.heap.size ≤ j → j < wb.heap.size → (wd.setCell ⟨q, 49, none⟩ v').heap[j]? = wb.heap[j]? := fun j h1 h2 => by
        rw [Below.heap_setCell _ _ _ _ (by have := h.flt q h.fq; simp; omega), hg.block j (by have := hbc.size; omega) (fun e => by have := h.flt j (hvF j e.symm); omega), hbc.block j h2]
      obtain ⟨ao, c, rfl⟩ := own_slice ho
      have hnil : ao = none → c = 0 := fun e => by
        rcases ho.2 with ⟨h0, _⟩ | ⟨g, cap, cur, h0, _⟩
        · simp only [Value.slice.injEq] at h0; exact h0.2.2
        · subst e; cases h0
      refine ⟨ao, c, rfl, hnil, ?_, fun a n c e => .inr ?_⟩
      · obtain ⟨ao2, cap2, a1, a2, a2', a3⟩ := hav.row
        refine ⟨hav.wide, hav.len, ao2, cap2, a1, a2, a2', fun hn => ?_⟩
        obtain ⟨b, o, a4, a5, a6⟩ := a3 hn
        have hlo : wa.heap.size ≤ b := (ho.lt b (by rw [a1, a4]; rfl)).1
        refine ⟨b, o, a4, by simp only [World.setCell, Array.size_modify]; have := hbc.size; omega, fun j hj i u hu => ?_⟩
        rw [World.cell?_of_block (w := wb) (a := ⟨b, o + j * 4 + i, none⟩) (hbe b hlo a5)]; exact a6 j hj i u hu
      · have := ho.lt a.block (by rw [e]; rfl)
        have := hbc.size
        exact ⟨by omega, by omega⟩
  · simp only [List.length_append, List.length_singleton] at hi
    by_cases hlt : i < evs.length
    · rw [getElem!_snoc_lt vs v3 i (by rw [h.vsl]; exact hlt)] at e
      obtain ⟨n1, n2⟩ := h.apart i hlt a n c e
      refine ⟨n1, ?_⟩
      obtain ⟨ao, c', h6, h7, h8, h9⟩ := h.each i hlt
      have hF := h9 a n c e
      rcases hblk with h1 | h1
      · rw [h1]; exact n2
      · intro e2; have := h1 _ e2; have := h.flt _ hF; omega
    · obtain rfl : i = evs.length := by omega
      rw [← h.vsl, getElem!_snoc_eq] at e
      have hl := ho.lt a.block (by rw [e]; rfl)
      refine ⟨by have := h.flt q h.fq; omega, ?_⟩
      rcases hblk with h1 | h1
      · rw [h1]; intro e2; have := h.flt _ (hvF _ e2); omega
      · intro e2
        have := h1 _ e2
        have := hbc.size
        omega

theorem Av.apart {G : Nat → Prop} {w w' : World} {B : Nat} {v : Value} {xs : List At} (h : Av w B v xs) (hB : B ≤ w.heap.size) (hc : Chg G w w') (hne : ∀ a n c, v = .slice (some a) n c → 0 < n → ¬ G a.block) : Av w' B v xs := by
  obtain ⟨ao, cap, h1, h2, h2', h3⟩ := h.row
  refine ⟨h.wide, h.len, ao, cap, h1, h2, h2', fun hn => ?_⟩
  obtain ⟨b, o, h4, h5, h6⟩ := h3 hn
  refine ⟨b, o, h4, h5, fun j hj i u hu => ?_⟩
  have := World.cell?_of_block (w := w) (w' := w') (a := ⟨b, o + j * 4 + i, none⟩) (hc.block b (by omega) (hne ⟨b, o, none⟩ _ _ (by rw [h1, h4]) hn))
  rw [this]; exact h6 j hj i u hu
theorem StAt.evv {w : World} {F : Nat → Prop} {q k : Nat} {sd : List Sd} {evs : List Ev} {v : Value} {vs : List Value} (h : StAt w F q k sd evs v vs) : w.cell? ⟨q, 49, none⟩ = some v := by
  rw [cell_of_st h.blk, stCells, List.getElem?_cons_succ, List.getElem?_append_right (by rw [flat3_len, h.sdl]; omega), flat3_len, h.sdl]
  rfl
/-- Two stores into what a source has said. -/
theorem StAt.wrote {w : World} {F : Nat → Prop} {q k : Nat} {sd : List Sd} {evs : List Ev} {v : Value} {vs : List Value} (h : StAt w F q k sd evs v vs) (j : Nat) (hj : j < 16) (a b : Int) :
    StAt ((w.setCell ⟨q, 1 + j * 3, none⟩ (.int .i64 a)).setCell ⟨q, 1 + j * 3 + 1, none⟩ (.int .i64 b)) F q k (sd.set j ⟨a, b, sd[j]!.gone⟩) evs v vs := by
  refine h.store (((Chg.refl (fun b => b = q) _).setCell (p := ⟨q, 1 + j * 3, none⟩) rfl _).setCell (p := ⟨q, 1 + j * 3 + 1, none⟩) rfl _) ?_ (by rw [List.length_set]; exact h.sdl)
  rw [setCell_list (setCell_list h.blk _), stCells_set _ _ _ _ _ _ (by rw [h.sdl]; exact hj)]
theorem StAt.widen {w : World} {F G : Nat → Prop} {q k : Nat} {sd : List Sd} {evs : List Ev} {v : Value} {vs : List Value} (h : StAt w F q k sd evs v vs) (hFG : ∀ b, F b → G b) (hG : ∀ b, G b → b < w.heap.size) : StAt w G q k sd evs v vs :=
  ⟨hFG _ h.fq, hG, h.k0, h.k16, h.sdl, h.many, h.wide, h.blk, h.own, h.vsl, fun a n c e => hFG _ (h.fv a n c e), fun i hi => by
    obtain ⟨ao, c, h1, h2, h3, h4⟩ := h.each i hi
    exact ⟨ao, c, h1, h2, h3, fun a n c e => hFG _ (h4 a n c e)⟩, h.apart⟩
theorem StIs.widen {w : World} {F G : Nat → Prop} {q k : Nat} {sd : List Sd} {evs : List Ev} (h : StIs w F q k sd evs) (hFG : ∀ b, F b → G b) (hG : ∀ b, G b → b < w.heap.size) : StIs w G q k sd evs := by
  obtain ⟨v, vs, h⟩ := h
  exact ⟨v, vs, h.widen hFG hG⟩
end Go.Proofs.Ythjhbnfedelniaa
