/- Joined: Chg6, Se0, Wp0. -/
import Derived.Test.YtcnecokamckfaaaGreatDoorK2
import Derived.Test.YtcnecokamckfaaaGreatDoorKy1
import Derived.Test.YtcnecokamckfaaaGreatDoorCl0
import Derived.Test.YtcnecokamckfaaaGreatDoorK4
import Derived.Maps.OwnSet
import Derived.StringKeys
import Derived.BigQuiet
import Derived.Deep.QuietTactic
import Derived.Deep.RegionHeld3
import Derived.Test.YtcnecokamckfaaaGreatDoorProg
import Derived.WalkKit
set_option linter.unusedVariables false
set_option linter.unusedSimpArgs false
/- What may have turned, said by a set of blocks. (The same as in XSt, for seats without layer 4.) -/
namespace Go.Proofs.YtcnecokamckfaaaGreatDoor
open Go Go.RowKit

/-- Of what was there, only blocks of F may have turned. -/
structure Chg (F : Nat → Prop) (w w' : World) : Prop where
  os : w'.os = w.os
  tape : w'.tape = w.tape
  output : w'.output = w.output
  size : w.heap.size ≤ w'.heap.size
  block : ∀ k, k < w.heap.size → ¬ F k → w'.heap[k]? = w.heap[k]?
theorem Chg.refl (F : Nat → Prop) (w : World) : Chg F w w := ⟨rfl, rfl, rfl, Nat.le_refl _, fun _ _ _ => rfl⟩
theorem Chg.trans {F G : Nat → Prop} {a b c : World} (h : Chg F a b) (k : Chg G b c) (hG : ∀ j, G j → F j ∨ a.heap.size ≤ j) : Chg F a c :=
  ⟨k.os.trans h.os, k.tape.trans h.tape, k.output.trans h.output, Nat.le_trans h.size k.size, fun i hi hf =>
    (k.block i (Nat.lt_of_lt_of_le hi h.size) (fun hg => (hG i hg).elim hf (fun hh => by omega))).trans (h.block i hi hf)⟩
theorem Chg.of_below {F : Nat → Prop} {w w' : World} (h : Below w.heap.size w w') : Chg F w w' := ⟨h.os, h.tape, h.output, h.size, fun k hk _ => h.block k hk⟩
theorem Chg.below {F : Nat → Prop} {w w' : World} (h : Chg F w w') {B : Nat} (hB : B ≤ w.heap.size) (hF : ∀ k, F k → B ≤ k) : Below B w w' :=
  ⟨h.os, h.tape, h.output, h.size, fun k hk => h.block k (by omega) (fun hf => by have := hF k hf; omega)⟩

theorem Chg.setCell {F : Nat → Prop} {a w : World} (h : Chg F a w) {p : Addr} (hp : F p.block) (u : Value) : Chg F a (w.setCell p u) :=
  ⟨h.os, h.tape, h.output, by simpa using h.size, fun k hk hf => by
    rw [Below.heap_setCell _ _ _ _ (fun e => hf (by rw [e]; exact hp))]; exact h.block k hk hf⟩
theorem Chg.drew {F : Nat → Prop} {a w : World} (h : Chg F a w) : Chg F a w.drew := ⟨h.os, h.tape, h.output, h.size, h.block⟩
end Go.Proofs.YtcnecokamckfaaaGreatDoor

/- Sets of partial matches: what they are in memory; the contracts of their small calls. -/
namespace Go.Proofs.YtcnecokamckfaaaGreatDoor
open Go Go.RowKit Go.Maps Go.WideMaps

/-- How an element of a set's map reads: as itself. -/
def heldE (v : Value) : Option (DataW Value × List MemPlace) :=
  match v with
  | .agg ⟨[.slice a n c]⟩ => some (.held (.agg #[.slice a n c]), [])
  | _ => none
theorem heldE_mk (a : Option Addr) (n c : Nat) : heldE (.agg #[.slice a n c]) = some (.held (.agg #[.slice a n c]), []) := rfl
theorem heldE_inv {v : Value} {y : DataW Value × List MemPlace} (h : heldE v = some y) : ∃ a n c, v = .agg #[.slice a n c] ∧ y = (.held v, []) := by
  unfold heldE at h
  split at h
  · simp only [Option.some.injEq] at h
    exact ⟨_, _, _, rfl, h.symm⟩
  · cases h
theorem lawS10 : Keyed Tryz.prog 9 := string_keyed Tryz.underlying9
theorem zeroP10 (w : World) : (zeroValue 38).run Tryz.prog w = .ok (.agg #[.slice none 0 0]) w := by kernel_rfl
/-- What a key asks of bounds. -/
def KyB (bs : List Bd) : Prop := (keyL bs).length + 21 ≤ 140737488355328 ∧ ∀ x ∈ bs, (-9223372036854775808 ≤ x.ev.src ∧ x.ev.src ≤ 9223372036854775807) ∧ (-9223372036854775808 ≤ x.ev.seq ∧ x.ev.seq ≤ 9223372036854775807)
def kyV (bs : List Bd) : Value := .string ⟨(keyL bs).toArray⟩
theorem kyV_key {bs : List Bd} (h : KyB bs) : keyOf Tryz.prog 9 (kyV bs) = some (.string (keyL bs)) := by
  have := keyOf_string_mk (P := Tryz.prog) Tryz.underlying9 (s := ⟨(keyL bs).toArray⟩) (by show (keyL bs).toArray.size ≤ maxLen; have := h.1; unfold maxLen; simp; omega)
  simpa [kyV] using this

/-- In w, and wherever blocks of F alone have turned, v is a slice of the bounds. -/
def Sto (F : Nat → Prop) (w : World) (v : Value) (bs : List Bd) : Prop := ∀ u, Chg F w u → BsV u u.heap.size v bs
theorem Sto.now {F : Nat → Prop} {w : World} {v : Value} {bs : List Bd} (h : Sto F w v bs) : BsV w w.heap.size v bs := h w (Chg.refl _ _)
theorem Sto.chg {F : Nat → Prop} {w w' : World} {v : Value} {bs : List Bd} (h : Sto F w v bs) (hc : Chg F w w') : Sto F w' v bs := fun u hu => h u (hc.trans hu (fun _ hj => .inl hj))
theorem Sto.below {F : Nat → Prop} {w w' : World} {v : Value} {bs : List Bd} (h : Sto F w v bs) (hb : Below w.heap.size w w') : Sto F w' v bs := h.chg (Chg.of_below hb)
theorem own_chg {F : Nat → Prop} {w w' : World} {base e size n : Nat} {v : Value} {xs : List Value} (h : w.ownsRow base e size v n xs) (hc : Chg F w w') (hF : ∀ k, F k → k < base) : w'.ownsRow base e size v n xs := by
  refine ⟨h.1, ?_⟩
  rcases h.2 with hn | ⟨g, cap, cur, hv, hb, hg, rest⟩
  · exact .inl hn
  · exact .inr ⟨g, cap, cur, hv, hb, by rw [hc.block g (lt_of_block hg) (fun hf => by have := hF g hf; omega)]; exact hg, rest⟩
theorem OwA.chg {F : Nat → Prop} {w w' : World} {base : Nat} {v : Value} {ats : List At} (h : OwA w base v ats) (hc : Chg F w w') (hF : ∀ k, F k → k < base) : OwA w' base v ats := ⟨own_chg h.1 hc hF, h.2⟩
theorem BsO.chg {F : Nat → Prop} {w w' : World} {base : Nat} {v : Value} {bs : List Bd} (h : BsO w base v bs) (hc : Chg F w w') (hF : ∀ k, F k → k < base) : BsO w' base v bs := by
  obtain ⟨hw, hl, xs, h1, h2⟩ := h
  exact ⟨hw, hl, xs, own_chg h1 hc hF, h2.imp fun v x _ hx => hx.chg hc hF⟩
theorem Sto.of_own {F : Nat → Prop} {w : World} {base : Nat} {v : Value} {bs : List Bd} (h : BsO w base v bs) (hF : ∀ k, F k → k < base) : Sto F w v bs := fun u hu => (h.chg hu hF).bsv
theorem Chg.grown0 {F : Nat → Prop} {a w w' : World} (h : Chg F a w) {r : Option Nat} (hg : w.grownBy w' r) (hF : ∀ b, r = some b → F b ∨ a.heap.size ≤ b) : Chg F a w' :=
  ⟨hg.os.trans h.os, hg.tape.trans h.tape, hg.output.trans h.output, Nat.le_trans h.size hg.size, fun k hk hf => (hg.block k (Nat.lt_of_lt_of_le hk h.size) (fun e => by rcases hF k e.symm with h1 | h1 <;> first | exact hf h1 | omega)).trans (h.block k hk hf)⟩

/-- Whether a set has something that is 0 to these bounds. -/
def hasL (L : List (Value × List Bd)) (bs : List Bd) : Bool := decide (keyL bs ∈ L.map fun x => keyL x.2)
/-- What a set's map holds. -/
structure MapL (D : DataW Value) (L : List (Value × List Bd)) : Prop where
  size : Maps.size D = L.length
  has : ∀ k, Maps.has D (.string k) = decide (k ∈ L.map fun x => keyL x.2)
  at' : ∀ x ∈ L, ∀ z, D.atKey (.string (keyL x.2)) z = .held (.agg #[x.1])
  nodup : (L.map fun x => keyL x.2).Nodup
theorem MapL.nil : MapL (.map []) [] := ⟨rfl, (fun k => by simp [Maps.has]), (fun x hx => by cases hx), List.nodup_nil⟩
theorem MapL.put {D : DataW Value} {L : List (Value × List Bd)} {v : Value} {bs : List Bd} (h : MapL D L) (hD : IsMap D) (hT : Tidy D) (hn : hasL L bs = false) : MapL (D.put (.string (keyL bs)) (.held (.agg #[v]))) (L ++ [(v, bs)]) := by
  have hk : WideAt.IsKeyLit (Lit.string (keyL bs)) := by first | exact trivial | simp [WideAt.IsKeyLit]
  have hn' : keyL bs ∉ L.map fun x => keyL x.2 := by unfold hasL at hn; simpa using hn
  have hh : Maps.has D (.string (keyL bs)) = false := by rw [h.has]; simpa using hn'
  refine ⟨?_, fun k => ?_, fun x hx z => ?_, ?_⟩
  · rw [Maps.size_put hT, hh, h.size]; simp
  · by_cases e : k = keyL bs
    · subst e
      rw [Maps.has_put_same hD hk]; simp
    · rw [Maps.has_put_other (by intro h2; injection h2 with h3; exact e h3), h.has]; simp [e]
  · rcases List.mem_append.1 hx with hx | hx
    · have hne : keyL x.2 ≠ keyL bs := fun e => hn' (by rw [← e]; exact List.mem_map.2 ⟨x, hx, rfl⟩)
      rw [Maps.atKey_put_other (by intro h2; injection h2 with h3; exact hne h3)]
      exact h.at' x hx z
    · rw [List.mem_singleton.1 hx]
      exact Maps.atKey_put_same hD hk _ _
  · rw [List.map_append, List.nodup_append]
    refine ⟨h.nodup, by simp, fun a ha b hb => ?_⟩
    simp only [List.map_cons, List.map_nil, List.mem_singleton] at hb
    rintro rfl
    exact hn' (by rw [← hb]; exact ha)

/-- In w the block q is a set whose map is the block b; of it the things L were put in, in this order: each a slice and its bounds, in memory that stays where blocks of F alone turn. -/
structure SetAt (F : Nat → Prop) (C : Nat) (w : World) (q b : Nat) (L : List (Value × List Bd)) : Prop where
  Fb : F b
  Fq : ¬ F q
  Cb : ∀ k, F k → C ≤ k
  Flt : ∀ k, F k → k < w.heap.size
  blk : w.heap[q]? = some (.cells #[.map (some b)] 62 (0, 0))
  tab : Lib.TabBelow Tryz.prog C w "internal/strconv.uint64pow10" .u64 Lib.pow10Tab
  map : ∃ N D, w.ownsMap Tryz.prog 9 heldE b N D ∧ N ≤ L.length ∧ MapL D L
  each : ∀ x ∈ L, Sto F w x.1 x.2 ∧ KyB x.2 ∧ ckP x.2 = 0 ∧ ∃ a n c, x.1 = .slice a n c
  many : L.length ≤ 5864062014805
theorem SetAt.Cq {F : Nat → Prop} {C : Nat} {w : World} {q b : Nat} {L : List (Value × List Bd)} (h : SetAt F C w q b L) : q < w.heap.size := lt_of_block h.blk
theorem owns_block0 {w w' : World} {b N : Nat} {D : DataW Value} (h : w.ownsMap Tryz.prog 9 heldE b N D) (hb : w'.heap[b]? = w.heap[b]?) : w'.ownsMap Tryz.prog 9 heldE b N D := by
  obtain ⟨es, clock, h1, h2⟩ := h
  exact ⟨es, clock, hb.trans h1, h2⟩
theorem SetAt.below {F : Nat → Prop} {C : Nat} {w w' : World} {q b : Nat} {L : List (Value × List Bd)} (h : SetAt F C w q b L) (hb : Below w.heap.size w w') (hC : C ≤ w.heap.size) : SetAt F C w' q b L := by
  obtain ⟨N, D, h1, h2, h3⟩ := h.map
  exact ⟨h.Fb, h.Fq, h.Cb, fun k hk => Nat.lt_of_lt_of_le (h.Flt k hk) hb.size, (hb.block q h.Cq).trans h.blk, h.tab.on (hb.mono hC), ⟨N, D, owns_block0 h1 (hb.block b h1.lt), h2, h3⟩,
    fun x hx => ⟨(h.each x hx).1.below hb, (h.each x hx).2⟩, h.many⟩
theorem SetAt.C_le {F : Nat → Prop} {C : Nat} {w : World} {q b : Nat} {L : List (Value × List Bd)} (h : SetAt F C w q b L) : C ≤ w.heap.size := by
  have h1 := h.Cb b h.Fb; have h2 := h.Flt b h.Fb; omega
theorem SetAt.call {F : Nat → Prop} {C : Nat} {w w' : World} {q b : Nat} {L : List (Value × List Bd)} (h : SetAt F C w q b L) (hb : Below w.heap.size w w') : SetAt F C w' q b L := h.below hb h.C_le
theorem SetAt.cell {F : Nat → Prop} {C : Nat} {w : World} {q b : Nat} {L : List (Value × List Bd)} (h : SetAt F C w q b L) : w.cell? ⟨q, 0, none⟩ = some (.map (some b)) := cells_one0 h.blk
/-- Behind an update of its map with what is new. -/
theorem SetAt.put {F : Nat → Prop} {C : Nat} {w w' : World} {q b N : Nat} {L : List (Value × List Bd)} {D : DataW Value} (h : SetAt F C w q b L) {v : Value} {bs : List Bd} (hv : ∃ a n c, v = .slice a n c) (hs : Sto F w v bs) (hk : KyB bs) (hc : ckP bs = 0) (hn : hasL L bs = false)
    (hm : L.length < 5864062014805) (hg : w.grownBy w' (some b)) (hD : w.ownsMap Tryz.prog 9 heldE b N D) (hN : N ≤ L.length) (hL : MapL D L) (h2 : w'.ownsMap Tryz.prog 9 heldE b (N + 1) (D.put (.string (keyL bs)) (.held (.agg #[v])))) : SetAt F C w' q b (L ++ [(v, bs)]) := by
  have hch : Chg F w w' := (Chg.refl F w).grown0 hg (fun b' e => by cases e; exact .inl h.Fb)
  have hbl : Below C w w' := (Below.refl C w).grown hg h.C_le (fun k e => by cases e; exact h.Cb b h.Fb)
  refine ⟨h.Fb, h.Fq, h.Cb, fun k hk => Nat.lt_of_lt_of_le (h.Flt k hk) hch.size, (hch.block q h.Cq h.Fq).trans h.blk, h.tab.on hbl, ⟨N + 1, _, h2, by simp; omega, hL.put hD.isMap (hD.tidy lawS10) hn⟩, fun x hx => ?_, by simp; omega⟩
  rcases List.mem_append.1 hx with hx | hx
  · exact ⟨(h.each x hx).1.chg hch, (h.each x hx).2⟩
  · rw [List.mem_singleton.1 hx]; exact ⟨hs.chg hch, hk, hc, hv⟩

theorem eqMp_some (b : Nat) (w : World) : (binOp .neq 60 (.map (some b)) (.map none)).run Tryz.prog w = .ok (.bool true) w := by kernel_rfl
theorem mSetParts_any (q : Nat) (b : Nat) (w : World) (h : w.cell? ⟨q, 0, none⟩ = some (.map (some b))) :
    Calls Tryz.prog 33 #[.pointer (some ⟨q, 0, none⟩)] w fun e w' => e = .returned (.map (some b)) ∧ w = w' := by
  go_enter Tryz.func33, Tryz.ntmps33
  go_wp2
  go_ret
  exact ⟨rfl, rfl⟩
theorem mSetMade_any (q : Nat) (b : Nat) (w : World) (h : w.cell? ⟨q, 0, none⟩ = some (.map (some b))) :
    Calls Tryz.prog 34 #[.pointer (some ⟨q, 0, none⟩)] w fun e w' => e = .returned (.bool true) ∧ w = w' := by
  have heq := eqMp_some b
  go_enter Tryz.func34, Tryz.ntmps34
  go_wp2_with (go_at_call 33; (with_reducible refine (mSetParts_any q b _ h).mono ?_); rintro e w1 ⟨rfl, rfl⟩)
  go_ret
  exact ⟨rfl, rfl⟩
theorem mSetLen_any (F : Nat → Prop) (C q b : Nat) (L : List (Value × List Bd)) (w : World) (h : SetAt F C w q b L) :
    Calls Tryz.prog 17 #[.pointer (some ⟨q, 0, none⟩)] w fun e w' => e = .returned (.int .i64 (L.length : Int)) ∧ w = w' := by
  obtain ⟨N, D, h1, _, h3⟩ := h.map
  have hlen := fun ty => h1.len (t := 60) Tryz.underlying60 ty
  rw [h3.size] at hlen
  have HC := Lib.hid h.cell
  clear h h1 h3
  go_enter Tryz.func17, Tryz.ntmps17
  go_wp2_with (go_at_call 33; (with_reducible refine (mSetParts_any q b _ HC.out).mono ?_); rintro e w1 ⟨rfl, rfl⟩)
  go_ret
  exact ⟨rfl, rfl⟩
end Go.Proofs.YtcnecokamckfaaaGreatDoor

/- A region that draws its order: operations taken one at a time, and two calls of either order brought to one state. -/
namespace Go.Proofs.YtcnecokamckfaaaGreatDoor
open Go Go.RowKit
def nthO {α : Type} : List α → Nat → Option α
  | [], _ => none
  | x :: _, 0 => some x
  | _ :: t, n + 1 => nthO t n
theorem nthO_eq {α : Type} : ∀ (l : List α) (n : Nat), nthO l n = l[n]?
  | [], _ => rfl
  | _ :: _, 0 => rfl
  | _ :: t, n + 1 => (nthO_eq t n).trans (by simp)
section
variable {P : Program} {ops : Array Oper} {Q : Exit → Act → World → Prop} {md : Region.Mode} {S : World → Prop}
theorem at_of_nth {i : Nat} {o : Oper} (h : nthO ops.toList i = some o) : ops[i]? = some o := by
  rw [nthO_eq] at h; simpa using h
theorem takeR {i : Nat} {oi : Oper} {v : Value} {fuel : Nat} {listed : Array Bool} {a : Act} {w : World} (hi : nthO ops.toList i = some oi)
    (hs : Region.noSelect ops = true) (hf : Region.free md ops listed i = true) (hr : (Region.ready md ops listed).contains i = true)
    (hQ : ∀ c a w, Q (.panic c) (a.put oi.dst v) w → Q (.panic c) a w) (hw : Region.wanted oi (yielded ops a.tmps) = true) (hy : ∀ w, S w → (execOp a.eval oi).run P w = .ok (.value v) w) (hS : S w)
    (h : wpAnyH P md ops Q S fuel (listed.setIfInBounds i true) (a.put oi.dst v) w) : wpAnyH P md ops Q S (fuel + 1) listed a w :=
  wpAnyH_take (at_of_nth hi) hs hf hr hQ (.inl ⟨hw, hy⟩) hS h
theorem oneR {i : Nat} {oi : Oper} {fuel : Nat} {listed : Array Bool} {a : Act} {w : World} (hi : nthO ops.toList i = some oi) (hr : Region.ready md ops listed = [i])
    (h : ∀ K' : Act → World → Prop, Shut (∀ a w, S w → (S w → wpAnyH P md ops Q S fuel (listed.setIfInBounds i true) a w) → K' a w) → if Region.wanted oi (yielded ops a.tmps) = true then Oper.wp P oi a w K' Q else K' (a.put oi.dst undef) w) :
    wpAnyH P md ops Q S (fuel + 1) listed a w :=
  wpAnyH_ready hr (by simp) (AllReadyH.cons (at_of_nth hi) h AllReadyH.nil)
theorem twoR {i j : Nat} {oi oj : Oper} {fuel : Nat} {listed : Array Bool} {a : Act} {w : World} (hi : nthO ops.toList i = some oi) (hj : nthO ops.toList j = some oj) (hr : Region.ready md ops listed = [i, j])
    (h : ∀ K' : Act → World → Prop, Shut (∀ a w, S w → (S w → wpAnyH P md ops Q S fuel (listed.setIfInBounds i true) a w) → K' a w) → if Region.wanted oi (yielded ops a.tmps) = true then Oper.wp P oi a w K' Q else K' (a.put oi.dst undef) w)
    (h2 : ∀ K' : Act → World → Prop, Shut (∀ a w, S w → (S w → wpAnyH P md ops Q S fuel (listed.setIfInBounds j true) a w) → K' a w) → if Region.wanted oj (yielded ops a.tmps) = true then Oper.wp P oj a w K' Q else K' (a.put oj.dst undef) w) :
    wpAnyH P md ops Q S (fuel + 1) listed a w :=
  wpAnyH_ready hr (by simp) (AllReadyH.cons (at_of_nth hi) h (AllReadyH.cons (at_of_nth hj) h2 AllReadyH.nil))
/-- Operation o, run in state a, yields v in any world of F, and leaves a world of F. -/
def StepR (P : Program) (ops : Array Oper) (Q : Exit → Act → World → Prop) (F : World → Prop) (o : Oper) (v : Value) (a : Act) : Prop :=
  ∀ (u : World) (K : Act → World → Prop), F u → Shut (∀ u', F u' → K (a.put o.dst v) u') → if Region.wanted o (yielded ops a.tmps) = true then Oper.wp P o a u K Q else K (a.put o.dst undef) u
theorem pairR {i j : Nat} {oi oj : Oper} {fuel : Nat} {listed : Array Bool} {a : Act} {w : World} (F : World → Prop) (vi vj : Value) (hi : nthO ops.toList i = some oi) (hj : nthO ops.toList j = some oj)
    (hr : Region.ready md ops listed = [i, j]) (hri : Region.ready md ops (listed.setIfInBounds i true) = [j]) (hrj : Region.ready md ops (listed.setIfInBounds j true) = [i])
    (hij : i ≠ j) (hd : ∀ d, oi.dst = some d → oj.dst ≠ some d) (hF : F w) (hFS : ∀ u, F u → S u)
    (si : StepR P ops Q F oi vi a) (sj : StepR P ops Q F oj vj a) (si2 : StepR P ops Q F oi vi (a.put oj.dst vj)) (sj2 : StepR P ops Q F oj vj (a.put oi.dst vi))
    (h : ∀ u, F u → wpAnyH P md ops Q S fuel ((listed.setIfInBounds i true).setIfInBounds j true) ((a.put oi.dst vi).put oj.dst vj) u) :
    wpAnyH P md ops Q S (fuel + 2) listed a w := by
  refine twoR hi hj hr (fun K hK => si w K hF (fun u hu => hK.out _ _ (hFS u hu) (fun _ => ?_))) (fun K hK => sj w K hF (fun u hu => hK.out _ _ (hFS u hu) (fun _ => ?_)))
  · exact oneR hj hri (fun K hK => sj2 u K hu (fun u2 hu2 => hK.out _ _ (hFS u2 hu2) (fun _ => h u2 hu2)))
  · refine oneR hi hrj (fun K hK => si2 u K hu (fun u2 hu2 => hK.out _ _ (hFS u2 hu2) (fun _ => ?_)))
    have := h u2 hu2
    rwa [Act.put_comm _ _ _ hd, Array.setIfInBounds_comm _ _ hij] at this
end
end Go.Proofs.YtcnecokamckfaaaGreatDoor
