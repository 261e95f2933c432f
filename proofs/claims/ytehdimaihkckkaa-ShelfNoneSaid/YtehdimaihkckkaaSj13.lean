/- The program's shelf: Ending, Beginning, as they are ranged over. -/
import Derived.Test.YtehdimaihkckkaaSi13
namespace Go.Proofs.Ytehdimaihkckkaa
open Go Go.RowKit Go.Shelf
attribute [local go_sem] Oper.semAt_some

/-- What a round keeps: what lay below n₀, and each box of a yield. -/
def KpS (n₀ : Nat) (A B : World) : Prop := Below n₀ A B ∧ ∀ (k : Nat) (cs : Array Value) (fr : Nat × Nat), A.heap[k]? = some (.cells cs 100 fr) → B.heap[k]? = some (.cells cs 100 fr)
theorem kpS_t {n₀ : Nat} {A B C : World} (h : KpS n₀ A B) (k : KpS n₀ B C) : KpS n₀ A C := ⟨h.1.trans k.1, fun i cs fr hi => k.2 i cs fr (h.2 i cs fr hi)⟩
theorem kpS_b {n₀ : Nat} {W : World} {l : Nat} {o : Obj} (o' : Obj) (hn : n₀ ≤ l) (h : W.heap[l]? = some o) (ho : o.isCells = false) : KpS n₀ W (W.putObj l o') := by
  refine ⟨(Below.refl n₀ W).grown (grownBy_putObj' W l o') (by have := (Array.getElem?_eq_some_iff.1 h).1; omega) (fun k e => by cases e; omega), fun k cs fr hk => ?_⟩
  have hne : k ≠ l := by rintro rfl; rw [h] at hk; cases hk; cases ho
  exact (World.putObj_heap_other hne).trans hk
/-- In w the boxes at Ba, Bf hold All of zs, and a function that tells p of a span. -/
structure SomeAt (w : World) (n₀ Ba Bf gf : Nat) (cp : Value) (zs : List Tg) (p : Tg → Bool) : Prop where
  le : n₀ ≤ w.heap.size
  a : Ba < n₀
  f : Bf < n₀
  all : ∃ Bs, w.cell? ⟨Ba, 0, none⟩ = some (.func (.func 46) #[] #[.pointer (some ⟨Bs, 0, none⟩)]) ∧ AllAt w n₀ Bs zs
  fits : w.cell? ⟨Bf, 0, none⟩ = some (.func (.func gf) #[] #[cp])
  eg : ∀ args w, (callFunc gf args).run Try.prog w = .ok (.enter gf args) w
  tell : ∀ (x : Tg) (u : World), Below n₀ w u → Calls Try.prog gf #[.agg #[.int .i64 x.beg, .int .i64 x.fin], cp] u fun e u' => e = .returned (.bool (p x)) ∧ Below u.heap.size u u'
theorem SomeAt.below {w w' : World} {n₀ Ba Bf gf : Nat} {cp : Value} {zs : List Tg} {p : Tg → Bool} (h : SomeAt w n₀ Ba Bf gf cp zs p) (hb : Below w.heap.size w w') : SomeAt w' n₀ Ba Bf gf cp zs p := by
  obtain ⟨Bs, h1, h2⟩ := h.all
  have hl := h.le; have ha := h.a; have hf := h.f
  exact ⟨Nat.le_trans h.le hb.size, h.a, h.f, ⟨Bs, (hb.cell (p := ⟨Ba, 0, none⟩) (by show Ba < _; omega)).trans h1, h2.below hb⟩, (hb.cell (p := ⟨Bf, 0, none⟩) (by show Bf < _; omega)).trans h.fits, h.eg, fun x u hu => h.tell x u ((hb.mono hl).trans hu)⟩

set_option maxRecDepth 100000 in
set_option maxHeartbeats 2000000 in
theorem hSome1_stops (n : Nat) (hn : 4 ≤ n) (n₀ Ba Bf gf : Nat) (cp : Value) (zs : List Tg) (p : Tg → Bool) (w : World) (h : SomeAt w n₀ Ba Bf gf cp zs p) :
    SeqStopsH Fence.wide n Try.prog 56 #[.pointer (some ⟨Ba, 0, none⟩), .pointer (some ⟨Bf, 0, none⟩)] (fun x : Tg => #[.string x.txt]) (fun _ _ => True) (KpS n₀) (fun ys => ys = zs.filter p) (fun pre => pre <+: zs.filter p) zs.length w := fun l J Jx W hW hJ hJx hY h0 => by
  have hS := h.below hW
  have hw1 := hS.a; have hw2 := hS.f; have hn₀ := hS.le
  obtain ⟨Bs, hBa, hall⟩ := hS.all
  have hBf := hS.fits
  have eg := hS.eg
  have HTELL : Hid (∀ (x : Tg) (u : World), Below n₀ W u → Calls Try.prog gf #[.agg #[.int .i64 x.beg, .int .i64 x.fin], cp] u fun e u' => e = .returned (.bool (p x)) ∧ Below u.heap.size u u') := hS.tell
  have ca := cell_alloc13 (.cells #[.func (.yield l) #[] #[]] 100) hBa
  clear hS h
  refine callsIn_of_wp_marks Try.func56 rfl trivial ?_ rfl
  simp only [Try.ntmps56, List.size_toArray, List.length_cons, List.length_nil, Nat.reduceAdd, Nat.reduceSub, Array.replicate_succ, Array.replicate_zero, List.push_toArray, List.append_toArray, List.nil_append, List.cons_append]
  gi_wp2
  have hbW : Below n₀ W (W.alloc (.cells #[.func (.yield l) #[] #[]] 100)) := (Below.refl _ _).alloc hn₀ _
  have hbw : Below W.heap.size W (W.alloc (.cells #[.func (.yield l) #[] #[]] 100)) := (Below.refl _ _).alloc (Nat.le_refl _) _
  have hy0 : (W.alloc (.cells #[.func (.yield l) #[] #[]] 100)).heap[W.heap.size]? = some (.cells #[.func (.yield l) #[] #[]] 100 (0, 0)) := heap_alloc_new _ _
  have hJ1 : J [] (W.alloc (.cells #[.func (.yield l) #[] #[]] 100)) := hJ.alloc _ h0
  have hall1 := hall.below hbw
  have hjo : ∀ {K : List Tg → World → Prop}, OwnFrom W.heap.size K → OwnFrom (W.alloc (.cells #[.func (.yield l) #[] #[]] 100)).heap.size (fun (pre : List Tg) W' => K (pre.filter p) W') := fun hK s A B row hs hg hr => 
    hK _ A B row hs hg (fun r e => ⟨by have := (hr r e).1; simp at this; omega, (hr r e).2⟩)
  refine wpIn_rangeFunc_HD 4 5 (fun x : Tg => .string x.txt) rfl (by omega) (gf := 46) (lb := #[.pointer (some ⟨Bs, 0, none⟩)]) rfl trivial (enters_of Try.func46 (by kernel_rfl) rfl)
    (hAll1_stops Fence.wide (n - 1) trivial rfl (by omega) Bs n₀ zs _ hall1) Below.trans (belowK_b (by simp; omega)) (Below.refl _ _) (fun _ => rfl)
    (fun pre W' => J (pre.filter p) W' ∧ W'.heap[W.heap.size]? = some (.cells #[.func (.yield l) #[] #[]] 100 (0, 0)) ∧ Below n₀ W W')
    (fun c pre W' => c = .ret ∧ Jx (pre.filter p) W')
    ?ownI ?ownX ⟨hJ1, hy0, hbW⟩
    (fun x Bx W' => W.heap.size < Bx ∧ W'.heap[Bx]? = some (.cells #[.int .i64 x.beg, .int .i64 x.fin] 32 (0, 0)))
    ?ownA ?assign ?body ?done ?stop
  case ownI => exact OwnFrom.and (hjo hJ) (OwnFrom.and (fun s A B row hs hg hr => (hg.block _ (Array.getElem?_eq_some_iff.1 hs).1 (fun e => by obtain ⟨_, o, ho, hc⟩ := hr _ e.symm; rw [hs] at ho; cases ho; cases hc)).trans hs) (ownFrom_bel hn₀ (by have := hbW.size; omega)))
  case ownX => exact fun c => OwnFrom.and (ownFrom_pure _ _) (hjo hJx)
  case ownA =>
    rintro x Bx s A B row ⟨h1, h2⟩ hg hr
    refine ⟨h1, (hg.block Bx (Array.getElem?_eq_some_iff.1 h2).1 (fun e => ?_)).trans h2⟩
    obtain ⟨_, o, ho, hc⟩ := hr Bx e.symm
    rw [h2] at ho; cases ho; cases hc
  case assign =>
    rintro l' pre x W' K ⟨h1, hc, hb⟩ hm hK
    have hlt : W.heap.size < W'.heap.size := (Array.getElem?_eq_some_iff.1 hc).1
    have hK := Lib.hid hK
    unfold encT
    gi_wp2
    have hbb : Below W'.heap.size W' (W'.alloc (.cells #[.int .i64 x.beg, .int .i64 x.fin] 32)) := (Below.refl _ _).alloc (Nat.le_refl _) _
    have hk := hK.out W'.heap.size _ ((KeepsOthers.alloc _ _).from _) (hbb.mono (Nat.le_trans hn₀ (Nat.le_of_lt hlt))) ⟨hJ.alloc _ h1, (hbb.block _ hlt).trans hc, hb.trans (hbb.mono (Nat.le_trans hn₀ (Nat.le_of_lt hlt)))⟩ ⟨hlt, heap_alloc_new _ _⟩
    clear hK
    simpa [boxValAct, encT] using hk
  case body =>
    rintro l' pre x Bx W' hl' hr ⟨h1, hc, hb⟩ ⟨hBx, hbx⟩ hlen
    unfold boxValAct encT
    obtain ⟨x0, x1, -⟩ := cells_two hbx
    have hcf : W'.cell? ⟨Bf, 0, none⟩ = some (.func (.func gf) #[] #[cp]) := (hb.cell (p := ⟨Bf, 0, none⟩) hw2).trans hBf
    have hltP : W.heap.size < W'.heap.size := (Array.getElem?_eq_some_iff.1 hc).1
    have hT := HTELL.out x W' hb
    have hJn : ∀ W2, Below W'.heap.size W' W2 → J (pre.filter p) W2 := fun W2 h => hJ _ W' W2 none h1 ⟨h.os, h.tape, h.output, h.size, fun k hk _ => h.block k hk⟩ (fun r e => by cases e)
    have hfl : (pre.filter p).length < zs.length := Nat.lt_of_le_of_lt (List.length_filter_le _ _) hlen
    have hcy : ∀ W2, Below W'.heap.size W' W2 → W2.heap[W.heap.size]? = some (.cells #[.func (.yield l) #[] #[]] 100 (0, 0)) := fun W2 h => (h.block _ hltP).trans hc
    have hfs : (pre ++ [x]).filter p = if p x = true then pre.filter p ++ [x] else pre.filter p := by rw [List.filter_append, List.filter_cons, List.filter_nil]; cases p x <;> simp
    have hnW : n₀ ≤ W'.heap.size := Nat.le_trans hn₀ hb.size
    cases hp : p x with
    | false =>
      rw [hp] at hT hfs
      rw [if_neg (by decide)] at hfs
      have HT := Lib.hid hT; have HJN := Lib.hid hJn; have HCY := Lib.hid hcy; have HFS := Lib.hid hfs
      clear hT hJn hcy hfs hY
      gi_wp2_with (first
        | (refine ⟨fun _ => by omega, ?_⟩; gi_at_fn gf; (refine (CallsIn.inRound l' (callsIn_wide.2 HT.out)).mono ?_); rintro e W2 ⟨rfl, hb2⟩; have HB2 := Lib.hid hb2; clear hb2)
        | (refine ⟨trivial, ?_⟩))
      refine ⟨fun f h => (by cases h), ?_⟩
      gi_wp2
      have hb2 := HB2.out
      exact ⟨⟨hb2.size, fun k o _ hk _ => (hb2.block k (Array.getElem?_eq_some_iff.1 hk).1).trans hk⟩, hb2.mono hnW, by rw [HFS.out]; exact HJN.out W2 hb2, HCY.out W2 hb2, hb.trans (hb2.mono hnW)⟩
    | true =>
      rw [hp] at hT hfs
      rw [if_pos rfl] at hfs
      have hYY := fun (W2 : World) (hJ2 : J (pre.filter p) W2) => (yield_deep (F := Fence.wide) rfl (n - 1 - 1 - 1) (hY (pre.filter p) x W2 hJ2 trivial hfl)).mono (R' := fun e W' => ∃ b, e = .returned (.bool b) ∧ (b = true → J (pre.filter p ++ [x]) W' ∧ KpS n₀ W2 W') ∧ (b = false → Jx (pre.filter p ++ [x]) W') ∧ KeepsFrom W.heap.size W2 W') (fun e W' h => by
        rcases h with ⟨rfl, h3, h4, h5⟩ | ⟨rfl, h3, h5⟩
        · exact ⟨true, rfl, fun _ => ⟨h3, h4⟩, (fun h => nomatch h), h5⟩
        · exact ⟨false, rfl, (fun h => nomatch h), (fun _ => h3), h5⟩)
      have HT := Lib.hid hT; have HJN := Lib.hid hJn; have HCY := Lib.hid hcy; have HFS := Lib.hid hfs; have HYY := Lib.hid hYY
      clear hT hJn hcy hfs hY hYY
      gi_wp2_with (first
        | (refine ⟨fun _ => by omega, ?_⟩; gi_at_fn gf; (refine (CallsIn.inRound l' (callsIn_wide.2 HT.out)).mono ?_); rintro e W2 ⟨rfl, hb2⟩; have HB2 := Lib.hid hb2; have cy := cells_one0 (HCY.out W2 hb2); obtain ⟨fn, tmps, assign, body, hy, hR⟩ := HYY.out W2 (HJN.out W2 hb2); clear hb2)
        | (refine ⟨trivial, ?_⟩))
      refine ⟨fun _ => by omega, ?_⟩
      refine RoundIn.mono (F := Fence.wide) hR ?_
      rintro e W3 ⟨bb, rfl, hb3, hb4, hb5⟩
      have hb2 := HB2.out
      have hkf2 : KeepsFrom W.heap.size W' W2 := ⟨hb2.size, fun k o _ hk _ => (hb2.block k (Array.getElem?_eq_some_iff.1 hk).1).trans hk⟩
      have hkf3 := hkf2.trans hb5
      have hkf : KeepsFrom (W.heap.size + 1) W' W3 := ⟨hkf3.size, fun k o hk => hkf3.same k o (by omega)⟩
      have hc2 := HCY.out W2 hb2
      cases bb with
      | true =>
        obtain ⟨hj3, hbn3, hty3⟩ := hb3 rfl
        have hbn : Below n₀ W' W3 := (hb2.mono hnW).trans hbn3
        have hcy := hty3 _ _ _ hc2
        gi_wp2
        exact ⟨⟨hkf.size, fun k o hk => hkf.same k o (by simpa using hk)⟩, hbn, by rw [HFS.out]; exact hj3, hcy, hb.trans hbn⟩
      | false =>
        have hj3 := hb4 rfl
        gi_wp2
        exact ⟨⟨hkf.size, fun k o hk => hkf.same k o (by simpa using hk)⟩, rfl, by rw [HFS.out]; exact hj3⟩
  case done =>
    rintro D xs W' hD rfl ⟨h2, hc, hb⟩ hK
    have hD' : W.heap.size ≤ D := by have := hD; simp at this; omega
    have hJD := hJ.putObj (.deferred none) h2 hD' hK rfl
    gi_wp2
    refine ⟨by simp, .inl ⟨_, _, rfl, run_takeDeferred hK, ?_⟩⟩
    exact ⟨_, results_none rfl _ _ _, ⟨_, rfl⟩, .inl ⟨_, rfl, hJD⟩⟩
  case stop =>
    rintro D c pre W' hD hp ⟨rfl, h2⟩ hK
    have hD' : W.heap.size ≤ D := by have := hD; simp at this; omega
    have hJD := hJx.putObj (.deferred none) h2 hD' hK rfl
    gi_wp2
    refine ⟨by simp, .inl ⟨_, _, rfl, run_takeDeferred hK, ?_⟩⟩
    exact ⟨_, results_none rfl _ _ _, ⟨_, rfl⟩, .inr ⟨_, hp.filter p, hJD⟩⟩
end Go.Proofs.Ytehdimaihkckkaa
