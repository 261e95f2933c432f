/- event.clones, as it is ranged over: each event in memory of its own. -/
import Derived.Test.YthjhbnfedelniaaIv4
import Derived.Test.YthjhbnfedelniaaEc
namespace Go.Proofs.Ythjhbnfedelniaa
open Go Go.RowKit Go.Shelf
attribute [local go_sem] Oper.semAt_some

theorem clones_in (F : Fence) (n : Nat) (hf : F.fn 38) (hro : F.round = none) (fv : Fn) (u v : Array Value) (w : World) :
    CallsIn F n Try.prog 38 #[.func fv u v] w fun e w' => e = .returned (.func (.func 56) #[] #[.pointer (some ⟨w.heap.size, 0, none⟩)]) ∧ w' = w.alloc (.cells #[.func fv u v] 50) := by
  refine callsIn_of_wp Try.func38 rfl hf ?_ hro
  simp only [Try.ntmps38, List.size_toArray, List.length_cons, List.length_nil, Nat.reduceAdd, Nat.reduceSub, Array.replicate_succ, Array.replicate_zero, List.push_toArray, List.append_toArray, List.nil_append, List.cons_append]
  gi_wp2
  go_ret
  exact ⟨rfl, rfl⟩

theorem row_base {w : World} {B B' : Nat} {e : TypeId} {size : Nat} {v : Value} {n : Nat} {xs : List Value} (h : w.ownsRow B e size v n xs) (hB : B' ≤ B) : w.ownsRow B' e size v n xs := by
  refine ⟨h.1, h.2.imp id ?_⟩
  rintro ⟨g, cap, cur, h1, h2, h3⟩
  exact ⟨g, cap, cur, h1, Nat.le_trans hB h2, h3⟩
theorem yield_deep {F : Fence} (hd : F.depth = none) {m : Nat} (m' : Nat) {P : Program} {l : Nat} {args : Array Value} {W : World} {R : Ending → World → Prop} (h : YieldAt F m P l args W R) : YieldAt F m' P l args W R := by
  obtain ⟨fn, tmps, assign, body, hy, hR⟩ := h
  exact ⟨fn, tmps, assign, body, hy, hR.1, fun c cs _ => hR.2 c cs (fun d h => by rw [hd] at h; cases h)⟩
/-- What clones hands: an event whose attributes lie in a row of their own. -/
def HC (n₀ : Nat) (x : Ev × Value) (W : World) : Prop := W.ownsRow n₀ 57 4 x.2 x.1.ats.length (x.1.ats.flatMap enc4) ∧ (∀ y ∈ x.1.ats, y.name.size ≤ maxLen ∧ y.s.size ≤ maxLen) ∧ x.1.ats.length * 48 ≤ 140737488355328

/-- What a round keeps: what lay below n₀, and each box of a yield. -/
def KpY (n₀ : Nat) (A B : World) : Prop := Below n₀ A B ∧ ∀ (k : Nat) (cs : Array Value) (fr : Nat × Nat), A.heap[k]? = some (.cells cs 68 fr) → B.heap[k]? = some (.cells cs 68 fr)
set_option maxRecDepth 100000 in
set_option maxHeartbeats 2000000 in
theorem clones_stops {α : Type} (ex : α → Ev) (vo : α → Option Addr) (vn vc : α → Nat) (F : Fence) (n : Nat) (hf : F.fn 56) (hf2 : F.fn 57) (hf3 : F.fn 24) (hro : F.round = none) (hd : F.depth = none) (hn : 4 ≤ n) (Bc Bs n₀ cap : Nat) (ao : Option Addr) (zs : List α) (hmany : zs.length ≤ 65536)
    (w : World) (hBl : Bs < w.heap.size) (hBc : Bc < w.heap.size) (hn₀ : n₀ ≤ w.heap.size) (hB : w.cell? ⟨Bc, 0, none⟩ = some (.func (.func 57) #[] #[.pointer (some ⟨Bs, 0, none⟩)])) (hBs : w.cell? ⟨Bs, 0, none⟩ = some (.slice ao zs.length cap))
    (hrow : 0 < zs.length → ∃ b o, ao = some ⟨b, o, none⟩ ∧ b < n₀ ∧ ∀ j (hj : j < zs.length), ∀ i u, (evCells (ex zs[j]) (.slice (vo zs[j]) (vn zs[j]) (vc zs[j])))[i]? = some u → w.cell? ⟨b, o + j * 5 + i, none⟩ = some u)
    (hC : ∀ (e : Ev) (ao : Option Addr) (m c : Nat) (W : World), Av W n₀ (.slice ao m c) e.ats → n₀ ≤ W.heap.size → CallsIn F (n - 1 - 1 - 1) Try.prog 24 #[evV e (.slice ao m c)] W fun r W' => ∃ v', r = .returned (evV e v') ∧ W'.ownsRow W.heap.size 57 4 v' e.ats.length (e.ats.flatMap enc4) ∧ Below W.heap.size W W')
    (hats : ∀ z ∈ zs, Av w n₀ (.slice (vo z) (vn z) (vc z)) (ex z).ats) :
    SeqStopsH F n Try.prog 56 #[.pointer (some ⟨Bc, 0, none⟩)] (fun x : Ev × Value => #[evV x.1 x.2]) (HC n₀) (KpY n₀) (fun ys => ys.map Prod.fst = zs.map ex) (fun pre => pre.map Prod.fst <+: zs.map ex) zs.length w := fun l J Jx W hW hJ hJx hY h0 => by
  have hcB : ∀ o : Obj, (W.alloc o).cell? ⟨Bc, 0, none⟩ = some (.func (.func 57) #[] #[.pointer (some ⟨Bs, 0, none⟩)]) := fun o => Lib.cell?_alloc_some _ ((hW.cell (p := ⟨Bc, 0, none⟩) hBc).trans hB)
  refine callsIn_of_wp_marks Try.func56 rfl hf ?_ hro
  simp only [Try.ntmps56, List.size_toArray, List.length_cons, List.length_nil, Nat.reduceAdd, Nat.reduceSub, Array.replicate_succ, Array.replicate_zero, List.push_toArray, List.append_toArray, List.nil_append, List.cons_append]
  gi_wp2
  have hbW : Below n₀ w (W.alloc (.cells #[.func (.yield l) #[] #[]] 68)) := (hW.mono hn₀).alloc (Nat.le_trans hn₀ hW.size) _
  have hbw : Below w.heap.size w (W.alloc (.cells #[.func (.yield l) #[] #[]] 68)) := hW.alloc hW.size _
  have hy0 : (W.alloc (.cells #[.func (.yield l) #[] #[]] 68)).heap[W.heap.size]? = some (.cells #[.func (.yield l) #[] #[]] 68 (0, 0)) := heap_alloc_new _ _
  have hJ1 : J [] (W.alloc (.cells #[.func (.yield l) #[] #[]] 68)) := hJ.alloc _ h0
  have hjo : ∀ {K : List (Ev × Value) → World → Prop}, OwnFrom W.heap.size K → OwnFrom (W.alloc (.cells #[.func (.yield l) #[] #[]] 68)).heap.size (fun (pre : List α) W' => ∃ ys, ys.map Prod.fst = pre.map ex ∧ K ys W') := fun hK s A B row hs hg hr => by
    obtain ⟨ys, h1, h2⟩ := hs
    exact ⟨ys, h1, hK ys A B row h2 hg (fun r e => ⟨by have := (hr r e).1; simp at this; omega, (hr r e).2⟩)⟩
  refine wpIn_rangeFunc_H hro (by omega) (gf := 57) (lb := #[.pointer (some ⟨Bs, 0, none⟩)]) rfl hf2 (enters_of Try.func57 (by kernel_rfl) rfl)
    (values_stops ex vo vn vc F (n - 1) hf2 hro (by omega) Bs n₀ cap ao zs hmany w hBl hn₀ hBs hrow) belowK_t (belowK_b (by have := hbW.size; omega)) hbw (fun _ => rfl)
    (fun pre W' => (∃ ys, ys.map Prod.fst = pre.map ex ∧ J ys W') ∧ W'.heap[W.heap.size]? = some (.cells #[.func (.yield l) #[] #[]] 68 (0, 0)) ∧ Below n₀ w W')
    (fun c pre W' => c = .ret ∧ ∃ ys, ys.map Prod.fst = pre.map ex ∧ Jx ys W')
    ?ownI ?ownX ⟨⟨[], rfl, hJ1⟩, hy0, hbW⟩
    (fun x a' W' => x ∈ zs ∧ ∃ Bx, W.heap.size < Bx ∧ W'.heap[Bx]? = some (.cells #[.int .i64 (ex x).src, .int .i64 (ex x).seq, .int .i64 (ex x).time, .string (ex x).ty, .slice (vo x) (vn x) (vc x)] 35 (0, 0)) ∧
      a' = { tmps := #[.func (.yield l) #[] #[], .pointer (some ⟨Bc, 0, none⟩), .pointer (some ⟨W.heap.size, 0, none⟩), .pointer (some ⟨Bx, 0, none⟩), .func (.func 57) #[] #[.pointer (some ⟨Bs, 0, none⟩)], evV (ex x) (.slice (vo x) (vn x) (vc x)), undef, undef, undef, undef, undef], defers := [] })
    ?ownA ?assign ?body ?done ?stop
  case ownI => exact OwnFrom.and (hjo hJ) (OwnFrom.and (fun s A B row hs hg hr => (hg.block _ (Array.getElem?_eq_some_iff.1 hs).1 (fun e => by obtain ⟨_, o, ho, hc⟩ := hr _ e.symm; rw [hs] at ho; cases ho; cases hc)).trans hs) (ownFrom_below hn₀ (by have := hbW.size; omega)))
  case ownX => exact fun c => OwnFrom.and (ownFrom_pure _ _) (hjo hJx)
  case ownA =>
    rintro x a' s A B row ⟨hm, Bx, h1, h2, h3⟩ hg hr
    refine ⟨hm, Bx, h1, (hg.block Bx (Array.getElem?_eq_some_iff.1 h2).1 (fun e => ?_)).trans h2, h3⟩
    obtain ⟨_, o, ho, hc⟩ := hr Bx e.symm
    rw [h2] at ho; cases ho; cases hc
  case assign =>
    rintro l' pre x W' K ⟨⟨ys, h1, h2⟩, hc, hb⟩ hm hK
    have hlt : W.heap.size < W'.heap.size := (Array.getElem?_eq_some_iff.1 hc).1
    unfold evV
    gi_wp2
    exact hK _ _ ((KeepsOthers.alloc _ _).from _) ((Below.refl _ W').alloc (Nat.le_trans hn₀ hb.size) _) ⟨⟨ys, h1, hJ.alloc _ h2⟩, (Below.heap_alloc _ _ _ hlt).trans hc, hb.alloc (Nat.le_trans hn₀ hb.size) _⟩ ⟨hm, W'.heap.size, hlt, heap_alloc_new _ _, rfl⟩
  case body =>
    rintro l' pre x a' W' hl' hr ⟨⟨ys, h1, h2⟩, hc, hb⟩ ⟨hm, Bx, hBx, hbx, rfl⟩ hlen
    obtain ⟨c0, c1, c2, c3, c4⟩ := cell_of_five hbx
    have hcell : W'.cell? ⟨W.heap.size, 0, none⟩ = some (.func (.yield l) #[] #[]) := by simp [World.cell?, hc]
    have hav : Av W' n₀ (.slice (vo x) (vn x) (vc x)) (ex x).ats := (hats x hm).below hb (Nat.le_refl _)
    have hcl := fun (W2 : World) (h : Av W2 n₀ (.slice (vo x) (vn x) (vc x)) (ex x).ats) (h' : n₀ ≤ W2.heap.size) => hC (ex x) (vo x) (vn x) (vc x) W2 h h'
    have hJn : ∀ W2, Below W'.heap.size W' W2 → J ys W2 := fun W2 h => hJ ys W' W2 none h2 ⟨h.os, h.tape, h.output, h.size, fun k hk _ => h.block k hk⟩ (fun r e => by cases e)
    have hlen' : ys.length < zs.length := by have h3 := congrArg List.length h1; simp at h3; omega
    have hmo : Try.prog.follows .mixedOrders = true := by kernel_rfl
    have hbd : Below W'.heap.size W' W'.drew := (Below.refl _ _).drew
    have havd : Av W'.drew n₀ (.slice (vo x) (vn x) (vc x)) (ex x).ats := hav.keep (fun _ _ _ => rfl)
    have hnd : n₀ ≤ W'.drew.heap.size := Nat.le_trans hn₀ hb.size
    have hltP : W.heap.size < W'.heap.size := Nat.lt_trans hBx (Array.getElem?_eq_some_iff.1 hbx).1
    have hYY := fun (W2 : World) (v' : Value) (hJ2 : J ys W2) (hv : HC n₀ (ex x, v') W2) => (yield_deep hd (n - 1 - 1 - 1) (hY ys (ex x, v') W2 hJ2 hv hlen')).mono (R' := fun e W' => ∃ b, e = .returned (.bool b) ∧ (b = true → J (ys ++ [(ex x, v')]) W' ∧ KpY n₀ W2 W') ∧ (b = false → Jx (ys ++ [(ex x, v')]) W') ∧ KeepsFrom W.heap.size W2 W') (fun e W' h => by
      rcases h with ⟨rfl, h3, h4, h5⟩ | ⟨rfl, h3, h5⟩
      · exact ⟨true, rfl, fun _ => ⟨h3, h4⟩, (fun h => nomatch h), h5⟩
      · exact ⟨false, rfl, (fun h => nomatch h), (fun _ => h3), h5⟩)
    unfold evV at hcl hYY ⊢
    gi_wp2
    gi_region_with_o (first
      | (gi_at_call 24; refine (CallsIn.inRound l' (hcl _ havd hnd)).mono ?_; rintro r W2 ⟨v', rfl, ho, hb2⟩; obtain ⟨va, vk, rfl⟩ := own_slice ho; have hbb := hbd.trans hb2; have hc2 := (hb2.cell (p := ⟨W.heap.size, 0, none⟩) hltP).trans (show W'.drew.cell? ⟨W.heap.size, 0, none⟩ = _ from hcell); obtain ⟨fn, tmps, assign, body, hy, hR⟩ := hYY W2 _ (hJn W2 hbb) ⟨row_base ho hnd, hav.wide, hav.len⟩; clear hbb)
      | (refine hR.mono ?_; rintro e W3 ⟨bb, rfl, hb3, hb4, hb5⟩))
    all_goals
      have hkf2 : KeepsFrom W.heap.size W' W2 := ⟨(hbd.trans hb2).size, fun k o _ hk _ => ((hbd.trans hb2).block k (Array.getElem?_eq_some_iff.1 hk).1).trans hk⟩
      have hkf3 := hkf2.trans hb5
      have hkf : KeepsFrom (W.heap.size + 1) W' W3 := ⟨hkf3.size, fun k o hk => hkf3.same k o (by omega)⟩
      have hc2 : W2.heap[W.heap.size]? = some (.cells #[.func (.yield l) #[] #[]] 68 (0, 0)) := ((hbd.trans hb2).block _ hltP).trans hc
      cases bb with
      | true =>
        obtain ⟨hj3, hbn3, hty3⟩ := hb3 rfl
        have hbn : Below n₀ W' W3 := ((hbd.trans hb2).mono (Nat.le_trans hn₀ hb.size)).trans hbn3
        have hcy := hty3 _ _ _ hc2
        gi_wp2
        exact ⟨hkf, hbn, ⟨_, by simp [h1], hj3⟩, hcy, hb.trans hbn⟩
      | false =>
        have hj3 := hb4 rfl
        gi_wp2
        exact ⟨hkf, rfl, _, by simp [h1], hj3⟩
  case done =>
    rintro D xs W' hD rfl ⟨⟨ys, h1, h2⟩, hc, hb⟩ hK
    have hD' : W.heap.size ≤ D := by have := hD; simp at this; omega
    have hJD := hJ.putObj (.deferred none) h2 hD' hK rfl
    gi_wp2
    refine ⟨by simp, .inl ⟨_, _, rfl, run_takeDeferred hK, ?_⟩⟩
    exact ⟨_, results_none rfl _ _ _, ⟨_, rfl⟩, .inl ⟨ys, h1, hJD⟩⟩
  case stop =>
    rintro D c pre W' hD hp ⟨rfl, ys, h1, h2⟩ hK
    have hD' : W.heap.size ≤ D := by have := hD; simp at this; omega
    have hJD := hJx.putObj (.deferred none) h2 hD' hK rfl
    gi_wp2
    refine ⟨by simp, .inl ⟨_, _, rfl, run_takeDeferred hK, ?_⟩⟩
    exact ⟨_, results_none rfl _ _ _, ⟨_, rfl⟩, .inr ⟨ys, by rw [h1]; exact hp.map ex, hJD⟩⟩
end Go.Proofs.Ythjhbnfedelniaa
