/- slices.Collect of what maps.Values goes through. -/
import Derived.Maps.AppendAt
import Derived.Deep.AppendLies
import Derived.Test.YtiinljljbjjaeaaGreatDoorMv0
import Derived.Test.YtiinljljbjjaeaaGreatDoorRlb
namespace Go.Proofs.YtiinljljbjjaeaaGreatDoor
open Go Go.RowKit Go.Maps Go.Sort Go.WideMaps Go.Shelf
attribute [local go_sem] Oper.semAt_some

theorem mapValues_stops (F : Fence) (n : Nat) (h8 : F.fn 61) (hro : F.round = none) (hn : 1 ≤ n) (Bm b nn : Nat) (D0 : DataW Value) (L : List (Value × List Bd)) (w : World) (hBm : Bm < w.heap.size)
    (hm : w.cell? ⟨Bm, 0, none⟩ = some (.map (some b))) (hown : w.ownsMap Tryz.prog 9 heldE b nn D0) (hL : MapL D0 L) :
    SeqStopsH F n Tryz.prog 61 #[.pointer (some ⟨Bm, 0, none⟩)] (fun x : Sl => #[.agg #[slV x]]) (fun _ _ => True) KeepsWalks (AllV L) (fun _ => True) L.length w := fun l J Jx W hW hJ _ hY h0 => by
  refine (mapValues1_in F n h8 hro hn l Bm b nn D0 J Jx (fun pre x W1 hj hl => (hY pre x W1 hj trivial (by rw [← hL.size]; exact hl)).mono (fun e W' h => h.imp (fun ⟨a, b, c, _⟩ => ⟨a, b, c⟩) (fun ⟨a, b, _⟩ => ⟨a, b⟩))) W hJ ((hW.cell (p := ⟨Bm, 0, none⟩) hBm).trans hm) (owns_block0 hown (hW.block b hown.lt)) h0).mono ?_
  rintro e W' ⟨he, ⟨ps, h1, h2, h3, h4⟩ | ⟨pre, hj⟩⟩
  · exact ⟨he, .inl ⟨_, allV_of hL h1 h2 h3, h4⟩⟩
  · exact ⟨he, .inr ⟨_, trivial, hj⟩⟩
theorem infoPt : (Tryz.prog.info? 38).map (fun i => (i.zero, i.size, i.bytes)) = some (some (.agg #[.slice none 0 0]), 1, 24) := by kernel_rfl
theorem own_stays0 {W W' : World} {base e size n : Nat} {v : Value} {xs : List Value} (h : W.ownsRow base e size v n xs) (hk : ∀ (k : Nat) (cs : Array Value) (fr : Nat × Nat), W.heap[k]? = some (.cells cs e fr) → W'.heap[k]? = some (.cells cs e fr)) : W'.ownsRow base e size v n xs := by
  refine ⟨h.1, h.2.imp id ?_⟩
  rintro ⟨g, cap, cur, hv, hB, hg, rest⟩
  exact ⟨g, cap, cur, hv, hB, hk g _ _ hg, rest⟩
theorem cells_far0 {A B : World} {row : Option Nat} (hg : A.grownBy B row) (hr : ∀ r, row = some r → ∃ o : Obj, A.heap[r]? = some o ∧ o.isCells = false) {k : Nat} {cs : Array Value} {t : Nat} {fr : Nat × Nat} (hk : A.heap[k]? = some (.cells cs t fr)) : B.heap[k]? = some (.cells cs t fr) :=
  (hg.block k (Array.getElem?_eq_some_iff.1 hk).1 (fun e => by obtain ⟨o, ho, hc⟩ := hr k e.symm; rw [hk] at ho; cases ho; cases hc)).trans hk
theorem keepsWalks_of {W W' : World} (h : KeepsOthers W W') : KeepsWalks W W' := ⟨h.size, fun k o hk hw => h.same k o hk (walk_not_cells hw)⟩
theorem keepsWalks_put {W : World} {l : Nat} {o o' : Obj} (hl : W.heap[l]? = some o) (hw : o.isWalk = false) : KeepsWalks W (W.putObj l o') :=
  ⟨by simp, fun k x hk hx => by
    have hne : k ≠ l := by rintro rfl; rw [hk] at hl; cases hl; rw [hw] at hx; cases hx
    exact (World.putObj_heap_other hne).trans hk⟩

set_option maxRecDepth 100000 in
set_option maxHeartbeats 4000000 in
theorem appendSeqP_in (n : Nat) (hn : 9 ≤ n) (Bm b nn : Nat) (D0 : DataW Value) (L : List (Value × List Bd)) (w : World) (hBm : Bm < w.heap.size)
    (hm : w.cell? ⟨Bm, 0, none⟩ = some (.map (some b))) (hown : w.ownsMap Tryz.prog 9 heldE b nn D0) (hL : MapL D0 L) (hmany : L.length ≤ 5864062014805) :
    CallsIn Fence.wide n Tryz.prog 87 #[.slice none 0 0, .func (.func 61) #[] #[.pointer (some ⟨Bm, 0, none⟩)]] w fun e w' => ∃ (v : Value) (pre : List Sl), e = .returned v ∧ AllV L pre ∧ w'.ownsRow w.heap.size 38 1 v pre.length (pre.map slV) ∧ Below w.heap.size w w' := by
  refine callsIn_of_wp_marks Tryz.func87 rfl trivial ?_ rfl
  simp only [Tryz.ntmps87, List.size_toArray, List.length_cons, List.length_nil, Nat.reduceAdd, Nat.reduceSub, Array.replicate_succ, Array.replicate_zero, List.push_toArray, List.append_toArray, List.nil_append, List.cons_append]
  gi_wp2
  obtain ⟨P, hP⟩ : ∃ P, P = w.heap.size := ⟨_, rfl⟩
  obtain ⟨W0, hW0⟩ : ∃ W0, W0 = w.alloc (.cells #[.slice none 0 0] 22) := ⟨_, rfl⟩
  have hb0 : Below P w W0 := by rw [hW0, hP]; exact (Below.refl _ _).alloc (Nat.le_refl _) _
  have hs0 : W0.heap.size = P + 1 := by rw [hW0, hP]; simp
  have h0 : Boxed W0 P 22 (.slice none 0 0) := by rw [hW0, hP]; exact Boxed.new w _ _
  have hPw : P ≤ w.heap.size := by omega
  have hst := mapValues_stops Fence.wide (n - 1) trivial rfl (by omega) Bm b nn D0 L W0 (by omega) (by rw [hW0]; exact Lib.cell?_alloc_some _ hm) (by rw [hW0]; exact hown.alloc _) hL
  rw [← hW0, ← hP]
  have HP := Lib.hid hP
  clear hW0 hP hm hown hL
  refine wpIn_rangeFunc_HB 5 rfl (by omega) (gf := 61) (lb := #[.pointer (some ⟨Bm, 0, none⟩)]) rfl trivial (enters_of Tryz.func61 (by kernel_rfl) rfl)
    hst KeepsWalks.trans (fun W l o o' hl h ho hw => keepsWalks_put h hw) (Below.refl _ _) (fun _ => rfl)
    (fun (pre : List Sl) (W : World) => (∃ v, Boxed W P 22 v ∧ W.ownsRow P 38 1 v pre.length (pre.map slV)) ∧ Below P w W)
    (fun _ _ _ => False) ?ownI (fun _ _ _ _ _ hs _ _ => hs) ⟨⟨_, h0, World.ownsRow_nil _ _ _ _⟩, hb0⟩
    (fun (x : Sl) (Bx : Nat) (W : World) => P + 1 ≤ Bx ∧ W.heap[Bx]? = some (.cells #[slV x] 38 (0, 0)))
    ?ownA ?assign ?body ?done (fun _ _ _ _ _ _ h _ => h.elim)
  case ownI =>
    refine OwnFrom.and ?_ (ownFrom_below hPw (by omega))
    rintro pre A B row ⟨v, hbx, hrow⟩ hg hr
    have hfar : ∀ {k : Nat} {cs : Array Value} {t : Nat} {fr : Nat × Nat}, A.heap[k]? = some (.cells cs t fr) → B.heap[k]? = some (.cells cs t fr) := fun hk => cells_far0 hg (fun r e => (hr r e).2) hk
    exact ⟨v, hfar hbx, own_stays0 hrow (fun _ _ _ h => hfar h)⟩
  case ownA =>
    rintro x Bx _ A B row ⟨g1, g3⟩ hg hr
    exact ⟨g1, cells_far0 hg (fun r e => (hr r e).2) g3⟩
  case assign =>
    rintro l' pre ⟨a, m, c⟩ W K hi _ hK
    have hK := Lib.hid hK
    have hlt : P + 1 ≤ W.heap.size := by obtain ⟨⟨v, hbx, _⟩, _⟩ := hi; have := hbx.lt; omega
    unfold slV
    gi_wp2
    have hb : Below W.heap.size W (W.alloc (.cells #[.slice a m c] 38)) := (Below.refl _ _).alloc (Nat.le_refl _) _
    have hst : ∀ {k : Nat} {cs : Array Value} {t : Nat} {fr : Nat × Nat}, W.heap[k]? = some (.cells cs t fr) → (W.alloc (.cells #[.slice a m c] 38)).heap[k]? = some (.cells cs t fr) := fun hk => heap_alloc_keeps hk _
    obtain ⟨⟨v0, hbx, hrow⟩, hbw⟩ := hi
    have hk := hK.out W.heap.size _ ((KeepsOthers.alloc _ _).from _) (keepsWalks_of (KeepsOthers.alloc _ _)) ⟨⟨v0, hst hbx, own_stays0 hrow (fun _ _ _ h => hst h)⟩, hbw.alloc (by omega) _⟩ ⟨hlt, heap_alloc_new _ _⟩
    clear hK
    simpa [boxAct, slV] using hk
  case body =>
    rintro l' pre ⟨a, m, c⟩ Bx W hl' hr ⟨⟨v0, hbx, hrow⟩, hbw⟩ ⟨hBx, hx⟩ hlen
    unfold boxAct
    obtain ⟨i0, hi, hz0, hz1, hz2⟩ := info_parts infoPt
    obtain ⟨a0, k0, rfl⟩ := own_slice hrow
    have hPW : P ≤ W.heap.size := Nat.le_of_lt hbx.lt
    have p0 := hbx.cell
    have d0 : W.cell? ⟨Bx, 0, none⟩ = some (.slice a m c) := by simp [World.cell?, hx, slV]
    have HBX := Lib.hid hbx; have HROW := Lib.hid hrow; have HBW := Lib.hid hbw
    have hl65 : pre.length < 5864062014805 := by omega
    clear hbx hrow hbw hx
    gi_wp2_with (gi_at_builtin; refine wpListIn_append_own _ rfl _ _ 22 rfl P 38 i0 (.agg #[.slice none 0 0]) 1 24 Tryz.underlying22 hi hz0 hz1 hz2 rfl (by decide) (.slice a0 pre.length k0) pre.length (pre.map slV) rfl (HROW.out.alloc _) ⟨W.heap.size, 0, none⟩ 1 1 [.slice a m c] rfl rfl (World.news_of_block (heap_alloc_new W _)) (by intro u hu; rw [List.mem_singleton.1 hu]; rfl) (by unfold maxLen; omega) (by omega) (by simp; omega) ?_; intro v' w1 hown' hgrow _; obtain ⟨g', cap', rfl⟩ := own_shape hown'; obtain ⟨hv1, hv2, hr2, hk2, hb2⟩ := HBX.out.appended (by decide) HROW.out hPW (Nat.le_refl _) hown' hgrow; have hc1 := hv1.cell; have hf1 := hv1.frozen; have HGR := Lib.hid hgrow; have HV1 := Lib.hid hv1; have HV2 := Lib.hid hv2; have HR2 := Lib.hid hr2; have HK2 := Lib.hid hk2; have HB2 := Lib.hid hb2; clear hown' hgrow hv1 hv2 hr2 hk2 hb2)
    refine ⟨HK2.out.from _, keepsWalks_of HK2.out, ⟨⟨_, HV2.out, ?_⟩, HBW.out.trans HB2.out⟩⟩
    have h := HR2.out
    simpa [slV] using h
  case done =>
    rintro D xs W hD hS ⟨⟨v0, hbx, hrow⟩, hbw⟩ hK
    have p0 := hbx.cell
    obtain ⟨a0, k0, rfl⟩ := own_slice hrow
    have HBX := Lib.hid hbx; have HROW := Lib.hid hrow; have HBW := Lib.hid hbw; have HK := Lib.hid hK; have HS := Lib.hid hS; have HD := Lib.hid hD
    clear hbx hrow hbw hS hD
    gi_wp2
    refine ⟨by simp, .inl ⟨_, _, rfl, run_takeDeferred HK.out, ?_⟩⟩
    have hg : W.grownBy (W.putObj D (.deferred none)) (some D) := grownBy_putObj' W D _
    have hfar : ∀ {k : Nat} {cs : Array Value} {t : Nat} {fr : Nat × Nat}, W.heap[k]? = some (.cells cs t fr) → (W.putObj D (.deferred none)).heap[k]? = some (.cells cs t fr) := fun hk => cells_far0 hg (fun r e => by cases e; exact ⟨_, HK.out, rfl⟩) hk
    have h1 := own_stays0 HROW.out (fun _ _ _ h => hfar h)
    have h3 : Below P w (W.putObj D (.deferred none)) := HBW.out.grown hg (by have := HBW.out.size; omega) (fun k e => by cases e; have := HD.out; omega)
    rw [HP.out] at h1 h3
    refine ⟨_, results_tmp rfl _ _ _, ?_⟩
    exact ⟨.slice a0 xs.length k0, xs, by simp, HS.out, h1, h3⟩

theorem collectP_any (Bm b nn : Nat) (D0 : DataW Value) (L : List (Value × List Bd)) (w : World) (hBm : Bm < w.heap.size)
    (hm : w.cell? ⟨Bm, 0, none⟩ = some (.map (some b))) (hown : w.ownsMap Tryz.prog 9 heldE b nn D0) (hL : MapL D0 L) (hmany : L.length ≤ 5864062014805) :
    Calls Tryz.prog 59 #[.func (.func 61) #[] #[.pointer (some ⟨Bm, 0, none⟩)]] w fun e w' => ∃ (v : Value) (pre : List Sl), e = .returned v ∧ AllV L pre ∧ w'.ownsRow w.heap.size 38 1 v pre.length (pre.map slV) ∧ Below w.heap.size w w' := by
  have HC := Lib.hid ((callsIn_wide (n := 9)).1 (appendSeqP_in 9 (by decide) Bm b nn D0 L w hBm hm hown hL hmany))
  clear hm hown hL hmany
  go_enter Tryz.func59, Tryz.ntmps59
  go_wp2_with (go_at_call 87; (with_reducible refine (HC.out).mono ?_); rintro e w1 ⟨v, pre, rfl, h⟩; have HH := Lib.hid h; clear h)
  go_ret
  exact ⟨_, pre, rfl, HH.out⟩
end Go.Proofs.YtiinljljbjjaeaaGreatDoor
