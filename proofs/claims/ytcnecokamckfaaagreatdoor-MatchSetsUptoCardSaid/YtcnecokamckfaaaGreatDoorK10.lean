/- Joined: Co0, Cd0. -/
import Derived.Maps.AppendAt
import Derived.Deep.AppendLies
import Derived.Test.YtcnecokamckfaaaGreatDoorK9
import Derived.Test.YtcnecokamckfaaaGreatDoorCe0
import Derived.Lib.QuietBelow
import Derived.Deep.RegionHeld3
set_option linter.unusedVariables false
set_option linter.unusedSimpArgs false
/- slices.Collect of what maps.Values goes through. -/
namespace Go.Proofs.YtcnecokamckfaaaGreatDoor
open Go Go.RowKit Go.Maps Go.Sort Go.WideMaps Go.Shelf
attribute [local go_sem] Oper.semAt_some

theorem mapValues_stops (F : Fence) (n : Nat) (h8 : F.fn 61) (hro : F.round = none) (hn : 1 ≤ n) (Bm b nn : Nat) (D0 : DataW Value) (L : List (Value × List Bd)) (w : World) (hBm : Bm < w.heap.size)
    (hm : w.cell? ⟨Bm, 0, none⟩ = some (.map (some b))) (hown : w.ownsMap Tryz.prog 9 heldE b nn D0) (hL : MapL D0 L) :
    SeqStopsH F n Tryz.prog 61 #[.pointer (some ⟨Bm, 0, none⟩)] (fun x : Sl => #[.agg #[slV x]]) (fun _ _ => True) KeepsWalks (AllV L) (fun _ => True) L.length w := fun l J Jx W hW hJ _ hY h0 => by
  refine (mapValues1_in F n h8 hro hn l Bm b nn D0 J Jx (fun pre x W1 hj hl => (hY pre x W1 hj trivial (by rw [← hL.size]; exact hl)).mono (fun e W' h => h.imp (fun ⟨a, b, c, _⟩ => ⟨a, b, c⟩) (fun ⟨a, b, _⟩ => ⟨a, b⟩))) W hJ ((hW.cell (p := ⟨Bm, 0, none⟩) hBm).trans hm) (owns_block0 hown (hW.block b hown.lt)) h0).mono ?_
  rintro e W' ⟨he, ⟨ps, h1, h2, h3, h4⟩ | ⟨pre, hj⟩⟩
  · exact ⟨he, .inl ⟨_, allV_of hL h1 h2 h3, h4⟩⟩
  · exact ⟨he, .inr ⟨_, trivial, hj⟩⟩
theorem infoPt : (Tryz.prog.info? 38).map (fun i => (i.zero, i.size, i.bytes)) = some (some (.agg #[.slice none 0 0]), 1, 24) := by kernel_rfl
theorem own_stays0 {W W' : World} {base e size n : Nat} {v : Value} {xs : List Value} (h : W.ownsRow base e size v n xs) (hk : ∀ (k : Nat) (cs : Array Value) (fr : Nat × Nat), W.heap[k]? = some (.cells cs e fr) → W'.heap[k]? = some (.cells cs e fr)) : W'.ownsRow base e size v n xs := by
  refine ⟨h.1, h.2.imp id ?_⟩
  rintro ⟨g, cap, cur, hv, hB, hg, rest⟩
  exact ⟨g, cap, cur, hv, hB, hk g _ _ hg, rest⟩
theorem cells_far0 {A B : World} {row : Option Nat} (hg : A.grownBy B row) (hr : ∀ r, row = some r → ∃ o : Obj, A.heap[r]? = some o ∧ o.isCells = false) {k : Nat} {cs : Array Value} {t : Nat} {fr : Nat × Nat} (hk : A.heap[k]? = some (.cells cs t fr)) : B.heap[k]? = some (.cells cs t fr) :=
  (hg.block k (Array.getElem?_eq_some_iff.1 hk).1 (fun e => by obtain ⟨o, ho, hc⟩ := hr k e.symm; rw [hk] at ho; cases ho; cases hc)).trans hk
theorem keepsWalks_of {W W' : World} (h : KeepsOthers W W') : KeepsWalks W W' := ⟨h.size, fun k o hk hw => h.same k o hk (walk_not_cells hw)⟩
theorem keepsWalks_put {W : World} {l : Nat} {o o' : Obj} (hl : W.heap[l]? = some o) (hw : o.isWalk = false) : KeepsWalks W (W.putObj l o') :=
  ⟨by simp, fun k x hk hx => by
    have hne : k ≠ l := by rintro rfl; rw [hk] at hl; cases hl; rw [hw] at hx; cases hx
    exact (World.putObj_heap_other hne).trans hk⟩

set_option maxRecDepth 100000 in
set_option maxHeartbeats 4000000 in
theorem appendSeqP_in (n : Nat) (hn : 9 ≤ n) (Bm b nn : Nat) (D0 : DataW Value) (L : List (Value × List Bd)) (w : World) (hBm : Bm < w.heap.size)
    (hm : w.cell? ⟨Bm, 0, none⟩ = some (.map (some b))) (hown : w.ownsMap Tryz.prog 9 heldE b nn D0) (hL : MapL D0 L) (hmany : L.length ≤ 5864062014805) :
    CallsIn Fence.wide n Tryz.prog 87 #[.slice none 0 0, .func (.func 61) #[] #[.pointer (some ⟨Bm, 0, none⟩)]] w fun e w' => ∃ (v : Value) (pre : List Sl), e = .returned v ∧ AllV L pre ∧ w'.ownsRow w.heap.size 38 1 v pre.length (pre.map slV) ∧ Below w.heap.size w w' := by
  refine callsIn_of_wp_marks Tryz.func87 rfl trivial ?_ rfl
  simp only [Tryz.ntmps87, List.size_toArray, List.length_cons, List.length_nil, Nat.reduceAdd, Nat.reduceSub, Array.replicate_succ, Array.replicate_zero, List.push_toArray, List.append_toArray, List.nil_append, List.cons_append]
  gi_wp2
  obtain ⟨P, hP⟩ : ∃ P, P = w.heap.size := ⟨_, rfl⟩
  obtain ⟨W0, hW0⟩ : ∃ W0, W0 = w.alloc (.cells #[.slice none 0 0] 22) := ⟨_, rfl⟩
  have hb0 : Below P w W0 := by rw [hW0, hP]; exact (Below.refl _ _).alloc (Nat.le_refl _) _
  have hs0 : W0.heap.size = P + 1 := by rw [hW0, hP]; simp
  have h0 : Boxed W0 P 22 (.slice none 0 0) := by rw [hW0, hP]; exact Boxed.new w _ _
  have hPw : P ≤ w.heap.size := by omega
  have hst := mapValues_stops Fence.wide (n - 1) trivial rfl (by omega) Bm b nn D0 L W0 (by omega) (by rw [hW0]; exact Lib.cell?_alloc_some _ hm) (by rw [hW0]; exact hown.alloc _) hL
  rw [← hW0, ← hP]
  have HP := Lib.hid hP
  clear hW0 hP hm hown hL
  refine wpIn_rangeFunc_HB 5 rfl (by omega) (gf := 61) (lb := #[.pointer (some ⟨Bm, 0, none⟩)]) rfl trivial (enters_of Tryz.func61 (by kernel_rfl) rfl)
    hst KeepsWalks.trans (fun W l o o' hl h ho hw => keepsWalks_put h hw) (Below.refl _ _) (fun _ => rfl)
    (fun (pre : List Sl) (W : World) => (∃ v, Boxed W P 22 v ∧ W.ownsRow P 38 1 v pre.length (pre.map slV)) ∧ Below P w W)
    (fun _ _ _ => False) ?ownI (fun _ _ _ _ _ hs _ _ => hs) ⟨⟨_, h0, World.ownsRow_nil _ _ _ _⟩, hb0⟩
    (fun (x : Sl) (Bx : Nat) (W : World) => P + 1 ≤ Bx ∧ W.heap[Bx]? = some (.cells #[slV x] 38 (0, 0)))
    ?ownA ?assign ?body ?done (fun _ _ _ _ _ _ h _ => h.elim)
  case ownI =>
    refine OwnFrom.and ?_ (ownFrom_below hPw (by omega))
    rintro pre A B row ⟨v, hbx, hrow⟩ hg hr
    have hfar : ∀ {k : Nat} {cs : Array Value} {t : Nat} {fr : Nat × Nat}, A.heap[k]? = some (.cells cs t fr) → B.heap[k]? = some (.cells cs t fr) := fun hk => cells_far0 hg (fun r e => (hr r e).2) hk
    exact ⟨v, hfar hbx, own_stays0 hrow (fun _ _ _ h => hfar h)⟩
  case ownA =>
    rintro x Bx _ A B row ⟨g1, g3⟩ hg hr
    exact ⟨g1, cells_far0 hg (fun r e => (hr r e).2) g3⟩
  case assign =>
    rintro l' pre ⟨a, m, c⟩ W K hi _ hK
    have hK := Lib.hid hK
    have hlt : P + 1 ≤ W.heap.size := by obtain ⟨⟨v, hbx, _⟩, _⟩ := hi; have := hbx.lt; omega
    unfold slV
    gi_wp2
    have hb : Below W.heap.size W (W.alloc (.cells #[.slice a m c] 38)) := (Below.refl _ _).alloc (Nat.le_refl _) _
    have hst : ∀ {k : Nat} {cs : Array Value} {t : Nat} {fr : Nat × Nat}, W.heap[k]? = some (.cells cs t fr) → (W.alloc (.cells #[.slice a m c] 38)).heap[k]? = some (.cells cs t fr) := fun hk => heap_alloc_keeps hk _
    obtain ⟨⟨v0, hbx, hrow⟩, hbw⟩ := hi
    have hk := hK.out W.heap.size _ ((KeepsOthers.alloc _ _).from _) (keepsWalks_of (KeepsOthers.alloc _ _)) ⟨⟨v0, hst hbx, own_stays0 hrow (fun _ _ _ h => hst h)⟩, hbw.alloc (by omega) _⟩ ⟨hlt, heap_alloc_new _ _⟩
    clear hK
    simpa [boxAct, slV] using hk
  case body =>
    rintro l' pre ⟨a, m, c⟩ Bx W hl' hr ⟨⟨v0, hbx, hrow⟩, hbw⟩ ⟨hBx, hx⟩ hlen
    unfold boxAct
    obtain ⟨i0, hi, hz0, hz1, hz2⟩ := info_parts infoPt
    obtain ⟨a0, k0, rfl⟩ := own_slice hrow
    have hPW : P ≤ W.heap.size := Nat.le_of_lt hbx.lt
    have p0 := hbx.cell
    have d0 : W.cell? ⟨Bx, 0, none⟩ = some (.slice a m c) := by simp [World.cell?, hx, slV]
    have HBX := Lib.hid hbx; have HROW := Lib.hid hrow; have HBW := Lib.hid hbw
    have hl65 : pre.length < 5864062014805 := by omega
    clear hbx hrow hbw hx
    gi_wp2_with (gi_at_builtin; refine wpListIn_append_own _ rfl _ _ 22 rfl P 38 i0 (.agg #[.slice none 0 0]) 1 24 Tryz.underlying22 hi hz0 hz1 hz2 rfl (by decide) (.slice a0 pre.length k0) pre.length (pre.map slV) rfl (HROW.out.alloc _) ⟨W.heap.size, 0, none⟩ 1 1 [.slice a m c] rfl rfl (World.news_of_block (heap_alloc_new W _)) (by intro u hu; rw [List.mem_singleton.1 hu]; rfl) (by unfold maxLen; omega) (by omega) (by simp; omega) ?_; intro v' w1 hown' hgrow _; obtain ⟨g', cap', rfl⟩ := own_shape hown'; obtain ⟨hv1, hv2, hr2, hk2, hb2⟩ := HBX.out.appended (by decide) HROW.out hPW (Nat.le_refl _) hown' hgrow; have hc1 := hv1.cell; have hf1 := hv1.frozen; have HGR := Lib.hid hgrow; have HV1 := Lib.hid hv1; have HV2 := Lib.hid hv2; have HR2 := Lib.hid hr2; have HK2 := Lib.hid hk2; have HB2 := Lib.hid hb2; clear hown' hgrow hv1 hv2 hr2 hk2 hb2)
    refine ⟨HK2.out.from _, keepsWalks_of HK2.out, ⟨⟨_, HV2.out, ?_⟩, HBW.out.trans HB2.out⟩⟩
    have h := HR2.out
    simpa [slV] using h
  case done =>
    rintro D xs W hD hS ⟨⟨v0, hbx, hrow⟩, hbw⟩ hK
    have p0 := hbx.cell
    obtain ⟨a0, k0, rfl⟩ := own_slice hrow
    have HBX := Lib.hid hbx; have HROW := Lib.hid hrow; have HBW := Lib.hid hbw; have HK := Lib.hid hK; have HS := Lib.hid hS; have HD := Lib.hid hD
    clear hbx hrow hbw hS hD
    gi_wp2
    refine ⟨by simp, .inl ⟨_, _, rfl, run_takeDeferred HK.out, ?_⟩⟩
    have hg : W.grownBy (W.putObj D (.deferred none)) (some D) := grownBy_putObj' W D _
    have hfar : ∀ {k : Nat} {cs : Array Value} {t : Nat} {fr : Nat × Nat}, W.heap[k]? = some (.cells cs t fr) → (W.putObj D (.deferred none)).heap[k]? = some (.cells cs t fr) := fun hk => cells_far0 hg (fun r e => by cases e; exact ⟨_, HK.out, rfl⟩) hk
    have h1 := own_stays0 HROW.out (fun _ _ _ h => hfar h)
    have h3 : Below P w (W.putObj D (.deferred none)) := HBW.out.grown hg (by have := HBW.out.size; omega) (fun k e => by cases e; have := HD.out; omega)
    rw [HP.out] at h1 h3
    refine ⟨_, results_tmp rfl _ _ _, ?_⟩
    exact ⟨.slice a0 xs.length k0, xs, by simp, HS.out, h1, h3⟩

theorem collectP_any (Bm b nn : Nat) (D0 : DataW Value) (L : List (Value × List Bd)) (w : World) (hBm : Bm < w.heap.size)
    (hm : w.cell? ⟨Bm, 0, none⟩ = some (.map (some b))) (hown : w.ownsMap Tryz.prog 9 heldE b nn D0) (hL : MapL D0 L) (hmany : L.length ≤ 5864062014805) :
    Calls Tryz.prog 59 #[.func (.func 61) #[] #[.pointer (some ⟨Bm, 0, none⟩)]] w fun e w' => ∃ (v : Value) (pre : List Sl), e = .returned v ∧ AllV L pre ∧ w'.ownsRow w.heap.size 38 1 v pre.length (pre.map slV) ∧ Below w.heap.size w w' := by
  have HC := Lib.hid ((callsIn_wide (n := 9)).1 (appendSeqP_in 9 (by decide) Bm b nn D0 L w hBm hm hown hL hmany))
  clear hm hown hL hmany
  go_enter Tryz.func59, Tryz.ntmps59
  go_wp2_with (go_at_call 87; (with_reducible refine (HC.out).mono ?_); rintro e w1 ⟨v, pre, rfl, h⟩; have HH := Lib.hid h; clear h)
  go_ret
  exact ⟨_, pre, rfl, HH.out⟩
end Go.Proofs.YtcnecokamckfaaaGreatDoor

/- How two partial matches stand to each other, and what that asks of the world: blocks laid, draws. -/
namespace Go.Proofs.YtcnecokamckfaaaGreatDoor
open Go Go.RowKit Go.Sort

/-- As Below; and the tape was not wound back. -/
structure BelD (B : Nat) (w w' : World) : Prop extends Below B w w' where
  drawn : w.drawn ≤ w'.drawn
theorem BelD.refl (B : Nat) (w : World) : BelD B w w := ⟨Below.refl B w, Nat.le_refl _⟩
theorem BelD.trans {B : Nat} {a b c : World} (h : BelD B a b) (k : BelD B b c) : BelD B a c := ⟨h.toBelow.trans k.toBelow, Nat.le_trans h.drawn k.drawn⟩
theorem BelD.mono {B B' : Nat} {w w' : World} (h : BelD B w w') (hB : B' ≤ B) : BelD B' w w' := ⟨h.toBelow.mono hB, h.drawn⟩
theorem BelD.drew {B : Nat} {a w : World} (h : BelD B a w) : BelD B a w.drew := ⟨h.toBelow.drew, Nat.le_succ_of_le h.drawn⟩
theorem BelD.alloc {B : Nat} {a w : World} (h : BelD B a w) (hB : B ≤ w.heap.size) (o : Obj) : BelD B a (w.alloc o) := ⟨h.toBelow.alloc hB o, h.drawn⟩
theorem BelD.grown {w w' : World} (h : BelD w.heap.size w w') : ∃ q os, w' = grow (w.drewN q) os := by
  obtain ⟨p, hp⟩ := regrown_of_below h.toBelow
  have hd : p.d = w.drawn + (p.d - w.drawn) := by
    have := h.drawn
    rw [hp] at this
    have h2 : w.drawn ≤ p.d := this
    omega
  refine ⟨p.d - w.drawn, p.os, hp.trans ?_⟩
  unfold redrawn World.drewN
  rw [← hd]

set_option maxRecDepth 100000 in
set_option maxHeartbeats 1600000 in
theorem eCompare_dr (s q s' q' : Int) (w : World) :
    Calls Tryz.prog 70 #[.agg #[.int .i64 s, .int .i64 q], .agg #[.int .i64 s', .int .i64 q']] w fun e w' => e = .returned (.int .i64 (cmpID s q s' q')) ∧ BelD w.heap.size w w' := by
  obtain ⟨P, hP⟩ : ∃ P, P = w.heap.size := ⟨_, rfl⟩
  obtain ⟨W, hW⟩ : ∃ W, W = (w.alloc (.cells #[.int .i64 s, .int .i64 q] 49)).alloc (.cells #[.int .i64 s', .int .i64 q'] 49) := ⟨_, rfl⟩
  have hb0 : BelD P w W := by rw [hW, hP]; exact ((BelD.refl _ _).alloc (Nat.le_refl _) _).alloc (by simp) _
  have HB := hide hb0
  have hx0 : W.heap[P]? = some (.cells #[.int .i64 s, .int .i64 q] 49 (0, 0)) := by rw [hW, hP]; exact heap_alloc_keeps (heap_alloc_new w _) _
  have hx1 : W.heap[P + 1]? = some (.cells #[.int .i64 s', .int .i64 q'] 49 (0, 0)) := by rw [hW, hP]; exact heap_alloc_at (by simp) rfl
  have hpw : P ≤ W.heap.size := by rw [hW, hP]; simp; omega
  obtain ⟨c0, c1⟩ := cell_of_two' hx0
  obtain ⟨d0, d1⟩ := cell_of_two' hx1
  have HW := hide hW; have HP := hide hP
  have HPW := hide hpw
  obtain ⟨x, hx⟩ : ∃ x, x = cmpI s s' := ⟨_, rfl⟩
  obtain ⟨y, hy⟩ : ∃ y, y = cmpI q q' := ⟨_, rfl⟩
  have C1 := fun w => cmpInt_any s s' w
  have C2 := fun w => cmpI_any q q' w
  rw [← hx] at C1; rw [← hy] at C2
  have HC1 := hide C1; have HC2 := hide C2
  have HR : Hid (cmpID s q s' q' = orI x y) := by rw [hx, hy]; rfl
  rw [← hP]
  clear hP hW hx0 hx1 hx hy C1 C2 hb0 hpw
  go_enter Tryz.func70, Tryz.ntmps70
  go_wp2_with fail
  rw [← HW.out, ← HP.out]
  go_region_held3 (fun w' => w'.cell? ⟨P, 0, none⟩ = some (.int .i64 s) ∧ w'.cell? ⟨P, 1, none⟩ = some (.int .i64 q) ∧ w'.cell? ⟨P + 1, 0, none⟩ = some (.int .i64 s') ∧ w'.cell? ⟨P + 1, 1, none⟩ = some (.int .i64 q'))
    (first | exact ⟨c0, c1, d0, d1⟩ | go_keep)
    (first
      | (go_at_call 99; (with_reducible refine (HC1.out _).mono ?_); rintro e w1 ⟨rfl, rfl⟩)
      | (go_at_call 100; (with_reducible refine (HC2.out _).mono ?_); rintro e w1 ⟨rfl, rfl⟩)
      | (go_at_call 69; (refine (cmpOr_any x y W.heap.size (W.alloc (.cells #[.int .i64 x, .int .i64 y] 3)).drew (cell_of_two' (show (W.alloc (.cells #[.int .i64 x, .int .i64 y] 3)).heap[W.heap.size]? = _ from heap_alloc_new W _)).1 (cell_of_two' (show (W.alloc (.cells #[.int .i64 x, .int .i64 y] 3)).heap[W.heap.size]? = _ from heap_alloc_new W _)).2).mono ?_); rintro e w1 ⟨rfl, rfl⟩))
  all_goals go_wp2
  all_goals go_ret
  all_goals exact ⟨by rw [HR.out]; rfl, (HB.out.alloc HPW.out _).drew⟩

set_option maxRecDepth 100000 in
set_option maxHeartbeats 3200000 in
theorem mCmpBounds_dr (x y : Bd) (v u : Value) (w : World) :
    Calls Tryz.prog 41 #[bdV x v, bdV y u] w fun e w' => e = .returned (.int .i64 (cmpBd x y)) ∧ BelD w.heap.size w w' := by
  obtain ⟨P, hP⟩ : ∃ P, P = w.heap.size := ⟨_, rfl⟩
  obtain ⟨W, hW⟩ : ∃ W, W = (w.alloc (.cells #[.string x.var, .int .i64 x.ev.src, .int .i64 x.ev.seq, .int .i64 x.ev.time, .string x.ev.ty, v] 54)).alloc (.cells #[.string y.var, .int .i64 y.ev.src, .int .i64 y.ev.seq, .int .i64 y.ev.time, .string y.ev.ty, u] 54) := ⟨_, rfl⟩
  have hb0 : BelD P w W := by rw [hW, hP]; exact ((BelD.refl _ _).alloc (Nat.le_refl _) _).alloc (by simp) _
  have HB := hide hb0
  have hx0 : W.heap[P]? = some (.cells #[.string x.var, .int .i64 x.ev.src, .int .i64 x.ev.seq, .int .i64 x.ev.time, .string x.ev.ty, v] 54 (0, 0)) := by rw [hW, hP]; exact heap_alloc_keeps (heap_alloc_new w _) _
  have hx1 : W.heap[P + 1]? = some (.cells #[.string y.var, .int .i64 y.ev.src, .int .i64 y.ev.seq, .int .i64 y.ev.time, .string y.ev.ty, u] 54 (0, 0)) := by rw [hW, hP]; exact heap_alloc_at (by simp) rfl
  have hpw : P + 1 < W.heap.size := lt_of_block hx1
  obtain ⟨c0, c1, c2, _⟩ := cells_six hx0
  obtain ⟨d0, d1, d2, _⟩ := cells_six hx1
  have HW := hide hW; have HP := hide hP; have HX0 := hide hx0; have HX1 := hide hx1
  have HPW := hide hpw
  obtain ⟨r, hr⟩ : ∃ r, r = cbV x y := ⟨_, rfl⟩
  obtain ⟨s, hs⟩ : ∃ s, s = cmpID x.ev.src x.ev.seq y.ev.src y.ev.seq := ⟨_, rfl⟩
  have C1 := fun w => Tryz.strings_Compare x.var y.var w
  have C2 := fun w => eCompare_dr x.ev.src x.ev.seq y.ev.src y.ev.seq w
  rw [show Lib.compareBytes x.var.data.toList y.var.data.toList = r from hr.symm] at C1
  rw [← hs] at C2
  have HC1 := hide C1; have HC2 := hide C2
  have HR : Hid (cmpBd x y = orI r s) := by rw [hr, hs]; rfl
  rw [← hP]
  unfold bdV
  clear hP hW hx0 hx1 hr hs C1 C2 hb0 hpw
  go_enter Tryz.func41, Tryz.ntmps41
  go_wp2_with fail
  rw [← HW.out, ← HP.out]
  go_region_held3 (fun w' => w'.cell? ⟨P, 0, none⟩ = some (.string x.var) ∧ w'.cell? ⟨P, 1, none⟩ = some (.int .i64 x.ev.src) ∧ w'.cell? ⟨P, 2, none⟩ = some (.int .i64 x.ev.seq) ∧ w'.cell? ⟨P + 1, 0, none⟩ = some (.string y.var) ∧ w'.cell? ⟨P + 1, 1, none⟩ = some (.int .i64 y.ev.src) ∧ w'.cell? ⟨P + 1, 2, none⟩ = some (.int .i64 y.ev.seq))
    (first | exact ⟨c0, c1, c2, d0, d1, d2⟩ | go_keep)
    (first
      | (go_at_call 46; (with_reducible refine (HC1.out _).mono ?_); rintro e w1 ⟨rfl, rfl⟩)
      | (go_at_call 70; (with_reducible refine (HC2.out _).mono ?_); rintro e w1 ⟨rfl, hb1⟩; have hy0 := (hb1.block P (Nat.lt_of_succ_lt HPW.out)).trans HX0.out; have hy1 := (hb1.block (P + 1) HPW.out).trans HX1.out; have HB1 := hide (HB.out.drew.trans (hb1.mono (Nat.le_of_lt (Nat.lt_of_succ_lt HPW.out)))); have HPW1 := hide (Nat.le_trans (Nat.le_of_lt (Nat.lt_of_succ_lt HPW.out)) hb1.size); clear hb1 c0 c1 c2 d0 d1 d2; obtain ⟨c0, c1, c2, _⟩ := cells_six hy0; obtain ⟨d0, d1, d2, _⟩ := cells_six hy1; clear hy0 hy1)
      | (go_at_call 69; (refine (cmpOr_any r s w1.heap.size (w1.alloc (.cells #[.int .i64 r, .int .i64 s] 3)) (cell_of_two' (show (w1.alloc (.cells #[.int .i64 r, .int .i64 s] 3)).heap[w1.heap.size]? = _ from heap_alloc_new w1 _)).1 (cell_of_two' (show (w1.alloc (.cells #[.int .i64 r, .int .i64 s] 3)).heap[w1.heap.size]? = _ from heap_alloc_new w1 _)).2).mono ?_); rintro e w2 ⟨rfl, rfl⟩))
  all_goals go_wp2
  all_goals go_ret
  all_goals exact ⟨by rw [HR.out]; rfl, HB1.out.alloc HPW1.out _⟩

set_option maxRecDepth 100000 in
set_option maxHeartbeats 3200000 in
theorem CmpFuncBd_dr (B C : Nat) (ao : Option Addr) (n cap : Nat) (ao2 : Option Addr) (n2 cap2 : Nat) (cs bs : List Bd) (w : World) (h1 : BsV w B (.slice ao n cap) cs) (h2 : BsV w C (.slice ao2 n2 cap2) bs) (hB : B ≤ w.heap.size) (hC : C ≤ w.heap.size) :
    Calls Tryz.prog 40 #[.slice ao n cap, .slice ao2 n2 cap2, .func (.func 41) #[] #[]] w fun e w' => e = .returned (.int .i64 (cmpL cs bs)) ∧ BelD w.heap.size w w' := by
  obtain ⟨hn, hn63, _⟩ := h1.num
  obtain ⟨hm, hm63, _⟩ := h2.num
  have HN := Lib.hid hn; have HM := Lib.hid hm
  have H1 := Lib.hid h1; have H2 := Lib.hid h2
  clear h1 h2 hn hm
  have HBB := Lib.hid hB; have HCC := Lib.hid hC
  have eg : ∀ args w, (callFunc 41 args).run Tryz.prog w = .ok (.enter 41 args) w := enters_of Tryz.func41 (by kernel_rfl) rfl
  clear hB hC
  go_enter Tryz.func40, Tryz.ntmps40
  go_wp2_with fail
  go_loopw [13] (fun iv wr => ∃ k : Nat, k ≤ n ∧ k ≤ n2 ∧ iv = .int .i64 k ∧ Hid (cmpL cs bs = cmpL (cs.drop k) (bs.drop k)) ∧ BelD w.heap.size w wr) (fun iv _ => n - (intOf iv).toNat)
  case atStart => exact ⟨0, Nat.zero_le _, Nat.zero_le _, rfl, Lib.hid rfl, BelD.refl _ _⟩
  case round =>
    obtain ⟨k, hk, hk2, rfl, HK, hb⟩ := hrel
    have HB := Lib.hid hb; clear hb
    by_cases hlt : k < n
    · obtain ⟨b, o, aa, ac, rfl, hbB, hkl, _, _, _, hav, hc⟩ := H1.out.at hlt
      obtain ⟨a0, a1, a2, a3, a4, a5⟩ := six_cells (hc _ (HB.out.mono HBB.out).toBelow)
      have e1 : IntKind.i64.wrap ((k : Int) + 1) = (k : Int) + 1 := IntWalk.i64_in _ (by omega)
      obtain ⟨x, hx⟩ : ∃ x, x = cs[k]! := ⟨_, rfl⟩
      by_cases hlm : k < n2
      · obtain ⟨b2, o2, aa2, ac2, rfl, hbC, hkm, _, _, _, hav2, hc2⟩ := H2.out.at hlm
        have HGO := Lib.hid (cmpL_go (a := cs) (b := bs) hkl hkm); have HBAD := Lib.hid (cmpL_bad (a := cs) (b := bs) hkl hkm)
        obtain ⟨y, hy⟩ : ∃ y, y = bs[k]! := ⟨_, rfl⟩
        rw [← hx] at a0 a1 a2 a3 a4 a5 HGO HBAD
        rw [← hy] at hc2 HGO HBAD
        have hBn := HB.out.alloc HB.out.size (.cells #[.string x.var, .int .i64 x.ev.src, .int .i64 x.ev.seq, .int .i64 x.ev.time, .string x.ev.ty, .slice aa x.ev.ats.length ac] 54)
        obtain ⟨d0, d1, d2, d3, d4, d5⟩ := six_cells (hc2 _ (hBn.mono HCC.out).toBelow)
        have hBn2 := hBn.alloc hBn.size (.cells #[.string y.var, .int .i64 y.ev.src, .int .i64 y.ev.seq, .int .i64 y.ev.time, .string y.ev.ty, .slice aa2 y.ev.ats.length ac2] 54)
        obtain ⟨f0, f1, f2, f3, f4, f5⟩ := cells_six (heap_alloc_keeps (heap_alloc_new wr (.cells #[.string x.var, .int .i64 x.ev.src, .int .i64 x.ev.seq, .int .i64 x.ev.time, .string x.ev.ty, .slice aa x.ev.ats.length ac] 54)) (.cells #[.string y.var, .int .i64 y.ev.src, .int .i64 y.ev.seq, .int .i64 y.ev.time, .string y.ev.ty, .slice aa2 y.ev.ats.length ac2] 54))
        have hg := heap_alloc_new (wr.alloc (.cells #[.string x.var, .int .i64 x.ev.src, .int .i64 x.ev.seq, .int .i64 x.ev.time, .string x.ev.ty, .slice aa x.ev.ats.length ac] 54)) (.cells #[.string y.var, .int .i64 y.ev.src, .int .i64 y.ev.seq, .int .i64 y.ev.time, .string y.ev.ty, .slice aa2 y.ev.ats.length ac2] 54)
        rw [World.size_alloc] at hg
        obtain ⟨g0, g1, g2, g3, g4, g5⟩ := cells_six hg
        have HB2 := Lib.hid hBn2
        have HC := Lib.hid (mCmpBounds_dr x y (.slice aa x.ev.ats.length ac) (.slice aa2 y.ev.ats.length ac2) ((wr.alloc (.cells #[.string x.var, .int .i64 x.ev.src, .int .i64 x.ev.seq, .int .i64 x.ev.time, .string x.ev.ty, .slice aa x.ev.ats.length ac] 54)).alloc (.cells #[.string y.var, .int .i64 y.ev.src, .int .i64 y.ev.seq, .int .i64 y.ev.time, .string y.ev.ty, .slice aa2 y.ev.ats.length ac2] 54)))
        unfold bdV at HC
        have hgb : ¬ ((n2 : Int) ≤ (k : Int)) := by omega
        have hgb2 := decide_eq_false hgb
        clear hx hy hc hc2 hkl hkm hav hav2 hBn hBn2 hg
        generalize cmpBd x y = cv at HC HGO HBAD
        by_cases hz : cv = 0
        · subst hz
          have HR := Lib.hid (HGO.out rfl)
          go_wp2_with (go_at_fn 41; (with_reducible refine HC.out.mono ?_); rintro e w1 ⟨rfl, hb⟩; have HB1 := Lib.hid hb; clear hb)
          go_roundw
          case rel => exact ⟨k + 1, by omega, by omega, by go_num, Lib.hid (HK.out.trans HR.out), HB2.out.trans (HB1.out.mono HB2.out.size)⟩
          case measure => simp [intOf]; omega
        · have HR := Lib.hid (HBAD.out hz)
          have hz' : (cv == 0) = false := beq_eq_false_iff_ne.2 hz
          have hz2 : (cv != 0) = true := by simp [hz]
          go_wp2_with (go_at_fn 41; (with_reducible refine HC.out.mono ?_); rintro e w1 ⟨rfl, hb⟩; have HB1 := Lib.hid hb; clear hb)
          go_ret
          exact ⟨ret_int0 (HK.out.trans HR.out).symm, HB2.out.trans (HB1.out.mono HB2.out.size)⟩
      · have HR := Lib.hid (cmpL_gt (a := cs) (b := bs) hkl (by rw [← HM.out]; exact hlm))
        rw [← hx] at a0 a1 a2 a3 a4 a5
        have HB2 := Lib.hid (HB.out.alloc HB.out.size (.cells #[.string x.var, .int .i64 x.ev.src, .int .i64 x.ev.seq, .int .i64 x.ev.time, .string x.ev.ty, .slice aa x.ev.ats.length ac] 54))
        have hgb : (n2 : Int) ≤ (k : Int) := by omega
        have hgb2 := decide_eq_true hgb
        clear hx hc hkl hav
        go_wp2
        go_ret
        exact ⟨ret_int0 (HK.out.trans HR.out).symm, HB2.out⟩
    · by_cases hlm : k < n2
      · have HR := Lib.hid (cmpL_lt (a := cs) (b := bs) (by rw [← HN.out]; exact hlt) (by rw [← HM.out]; exact hlm))
        have h1 : (n : Int) < (n2 : Int) := by omega
        have h2 := decide_eq_true h1
        go_wp2
        go_ret
        exact ⟨ret_int0 (HK.out.trans HR.out).symm, HB.out⟩
      · have HR := Lib.hid (cmpL_end (a := cs) (b := bs) (by rw [← HN.out]; exact hlt) (by rw [← HM.out]; exact hlm))
        have h1 : ¬ (n : Int) < (n2 : Int) := by omega
        have h2 := decide_eq_false h1
        go_wp2
        go_ret
        exact ⟨ret_int0 (HK.out.trans HR.out).symm, HB.out⟩

set_option maxRecDepth 100000 in
set_option maxHeartbeats 1600000 in
theorem mCompare_dr (B C : Nat) (ao : Option Addr) (n cap : Nat) (ao2 : Option Addr) (n2 cap2 : Nat) (cs bs : List Bd) (w : World) (h1 : BsV w B (.slice ao n cap) cs) (h2 : BsV w C (.slice ao2 n2 cap2) bs) (hB : B ≤ w.heap.size) (hC : C ≤ w.heap.size) :
    Calls Tryz.prog 19 #[.agg #[.slice ao n cap], .agg #[.slice ao2 n2 cap2]] w fun e w' => e = .returned (.int .i64 (cmpL cs bs)) ∧ BelD w.heap.size w w' := by
  have HB0 : Hid (BelD w.heap.size w ((w.alloc (.cells #[.slice ao n cap] 38)).alloc (.cells #[.slice ao2 n2 cap2] 38))) := ((BelD.refl _ _).alloc (Nat.le_refl _) _).alloc (by simp) _
  have HC := Lib.hid (CmpFuncBd_dr B C ao n cap ao2 n2 cap2 cs bs _ (h1.below HB0.out.toBelow hB) (h2.below HB0.out.toBelow hC) (Nat.le_trans hB HB0.out.size) (Nat.le_trans hC HB0.out.size))
  clear h1 h2 hB hC
  generalize cmpL cs bs = r at HC ⊢
  go_enter Tryz.func19, Tryz.ntmps19
  go_wp2_with (go_at_call 40; (with_reducible refine (HC.out).mono ?_); rintro e w1 ⟨rfl, hb⟩; have HB1 := Lib.hid hb; clear hb)
  go_ret
  exact ⟨rfl, HB0.out.trans (HB1.out.mono HB0.out.size)⟩
end Go.Proofs.YtcnecokamckfaaaGreatDoor
