/- slices.Collect of streams' All. -/
import Derived.RangeFuncBox
import Derived.Maps.AppendAt
import Derived.Test.YthjhbnfedelniaaTo4
import Derived.Test.YthjhbnfedelniaaRlb
namespace Go.Proofs.Ythjhbnfedelniaa
open Go Go.RowKit Go.Shelf
attribute [local go_sem] Oper.semAt_some

/-- A row of a type stays where all blocks of that type stay. -/
theorem own_stays {W W' : World} {base e size n : Nat} {v : Value} {xs : List Value} (h : W.ownsRow base e size v n xs) (hk : ∀ (k : Nat) (cs : Array Value) (fr : Nat × Nat), W.heap[k]? = some (.cells cs e fr) → W'.heap[k]? = some (.cells cs e fr)) : W'.ownsRow base e size v n xs := by
  refine ⟨h.1, h.2.imp id ?_⟩
  rintro ⟨g, cap, cur, hv, hB, hg, rest⟩
  exact ⟨g, cap, cur, hv, hB, hk g _ _ hg, rest⟩
theorem HC.stays {P : Nat} {x : Ev × Value} {W W' : World} (h : HC P x W) (hk : ∀ (k : Nat) (cs : Array Value) (fr : Nat × Nat), W.heap[k]? = some (.cells cs 57 fr) → W'.heap[k]? = some (.cells cs 57 fr)) : HC P x W' := ⟨own_stays h.1 hk, h.2⟩
/-- A growth of a row of events leaves all blocks of another type as they are. -/
theorem grown_stays {W W' : World} {B n : Nat} {v : Value} {xs : List Value} (ho : W.ownsRow B 35 5 v n xs) (hg : W.grownBy W' v.ownBlock) {t : Nat} (ht : t ≠ 35) {k : Nat} {cs : Array Value} {fr : Nat × Nat} (hk : W.heap[k]? = some (.cells cs t fr)) : W'.heap[k]? = some (.cells cs t fr) := by
  refine (hg.block k (Array.getElem?_eq_some_iff.1 hk).1 (fun e => ?_)).trans hk
  rcases ho.2 with ⟨hv, _⟩ | ⟨g, cap, cur, hv, _, hgg, _⟩
  · rw [hv] at e; simp [Value.ownBlock] at e
  · rw [hv] at e; simp [Value.ownBlock] at e; subst e; rw [hk] at hgg; cases hgg; exact ht rfl
/-- A turn of a block that is no cells leaves cells as they are. -/
theorem cells_far {A B : World} {row : Option Nat} (hg : A.grownBy B row) (hr : ∀ r, row = some r → ∃ o : Obj, A.heap[r]? = some o ∧ o.isCells = false) {k : Nat} {cs : Array Value} {t : Nat} {fr : Nat × Nat} (hk : A.heap[k]? = some (.cells cs t fr)) : B.heap[k]? = some (.cells cs t fr) :=
  (hg.block k (Array.getElem?_eq_some_iff.1 hk).1 (fun e => by obtain ⟨o, ho, hc⟩ := hr k e.symm; rw [hk] at ho; cases ho; cases hc)).trans hk

set_option maxRecDepth 100000 in
set_option maxHeartbeats 4000000 in
theorem appendSeq_in (n : Nat) (hn : 9 ≤ n) (Bc : Nat) (evs : List Ev) (w : World) (hA : AllAt w w.heap.size Bc evs) :
    CallsIn Fence.wide n Try.prog 55 #[.slice none 0 0, .func (.func 56) #[] #[.pointer (some ⟨Bc, 0, none⟩)]] w fun e w' => ∃ (v : Value) (pre : List (Ev × Value)), e = .returned v ∧ pre.map Prod.fst = evs ∧ w'.ownsRow w.heap.size 35 5 v pre.length (rowCells (pre.map Prod.fst) (pre.map Prod.snd)) ∧ (∀ x ∈ pre, HC w.heap.size x w') ∧ Below w.heap.size w w' := by
  refine callsIn_of_wp_marks Try.func55 rfl trivial ?_ rfl
  simp only [Try.ntmps55, List.size_toArray, List.length_cons, List.length_nil, Nat.reduceAdd, Nat.reduceSub, Array.replicate_succ, Array.replicate_zero, List.push_toArray, List.append_toArray, List.nil_append, List.cons_append]
  have HA := Lib.hid hA
  have hmany := hA.many
  clear hA
  gi_wp2
  obtain ⟨P, hP⟩ : ∃ P, P = w.heap.size := ⟨_, rfl⟩
  obtain ⟨W0, hW0⟩ : ∃ W0, W0 = w.alloc (.cells #[.slice none 0 0] 44) := ⟨_, rfl⟩
  have hb0 : Below P w W0 := by rw [hW0, hP]; exact (Below.refl _ _).alloc (Nat.le_refl _) _
  have hs0 : W0.heap.size = P + 1 := by rw [hW0, hP]; simp
  have h0 : Boxed W0 P 44 (.slice none 0 0) := by rw [hW0, hP]; exact Boxed.new w _ _
  have hPw : P ≤ w.heap.size := by omega
  have hA0 : AllAt W0 P Bc evs := by rw [hP]; exact HA.out.below (by rw [← hP]; exact hb0)
  rw [← hW0, ← hP]
  have HP := Lib.hid hP
  clear hW0 hP HA
  refine wpIn_rangeFunc_HB 5 rfl (by omega) (gf := 56) (lb := #[.pointer (some ⟨Bc, 0, none⟩)]) rfl trivial (enters_of Try.func56 (by kernel_rfl) rfl)
    (hA0.stops (n - 1) (by omega)) kpY_t (fun W l o o' hl h ho _ => kpY_b o' (by omega) h ho) (Below.refl _ _) (fun _ => rfl)
    (fun (pre : List (Ev × Value)) (W : World) => ((∃ v, Boxed W P 44 v ∧ W.ownsRow P 35 5 v pre.length (rowCells (pre.map Prod.fst) (pre.map Prod.snd))) ∧ (∀ x ∈ pre, HC P x W)) ∧ Below P w W)
    (fun _ _ _ => False) ?ownI (fun _ _ _ _ _ hs _ _ => hs) ⟨⟨⟨_, h0, World.ownsRow_nil _ _ _ _⟩, fun x hx => by cases hx⟩, hb0⟩
    (fun (x : Ev × Value) (Bx : Nat) (W : World) => ∃ va vk, P + 1 ≤ Bx ∧ x.2 = .slice va x.1.ats.length vk ∧ W.heap[Bx]? = some (.cells #[.int .i64 x.1.src, .int .i64 x.1.seq, .int .i64 x.1.time, .string x.1.ty, .slice va x.1.ats.length vk] 35 (0, 0)) ∧ HC P x W)
    ?ownA ?assign ?body ?done (fun _ _ _ _ _ _ h _ => h.elim)
  case ownI =>
    refine OwnFrom.and ?_ (ownFrom_below hPw (by omega))
    rintro pre A B row ⟨⟨v, hbx, hrow⟩, hh⟩ hg hr
    have hfar : ∀ {k : Nat} {cs : Array Value} {t : Nat} {fr : Nat × Nat}, A.heap[k]? = some (.cells cs t fr) → B.heap[k]? = some (.cells cs t fr) := fun hk => cells_far hg (fun r e => (hr r e).2) hk
    exact ⟨⟨v, hfar hbx, own_stays hrow (fun _ _ _ h => hfar h)⟩, fun x hx => (hh x hx).stays (fun _ _ _ h => hfar h)⟩
  case ownA =>
    rintro x Bx _ A B row ⟨va, vk, g1, g2, g3, g4⟩ hg hr
    have hfar : ∀ {k : Nat} {cs : Array Value} {t : Nat} {fr : Nat × Nat}, A.heap[k]? = some (.cells cs t fr) → B.heap[k]? = some (.cells cs t fr) := fun hk => cells_far hg (fun r e => (hr r e).2) hk
    exact ⟨va, vk, g1, g2, hfar g3, g4.stays (fun _ _ _ h => hfar h)⟩
  case assign =>
    rintro l' pre ⟨x, v⟩ W K hi hc hK
    obtain ⟨va, vk, hv⟩ := own_slice hc.1
    simp only at hv
    subst hv
    have hK := Lib.hid hK
    have hlt : P + 1 ≤ W.heap.size := by obtain ⟨⟨⟨v, hbx, _⟩, _⟩, _⟩ := hi; have := hbx.lt; omega
    unfold evV
    gi_wp2
    have hb : Below W.heap.size W (W.alloc (.cells #[.int .i64 x.src, .int .i64 x.seq, .int .i64 x.time, .string x.ty, .slice va x.ats.length vk] 35)) := (Below.refl _ _).alloc (Nat.le_refl _) _
    have hst : ∀ {k : Nat} {cs : Array Value} {t : Nat} {fr : Nat × Nat}, W.heap[k]? = some (.cells cs t fr) → (W.alloc (.cells #[.int .i64 x.src, .int .i64 x.seq, .int .i64 x.time, .string x.ty, .slice va x.ats.length vk] 35)).heap[k]? = some (.cells cs t fr) := fun hk => heap_alloc_keeps hk _
    obtain ⟨⟨⟨v0, hbx, hrow⟩, hh⟩, hbw⟩ := hi
    have hk := hK.out W.heap.size _ ((KeepsOthers.alloc _ _).from _) ⟨hb.mono (by omega), fun _ _ _ h => hst h⟩ ⟨⟨⟨v0, hst hbx, own_stays hrow (fun _ _ _ h => hst h)⟩, fun y hy => (hh y hy).stays (fun _ _ _ h => hst h)⟩, hbw.alloc (by omega) _⟩ ⟨va, vk, hlt, rfl, heap_alloc_new _ _, hc.stays (fun _ _ _ h => hst h)⟩
    clear hK
    simpa [boxAct, evV] using hk
  case body =>
    rintro l' pre ⟨x, v⟩ Bx W hl' hr ⟨⟨⟨v0, hbx, hrow⟩, hh⟩, hbw⟩ ⟨va, vk, hBx, hv, hx, hC⟩ hlen
    simp only at hv hx
    subst hv
    unfold boxAct
    obtain ⟨i0, hi, hz0, hz1, hz2⟩ := info_parts infoEvent
    obtain ⟨a0, k0, rfl⟩ := own_slice hrow
    have hPW : P ≤ W.heap.size := Nat.le_of_lt hbx.lt
    have p0 := hbx.cell
    obtain ⟨d0, d1, d2, d3, d4⟩ := cell_of_five hx
    have HBX := Lib.hid hbx; have HROW := Lib.hid hrow; have HH := Lib.hid hh; have HBW := Lib.hid hbw; have HC0 := Lib.hid hC
    have hl65 : pre.length < 65536 := by omega
    clear hbx hrow hh hbw hC hA0 hx
    gi_wp2_with (gi_at_builtin; refine wpListIn_append_own _ rfl _ _ 44 rfl P 35 i0 (.agg #[.int .i64 0, .int .i64 0, .int .i64 0, .string ⟨#[]⟩, .slice none 0 0]) 5 64 Try.underlying44 hi hz0 hz1 hz2 rfl (by decide) (.slice a0 pre.length k0) pre.length (rowCells (pre.map Prod.fst) (pre.map Prod.snd)) rfl (HROW.out.alloc _) ⟨W.heap.size, 0, none⟩ 1 1 (evCells x (.slice va x.ats.length vk)) rfl rfl (World.news_of_block (heap_alloc_new W _)) (by intro u hu; simp [evCells] at hu; rcases hu with rfl | rfl | rfl | rfl | rfl <;> rfl) (by unfold maxLen; omega) (by omega) (by simp; omega) ?_; intro v' w1 hown' hgrow _; obtain ⟨g', cap', rfl⟩ := own_shape hown'; obtain ⟨hv1, hv2, hr2, hk2, hb2⟩ := HBX.out.appended (by decide) HROW.out hPW (Nat.le_refl _) hown' hgrow; have hc1 := hv1.cell; have hf1 := hv1.frozen; have HGR := Lib.hid hgrow; have HV1 := Lib.hid hv1; have HV2 := Lib.hid hv2; have HR2 := Lib.hid hr2; have HK2 := Lib.hid hk2; have HB2 := Lib.hid hb2; clear hown' hgrow hv1 hv2 hr2 hk2 hb2)
    have hst : ∀ {k : Nat} {cs : Array Value} {t : Nat} {fr : Nat × Nat}, W.heap[k]? = some (.cells cs t fr) → t ≠ 35 → t ≠ 44 → (w1.setCell ⟨P, 0, none⟩ (.slice (some ⟨g', 0, none⟩) (pre.length + 1) cap')).heap[k]? = some (.cells cs t fr) := fun {k cs t fr} hk h1 h2 => by
      have hkP : k ≠ P := by
        rintro rfl
        have := HBX.out
        unfold Boxed at this
        rw [hk] at this; cases this; exact h2 rfl
      rw [Below.heap_setCell _ _ _ _ hkP]
      refine (HGR.out.block k (by simp; have := (Array.getElem?_eq_some_iff.1 hk).1; omega) (fun e => ?_)).trans (heap_alloc_keeps hk _)
      rcases HROW.out.2 with ⟨hv, _⟩ | ⟨g, cap, cur, hv, _, hg, _⟩
      · rw [hv] at e; simp [Value.ownBlock] at e
      · rw [hv] at e; simp [Value.ownBlock] at e; subst e; rw [hk] at hg; cases hg; exact h1 rfl
    have hsn : rowCells ((pre ++ [(x, Value.slice va x.ats.length vk)]).map Prod.fst) ((pre ++ [(x, Value.slice va x.ats.length vk)]).map Prod.snd) = rowCells (pre.map Prod.fst) (pre.map Prod.snd) ++ evCells x (.slice va x.ats.length vk) := by
      rw [List.map_append, List.map_append]; exact rowCells_snoc _ _ _ _ (by simp)
    refine ⟨HK2.out.from _, ⟨HB2.out, fun k cs fr hk => hst hk (by decide) (by decide)⟩, ⟨⟨_, HV2.out, ?_⟩, fun y hy => ?_⟩, HBW.out.trans HB2.out⟩
    · rw [hsn, List.length_append, List.length_singleton]; exact HR2.out
    · rcases List.mem_append.1 hy with hy | hy
      · exact (HH.out y hy).stays (fun k cs fr hk => hst hk (by decide) (by decide))
      · rw [List.mem_singleton.1 hy]; exact HC0.out.stays (fun k cs fr hk => hst hk (by decide) (by decide))
  case done =>
    rintro D xs W hD hS ⟨⟨⟨v0, hbx, hrow⟩, hh⟩, hbw⟩ hK
    have p0 := hbx.cell
    obtain ⟨a0, k0, rfl⟩ := own_slice hrow
    have HBX := Lib.hid hbx; have HROW := Lib.hid hrow; have HH := Lib.hid hh; have HBW := Lib.hid hbw; have HK := Lib.hid hK; have HS := Lib.hid hS; have HD := Lib.hid hD
    clear hbx hrow hh hbw hA0 hS hD
    gi_wp2
    refine ⟨by simp, .inl ⟨_, _, rfl, run_takeDeferred HK.out, ?_⟩⟩
    have hg : W.grownBy (W.putObj D (.deferred none)) (some D) := grownBy_putObj' W D _
    have hfar : ∀ {k : Nat} {cs : Array Value} {t : Nat} {fr : Nat × Nat}, W.heap[k]? = some (.cells cs t fr) → (W.putObj D (.deferred none)).heap[k]? = some (.cells cs t fr) := fun hk => cells_far hg (fun r e => by cases e; exact ⟨_, HK.out, rfl⟩) hk
    have h1 := own_stays HROW.out (fun _ _ _ h => hfar h)
    have h2 : ∀ x ∈ xs, HC P x (W.putObj D (.deferred none)) := fun x hx => (HH.out x hx).stays (fun _ _ _ h => hfar h)
    have h3 := HBW.out.trans (kpY_b (.deferred none) (by have := HD.out; omega : P ≤ D) HK.out rfl).1
    rw [HP.out] at h1 h2 h3
    refine ⟨_, results_tmp rfl _ _ _, ?_⟩
    exact ⟨.slice a0 xs.length k0, xs, by simp, HS.out, h1, h2, h3⟩

theorem collect_any (Bc : Nat) (evs : List Ev) (w : World) (hA : AllAt w w.heap.size Bc evs) :
    Calls Try.prog 35 #[.func (.func 56) #[] #[.pointer (some ⟨Bc, 0, none⟩)]] w fun e w' => ∃ (v : Value) (pre : List (Ev × Value)), e = .returned v ∧ pre.map Prod.fst = evs ∧ w'.ownsRow w.heap.size 35 5 v pre.length (rowCells (pre.map Prod.fst) (pre.map Prod.snd)) ∧ (∀ x ∈ pre, HC w.heap.size x w') ∧ Below w.heap.size w w' := by
  have HC := Lib.hid ((callsIn_wide (n := 9)).1 (appendSeq_in 9 (by decide) Bc evs w hA))
  clear hA
  go_enter Try.func35, Try.ntmps35
  go_wp2_with (go_at_call 55; (with_reducible refine (HC.out).mono ?_); rintro e w1 ⟨v, pre, rfl, h⟩; have HH := Lib.hid h; clear h)
  go_ret
  exact ⟨_, pre, rfl, HH.out⟩
end Go.Proofs.Ythjhbnfedelniaa
