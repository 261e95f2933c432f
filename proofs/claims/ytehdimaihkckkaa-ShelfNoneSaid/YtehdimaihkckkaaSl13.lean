/- told: are just these texts told? -/
import Derived.Test.YtehdimaihkckkaaSk13
namespace Go.Proofs.Ytehdimaihkckkaa
open Go Go.RowKit Go.Shelf
attribute [local go_sem] Oper.semAt_some

/-- A row of texts. -/
def TxAt (w : World) (v : Value) (ts : List Tg) : Prop :=
  ∃ ao cap, v = .slice ao ts.length cap ∧ (0 < ts.length → ∃ g, ao = some ⟨g, 0, none⟩ ∧ g < w.heap.size ∧ ∀ j, j < ts.length → w.cell? ⟨g, j, none⟩ = some (.string ts[j]!.txt))
theorem TxAt.below {w w' : World} {v : Value} {ts : List Tg} (h : TxAt w v ts) (hb : Below w.heap.size w w') : TxAt w' v ts := by
  obtain ⟨ao, cap, e, hh⟩ := h
  refine ⟨ao, cap, e, fun h0 => ?_⟩
  obtain ⟨g, e, hg, hc⟩ := hh h0
  exact ⟨g, e, Nat.lt_of_lt_of_le hg hb.size, fun j hj => (hb.cell (p := ⟨g, j, none⟩) hg).trans (hc j hj)⟩
theorem TxO.at {w : World} {B : Nat} {v : Value} {ts : List Tg} (h : TxO w B v ts) : TxAt w v ts := by
  obtain ⟨ao, cap, rfl⟩ := own_slice h.own
  refine ⟨ao, cap, rfl, fun h0 => ?_⟩
  obtain ⟨g, c, e, hg, hc⟩ := own_at txCells (fun _ => rfl) (own_lower0 h.own (Nat.zero_le _)) h0
  simp only [Value.slice.injEq] at e
  exact ⟨g, e.1, hg, fun j hj => by have := hc j hj 0 _ rfl; simpa using this⟩
theorem TxAt.nil (w : World) : TxAt w (.slice none 0 0) [] := ⟨none, 0, rfl, fun h => absurd h (by simp)⟩
theorem pre_at {ws pre : List Tg} {x : Tg} (h : pre ++ [x] <+: ws) : pre.length < ws.length ∧ ws[pre.length]! = x := by
  obtain ⟨r, rfl⟩ := h
  have hl : pre.length < (pre ++ [x] ++ r).length := by simp
  refine ⟨hl, ?_⟩
  rw [getElem!_pos (pre ++ [x] ++ r) pre.length hl]
  simp

set_option maxRecDepth 100000 in
set_option maxHeartbeats 4000000 in
theorem told13_in (n : Nat) (hn : 9 ≤ n) (gf : Nat) (lb : Array Value) (n₀ N : Nat) (ws : List Tg) (v : Value) (stop : Int) (w : World) (eg : ∀ args w, (callFunc gf args).run Try.prog w = .ok (.enter gf args) w) (hN : N ≤ 16384)
    (hA : ∀ W, Below w.heap.size w W → SeqStopsH Fence.wide (n - 1) Try.prog gf lb (fun x : Tg => #[.string x.txt]) (fun _ _ => True) (KpS n₀) (fun ys => ys = ws) (fun pre => pre <+: ws) N W) (hn0 : n₀ ≤ w.heap.size) (hW : TxAt w v ws) :
    CallsIn Fence.wide n Try.prog 20 #[.func (.func gf) #[] lb, v, .int .i64 stop] w fun e w' => e = .returned (.bool true) ∧ Below w.heap.size w w' := by
  refine callsIn_of_wp_marks Try.func20 rfl trivial ?_ rfl
  simp only [Try.ntmps20, List.size_toArray, List.length_cons, List.length_nil, Nat.reduceAdd, Nat.reduceSub, Array.replicate_succ, Array.replicate_zero, List.push_toArray, List.append_toArray, List.nil_append, List.cons_append]
  obtain ⟨ao2, cap2, rfl, hrow⟩ := hW
  have HW := Lib.hid hrow; have HA := Lib.hid hA
  clear hrow hA
  gi_wp2
  obtain ⟨P, hP⟩ : ∃ P, P = w.heap.size := ⟨_, rfl⟩
  obtain ⟨W0, hW0⟩ : ∃ W0, W0 = (((w.alloc (.cells #[.slice ao2 ws.length cap2] 75)).alloc (.cells #[.int .i64 stop] 3)).alloc (.cells #[.bool false] 4)).alloc (.cells #[.int .i64 0] 3) := ⟨_, rfl⟩
  have hb0 : Below P w W0 := by rw [hW0, hP]; exact ((((Below.refl _ _).alloc (Nat.le_refl _) _).alloc (by simp) _).alloc (by simp; omega) _).alloc (by simp; omega) _
  have hs0 : W0.heap.size = P + 4 := by rw [hW0, hP]; simp
  have h0 : W0.heap[P]? = some (.cells #[.slice ao2 ws.length cap2] 75 (0, 0)) := by rw [hW0, hP]; exact heap_alloc_keeps (heap_alloc_keeps (heap_alloc_keeps (heap_alloc_new w _) _) _) _
  have h1 : W0.heap[P + 1]? = some (.cells #[.int .i64 stop] 3 (0, 0)) := by rw [hW0, hP]; exact heap_alloc_keeps (heap_alloc_keeps (heap_alloc_at (by simp) rfl) _) _
  have h2 : W0.heap[P + 1 + 1]? = some (.cells #[.bool false] 4 (0, 0)) := by rw [hW0, hP]; exact heap_alloc_keeps (heap_alloc_at (by simp) rfl) _
  have h3 : W0.heap[P + 1 + 1 + 1]? = some (.cells #[.int .i64 0] 3 (0, 0)) := by rw [hW0, hP]; exact heap_alloc_at (by simp) rfl
  have hPw : P ≤ w.heap.size := by omega
  rw [← hW0, ← hP]
  rw [← hP] at hn0
  have HP := Lib.hid hP
  have hA0 := HA.out W0 (by rw [← hP]; exact hb0)
  have HWW : Hid (∀ W, Below P w W → 0 < ws.length → ∃ g, ao2 = some ⟨g, 0, none⟩ ∧ ∀ j, j < ws.length → W.cell? ⟨g, j, none⟩ = some (.string ws[j]!.txt)) := fun W hb hl => by
    obtain ⟨g, e, hg, hc⟩ := HW.out hl
    exact ⟨g, e, fun j hj => (hb.cell (p := ⟨g, j, none⟩) (by show g < P; omega)).trans (hc j hj)⟩
  clear hW0 hP HW HA
  have hfar : ∀ {A B : World} {row : Option Nat} {k : Nat} {cs : Array Value} {t : Nat}, k < P + 4 → A.heap[k]? = some (.cells cs t (0, 0)) → A.grownBy B row → (∀ r, row = some r → W0.heap.size ≤ r ∧ ∃ o : Obj, A.heap[r]? = some o ∧ o.isCells = false) → B.heap[k]? = some (.cells cs t (0, 0)) := fun {A B row k cs t} hk h hg hr =>
    (hg.block k (Array.getElem?_eq_some_iff.1 h).1 (fun e => by have := (hr _ e.symm).1; omega)).trans h
  refine wpIn_rangeFunc_HV 8 (fun x : Tg => .string x.txt) rfl (by omega) (gf := gf) (lb := lb) rfl trivial eg
    hA0 kpS_t (fun W l o o' hl h ho _ => kpS_b o' (by omega) h ho) (Below.refl _ _) (fun _ => rfl)
    (fun (pre : List Tg) (W : World) => (pre.length ≤ ws.length ∧ (W.heap[P]? = some (.cells #[.slice ao2 ws.length cap2] 75 (0, 0)) ∧ W.heap[P + 1]? = some (.cells #[.int .i64 stop] 3 (0, 0)) ∧ W.heap[P + 1 + 1]? = some (.cells #[.bool false] 4 (0, 0)) ∧ W.heap[P + 1 + 1 + 1]? = some (.cells #[.int .i64 (pre.length : Int)] 3 (0, 0)))) ∧ Below P w W)
    (fun (c : Code) (pre : List Tg) (W : World) => c = .ret ∧ (pre <+: ws → W.heap[P + 1 + 1]? = some (.cells #[.bool true] 4 (0, 0)) ∧ Below P w W))
    ?ownI ?ownX ⟨⟨Nat.zero_le _, h0, h1, h2, h3⟩, hb0⟩
    (fun (_ : Tg) (_ : Nat) (_ : World) => True)
    ?ownA ?assign ?body ?done ?stop
  case ownI => exact OwnFrom.and (fun s A B row hs hg hr => ⟨hs.1, hfar (by omega) hs.2.1 hg hr, hfar (by omega) hs.2.2.1 hg hr, hfar (by omega) hs.2.2.2.1 hg hr, hfar (by omega) hs.2.2.2.2 hg hr⟩) (ownFrom_bel hPw (by omega))
  case ownX => exact fun c => OwnFrom.and (ownFrom_pure _ _) (fun s A B row hs hg hr hp => ⟨hfar (by omega) (hs hp).1 hg hr, (hs hp).2.trans ((Below.refl _ _).grown hg (Nat.le_trans hPw (hs hp).2.size) (fun k e => by have := (hr k e).1; omega))⟩)
  case ownA => exact fun x Bx s A B row h _ _ => trivial
  case assign =>
    rintro l' pre x W K hi hc hK
    have hK := Lib.hid hK
    gi_wp2
    have hk := hK.out 0 W (KeepsFrom.refl _ _) ⟨Below.refl _ _, fun k cs fr hk => hk⟩ hi trivial
    clear hK
    simpa [valAct] using hk
  case body =>
    rintro l' pre x Bx W hl' hr ⟨⟨hp2, hh0, hh1, hh2, hh3⟩, hb⟩ _ hlen
    unfold valAct
    have p0 := cells_one0 hh0; have p1 := cells_one0 hh1; have p2 := cells_one0 hh2; have p3 := cells_one0 hh3
    have f2 := free1 hh2; have f3 := free1 hh3
    have hwr : IntKind.i64.wrap ((pre.length : Int) + 1) = (pre.length : Int) + 1 := IntWalk.i64_in _ (by omega)
    have HH0 := Lib.hid hh0; have HH1 := Lib.hid hh1; have HH2 := Lib.hid hh2; have HH3 := Lib.hid hh3; have HB := Lib.hid hb
    have hcast : ((pre.length : Int) + 1) = ((pre ++ [x]).length : Int) := by simp
    have HCAST := Lib.hid hcast
    have HHP : Hid (∀ u, Below P W (W.setCell ⟨P + 1 + 1, 0, none⟩ u)) := Lib.hid (fun u => (Below.refl P W).setCell (p := ⟨P + 1 + 1, 0, none⟩) (by simp; omega) u)
    clear hfar hcast hb hh0 hh1 hh2 hh3
    by_cases hlt : pre.length < ws.length
    · obtain ⟨g, rfl, hc⟩ := HWW.out W HB.out (by omega)
      have c0 := hc _ hlt
      have hge : ¬ (ws.length ≤ pre.length) := by omega
      have hki : (pre.length : Int) < (ws.length : Int) := by omega
      have hk0 : (0 : Int) ≤ (pre.length : Int) := by omega
      have HNE : Hid (pre ++ [x] <+: ws → ws[pre.length]! = x) := Lib.hid (fun h => (pre_at h).2)
      clear hc
      generalize ws[pre.length]! = y at c0 HNE
      by_cases hxy : x.txt = y.txt
      · have e1 : (x.txt.toList == y.txt.toList) = true := by rw [txt_beq, decide_eq_true hxy]
        by_cases hst : (pre.length : Int) + 1 = stop
        · clear HNE hlen hp2 hxy
          subst hst
          gi_wp2
          have h3 := set1 HH3.out (.int .i64 ((pre.length : Int) + 1))
          have h2 := (Below.heap_setCell W ⟨P + 1 + 1 + 1, 0, none⟩ (.int .i64 ((pre.length : Int) + 1)) (P + 1 + 1) (by simp)).trans HH2.out
          exact ⟨((KeepsOthers.setCell _ _ _).from _).trans ((KeepsOthers.setCell _ _ _).from _), rfl, fun _ => ⟨set1 h2 _, ((HB.out.setCell (p := ⟨P + 1 + 1 + 1, 0, none⟩) (by simp; omega) _).setCell (p := ⟨P + 1 + 1, 0, none⟩) (by simp; omega) _)⟩⟩
        · have e2 : (((pre.length : Int) + 1) == stop) = false := by rw [beq_eq_false_iff_ne]; exact hst
          clear HNE hlen hp2 hxy hst
          gi_wp2
          have hbs : Below P W (W.setCell ⟨P + 1 + 1 + 1, 0, none⟩ (.int .i64 ((pre.length : Int) + 1))) := (Below.refl P W).setCell (p := ⟨P + 1 + 1 + 1, 0, none⟩) (by simp; omega) _
          refine ⟨(KeepsOthers.setCell _ _ _).from _, ⟨hbs.mono hn0, fun k cs fr hk => ?_⟩, ⟨by simp; omega, ?_, ?_, ?_, ?_⟩, HB.out.trans hbs⟩
          · rw [Below.heap_setCell _ _ _ _ (by rintro rfl; rw [HH3.out] at hk; simp at hk)]; exact hk
          · rw [Below.heap_setCell _ _ _ _ (by simp; omega)]; exact HH0.out
          · rw [Below.heap_setCell _ _ _ _ (by simp)]; exact HH1.out
          · rw [Below.heap_setCell _ _ _ _ (by simp)]; exact HH2.out
          · rw [← HCAST.out]; exact set1 HH3.out _
      · have e1 : (x.txt.toList == y.txt.toList) = false := by rw [txt_beq, decide_eq_false hxy]
        have HXY := Lib.hid hxy
        clear hlen hp2 hxy
        gi_wp2
        exact ⟨(KeepsOthers.setCell _ _ _).from _, rfl, fun hp => absurd (by rw [HNE.out hp]) HXY.out⟩
    · have hge : ws.length ≤ pre.length := by omega
      have HNE : Hid (¬ pre ++ [x] <+: ws) := Lib.hid (fun h => hlt (pre_at h).1)
      clear hlt hlen hp2
      gi_wp2
      exact ⟨(KeepsOthers.setCell _ _ _).from _, rfl, fun hp => absurd hp HNE.out⟩
  case done =>
    rintro D xs W hD rfl ⟨⟨hp2, hh0, hh1, hh2, hh3⟩, hb⟩ hK
    have p0 := cells_one0 hh0; have p2 := cells_one0 hh2; have p3 := cells_one0 hh3
    have f2 := free1 hh2
    have hw := set1 hh2 (.bool true)
    have hkd : (W.setCell ⟨P + 1 + 1, 0, none⟩ (.bool true)).heap[D]? = some (.deferred (some [])) := by
      rw [Below.heap_setCell _ _ _ _ (by simp; omega)]; exact hK
    gi_wp2
    refine ⟨by simp, .inl ⟨_, _, rfl, run_takeDeferred hkd, ?_⟩⟩
    have hc := cells_one0 ((World.putObj_heap_other (w := W.setCell ⟨P + 1 + 1, 0, none⟩ (.bool true)) (o := .deferred none) (show P + 1 + 1 ≠ D by omega)).trans hw)
    refine ⟨.bool true, by simp [results, Try.results20, go_sem, hc], rfl, ?_⟩
    rw [← HP.out]
    have hf := hb.setCell (p := ⟨P + 1 + 1, 0, none⟩) (by simp; omega) (.bool true)
    exact hf.grown (grownBy_putObj' _ D _) (by have := hf.size; omega) (fun k e => by cases e; omega)
  case stop =>
    rintro D c pre W hD hSp ⟨rfl, hx⟩ hK
    obtain ⟨hh1, hb⟩ := hx hSp
    gi_wp2
    refine ⟨by simp, .inl ⟨_, _, rfl, run_takeDeferred hK, ?_⟩⟩
    have hc := cells_one0 ((World.putObj_heap_other (w := W) (o := .deferred none) (show P + 1 + 1 ≠ D by omega)).trans hh1)
    refine ⟨.bool true, by simp [results, Try.results20, go_sem, hc], rfl, ?_⟩
    rw [← HP.out]
    exact hb.grown (grownBy_putObj' _ D _) (by have := hb.size; omega) (fun k e => by cases e; omega)

theorem told13_any (n₀ Ba Bf gf : Nat) (cp : Value) (zs : List Tg) (p : Tg → Bool) (v : Value) (stop : Int) (w : World) (hS : SomeAt w n₀ Ba Bf gf cp zs p) (hW : TxAt w v (zs.filter p)) :
    Calls Try.prog 20 #[.func (.func 56) #[] #[.pointer (some ⟨Ba, 0, none⟩), .pointer (some ⟨Bf, 0, none⟩)], v, .int .i64 stop] w fun e w' => e = .returned (.bool true) ∧ Below w.heap.size w w' :=
  (callsIn_wide (n := 9)).1 (told13_in 9 (by decide) 56 #[.pointer (some ⟨Ba, 0, none⟩), .pointer (some ⟨Bf, 0, none⟩)] n₀ zs.length (zs.filter p) v stop w (enters_of Try.func56 (by kernel_rfl) rfl)
    (by obtain ⟨Bs, _, h⟩ := hS.all; exact h.many) (fun W hb => hSome1_stops 8 (by decide) n₀ Ba Bf gf cp zs p W (hS.below hb)) hS.le hW)
end Go.Proofs.Ytehdimaihkckkaa
