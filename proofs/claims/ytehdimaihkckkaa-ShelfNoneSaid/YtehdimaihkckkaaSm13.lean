/- tells: are just these things told? -/
import Derived.Test.YtehdimaihkckkaaSl13
import Derived.Laws.StructEq
namespace Go.Proofs.Ytehdimaihkckkaa
open Go Go.RowKit Go.Shelf Go.Sort
attribute [local go_sem] Oper.semAt_some

/-- A row of the document's things. -/
def TdAt (w : World) (v : Value) (ts : List Tg) : Prop :=
  ∃ ao cap, v = .slice ao ts.length cap ∧ (0 < ts.length → ∃ g, ao = some ⟨g, 0, none⟩ ∧ g < w.heap.size ∧ ∀ j, j < ts.length → w.cell? ⟨g, j * 3, none⟩ = some (.int .i64 ts[j]!.beg) ∧ w.cell? ⟨g, j * 3 + 1, none⟩ = some (.int .i64 ts[j]!.fin) ∧ w.cell? ⟨g, j * 3 + 2, none⟩ = some (.string ts[j]!.txt))
theorem TdAt.below {w w' : World} {v : Value} {ts : List Tg} (h : TdAt w v ts) (hb : Below w.heap.size w w') : TdAt w' v ts := by
  obtain ⟨ao, cap, e, hh⟩ := h
  refine ⟨ao, cap, e, fun h0 => ?_⟩
  obtain ⟨g, e, hg, hc⟩ := hh h0
  have hk : ∀ o, w'.cell? ⟨g, o, none⟩ = w.cell? ⟨g, o, none⟩ := fun o => hb.cell (p := ⟨g, o, none⟩) hg
  refine ⟨g, e, Nat.lt_of_lt_of_le hg hb.size, fun j hj => ?_⟩
  rw [hk, hk, hk]; exact hc j hj
theorem RsAt.td {w : World} {F : Nat → Prop} {q most : Nat} {ts : List Tg} {v : Value} (h : RsAt w F q most ts v) : TdAt w v ts := by
  obtain ⟨a, c, e⟩ := h.slice
  refine ⟨a, c, e, fun h0 => ?_⟩
  obtain ⟨g, cap, e2, hg, hc⟩ := h.at h0
  rw [e2] at e
  simp only [Value.slice.injEq] at e
  exact ⟨g, e.1.symm, hg, hc⟩
theorem TdAt.of_own {w : World} {B : Nat} {v : Value} {ts : List Tg} (h : w.ownsRow B 47 3 v ts.length (dgRow ts)) : TdAt w v ts := by
  obtain ⟨ao, cap, rfl⟩ := own_slice h
  refine ⟨ao, cap, rfl, fun h0 => ?_⟩
  obtain ⟨g, c, e, hg, hc⟩ := own_at dgCells (fun _ => rfl) (own_lower0 h (Nat.zero_le _)) h0
  simp only [Value.slice.injEq] at e
  exact ⟨g, e.1, hg, fun j hj => ⟨hc j hj 0 _ rfl, hc j hj 1 _ rfl, hc j hj 2 _ rfl⟩⟩
theorem TdAt.nil (w : World) : TdAt w (.slice none 0 0) [] := ⟨none, 0, rfl, fun h => absurd h (by simp)⟩
theorem spNe_run (a b c d : Int) (w : World) : (binOp .neq 32 (.agg #[.int .i64 a, .int .i64 b]) (.agg #[.int .i64 c, .int .i64 d])).run Try.prog w = .ok (.bool (!(decide (a = c) && decide (b = d)))) w := by
  have a2 := Try.isAgg2; have z2 := Try.sizeOf2; have u2 := Try.underlying2
  have hS : Try.prog.underlying 32 = some (.struct (Try.prog.fieldsOf 32)) := by kernel_rfl
  have hp : Try.prog.stoodInHeld 32 = false := by kernel_rfl
  rw [run_neq_struct, show (10000 : Nat) = 9999 + 1 from rfl, run_equalIn_agg w 9999 32 _ _ hS hp]
  simp only [Program.fieldsOf, Try.underlying32]
  go_simp
  by_cases h0 : a = c <;> by_cases h1 : b = d <;> simp [h0, h1]
theorem spGuard (op : BinOp) (x y : Operand) (a b c d : Int) (w : World) : (eqGuard op 32 x y (.agg #[.int .i64 a, .int .i64 b]) (.agg #[.int .i64 c, .int .i64 d])).run Try.prog w = .ok () w := run_eqGuard_agg w op _ x y _ _ (by kernel_rfl)

set_option maxRecDepth 100000 in
set_option maxHeartbeats 4000000 in
theorem tells13_in (n : Nat) (hn : 9 ≤ n) (gf : Nat) (lb : Array Value) (n₀ N : Nat) (ws : List Tg) (v : Value) (stop : Int) (w : World) (eg : ∀ args w, (callFunc gf args).run Try.prog w = .ok (.enter gf args) w) (hN : N ≤ 16384)
    (hA : ∀ W, Below w.heap.size w W → SeqStopsH Fence.wide (n - 1) Try.prog gf lb encT (fun x _ => x ∈ ws) (Below n₀) (fun ys => ys = ws) (fun pre => pre <+: ws) N W) (hn0 : n₀ ≤ w.heap.size) (hW : TdAt w v ws) :
    CallsIn Fence.wide n Try.prog 16 #[.func (.func gf) #[] lb, v, .int .i64 stop] w fun e w' => e = .returned (.bool true) ∧ Below w.heap.size w w' := by
  refine callsIn_of_wp_marks Try.func16 rfl trivial ?_ rfl
  simp only [Try.ntmps16, List.size_toArray, List.length_cons, List.length_nil, Nat.reduceAdd, Nat.reduceSub, Array.replicate_succ, Array.replicate_zero, List.push_toArray, List.append_toArray, List.nil_append, List.cons_append]
  obtain ⟨ao2, cap2, rfl, hrow⟩ := hW
  have HW := Lib.hid hrow; have HA := Lib.hid hA
  clear hrow hA
  gi_wp2
  obtain ⟨P, hP⟩ : ∃ P, P = w.heap.size := ⟨_, rfl⟩
  obtain ⟨W0, hW0⟩ : ∃ W0, W0 = (((w.alloc (.cells #[.slice ao2 ws.length cap2] 42)).alloc (.cells #[.int .i64 stop] 3)).alloc (.cells #[.bool false] 4)).alloc (.cells #[.int .i64 0] 3) := ⟨_, rfl⟩
  have hb0 : Below P w W0 := by rw [hW0, hP]; exact ((((Below.refl _ _).alloc (Nat.le_refl _) _).alloc (by simp) _).alloc (by simp; omega) _).alloc (by simp; omega) _
  have hs0 : W0.heap.size = P + 4 := by rw [hW0, hP]; simp
  have h0 : W0.heap[P]? = some (.cells #[.slice ao2 ws.length cap2] 42 (0, 0)) := by rw [hW0, hP]; exact heap_alloc_keeps (heap_alloc_keeps (heap_alloc_keeps (heap_alloc_new w _) _) _) _
  have h1 : W0.heap[P + 1]? = some (.cells #[.int .i64 stop] 3 (0, 0)) := by rw [hW0, hP]; exact heap_alloc_keeps (heap_alloc_keeps (heap_alloc_at (by simp) rfl) _) _
  have h2 : W0.heap[P + 1 + 1]? = some (.cells #[.bool false] 4 (0, 0)) := by rw [hW0, hP]; exact heap_alloc_keeps (heap_alloc_at (by simp) rfl) _
  have h3 : W0.heap[P + 1 + 1 + 1]? = some (.cells #[.int .i64 0] 3 (0, 0)) := by rw [hW0, hP]; exact heap_alloc_at (by simp) rfl
  have hPw : P ≤ w.heap.size := by omega
  rw [← hW0, ← hP]
  rw [← hP] at hn0
  have HP := Lib.hid hP
  have hA0 := HA.out W0 (by rw [← hP]; exact hb0)
  have HWW : Hid (∀ W, Below P w W → 0 < ws.length → ∃ g, ao2 = some ⟨g, 0, none⟩ ∧ ∀ j, j < ws.length → W.cell? ⟨g, j * 3, none⟩ = some (.int .i64 ws[j]!.beg) ∧ W.cell? ⟨g, j * 3 + 1, none⟩ = some (.int .i64 ws[j]!.fin) ∧ W.cell? ⟨g, j * 3 + 2, none⟩ = some (.string ws[j]!.txt)) := fun W hb hl => by
    obtain ⟨g, e, hg, hc⟩ := HW.out hl
    have hk : ∀ o, W.cell? ⟨g, o, none⟩ = w.cell? ⟨g, o, none⟩ := fun o => hb.cell (p := ⟨g, o, none⟩) (by show g < P; omega)
    refine ⟨g, e, fun j hj => ?_⟩
    rw [hk, hk, hk]; exact hc j hj
  clear hW0 hP HW HA
  have hfar : ∀ {A B : World} {row : Option Nat} {k : Nat} {cs : Array Value} {t : Nat}, k < P + 4 → A.heap[k]? = some (.cells cs t (0, 0)) → A.grownBy B row → (∀ r, row = some r → W0.heap.size ≤ r ∧ ∃ o : Obj, A.heap[r]? = some o ∧ o.isCells = false) → B.heap[k]? = some (.cells cs t (0, 0)) := fun {A B row k cs t} hk h hg hr =>
    (hg.block k (Array.getElem?_eq_some_iff.1 h).1 (fun e => by have := (hr _ e.symm).1; omega)).trans h
  refine wpIn_rangeFunc_HD 8 9 (fun x : Tg => .string x.txt) rfl (by omega) (gf := gf) (lb := lb) rfl trivial eg
    hA0 Below.trans (belowK_b (by omega)) (Below.refl _ _) (fun _ => rfl)
    (fun (pre : List Tg) (W : World) => (pre.length ≤ ws.length ∧ (W.heap[P]? = some (.cells #[.slice ao2 ws.length cap2] 42 (0, 0)) ∧ W.heap[P + 1]? = some (.cells #[.int .i64 stop] 3 (0, 0)) ∧ W.heap[P + 1 + 1]? = some (.cells #[.bool false] 4 (0, 0)) ∧ W.heap[P + 1 + 1 + 1]? = some (.cells #[.int .i64 (pre.length : Int)] 3 (0, 0)))) ∧ Below P w W)
    (fun (c : Code) (pre : List Tg) (W : World) => c = .ret ∧ (pre <+: ws → W.heap[P + 1 + 1]? = some (.cells #[.bool true] 4 (0, 0)) ∧ Below P w W))
    ?ownI ?ownX ⟨⟨Nat.zero_le _, h0, h1, h2, h3⟩, hb0⟩
    (fun (x : Tg) (Bx : Nat) (W : World) => P + 4 ≤ Bx ∧ W.heap[Bx]? = some (.cells #[.int .i64 x.beg, .int .i64 x.fin] 32 (0, 0)))
    ?ownA ?assign ?body ?done ?stop
  case ownI => exact OwnFrom.and (fun s A B row hs hg hr => ⟨hs.1, hfar (by omega) hs.2.1 hg hr, hfar (by omega) hs.2.2.1 hg hr, hfar (by omega) hs.2.2.2.1 hg hr, hfar (by omega) hs.2.2.2.2 hg hr⟩) (ownFrom_bel hPw (by omega))
  case ownX => exact fun c => OwnFrom.and (ownFrom_pure _ _) (fun s A B row hs hg hr hp => ⟨hfar (by omega) (hs hp).1 hg hr, (hs hp).2.trans ((Below.refl _ _).grown hg (Nat.le_trans hPw (hs hp).2.size) (fun k e => by have := (hr k e).1; omega))⟩)
  case ownA =>
    rintro x Bx _ A B row ⟨g1, g2⟩ hg hr
    exact ⟨g1, (hg.block _ (Array.getElem?_eq_some_iff.1 g2).1 (fun e => by obtain ⟨_, o, ho, hc⟩ := hr _ e.symm; rw [g2] at ho; cases ho; cases hc)).trans g2⟩
  case assign =>
    rintro l' pre x W K hi hc hK
    have hK := Lib.hid hK
    have hlt : P + 4 ≤ W.heap.size := by have := (Array.getElem?_eq_some_iff.1 hi.1.2.2.2.2).1; omega
    unfold encT
    gi_wp2
    have hbb : Below W.heap.size W (W.alloc (.cells #[.int .i64 x.beg, .int .i64 x.fin] 32)) := (Below.refl _ _).alloc (Nat.le_refl _) _
    have hk := hK.out W.heap.size _ ((KeepsOthers.alloc _ _).from _) (hbb.mono (by omega)) ⟨⟨hi.1.1, heap_alloc_keeps hi.1.2.1 _, heap_alloc_keeps hi.1.2.2.1 _, heap_alloc_keeps hi.1.2.2.2.1 _, heap_alloc_keeps hi.1.2.2.2.2 _⟩, hi.2.trans (hbb.mono (by omega))⟩ ⟨hlt, heap_alloc_new _ _⟩
    clear hK
    simpa [boxValAct, encT] using hk
  case body =>
    rintro l' pre x Bx W hl' hr ⟨⟨hp2, hh0, hh1, hh2, hh3⟩, hb⟩ ⟨hBx, hx⟩ hlen
    unfold boxValAct encT
    have p0 := cells_one0 hh0; have p3 := cells_one0 hh3
    obtain ⟨x0, x1, -⟩ := cells_two hx
    have hwr : IntKind.i64.wrap ((pre.length : Int) + 1) = (pre.length : Int) + 1 := IntWalk.i64_in _ (by omega)
    have hcast : ((pre.length : Int) + 1) = ((pre ++ [x]).length : Int) := by simp
    have hmo : Try.prog.follows .mixedOrders = true := by kernel_rfl
    have hPW : P + 4 ≤ W.heap.size := by have := (Array.getElem?_eq_some_iff.1 hh3).1; omega
    -- behind the region that only reads
    have HAFT : Hid (∀ W3, Below W.heap.size W W3 → KeepsFrom W0.heap.size W W3 ∧ W3.heap[P]? = some (.cells #[.slice ao2 ws.length cap2] 42 (0, 0)) ∧ W3.heap[P + 1]? = some (.cells #[.int .i64 stop] 3 (0, 0)) ∧ W3.heap[P + 1 + 1]? = some (.cells #[.bool false] 4 (0, 0)) ∧ W3.heap[P + 1 + 1 + 1]? = some (.cells #[.int .i64 (pre.length : Int)] 3 (0, 0)) ∧ Below P W W3) := Lib.hid (fun W3 h => ⟨⟨h.size, fun k o _ hk _ => (h.block k (Array.getElem?_eq_some_iff.1 hk).1).trans hk⟩, (h.block _ (by omega)).trans hh0, (h.block _ (by omega)).trans hh1, (h.block _ (by omega)).trans hh2, (h.block _ (by omega)).trans hh3, h.mono (by omega)⟩)
    have HB := Lib.hid hb
    have HCAST := Lib.hid hcast
    have q0 := cell_regrown p0; have q3 := cell_regrown p3; have qx0 := cell_regrown x0; have qx1 := cell_regrown x1
    clear hfar hcast hb hh0 hh1 hh2 hh3 hx hBx hPW
    by_cases hlt : pre.length < ws.length
    · obtain ⟨g, rfl, hc⟩ := HWW.out W HB.out (by omega)
      obtain ⟨c0, c1, c2⟩ := hc _ hlt
      have r0 := cell_regrown c0; have r1 := cell_regrown c1; have r2 := cell_regrown c2
      have hge : decide (ws.length ≤ pre.length) = false := by simp; omega
      have hki : (pre.length : Int) < (ws.length : Int) := by omega
      have hk0 : (0 : Int) ≤ (pre.length : Int) := by omega
      have HNE : Hid (pre ++ [x] <+: ws → ws[pre.length]! = x) := Lib.hid (fun h => (pre_at h).2)
      clear hc
      generalize ws[pre.length]! = y at c0 c1 c2 r0 r1 r2 HNE
      have hgd := fun (op : BinOp) (a b : Operand) (w : World) => spGuard op a b x.beg x.fin y.beg y.fin w
      by_cases hsp : x.beg = y.beg ∧ x.fin = y.fin
      · have hne : ∀ w : World, (binOp .neq 32 (.agg #[.int .i64 x.beg, .int .i64 x.fin]) (.agg #[.int .i64 y.beg, .int .i64 y.fin])).run Try.prog w = .ok (.bool false) w := fun w => by rw [spNe_run, decide_eq_true hsp.1, decide_eq_true hsp.2]; rfl
        by_cases hxy : x.txt = y.txt
        · have e1 : (x.txt.toList == y.txt.toList) = true := by rw [txt_beq, decide_eq_true hxy]
          have e1' : (x.txt.toList != y.txt.toList) = false := by rw [bne, e1]; rfl
          clear HNE hlen hxy hsp
          gi_wp2
          refine wpIn_region_quiet_round rfl hmo (by kernel_rfl) (by kernel_rfl) ?_
          repeat (quiet_step_in (fail))
          refine wpQuietIn_nil ?_
          rintro _ ⟨⟨dq, osq⟩, rfl⟩
          have hB3 : Below W.heap.size W (Sort.grow (redrawn W dq) osq) := below_regrown W dq osq
          generalize Sort.grow (redrawn W dq) osq = W3 at hB3 ⊢
          obtain ⟨hkf, hh0, hh1, hh2, hh3, hbp⟩ := HAFT.out W3 hB3
          have p1 := cells_one0 hh1; have p2 := cells_one0 hh2; have p3 := cells_one0 hh3
          have f2 := free1 hh2; have f3 := free1 hh3
          have HK := Lib.hid hkf; have HH0 := Lib.hid hh0; have HH1 := Lib.hid hh1; have HH2 := Lib.hid hh2; have HH3 := Lib.hid hh3; have HBP := Lib.hid hbp
          clear hkf hh0 hh1 hh2 hh3 hbp hB3 q0 q3 qx0 qx1 r0 r1 r2 c0 c1 c2 x0 x1 hne hgd e1 e1'
          by_cases hst : (pre.length : Int) + 1 = stop
          · subst hst
            gi_wp2
            have h2 := (Below.heap_setCell W3 ⟨P + 1 + 1 + 1, 0, none⟩ (.int .i64 ((pre.length : Int) + 1)) (P + 1 + 1) (by simp)).trans HH2.out
            exact ⟨(HK.out.trans ((KeepsOthers.setCell _ _ _).from _)).trans ((KeepsOthers.setCell _ _ _).from _), rfl, fun _ => ⟨set1 h2 _, (((HB.out.trans HBP.out).setCell (p := ⟨P + 1 + 1 + 1, 0, none⟩) (by simp; omega) _).setCell (p := ⟨P + 1 + 1, 0, none⟩) (by simp; omega) _)⟩⟩
          · have e2 : (((pre.length : Int) + 1) == stop) = false := by rw [beq_eq_false_iff_ne]; exact hst
            clear hst
            gi_wp2
            have hbs : Below P W (W3.setCell ⟨P + 1 + 1 + 1, 0, none⟩ (.int .i64 ((pre.length : Int) + 1))) := HBP.out.setCell (p := ⟨P + 1 + 1 + 1, 0, none⟩) (by simp; omega) _
            refine ⟨HK.out.trans ((KeepsOthers.setCell _ _ _).from _), hbs.mono hn0, ⟨by simp; omega, ?_, ?_, ?_, ?_⟩, HB.out.trans hbs⟩
            · rw [Below.heap_setCell _ _ _ _ (by simp; omega)]; exact HH0.out
            · rw [Below.heap_setCell _ _ _ _ (by simp)]; exact HH1.out
            · rw [Below.heap_setCell _ _ _ _ (by simp)]; exact HH2.out
            · rw [← HCAST.out]; exact set1 HH3.out _
        · have e1 : (x.txt.toList == y.txt.toList) = false := by rw [txt_beq, decide_eq_false hxy]
          have e1' : (x.txt.toList != y.txt.toList) = true := by rw [bne, e1]; rfl
          have HXY := Lib.hid hxy
          clear hlen hp2 hxy hsp
          gi_wp2
          refine wpIn_region_quiet_round rfl hmo (by kernel_rfl) (by kernel_rfl) ?_
          repeat (quiet_step_in (fail))
          refine wpQuietIn_nil ?_
          rintro _ ⟨⟨dq, osq⟩, rfl⟩
          have hB3 : Below W.heap.size W (Sort.grow (redrawn W dq) osq) := below_regrown W dq osq
          generalize Sort.grow (redrawn W dq) osq = W3 at hB3 ⊢
          obtain ⟨hkf, hh0, hh1, hh2, hh3, hbp⟩ := HAFT.out W3 hB3
          have p2 := cells_one0 hh2
          have f2 := free1 hh2
          have HK := Lib.hid hkf
          clear hkf hh0 hh1 hh2 hh3 hbp hB3 q0 q3 qx0 qx1 r0 r1 r2 c0 c1 c2 x0 x1 hne hgd
          gi_wp2
          exact ⟨HK.out.trans ((KeepsOthers.setCell _ _ _).from _), rfl, fun hp => absurd (by rw [HNE.out hp]) HXY.out⟩
      · have hne : ∀ w : World, (binOp .neq 32 (.agg #[.int .i64 x.beg, .int .i64 x.fin]) (.agg #[.int .i64 y.beg, .int .i64 y.fin])).run Try.prog w = .ok (.bool true) w := fun w => by
          rw [spNe_run]
          have : (decide (x.beg = y.beg) && decide (x.fin = y.fin)) = false := by
            rw [Bool.eq_false_iff]; intro h; simp only [Bool.and_eq_true, decide_eq_true_eq] at h; exact hsp h
          rw [this]; rfl
        have HXY := Lib.hid hsp
        clear hlen hp2 hsp
        gi_wp2
        refine wpIn_region_quiet_round rfl hmo (by kernel_rfl) (by kernel_rfl) ?_
        repeat (quiet_step_in (fail))
        refine wpQuietIn_nil ?_
        rintro _ ⟨⟨dq, osq⟩, rfl⟩
        have hB3 : Below W.heap.size W (Sort.grow (redrawn W dq) osq) := below_regrown W dq osq
        generalize Sort.grow (redrawn W dq) osq = W3 at hB3 ⊢
        obtain ⟨hkf, hh0, hh1, hh2, hh3, hbp⟩ := HAFT.out W3 hB3
        have p2 := cells_one0 hh2
        have f2 := free1 hh2
        have HK := Lib.hid hkf
        clear hkf hh0 hh1 hh2 hh3 hbp hB3 q0 q3 qx0 qx1 r0 r1 r2 c0 c1 c2 x0 x1 hne hgd
        gi_wp2
        exact ⟨HK.out.trans ((KeepsOthers.setCell _ _ _).from _), rfl, fun hp => absurd (by rw [HNE.out hp]; exact ⟨rfl, rfl⟩) HXY.out⟩
    · have hge : decide (ws.length ≤ pre.length) = true := by simp; omega
      have HNE : Hid (¬ pre ++ [x] <+: ws) := Lib.hid (fun h => hlt (pre_at h).1)
      clear hlt hlen hp2
      gi_wp2
      refine wpIn_region_quiet_round rfl hmo (by kernel_rfl) (by kernel_rfl) ?_
      repeat (quiet_step_in (fail))
      refine wpQuietIn_nil ?_
      rintro _ ⟨⟨dq, osq⟩, rfl⟩
      have hB3 : Below W.heap.size W (Sort.grow (redrawn W dq) osq) := below_regrown W dq osq
      generalize Sort.grow (redrawn W dq) osq = W3 at hB3 ⊢
      obtain ⟨hkf, hh0, hh1, hh2, hh3, hbp⟩ := HAFT.out W3 hB3
      have p2 := cells_one0 hh2
      have f2 := free1 hh2
      have HK := Lib.hid hkf
      clear hkf hh0 hh1 hh2 hh3 hbp hB3 q0 q3 qx0 qx1
      gi_wp2
      exact ⟨HK.out.trans ((KeepsOthers.setCell _ _ _).from _), rfl, fun hp => absurd hp HNE.out⟩
  case done =>
    rintro D xs W hD rfl ⟨⟨hp2, hh0, hh1, hh2, hh3⟩, hb⟩ hK
    have p0 := cells_one0 hh0; have p2 := cells_one0 hh2; have p3 := cells_one0 hh3
    have f2 := free1 hh2
    have hw := set1 hh2 (.bool true)
    have hkd : (W.setCell ⟨P + 1 + 1, 0, none⟩ (.bool true)).heap[D]? = some (.deferred (some [])) := by
      rw [Below.heap_setCell _ _ _ _ (by simp; omega)]; exact hK
    gi_wp2
    refine ⟨by simp, .inl ⟨_, _, rfl, run_takeDeferred hkd, ?_⟩⟩
    have hc := cells_one0 ((World.putObj_heap_other (w := W.setCell ⟨P + 1 + 1, 0, none⟩ (.bool true)) (o := .deferred none) (show P + 1 + 1 ≠ D by omega)).trans hw)
    refine ⟨.bool true, by simp [results, Try.results16, go_sem, hc], rfl, ?_⟩
    rw [← HP.out]
    have hf := hb.setCell (p := ⟨P + 1 + 1, 0, none⟩) (by simp; omega) (.bool true)
    exact hf.grown (grownBy_putObj' _ D _) (by have := hf.size; omega) (fun k e => by cases e; omega)
  case stop =>
    rintro D c pre W hD hSp ⟨rfl, hx⟩ hK
    obtain ⟨hh1, hb⟩ := hx hSp
    gi_wp2
    refine ⟨by simp, .inl ⟨_, _, rfl, run_takeDeferred hK, ?_⟩⟩
    have hc := cells_one0 ((World.putObj_heap_other (w := W) (o := .deferred none) (show P + 1 + 1 ≠ D by omega)).trans hh1)
    refine ⟨.bool true, by simp [results, Try.results16, go_sem, hc], rfl, ?_⟩
    rw [← HP.out]
    exact hb.grown (grownBy_putObj' _ D _) (by have := hb.size; omega) (fun k e => by cases e; omega)

theorem tells13_any (n₀ Bs : Nat) (zs : List Tg) (v : Value) (stop : Int) (w : World) (hS : AllAt w n₀ Bs zs) (hW : TdAt w v zs) :
    Calls Try.prog 16 #[.func (.func 46) #[] #[.pointer (some ⟨Bs, 0, none⟩)], v, .int .i64 stop] w fun e w' => e = .returned (.bool true) ∧ Below w.heap.size w w' :=
  (callsIn_wide (n := 9)).1 (tells13_in 9 (by decide) 46 #[.pointer (some ⟨Bs, 0, none⟩)] n₀ zs.length zs v stop w (enters_of Try.func46 (by kernel_rfl) rfl)
    hS.many (fun W hb => hAll1_stops Fence.wide 8 trivial rfl (by decide) Bs n₀ zs W (hS.below hb)) hS.le hW)
end Go.Proofs.Ytehdimaihkckkaa
