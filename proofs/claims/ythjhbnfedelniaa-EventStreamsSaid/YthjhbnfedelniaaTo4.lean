/- Streams' All in memory; told: are just these events told? -/
import Derived.Test.YthjhbnfedelniaaIc4
import Derived.Test.YthjhbnfedelniaaRnd
namespace Go.Proofs.Ythjhbnfedelniaa
open Go Go.RowKit Go.Shelf
attribute [local go_sem] Oper.semAt_some

/-- What All of streams hands back, in memory: it goes through evs; B is above all that it reads but its two boxes. -/
def AllAt (w : World) (B Bc : Nat) (evs : List Ev) : Prop :=
  ∃ (Bs cap : Nat) (ao : Option Addr) (zs : List (Ev × Option Addr × Nat × Nat)), zs.map (·.1) = evs ∧ zs.length ≤ 65536 ∧ Bs < w.heap.size ∧ Bc < w.heap.size ∧ B ≤ w.heap.size ∧
    w.cell? ⟨Bc, 0, none⟩ = some (.func (.func 57) #[] #[.pointer (some ⟨Bs, 0, none⟩)]) ∧ w.cell? ⟨Bs, 0, none⟩ = some (.slice ao zs.length cap) ∧
    (0 < zs.length → ∃ b o, ao = some ⟨b, o, none⟩ ∧ b < B ∧ ∀ j (hj : j < zs.length), ∀ i u, (evCells zs[j].1 (.slice zs[j].2.1 zs[j].2.2.1 zs[j].2.2.2))[i]? = some u → w.cell? ⟨b, o + j * 5 + i, none⟩ = some u) ∧
    (∀ z ∈ zs, Av w B (.slice z.2.1 z.2.2.1 z.2.2.2) z.1.ats)
theorem AllAt.below {w w' : World} {B Bc : Nat} {evs : List Ev} (h : AllAt w B Bc evs) (hb : Below w.heap.size w w') : AllAt w' B Bc evs := by
  obtain ⟨Bs, cap, ao, zs, h1, h2, h3, h4, h5, h6, h7, h8, h9⟩ := h
  refine ⟨Bs, cap, ao, zs, h1, h2, Nat.lt_of_lt_of_le h3 hb.size, Nat.lt_of_lt_of_le h4 hb.size, Nat.le_trans h5 hb.size, (hb.cell (p := ⟨Bc, 0, none⟩) h4).trans h6, (hb.cell (p := ⟨Bs, 0, none⟩) h3).trans h7, fun h => ?_, fun z hz => (h9 z hz).below hb h5⟩
  obtain ⟨b, o, e, hB, hc⟩ := h8 h
  exact ⟨b, o, e, hB, fun j hj i u hu => (hb.cell (p := ⟨b, o + j * 5 + i, none⟩) (Nat.lt_of_lt_of_le hB h5)).trans (hc j hj i u hu)⟩
theorem AllAt.up {w : World} {B B' Bc : Nat} {evs : List Ev} (h : AllAt w B Bc evs) (hB : B ≤ B') (hB' : B' ≤ w.heap.size) : AllAt w B' Bc evs := by
  obtain ⟨Bs, cap, ao, zs, h1, h2, h3, h4, h5, h6, h7, h8, h9⟩ := h
  refine ⟨Bs, cap, ao, zs, h1, h2, h3, h4, hB', h6, h7, fun h => ?_, fun z hz => (h9 z hz).mono hB⟩
  obtain ⟨b, o, e, hb, hc⟩ := h8 h
  exact ⟨b, o, e, Nat.lt_of_lt_of_le hb hB, hc⟩
theorem AllAt.many {w : World} {B Bc : Nat} {evs : List Ev} (h : AllAt w B Bc evs) : evs.length ≤ 65536 := by
  obtain ⟨Bs, cap, ao, zs, h1, h2, _⟩ := h
  rw [← h1]; simpa using h2
theorem AllAt.stops {w : World} {B Bc : Nat} {evs : List Ev} (h : AllAt w B Bc evs) (n : Nat) (hn : 4 ≤ n) :
    SeqStopsH Fence.wide n Try.prog 56 #[.pointer (some ⟨Bc, 0, none⟩)] (fun x : Ev × Value => #[evV x.1 x.2]) (HC B) (KpY B) (fun ys => ys.map Prod.fst = evs) (fun pre => pre.map Prod.fst <+: evs) evs.length w := by
  obtain ⟨Bs, cap, ao, zs, h1, h2, h3, h4, h5, h6, h7, h8, h9⟩ := h
  have := clones_stops (fun z : Ev × Option Addr × Nat × Nat => z.1) (fun z => z.2.1) (fun z => z.2.2.1) (fun z => z.2.2.2) Fence.wide n trivial trivial trivial rfl rfl hn Bc Bs B cap ao zs h2 w h3 h4 h5 h6 h7 h8
    (fun e ao m c W hav hB => callsIn_wide.2 (eClone_any e B ao m c W hav hB)) h9
  rw [h1, show zs.length = evs.length by rw [← h1]; simp] at this
  exact this
theorem kpY_t {B : Nat} {a b c : World} (h : KpY B a b) (h' : KpY B b c) : KpY B a c := ⟨h.1.trans h'.1, fun k cs fr hk => h'.2 k cs fr (h.2 k cs fr hk)⟩
theorem kpY_b {B l : Nat} {W : World} {o : Obj} (o' : Obj) (hB : B ≤ l) (hl : W.heap[l]? = some o) (ho : o.isCells = false) : KpY B W (W.putObj l o') :=
  ⟨(Below.refl B W).grown (grownBy_putObj' W l o') (by have := (Array.getElem?_eq_some_iff.1 hl).1; omega) (fun k e => by cases e; omega), fun k cs fr hk => by
    have hne : k ≠ l := by rintro rfl; rw [hk] at hl; cases hl; cases ho
    exact (World.putObj_heap_other hne).trans hk⟩

/-- A list of events in memory: a row of five cells each, and where their attributes lie. -/
def EvRow (w : World) (B : Nat) (ao : Option Addr) (ws : List Ev) (vs : List Value) : Prop :=
  (0 < ws.length → ∃ b o, ao = some ⟨b, o, none⟩ ∧ b < B ∧ ∀ j, j < ws.length → ∀ i u, (evCells ws[j]! vs[j]!)[i]? = some u → w.cell? ⟨b, o + j * 5 + i, none⟩ = some u) ∧
  (∀ j, j < ws.length → Av w B vs[j]! ws[j]!.ats)
theorem EvRow.below {w w' : World} {B : Nat} {ao : Option Addr} {ws : List Ev} {vs : List Value} (h : EvRow w B ao ws vs) (hb : Below B w w') : EvRow w' B ao ws vs := by
  refine ⟨fun h0 => ?_, fun j hj => (h.2 j hj).below hb (Nat.le_refl _)⟩
  obtain ⟨b, o, e, hB, hc⟩ := h.1 h0
  exact ⟨b, o, e, hB, fun j hj i u hu => (hb.cell (p := ⟨b, o + j * 5 + i, none⟩) hB).trans (hc j hj i u hu)⟩
theorem take_step {ws : List Ev} {k : Nat} (h : k < ws.length) : ws.take (k + 1) = ws.take k ++ [ws[k]!] := take_next h
theorem pre_long {xs ws : List Ev} (h : ws.length < xs.length) : ¬ xs <+: ws := fun hp => by have := hp.length_le; omega
theorem pre_ne {xs ws : List Ev} {x : Ev} {k : Nat} (hx : xs = ws.take k) (hk : k < ws.length) (hne : x ≠ ws[k]!) : ¬ xs ++ [x] <+: ws := fun hp => by
  obtain ⟨r, hr⟩ := hp
  have hl : xs.length = k := by rw [hx]; simp; omega
  have h1 : ws[k]? = some x := by rw [← hr, List.append_assoc, List.getElem?_append_right (by omega), hl]; simp
  rw [getElem!_pos ws k hk] at hne
  rw [List.getElem?_eq_getElem hk] at h1
  exact hne (Option.some.inj h1).symm

set_option maxRecDepth 100000 in
set_option maxHeartbeats 4000000 in
theorem told_in (n : Nat) (hn : 9 ≤ n) (gf : Nat) (lb : Array Value) (evs : List Ev) (ao2 : Option Addr) (cap2 : Nat) (ws : List Ev) (vs : List Value) (w : World) (eg : ∀ args w, (callFunc gf args).run Try.prog w = .ok (.enter gf args) w)
    (hA : ∀ W, Below w.heap.size w W → SeqStopsH Fence.wide (n - 1) Try.prog gf lb (fun x : Ev × Value => #[evV x.1 x.2]) (HC w.heap.size) (KpY w.heap.size) (fun ys => ys.map Prod.fst = evs) (fun pre => pre.map Prod.fst <+: evs) evs.length W) (hW : EvRow w w.heap.size ao2 ws vs) (hws : ws.length ≤ 65536) :
    CallsIn Fence.wide n Try.prog 20 #[.func (.func gf) #[] lb, .slice ao2 ws.length cap2] w fun e w' => e = .returned (.bool (decide (evs = ws))) ∧ Below w.heap.size w w' := by
  refine callsIn_of_wp_marks Try.func20 rfl trivial ?_ rfl
  simp only [Try.ntmps20, List.size_toArray, List.length_cons, List.length_nil, Nat.reduceAdd, Nat.reduceSub, Array.replicate_succ, Array.replicate_zero, List.push_toArray, List.append_toArray, List.nil_append, List.cons_append]
  have HW := Lib.hid hW; have HA := Lib.hid hA
  clear hW hA
  gi_wp2
  obtain ⟨P, hP⟩ : ∃ P, P = w.heap.size := ⟨_, rfl⟩
  obtain ⟨W0, hW0⟩ : ∃ W0, W0 = ((w.alloc (.cells #[.slice ao2 ws.length cap2] 44)).alloc (.cells #[.bool false] 4)).alloc (.cells #[.int .i64 0] 3) := ⟨_, rfl⟩
  have hb0 : Below P w W0 := by rw [hW0, hP]; exact (((Below.refl _ _).alloc (Nat.le_refl _) _).alloc (by simp) _).alloc (by simp; omega) _
  have hs0 : W0.heap.size = P + 3 := by rw [hW0, hP]; simp
  have h0 : W0.heap[P]? = some (.cells #[.slice ao2 ws.length cap2] 44 (0, 0)) := by rw [hW0, hP]; exact heap_alloc_keeps (heap_alloc_keeps (heap_alloc_new w _) _) _
  have h1 : W0.heap[P + 1]? = some (.cells #[.bool false] 4 (0, 0)) := by rw [hW0, hP]; exact heap_alloc_keeps (heap_alloc_at (by simp) rfl) _
  have h2 : W0.heap[P + 2]? = some (.cells #[.int .i64 0] 3 (0, 0)) := by rw [hW0, hP]; exact heap_alloc_at (by simp) rfl
  have hPw : P ≤ w.heap.size := by omega
  rw [← hW0, ← hP]
  have HP := Lib.hid hP
  have hA0 := HA.out W0 (by rw [← hP]; exact hb0)
  rw [← hP] at hA0
  have HWW : Hid (∀ W, Below P w W → EvRow W P ao2 ws vs) := fun W hb => by have := HW.out.below (by rw [← hP]; exact hb); rw [← hP] at this; exact this
  clear hW0 hP HW HA
  have hfar : ∀ {A B : World} {row : Option Nat} {k : Nat} {cs : Array Value} {t : Nat}, k < P + 3 → A.heap[k]? = some (.cells cs t (0, 0)) → A.grownBy B row → (∀ r, row = some r → W0.heap.size ≤ r ∧ ∃ o : Obj, A.heap[r]? = some o ∧ o.isCells = false) → B.heap[k]? = some (.cells cs t (0, 0)) := fun {A B row k cs t} hk h hg hr =>
    (hg.block k (Array.getElem?_eq_some_iff.1 h).1 (fun e => by have := (hr _ e.symm).1; omega)).trans h
  refine wpIn_rangeFunc_H rfl (by omega) (gf := gf) (lb := lb) rfl trivial eg
    hA0 kpY_t (fun W l o o' hl h ho _ => kpY_b o' (by omega) h ho) (Below.refl _ _) (fun _ => rfl)
    (fun (pre : List (Ev × Value)) (W : World) => ((pre.map Prod.fst = ws.take pre.length ∧ pre.length ≤ ws.length) ∧ (W.heap[P]? = some (.cells #[.slice ao2 ws.length cap2] 44 (0, 0)) ∧ W.heap[P + 1]? = some (.cells #[.bool false] 4 (0, 0)) ∧ W.heap[P + 2]? = some (.cells #[.int .i64 (pre.length : Int)] 3 (0, 0)))) ∧ Below P w W)
    (fun (c : Code) (pre : List (Ev × Value)) (W : World) => (c = .ret ∧ ¬ pre.map Prod.fst <+: ws) ∧ W.heap[P + 1]? = some (.cells #[.bool false] 4 (0, 0)) ∧ Below P w W)
    ?ownI ?ownX ⟨⟨⟨rfl, Nat.zero_le _⟩, h0, h1, h2⟩, hb0⟩
    (fun (x : Ev × Value) (a' : Act) (W : World) => ∃ Bx va vk, P + 3 ≤ Bx ∧ x.2 = .slice va x.1.ats.length vk ∧ W.heap[Bx]? = some (.cells #[.int .i64 x.1.src, .int .i64 x.1.seq, .int .i64 x.1.time, .string x.1.ty, .slice va x.1.ats.length vk] 35 (0, 0)) ∧ HC P x W ∧
      a' = { tmps := #[.func (.func gf) #[] lb, .slice ao2 ws.length cap2, undef, .pointer (some ⟨P, 0, none⟩), .pointer (some ⟨P + 1, 0, none⟩), .pointer (some ⟨P + 1 + 1, 0, none⟩), .pointer (some ⟨Bx, 0, none⟩), .func (.func gf) #[] lb, evV x.1 (.slice va x.1.ats.length vk), undef, undef, undef, undef, undef, undef, undef, undef, undef, undef, undef, undef, undef, undef, undef, undef, undef, undef, undef], defers := [] })
    ?ownA ?assign ?body ?done ?stop
  case ownI => exact OwnFrom.and (fun s A B row hs hg hr => ⟨hs.1, hfar (by omega) hs.2.1 hg hr, hfar (by omega) hs.2.2.1 hg hr, hfar (by omega) hs.2.2.2 hg hr⟩) (ownFrom_below hPw (by omega))
  case ownX => exact fun c => OwnFrom.and (ownFrom_pure _ _) (OwnFrom.and (fun s A B row hs hg hr => hfar (by omega) hs hg hr) (ownFrom_below hPw (by omega)))
  case ownA =>
    rintro x a' s A B row ⟨Bx, va, vk, g1, g2, g3, g4, g5⟩ hg hr
    have hno : ∀ (k : Nat) (cs : Array Value) (t : Nat), A.heap[k]? = some (.cells cs t (0, 0)) → B.heap[k]? = some (.cells cs t (0, 0)) := fun k cs t hk =>
      (hg.block k (Array.getElem?_eq_some_iff.1 hk).1 (fun e => by obtain ⟨_, o, ho, hc⟩ := hr k e.symm; rw [hk] at ho; cases ho; cases hc)).trans hk
    refine ⟨Bx, va, vk, g1, g2, hno _ _ _ g3, ⟨⟨g4.1.1, ?_⟩, g4.2⟩, g5⟩
    rcases g4.1.2 with hn | ⟨g, cap, cur, hv, hb, hgg, rest⟩
    · exact .inl hn
    · exact .inr ⟨g, cap, cur, hv, hb, hno _ _ _ hgg, rest⟩
  case assign =>
    rintro l' pre ⟨x, v⟩ W K hi hc hK
    obtain ⟨va, vk, hv⟩ := own_slice hc.1
    simp only at hv
    subst hv
    have hlt : P + 3 ≤ W.heap.size := by have := (Array.getElem?_eq_some_iff.1 hi.1.2.2.2).1; omega
    unfold evV
    gi_wp2
    have hb : Below W.heap.size W (W.alloc (.cells #[.int .i64 x.src, .int .i64 x.seq, .int .i64 x.time, .string x.ty, .slice va x.ats.length vk] 35)) := (Below.refl _ _).alloc (Nat.le_refl _) _
    refine hK _ _ ((KeepsOthers.alloc _ _).from _) ⟨hb.mono (by omega), fun k cs fr hk => (hb.block k (Array.getElem?_eq_some_iff.1 hk).1).trans hk⟩ ⟨⟨hi.1.1, heap_alloc_keeps hi.1.2.1 _, heap_alloc_keeps hi.1.2.2.1 _, heap_alloc_keeps hi.1.2.2.2 _⟩, hi.2.alloc (by omega) _⟩ ⟨W.heap.size, va, vk, hlt, rfl, heap_alloc_new _ _, ⟨hc.1.alloc _, hc.2⟩, rfl⟩
  case body =>
    rintro l' pre ⟨x, v⟩ a' W hl' hr ⟨⟨⟨hp1, hp2⟩, hh0, hh1, hh2⟩, hb⟩ ⟨Bx, va, vk, hBx, hv, hx, hC, rfl⟩ hlen
    simp only at hv hx
    subst hv
    have hk : (pre.map Prod.fst).length = pre.length := by simp
    have hst1 : ((pre ++ [(x, Value.slice va x.ats.length vk)]).map Prod.fst) = pre.map Prod.fst ++ [x] := by simp
    obtain ⟨c0, c1, c2, c3, c4⟩ := cell_of_five hx
    have p0 := cell_of_one hh0; have p1 := cell_of_one hh1; have p2 := cell_of_one hh2
    have f1 := free_of_one hh1; have f2 := free_of_one hh2
    have hmo : Try.prog.follows .mixedOrders = true := by kernel_rfl
    have hF1 : Fence.wide.fn 25 := trivial
    have hn1 : 1 ≤ n - 1 - 1 := by omega
    have hP2 : P + 2 < W.heap.size := (Array.getElem?_eq_some_iff.1 hh2).1
    by_cases hlt : pre.length < ws.length
    · have hev := HWW.out W hb
      obtain ⟨b, o, rfl, hbB, hcl⟩ := hev.1 (by omega)
      obtain ⟨e0, e1, e2, e3, e4⟩ := five_cells (fun i u hu => hcl _ hlt i u hu)
      have hav2 := hev.2 _ hlt
      have hav1 : Av W W.heap.size (.slice va x.ats.length vk) x.ats := Av.of_own hC.1 hC.2.1 hC.2.2
      have hge : decide (ws.length ≤ pre.length) = false := by simp; omega
      have C := r4Same_any x ws[pre.length]! W.heap.size P va x.ats.length vk
      have hsh : ∃ a2 n2 k2, vs[pre.length]! = .slice a2 n2 k2 := by obtain ⟨a2, k2, h⟩ := hav2.shape; exact ⟨a2, _, k2, h⟩
      obtain ⟨a2, n2, k2, hv2⟩ := hsh
      rw [hv2] at e4 hav2
      have C := fun d os => CallsIn.regrown_of (CallsIn.inRound l' (callsIn_wide (n := n - 1 - 1 - 1).2 (C a2 n2 k2 (Sort.grow (redrawn W d) os) (hav1.below (below_regrown W d os) (Nat.le_refl _)) (hav2.below (below_regrown W d os) (by omega)) (below_regrown W d os).size (by have := (below_regrown W d os).size; omega))))
      have HTS := Lib.hid (take_step hlt)
      have hEQ : Hid (sameE x ws[pre.length]! = true → x = ws[pre.length]!) := fun h => sameE_iff.1 h
      have hNE : Hid (sameE x ws[pre.length]! = false → x ≠ ws[pre.length]!) := fun h he => by rw [he, sameE_refl] at h; cases h
      unfold evV at C ⊢
      generalize sameE x ws[pre.length]! = bb at C hEQ hNE
      generalize ws[pre.length]! = y at C e0 e1 e2 e3 hEQ hNE HTS
      have HC := Lib.hid C
      have g0 := cell_regrown c0; have g1 := cell_regrown c1; have g2 := cell_regrown c2; have g3 := cell_regrown c3; have g4 := cell_regrown c4
      have i0 := cell_regrown e0; have i1 := cell_regrown e1; have i2 := cell_regrown e2; have i3 := cell_regrown e3; have i4 := cell_regrown e4
      have q0 := cell_regrown p0; have q2 := cell_regrown p2
      clear C hcl hav1 hav2 hev c0 c1 c2 c3 c4 e0 e1 e2 e3 e4 hfar
      gi_wp2
      refine wpIn_region_quiet_round rfl hmo (by kernel_rfl) (by kernel_rfl) ?_
      repeat (quiet_step_in (first | exact ⟨hn1, HC.out _ _⟩ | exact HC.out _ _))
      refine wpQuietIn_nil ?_
      rintro _ ⟨⟨dq, osq⟩, rfl⟩
      have hB3 : Below W.heap.size W (Sort.grow (redrawn W dq) osq) := below_regrown W dq osq
      generalize Sort.grow (redrawn W dq) osq = W3 at hB3 ⊢
      have hh0' := (hB3.block P (by omega)).trans hh0; have hh1' := (hB3.block (P + 1) (by omega)).trans hh1; have hh2' := (hB3.block (P + 2) hP2).trans hh2
      have p0 := cell_of_one hh0'; have p1 := cell_of_one hh1'; have p2 := cell_of_one hh2'
      have f1 := free_of_one hh1'; have f2 := free_of_one hh2'
      have hPW : P ≤ W.heap.size := by omega
      have hPW3 : P + 3 ≤ W3.heap.size := by have := (Array.getElem?_eq_some_iff.1 hh2').1; omega
      have HB3 := Lib.hid hB3; have HH0 := Lib.hid hh0'; have HH1 := Lib.hid hh1'; have HH2 := Lib.hid hh2'
      have hkf : KeepsFrom (P + 3) W W3 := ⟨hB3.size, fun k o _ hk _ => (hB3.block k (Array.getElem?_eq_some_iff.1 hk).1).trans hk⟩
      clear hB3 hh0' hh1' hh2' i0 i1 i2 i3 i4 g0 g1 g2 g3 g4 q0 q2
      cases bb with
      | true =>
        have HXY := Lib.hid (hEQ.out rfl)
        gi_wp2
        have hcast : ((pre.length : Int) + 1) = ((pre ++ [(x, Value.slice va x.ats.length vk)]).length : Int) := by simp
        refine ⟨hkf.trans ((KeepsOthers.setCell _ _ _).from _), ⟨(HB3.out.mono hPW).setCell (p := ⟨P + 2, 0, none⟩) (by simp) _, fun k cs fr hk => ?_⟩, ⟨⟨?_, ?_⟩, ?_, ?_, ?_⟩, (hb.trans (HB3.out.mono hPW)).setCell (p := ⟨P + 2, 0, none⟩) (by simp) _⟩
        · have hk3 := (HB3.out.block k (Array.getElem?_eq_some_iff.1 hk).1).trans hk
          have hne : k ≠ P + 2 := by rintro rfl; rw [HH2.out] at hk3; simp at hk3
          rw [Below.heap_setCell _ _ _ _ hne]; exact hk3
        · rw [hst1, hp1, List.length_append, List.length_singleton, HTS.out, HXY.out]
        · simp; omega
        · rw [Below.heap_setCell _ _ _ _ (by show P ≠ P + 1 + 1; omega)]; exact HH0.out
        · rw [Below.heap_setCell _ _ _ _ (by show P + 1 ≠ P + 1 + 1; omega)]; exact HH1.out
        · have := heap_setCell_same (k := 0) HH2.out (.int .i64 ((pre.length : Int) + 1))
          rw [← hcast]; simpa using this
      | false =>
        have HXY := Lib.hid (hNE.out rfl)
        gi_wp2
        refine ⟨hkf.trans ((KeepsOthers.setCell _ _ _).from _), ⟨rfl, ?_⟩, ?_, (hb.trans (HB3.out.mono hPW)).setCell (p := ⟨P + 1, 0, none⟩) (by simp) _⟩
        · rw [hst1]; intro hp
          obtain ⟨r, hr⟩ := hp
          have h1 := congrArg (List.take (pre.length + 1)) hr
          rw [HTS.out, ← hp1, List.take_append_of_le_length (by simp), List.take_of_length_le (by simp)] at h1
          exact HXY.out (by simpa using h1)
        · have := heap_setCell_same (k := 0) HH1.out (.bool false); simpa using this
    · have hge : decide (ws.length ≤ pre.length) = true := by simp; omega
      have q0 := cell_regrown p0; have q2 := cell_regrown p2
      clear c0 c1 c2 c3 c4 hfar
      gi_wp2
      refine wpIn_region_quiet_round rfl hmo (by kernel_rfl) (by kernel_rfl) ?_
      repeat (quiet_step_in (fail))
      refine wpQuietIn_nil ?_
      rintro _ ⟨⟨dq, osq⟩, rfl⟩
      have hB3 : Below W.heap.size W (Sort.grow (redrawn W dq) osq) := below_regrown W dq osq
      generalize Sort.grow (redrawn W dq) osq = W3 at hB3 ⊢
      have hh1' := (hB3.block (P + 1) (by omega)).trans hh1
      have p1 := cell_of_one hh1'; have f1 := free_of_one hh1'
      have hkf : KeepsFrom (P + 3) W W3 := ⟨hB3.size, fun k o _ hk _ => (hB3.block k (Array.getElem?_eq_some_iff.1 hk).1).trans hk⟩
      have HB3 := Lib.hid hB3; have HH1 := Lib.hid hh1'
      have hPW : P ≤ W.heap.size := by omega
      clear hB3 hh1' q0 q2
      gi_wp2
      refine ⟨by rw [hs0]; exact hkf.trans ((KeepsOthers.setCell _ _ _).from _), ⟨rfl, pre_long (by simp; omega)⟩, ?_, (hb.trans (HB3.out.mono hPW)).setCell (p := ⟨P + 1, 0, none⟩) (by simp) _⟩
      have := heap_setCell_same (k := 0) HH1.out (.bool false); simpa using this
  case done =>
    rintro D xs W hD hS ⟨⟨⟨hp1, hp2⟩, hh0, hh1, hh2⟩, hb⟩ hK
    have p0 := cell_of_one hh0; have p1 := cell_of_one hh1; have p2 := cell_of_one hh2
    have f1 := free_of_one hh1
    have hw : (W.setCell ⟨P + 1, 0, none⟩ (.bool (decide (evs = ws)))).heap[P + 1]? = some (.cells #[.bool (decide (evs = ws))] 4 (0, 0)) := by have := heap_setCell_same (k := 0) hh1 (.bool (decide (evs = ws))); simpa using this
    have hkd : (W.setCell ⟨P + 1, 0, none⟩ (.bool (decide (evs = ws)))).heap[D]? = some (.deferred (some [])) := by
      rw [Below.heap_setCell _ _ _ _ (by simp; omega)]; exact hK
    have hres : ((xs.length : Int) == (ws.length : Int)) = decide (evs = ws) := by
      rw [← hS, hp1, Bool.eq_iff_iff]
      simp only [beq_iff_eq, decide_eq_true_eq]
      constructor
      · intro h; rw [List.take_of_length_le (by omega)]
      · intro h; have := congrArg List.length h; rw [List.length_take] at this; omega
    gi_wp2
    refine ⟨by simp, .inl ⟨_, _, rfl, run_takeDeferred hkd, ?_⟩⟩
    have hc := cell_of_one ((World.putObj_heap_other (w := W.setCell ⟨P + 1, 0, none⟩ (.bool (decide (evs = ws)))) (o := .deferred none) (show P + 1 ≠ D by omega)).trans hw)
    refine ⟨.bool (decide (evs = ws)), by simp [results, Try.results20, go_sem, hc], rfl, ?_⟩
    rw [← HP.out]
    exact (hb.setCell (p := ⟨P + 1, 0, none⟩) (by simp) _).trans (kpY_b _ (by omega) hkd rfl).1
  case stop =>
    rintro D c pre W hD hSp ⟨⟨rfl, hne⟩, hh1, hb⟩ hK
    gi_wp2
    refine ⟨by simp, .inl ⟨_, _, rfl, run_takeDeferred hK, ?_⟩⟩
    have hc := cell_of_one ((World.putObj_heap_other (w := W) (o := .deferred none) (show P + 1 ≠ D by omega)).trans hh1)
    have hres : decide (evs = ws) = false := by simp only [decide_eq_false_iff_not]; rintro rfl; exact hne hSp
    refine ⟨.bool false, by simp [results, Try.results20, go_sem, hc], by rw [hres], ?_⟩
    rw [← HP.out]
    exact hb.trans (kpY_b _ (by omega) hK rfl).1

theorem told_any (Bc : Nat) (evs : List Ev) (ao2 : Option Addr) (cap2 : Nat) (ws : List Ev) (vs : List Value) (w : World) (hA : AllAt w w.heap.size Bc evs) (hW : EvRow w w.heap.size ao2 ws vs) (hws : ws.length ≤ 65536) :
    Calls Try.prog 20 #[.func (.func 56) #[] #[.pointer (some ⟨Bc, 0, none⟩)], .slice ao2 ws.length cap2] w fun e w' => e = .returned (.bool (decide (evs = ws))) ∧ Below w.heap.size w w' :=
  (callsIn_wide (n := 9)).1 (told_in 9 (by decide) 56 #[.pointer (some ⟨Bc, 0, none⟩)] evs ao2 cap2 ws vs w (enters_of Try.func56 (by kernel_rfl) rfl) (fun W hb => (hA.below hb).stops 8 (by decide)) hW hws)

/-- .. of streams that no call made. -/
theorem told_none (w : World) :
    Calls Try.prog 20 #[.func (.func 37) #[] #[], .slice none 0 0] w fun e w' => e = .returned (.bool true) ∧ Below w.heap.size w w' := by
  have hS : ∀ W, SeqStopsH Fence.wide 8 Try.prog 37 #[] (fun x : Ev × Value => #[evV x.1 x.2]) (HC w.heap.size) (KpY w.heap.size) (fun ys => ys.map Prod.fst = []) (fun pre => pre.map Prod.fst <+: []) 0 W := fun W0 l J Jx W hW hJ hJx hY h0 => by
    refine callsIn_of_wp Try.func37 rfl trivial ?_ rfl
    simp only [Try.ntmps37, List.size_toArray, List.length_cons, List.length_nil, Nat.reduceAdd, Nat.reduceSub, Array.replicate_succ, Array.replicate_zero, List.push_toArray, List.append_toArray, List.nil_append, List.cons_append]
    gi_wp2
    go_end0
    first | exact ⟨⟨_, rfl⟩, .inl ⟨[], rfl, h0⟩⟩ | exact ⟨⟨_, rfl⟩, .inl h0⟩
  exact (callsIn_wide (n := 9)).1 (told_in 9 (by decide) 37 #[] [] none 0 [] [] w (enters_of Try.func37 (by kernel_rfl) rfl) (fun W _ => hS W) ⟨fun h => by simp at h, fun j hj => by simp at hj⟩ (by simp))

def sl3 : Value → Option Addr × Nat × Nat
  | .slice a n c => (a, n, c)
  | _ => (none, 0, 0)
theorem rowCells_at : ∀ (evs : List Ev) (vs : List Value) (j i : Nat), vs.length = evs.length → j < evs.length → i < 5 → (rowCells evs vs)[j * 5 + i]? = (evCells evs[j]! vs[j]!)[i]?
  | [], _, j, _, _, hj, _ => by simp at hj
  | e :: r, [], _, _, h, _, _ => by simp at h
  | e :: r, v :: t, 0, i, _, _, hi => by
    show (evCells e v ++ rowCells r t)[0 * 5 + i]? = _
    rw [Nat.zero_mul, Nat.zero_add, List.getElem?_append_left (by simpa [evCells] using hi)]; rfl
  | e :: r, v :: t, j + 1, i, h, hj, hi => by
    have ih := rowCells_at r t j i (by simpa using h) (by simpa using hj) hi
    show (evCells e v ++ rowCells r t)[(j + 1) * 5 + i]? = _
    rw [List.getElem?_append_right (by simp [evCells]; omega), show (j + 1) * 5 + i - (evCells e v).length = j * 5 + i by simp [evCells]; omega, ih]
    rfl
theorem zip_row (evs : List Ev) (vs : List Value) (hl : vs.length = evs.length) : ((List.zip evs vs).map (fun p => (p.1, sl3 p.2))).map (·.1) = evs := by
  rw [List.map_map]
  show (List.zip evs vs).map Prod.fst = evs
  rw [List.map_fst_zip (by omega)]
/-- The streams' events, as All goes through them. -/
theorem StAt.row_of {w : World} {F : Nat → Prop} {q k : Nat} {sd : List Sd} {evs : List Ev} {va : Option Addr} {vc : Nat} {vs : List Value} (h : StAt w F q k sd evs (.slice va evs.length vc) vs) {w' : World} (hb : Below w.heap.size w w') {Bs Bc : Nat} (h1 : Bs < w'.heap.size) (h2 : Bc < w'.heap.size)
    (h3 : w'.cell? ⟨Bc, 0, none⟩ = some (.func (.func 57) #[] #[.pointer (some ⟨Bs, 0, none⟩)])) (h4 : w'.cell? ⟨Bs, 0, none⟩ = some (.slice va evs.length vc)) : AllAt w' w.heap.size Bc evs := by
  have hzl : ((List.zip evs vs).map (fun p => (p.1, sl3 p.2))).length = evs.length := by rw [List.length_map, List.length_zip, h.vsl]; omega
  have hzj : ∀ j (hj : j < ((List.zip evs vs).map (fun p => (p.1, sl3 p.2))).length), ((List.zip evs vs).map (fun p => (p.1, sl3 p.2)))[j].1 = evs[j]! ∧ (Value.slice ((List.zip evs vs).map (fun p => (p.1, sl3 p.2)))[j].2.1 ((List.zip evs vs).map (fun p => (p.1, sl3 p.2)))[j].2.2.1 ((List.zip evs vs).map (fun p => (p.1, sl3 p.2)))[j].2.2.2) = vs[j]! := fun j hj => by
    have hj' : j < evs.length := by omega
    obtain ⟨ao, c, hv, _⟩ := h.each j hj'
    have hjv : j < vs.length := by rw [h.vsl]; exact hj'
    simp only [List.getElem_map, List.getElem_zip]
    rw [getElem!_pos evs j hj', getElem!_pos vs j hjv] at *
    rw [hv]
    exact ⟨rfl, rfl⟩
  refine ⟨Bs, vc, va, (List.zip evs vs).map (fun p => (p.1, sl3 p.2)), zip_row evs vs h.vsl, by rw [hzl]; exact h.many, h1, h2, hb.size, h3, by rw [hzl]; exact h4, fun h0 => ?_, fun z hz => ?_⟩
  · have hown := h.own
    rcases hown.2 with ⟨hv, hn⟩ | ⟨g, cap, cur, hv, _, hg, _⟩
    · rw [hzl] at h0; omega
    · simp only [Value.slice.injEq] at hv
      obtain ⟨rfl, -, rfl⟩ := hv
      refine ⟨g, 0, rfl, (Array.getElem?_eq_some_iff.1 hg).1, fun j hj i u hu => ?_⟩
      obtain ⟨e1, e2⟩ := hzj j hj
      rw [e1, e2] at hu
      have hi : i < 5 := by have := (List.getElem?_eq_some_iff.1 hu).1; simpa [evCells] using this
      have hj' : j < evs.length := by omega
      have hc := h.own.cellAt (j * 5 + i) (by omega)
      rw [rowCells_at evs vs j i h.vsl hj' hi, hu] at hc
      rw [Nat.zero_add]
      exact (hb.cell (p := ⟨g, j * 5 + i, none⟩) (Array.getElem?_eq_some_iff.1 hg).1).trans hc
  · obtain ⟨j, hj, rfl⟩ := List.getElem_of_mem hz
    obtain ⟨e1, e2⟩ := hzj j hj
    rw [e1, e2]
    obtain ⟨ao, c, _, _, hav, _⟩ := h.each j (by omega)
    exact hav.below hb (Nat.le_refl _)

/-- All of streams. -/
theorem sAll_any (F : Nat → Prop) (q k : Nat) (sd : List Sd) (evs : List Ev) (w : World) (h : StIs w F q k sd evs) :
    Calls Try.prog 21 #[.pointer (some ⟨q, 0, none⟩)] w fun e w' => ∃ Bc, e = .returned (.func (.func 56) #[] #[.pointer (some ⟨Bc, 0, none⟩)]) ∧ AllAt w' w.heap.size Bc evs ∧ Below w.heap.size w w' := by
  have HC := Lib.hid (sIsMadeS_any q k w h.num h.k0)
  have C1 := fun (w : World) (a : Option Addr) (n c : Nat) => (callsIn_wide (n := 5)).1 (values_in Fence.wide 5 trivial rfl a n c w)
  have C2 := fun (w : World) (u v : Array Value) => (callsIn_wide (n := 5)).1 (clones_in Fence.wide 5 trivial rfl (.func 57) u v w)
  obtain ⟨v, vs, hat⟩ := id h
  obtain ⟨va, vc, rfl⟩ := own_slice hat.own
  have hva := hat.evv
  have HAT := Lib.hid hat; have HC1 := Lib.hid C1; have HC2 := Lib.hid C2
  clear h hat C1 C2
  go_enter Try.func21, Try.ntmps21
  go_wp2_with (first
    | (go_at_call 29; (with_reducible refine (HC.out).mono ?_); rintro e w1 ⟨rfl, rfl⟩)
    | (go_at_call 39; (with_reducible refine (HC1.out _ _ _ _).mono ?_); rintro e w1 ⟨rfl, rfl⟩)
    | (go_at_call 38; (with_reducible refine (HC2.out _ _ _).mono ?_); rintro e w1 ⟨rfl, rfl⟩))
  go_ret
  have hb : Below w.heap.size w ((w.alloc (.cells #[.slice va evs.length vc] 44)).alloc (.cells #[.func (.func 57) #[] #[.pointer (some ⟨w.heap.size, 0, none⟩)]] 50)) := ((Below.refl _ _).alloc (Nat.le_refl _) _).alloc (by simp) _
  refine ⟨_, rfl, HAT.out.row_of hb (Bs := w.heap.size) (by simp; omega) (by simp) ?_ ?_, hb⟩
  · exact cell_of_one (heap_alloc_at (by simp) rfl)
  · exact cell_of_one (heap_alloc_keeps (heap_alloc_new w _) _)
end Go.Proofs.Ythjhbnfedelniaa
