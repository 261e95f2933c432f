/- The walk of ShelfClears. -/
import Derived.Test.YtehdimaihkckkaaWd13
import Derived.Test.YtehdimaihkckkaaRlb
namespace Go.Proofs.Ytehdimaihkckkaa
open Go Go.RowKit Go.Shelf
attribute [local go_sem] Oper.semAt_some

/-- Two shelves of the call's own, laid from W0 on. -/
def C2 (W0 : World) (q q' : Nat) (ts us : List Tg) (u : World) : Prop :=
  ∃ F G nx, ShIs u F q 16384 nx ts ∧ ShIs u G q' 16384 nx us ∧ (∀ b, F b → ¬ G b) ∧ (∀ b, F b → W0.heap.size ≤ b) ∧ (∀ b, G b → W0.heap.size ≤ b) ∧ Below W0.heap.size W0 u
theorem C2.call {W0 : World} {q q' : Nat} {ts us : List Tg} {u u' : World} (h : C2 W0 q q' ts us u) (hb : Below u.heap.size u u') : C2 W0 q q' ts us u' := by
  obtain ⟨F, G, nx, h1, h2, h3, h4, h5, h6⟩ := h
  exact ⟨F, G, nx, h1.below hb, h2.below hb, h3, h4, h5, h6.trans (hb.mono h6.size)⟩
theorem C2.bel {W0 : World} {q q' : Nat} {ts us : List Tg} {u : World} (h : C2 W0 q q' ts us u) : Below W0.heap.size W0 u := by obtain ⟨F, G, nx, h1, h2, h3, h4, h5, h6⟩ := h; exact h6
theorem Lv.clone {W0 : World} {q nx : Nat} {ts : List Tg} {u : World} (h : Lv W0 q 16384 nx ts u) : Calls Try.prog 13 #[.pointer (some ⟨q, 0, none⟩)] u fun r w' => ∃ q', r = .returned (.pointer (some ⟨q', 0, none⟩)) ∧ C2 W0 q q' ts ts w' := by
  obtain ⟨F, h1, h2, h3⟩ := h
  refine (hClone_any F q 16384 nx ts u h1).mono fun r w' ⟨q', hr, hs, hb⟩ => ⟨q', hr, F, _, nx, h1.below hb, hs, fun b hf hg => ?_, h2, fun b hg => Nat.le_trans h3.size hg.1, h3.trans (hb.mono h3.size)⟩
  have := h1.flt b hf; omega
theorem C2.one {W0 : World} {q q' : Nat} {ts us : List Tg} {u : World} (h : C2 W0 q q' ts us u) (t : Int) :
    Calls Try.prog 14 #[.pointer (some ⟨q, 0, none⟩), .int .i64 t] u fun r u' => r = .returned (.int .i64 ((ts.length : Int) - ((ts.filter fun x => decide (x.beg ≥ t)).length : Int))) ∧ C2 W0 q q' (ts.filter fun x => decide (x.beg ≥ t)) us u' := by
  obtain ⟨F, G, nx, h1, h2, h3, h4, h5, h6⟩ := h
  have hs := h6.size
  refine (hClear_any F q 16384 nx ts t u h1).mono fun r u' hh => ⟨hh.1, _, G, nx, hh.2.1, h2.chg hh.2.2 (fun b hb hf => h3 b hf hb), fun b hf hg => ?_, fun b hb => hb.elim (h4 b) (fun h => by omega), h5, h6.trans (hh.2.2.below hs h4)⟩
  rcases hf with hf | hf
  · exact h3 b hf hg
  · have := h2.flt b hg; omega
theorem C2.two {W0 : World} {q q' : Nat} {ts us : List Tg} {u : World} (h : C2 W0 q q' ts us u) (t : Int) :
    Calls Try.prog 14 #[.pointer (some ⟨q', 0, none⟩), .int .i64 t] u fun r u' => r = .returned (.int .i64 ((us.length : Int) - ((us.filter fun x => decide (x.beg ≥ t)).length : Int))) ∧ C2 W0 q q' ts (us.filter fun x => decide (x.beg ≥ t)) u' := by
  obtain ⟨F, G, nx, h1, h2, h3, h4, h5, h6⟩ := h
  have hs := h6.size
  refine (hClear_any G q' 16384 nx us t u h2).mono fun r u' hh => ⟨hh.1, F, _, nx, h1.chg hh.2.2 (fun b hb hf => h3 b hb hf), hh.2.1, fun b hf hg => ?_, h4, fun b hb => hb.elim (h5 b) (fun h => by omega), h6.trans (hh.2.2.below hs h5)⟩
  rcases hg with hg | hg
  · exact h3 b hf hg
  · have := h1.flt b hf; omega
/-- The things that All told, in the box at Q. -/
structure Wt (Q : Nat) (u : World) (pre : List Tg) (W : World) : Prop where
  box : ∃ a c, W.heap[Q]? = some (.cells #[.slice a pre.length c] 42 (0, 0)) ∧ W.ownsRow (Q + 1) 47 3 (.slice a pre.length c) pre.length (dgRow pre)
  below : Below Q u W
theorem filter_twice (ts : List Tg) (a b : Int) : (ts.filter fun x => decide (x.beg ≥ min a b)).filter (fun x => decide (x.beg ≥ max a b)) = ts.filter fun x => decide (x.beg ≥ max a b) := by
  rw [List.filter_filter]
  congr 1
  funext x
  by_cases h : x.beg ≥ max a b
  · have : x.beg ≥ min a b := by omega
    simp [h, this]
  · simp [h]
theorem own_stays13 {A B : World} {base e size n : Nat} {v : Value} {xs : List Value} (h : A.ownsRow base e size v n xs) (hk : ∀ (k : Nat) (cs : Array Value) (fr : Nat × Nat), A.heap[k]? = some (.cells cs e fr) → B.heap[k]? = some (.cells cs e fr)) : B.ownsRow base e size v n xs := by
  refine ⟨h.1, h.2.imp id ?_⟩
  rintro ⟨g, cap, cur, h1, h2, h3, h4⟩
  exact ⟨g, cap, cur, h1, h2, hk _ _ _ h3, h4⟩

set_option maxRecDepth 100000 in
set_option maxHeartbeats 6400000 in
theorem shelfClears_any (v : Value) (xs : List Op13) (a b : Int) (w : World) (hl : Ov w w.heap.size v xs) : Calls Try.prog 4 #[v, .int .i64 a, .int .i64 b] w fun e w' => e = .returned (.bool true) ∧ Below w.heap.size w w' := by
  obtain ⟨ao, cap, rfl, _⟩ := id hl.row
  obtain ⟨i0, hi, hz0, hz1, hz2⟩ := info_parts13 infoRThg
  obtain ⟨P, hP⟩ : ∃ P, P = w.heap.size := ⟨_, rfl⟩
  obtain ⟨W0, hW0⟩ : ∃ W0, W0 = ((w.alloc (.cells #[.int .i64 a] 2)).alloc (.cells #[.int .i64 b] 2)).alloc (.cells #[.bool false] 4) := ⟨_, rfl⟩
  have hb0 : Below P w W0 := by rw [hW0, hP]; exact (((Below.refl _ _).alloc (Nat.le_refl _) _).alloc (by simp) _).alloc (by simp; omega) _
  have hs0 : W0.heap.size = P + 3 := by rw [hW0, hP]; simp
  have h0 : W0.heap[P]? = some (.cells #[.int .i64 a] 2 (0, 0)) := by rw [hW0, hP]; exact heap_alloc_keeps (heap_alloc_keeps (heap_alloc_new w _) _) _
  have h1 : W0.heap[P + 1]? = some (.cells #[.int .i64 b] 2 (0, 0)) := by rw [hW0, hP]; exact heap_alloc_keeps (heap_alloc_at (by simp) rfl) _
  have h2 : W0.heap[P + 1 + 1]? = some (.cells #[.bool false] 4 (0, 0)) := by rw [hW0, hP]; exact heap_alloc_at (by simp) rfl
  have HBX : Hid (∀ u, Below W0.heap.size W0 u → u.heap[P]? = some (.cells #[.int .i64 a] 2 (0, 0)) ∧ u.heap[P + 1]? = some (.cells #[.int .i64 b] 2 (0, 0)) ∧ u.heap[P + 1 + 1]? = some (.cells #[.bool false] 4 (0, 0)) ∧ Below P w u) := Lib.hid (fun u hu => ⟨(hu.block _ (by omega)).trans h0, (hu.block _ (by omega)).trans h1, (hu.block _ (by omega)).trans h2, hb0.trans (hu.mono (by omega))⟩)
  have hlen := hl.len
  obtain ⟨n, hn⟩ : ∃ n, n = xs.length := ⟨_, rfl⟩
  have HROW : Hid (∀ u, Below P w u → ∀ k, k < n → ∃ b o, ao = some ⟨b, o, none⟩ ∧ b < P ∧ u.cell? ⟨b, o + k * 5, none⟩ = some (.int .i64 xs[k]!.d) ∧ u.cell? ⟨b, o + k * 5 + 1, none⟩ = some (.int .i64 xs[k]!.b) ∧ u.cell? ⟨b, o + k * 5 + 2, none⟩ = some (.int .i64 xs[k]!.e) ∧ u.cell? ⟨b, o + k * 5 + 3, none⟩ = some (.string xs[k]!.x) ∧ u.cell? ⟨b, o + k * 5 + 4, none⟩ = some (.int .i64 xs[k]!.t)) := Lib.hid (fun u hu k hk => by
    rw [hP] at hu ⊢
    exact hl.at u (fun b hb o => hu.cell (p := ⟨b, o, none⟩) hb) k (by omega))
  have HN : Hid (Calls Try.prog 6 #[.int .i64 16384] W0 fun e w' => e = .returned (.tuple #[.pointer (some ⟨W0.heap.size, 0, none⟩), .int .i64 0]) ∧ ShIs w' (fun b => b = W0.heap.size) W0.heap.size 16384 0 [] ∧ Below W0.heap.size W0 w') := Lib.hid (hNew_ok 16384 (by decide) (by decide) W0)
  have HLV : Hid (∀ u, ShIs u (fun b => b = W0.heap.size) W0.heap.size 16384 0 [] → Below W0.heap.size W0 u → Lv W0 W0.heap.size 16384 0 [] u) := Lib.hid (fun u h1 h2 => ⟨_, h1, fun b hb => by rw [hb]; exact Nat.le_refl _, h2⟩)
  have H3 := Lib.hid (fun u => live13_any u)
  rw [← hn]
  rw [← hn] at hlen
  have HP := Lib.hid hP; have HW0 := Lib.hid hW0; have HS0 := Lib.hid hs0
  have HCAP : Hid (n ≤ 140737488355328) := hlen
  clear hl hn hP hW0 hb0 h0 h1 h2 hs0
  refine (callsIn_wide (n := 12)).1 ?_
  refine callsIn_of_wp_marks Try.func4 rfl trivial ?_ rfl
  simp only [Try.ntmps4, List.size_toArray, List.length_cons, List.length_nil, Nat.reduceAdd, Nat.reduceSub, Array.replicate_succ, Array.replicate_zero, List.push_toArray, List.append_toArray, List.nil_append, List.cons_append]
  refine wpIn_wide.2 ?_
  go_wp2_with fail
  rw [← HW0.out, ← HP.out]
  go_wp2_with (first
    | (go_at_call 6; (with_reducible refine (HN.out).mono ?_); rintro e u1 ⟨rfl, ha, hb⟩; have HK := Lib.hid (HLV.out u1 ha hb); clear ha hb)
    | (go_at_call 8; (with_reducible refine (H3.out _).mono ?_); rintro e u3 ⟨rfl, hb⟩; have HK := Lib.hid (HK.out.call hb); clear hb))
  obtain ⟨q, hq⟩ : ∃ q, q = W0.heap.size := ⟨_, rfl⟩
  rw [← hq] at HK ⊢
  clear HN HLV H3 hq
  go_loopw [27] (fun iv wr => ∃ (k nx : Nat) (ts : List Tg), k ≤ n ∧ iv = .int .i64 (k : Int) ∧ Hid (nx ≤ k) ∧ Hid (Lv W0 q 16384 nx ts wr)) (fun iv _ => n - (intOf iv).toNat)
  case atStart => exact ⟨0, 0, [], Nat.zero_le _, rfl, Nat.le_refl _, HK⟩
  case round =>
    obtain ⟨k, nx, ts, hk, rfl, HNX, HT⟩ := hrel
    clear HK
    have e1 : IntKind.i64.wrap ((k : Int) + 1) = (k : Int) + 1 := IntWalk.i64_in _ (by omega)
    by_cases hlt : k < n
    · obtain ⟨bb, o, rfl, hb, x0, x1, x2, x3, x4⟩ := HROW.out wr (HBX.out wr HT.out.below).2.2.2 k hlt
      have hki : (k : Int) < (n : Int) := by omega
      have hk0 : (0 : Int) ≤ (k : Int) := by omega
      generalize xs[k]! = x at x0 x1 x2 x3 x4
      obtain ⟨X, hX⟩ : ∃ X, X = wr.alloc (.cells #[.int .i64 x.d, .int .i64 x.b, .int .i64 x.e, .string x.x, .int .i64 x.t] 34) := ⟨_, rfl⟩
      have hbX : Below wr.heap.size wr X := by rw [hX]; exact (Below.refl _ _).alloc (Nat.le_refl _) _
      have hXn : X.heap[wr.heap.size]? = some (.cells #[.int .i64 x.d, .int .i64 x.b, .int .i64 x.e, .string x.x, .int .i64 x.t] 34 (0, 0)) := by rw [hX]; exact heap_alloc_new wr _
      have HPT := Lib.hid ((HT.out.call hbX).put x.b x.e x.x (by have := HNX.out; have := HCAP.out; omega))
      have HNN : Hid (putN 16384 nx ts x.b x.e ≤ nx + 1) := Lib.hid (by unfold putN; split <;> omega)
      obtain ⟨y0, y1, y2, y3, y4⟩ := cells_op hXn
      have HX := Lib.hid hX
      clear hX hbX hXn hb
      go_wp2_with fail
      rw [← HX.out]
      go_wp2_with (go_at_call 12; (with_reducible refine (HPT.out).mono ?_); rintro e w1 ⟨rfl, hl1⟩; have HL1 := Lib.hid hl1; clear hl1)
      go_roundw
      case rel => exact ⟨k + 1, _, _, by omega, by go_num, by have := HNN.out; have := HNX.out; unfold Hid; omega, HL1⟩
      case measure => simp [intOf]; omega
    · obtain rfl : k = n := by omega
      have HCL := Lib.hid HT.out.clone
      obtain ⟨g0, g1, g2, hbw⟩ := HBX.out wr HT.out.below
      have p0 := cells_one0 g0; have p1 := cells_one0 g1
      have HONE : Hid (∀ (q' : Nat) (ts us : List Tg) (u : World) (t : Int), C2 W0 q q' ts us u → Calls Try.prog 14 #[.pointer (some ⟨q, 0, none⟩), .int .i64 t] u fun r u' => r = .returned (.int .i64 ((ts.length : Int) - ((ts.filter fun x => decide (x.beg ≥ t)).length : Int))) ∧ C2 W0 q q' (ts.filter fun x => decide (x.beg ≥ t)) us u') := Lib.hid (fun q' ts us u t h => h.one t)
      have HTWO : Hid (∀ (q' : Nat) (ts us : List Tg) (u : World) (t : Int), C2 W0 q q' ts us u → Calls Try.prog 14 #[.pointer (some ⟨q', 0, none⟩), .int .i64 t] u fun r u' => r = .returned (.int .i64 ((us.length : Int) - ((us.filter fun x => decide (x.beg ≥ t)).length : Int))) ∧ C2 W0 q q' ts (us.filter fun x => decide (x.beg ≥ t)) u') := Lib.hid (fun q' ts us u t h => h.two t)
      have HAFT : Hid (∀ u, Below W0.heap.size W0 u → u.cell? ⟨P, 0, none⟩ = some (.int .i64 a) ∧ u.cell? ⟨P + 1, 0, none⟩ = some (.int .i64 b)) := Lib.hid (fun u hu => ⟨cells_one0 (HBX.out u hu).1, cells_one0 (HBX.out u hu).2.1⟩)
      have HFW := Lib.hid (filter_twice ts a b)
      have HZ : Hid (∀ x ∈ (ts.filter fun x => decide (x.beg ≥ max a b)), ¬ x.beg < max a b) := Lib.hid (fun x hx => by have := (List.mem_filter.1 hx).2; rw [decide_eq_true_eq] at this; omega)
      clear g0 g1 g2 hbw p0 p1 hlt hk
      go_wp2_with (first
        | (go_at_call 13; (with_reducible refine (HCL.out).mono ?_); rintro e w1 ⟨q', rfl, hc⟩; have HC := Lib.hid hc; obtain ⟨p0, p1⟩ := HAFT.out w1 hc.bel; clear hc)
        | (go_at_call 14; (with_reducible refine (HONE.out _ _ _ _ _ HC.out).mono ?_); rintro e w2 ⟨rfl, hc⟩; have HC := Lib.hid hc; obtain ⟨p0, p1⟩ := HAFT.out w2 hc.bel; clear hc)
        | (go_at_call 14; (with_reducible refine (HTWO.out _ _ _ _ _ HC.out).mono ?_); rintro e w3 ⟨rfl, hc⟩; have HC := Lib.hid hc; obtain ⟨p0, p1⟩ := HAFT.out w3 hc.bel; clear hc))
      have hc := HC.out
      rw [HFW.out] at hc
      generalize (ts.filter fun x => decide (x.beg ≥ max a b)) = zs at hc HZ
      generalize hQ : w3.heap.size = Q
      obtain ⟨u1, hu1⟩ : ∃ u1, u1 = w3.alloc (.cells #[.slice none 0 0] 42) := ⟨_, rfl⟩
      have hbu : Below w3.heap.size w3 u1 := by rw [hu1]; exact (Below.refl _ _).alloc (Nat.le_refl _) _
      have hwu : u1.heap[Q]? = some (.cells #[.slice none 0 0] 42 (0, 0)) := by rw [hu1, ← hQ]; exact heap_alloc_new w3 _
      rw [← hu1]
      have hA : Calls Try.prog 15 #[.pointer (some ⟨q', 0, none⟩)] u1 fun e w' => ∃ Bs, e = .returned (.func (.func 46) #[] #[.pointer (some ⟨Bs, 0, none⟩)]) ∧ AllAt w' w3.heap.size Bs zs ∧ Below u1.heap.size u1 w' := by
        obtain ⟨F, G, nx', g1, g2, _⟩ := id hc
        exact hAll_any G q' 16384 nx' zs w3 u1 g2 hbu
      refine hA.mono ?_
      rintro e u7 ⟨Bs, rfl, hall, hb7⟩
      have hQ1 : Q < u1.heap.size := lt_of_block hwu
      have h7 : u7.heap[Q]? = some (.cells #[.slice none 0 0] 42 (0, 0)) := (hb7.block Q hQ1).trans hwu
      have hb3 : Below Q w3 u7 := by rw [← hQ]; exact hbu.trans (hb7.mono hbu.size)
      have hQ7 : Q < u7.heap.size := lt_of_block h7
      rw [hQ] at hall
      have hQ3 : w3.heap.size = Q := hQ
      have hP3 : P + 3 ≤ Q := by have := hc.bel.size; have := HS0.out; omega
      have hmany : zs.length ≤ 16384 := hall.many
      have hstops := hAll1_stops Fence.wide 11 trivial rfl (by decide) Bs Q zs u7 hall
      have HC3 := Lib.hid hc
      have HQ3 := Lib.hid hQ3
      have HW : Hid (∀ W, Below Q w3 W → Below W0.heap.size W0 W) := Lib.hid (fun W h => hc.bel.trans (h.mono (by have := hc.bel.size; omega)))
      clear hc hA hall hu1 hbu hwu hb7 hQ hQ3 HONE HTWO HFW HC p0 p1
      go_wp2_with fail
      refine (wpIn_wide (n := 12)).1 ?_
      refine wpIn_rangeFunc_HD 13 14 (fun x : Tg => .string x.txt) rfl (by decide) (gf := 46) (lb := #[.pointer (some ⟨Bs, 0, none⟩)]) rfl trivial (enters_of Try.func46 (by kernel_rfl) rfl)
        hstops Below.trans (belowK_b (Nat.le_of_lt hQ7)) (Below.refl _ _) (fun _ => rfl)
        (fun (pre : List Tg) (W : World) => pre.length ≤ 16384 ∧ Wt Q w3 pre W)
        (fun (c : Code) (_ : List Tg) (_ : World) => False) ?ownI (fun c => ownFrom_pure _ _) ⟨Nat.zero_le _, ⟨⟨none, 0, h7, World.ownsRow_nil _ _ _ _⟩, hb3⟩⟩
        (fun (x : Tg) (Bx : Nat) (W : World) => Q < Bx ∧ W.heap[Bx]? = some (.cells #[.int .i64 x.beg, .int .i64 x.fin] 32 (0, 0)) ∧ x ∈ zs)
        ?ownA ?assign ?body ?done ?stop
      case ownI =>
        rintro pre A B row ⟨hm, ⟨a', c', hbx, hown⟩, hbe⟩ hg hr
        have hno : ∀ (k : Nat) (cs : Array Value) (t : Nat) (fr : Nat × Nat), A.heap[k]? = some (.cells cs t fr) → B.heap[k]? = some (.cells cs t fr) := fun k cs t fr hk =>
          (hg.block k (Array.getElem?_eq_some_iff.1 hk).1 (fun e => by obtain ⟨_, o, ho, hc⟩ := hr k e.symm; rw [hk] at ho; cases ho; cases hc)).trans hk
        have hQA := (Array.getElem?_eq_some_iff.1 hbx).1
        exact ⟨hm, ⟨a', c', hno _ _ _ _ hbx, own_stays13 hown (fun k cs fr hk => hno k cs _ fr hk)⟩, hbe.trans ((Below.refl _ _).grown hg (Nat.le_of_lt hQA) (fun k e => by have := (hr k e).1; omega))⟩
      case ownA =>
        rintro x Bx _ A B row ⟨g1, g2, g3⟩ hg hr
        exact ⟨g1, (hg.block _ (Array.getElem?_eq_some_iff.1 g2).1 (fun e => by obtain ⟨_, o, ho, hc⟩ := hr _ e.symm; rw [g2] at ho; cases ho; cases hc)).trans g2, g3⟩
      case assign =>
        rintro l' pre x W K ⟨hm, ⟨a', c', hbx, hown⟩, hbe⟩ hmem hK
        have hlt : Q < W.heap.size := (Array.getElem?_eq_some_iff.1 hbx).1
        have hK := Lib.hid hK
        unfold encT
        gi_wp2
        have hbb : Below W.heap.size W (W.alloc (.cells #[.int .i64 x.beg, .int .i64 x.fin] 32)) := (Below.refl _ _).alloc (Nat.le_refl _) _
        have hk := hK.out W.heap.size _ ((KeepsOthers.alloc _ _).from _) (hbb.mono (Nat.le_of_lt hlt)) ⟨hm, ⟨a', c', (hbb.block Q hlt).trans hbx, own_call0 hown hbb⟩, hbe.trans (hbb.mono (Nat.le_of_lt hlt))⟩ ⟨hlt, heap_alloc_new _ _, hmem⟩
        clear hK
        simpa [boxValAct, encT] using hk
      case body =>
        rintro l' pre x Bx W hl' hr ⟨hm, ⟨a', c', hbx, hown⟩, hbe⟩ ⟨hQB, hx, hmem⟩ hlen
        unfold boxValAct encT
        have c0 := cells_one0 hbx; have f0 := free1 hbx
        obtain ⟨x0, x1, -⟩ := cells_two hx
        have hbW := HW.out W hbe
        have p0 := cells_one0 (HBX.out W hbW).1; have p1 := cells_one0 (HBX.out W hbW).2.1
        have hba : Below W.heap.size W (W.alloc (.cells #[.int .i64 x.beg, .int .i64 x.fin, .string x.txt] 47)) := (Below.refl _ _).alloc (Nat.le_refl _) _
        have HXN := Lib.hid (World.news_of_block (heap_alloc_new W (.cells #[.int .i64 x.beg, .int .i64 x.fin, .string x.txt] 47)))
        have HO := Lib.hid (own_call0 hown hba)
        have hQW := (Array.getElem?_eq_some_iff.1 hbx).1
        have hBW := (Array.getElem?_eq_some_iff.1 hx).1
        have HNK : Hid (pre.length + 1 ≤ maxLen ∧ (pre.length + 1) * 32 ≤ 140737488355328) := Lib.hid (by unfold maxLen; omega)
        have HBS : Hid (Q + 1 ≤ (W.alloc (.cells #[.int .i64 x.beg, .int .i64 x.fin, .string x.txt] 47)).heap.size) := Lib.hid (by simp; omega)
        have hmx : ¬ x.beg < max a b := by have := HZ.out x hmem; omega
        have d0 : decide (x.beg < max a b) = false := decide_eq_false hmx
        -- behind the append
        have HAP : Hid (∀ (w4 : World) (a4 : Option Addr) (c4 : Nat), w4.ownsRow (Q + 1) 47 3 (.slice a4 (pre.length + 1) c4) (pre.length + 1) (dgRow pre ++ [.int .i64 x.beg, .int .i64 x.fin, .string x.txt]) → (W.alloc (.cells #[.int .i64 x.beg, .int .i64 x.fin, .string x.txt] 47)).grownBy w4 (Value.slice a' pre.length c').ownBlock →
            w4.heap[Q]? = some (.cells #[.slice a' pre.length c'] 42 (0, 0)) ∧ w4.heap[Bx]? = some (.cells #[.int .i64 x.beg, .int .i64 x.fin] 32 (0, 0)) ∧ Below Q W w4 ∧ KeepsFrom u7.heap.size W w4) := Lib.hid (fun w4 a4 c4 ho hg => by
          have hbx' := (hba.block Q hQW).trans hbx
          have hx' := (hba.block Bx hBW).trans hx
          have hb4 : Below Q W w4 := ((Below.refl Q W).alloc (Nat.le_of_lt hQW) _).grown hg (by simp; omega) (fun k hk => by have := (hown.lt k hk).1; omega)
          refine ⟨grow_keeps hbx' HO.out (by decide) hg rfl, grow_keeps hx' HO.out (by decide) hg rfl, hb4, hb4.size, fun k o hk ho' hno => ?_⟩
          have hkW := (Array.getElem?_eq_some_iff.1 ho').1
          refine (hg.block k (by simp; omega) (fun e => ?_)).trans ((hba.block k hkW).trans ho')
          rcases HO.out.2 with ⟨e2, _⟩ | ⟨g, cap2, cur, e2, _, hgg, _⟩
          · rw [e2] at e; simp [Value.ownBlock] at e
          · rw [e2] at e
            simp only [Value.ownBlock, Option.some.injEq] at e
            rw [← e, (hba.block k hkW).trans ho'] at hgg
            cases hgg; cases hno)
        have HBE := Lib.hid hbe
        clear hbx hx hown hbW hba hQW hBW hmx
        gi_wp2_with (first
          | (gi_at_builtin; refine wpListIn_append_own _ rfl _ _ 42 rfl (Q + 1) 47 i0 (.agg #[.int .i64 0, .int .i64 0, .string ⟨#[]⟩]) 3 32 Try.underlying42 hi hz0 hz1 hz2 rfl (by decide) (.slice a' pre.length c') pre.length (dgRow pre) rfl HO.out ⟨W.heap.size, 0, none⟩ 1 1 [.int .i64 x.beg, .int .i64 x.fin, .string x.txt] rfl rfl HXN.out (by simp [Value.oneCell']) HNK.out.1 HNK.out.2 HBS.out ?_; intro v4 w4 hown4 hg4 hnil4; obtain ⟨a4, c4, rfl⟩ := own_slice hown4; obtain ⟨hq4, hx4, hbq, hkf⟩ := HAP.out w4 a4 c4 hown4 hg4; have HO4 := Lib.hid hown4; have HQ4 := Lib.hid hq4; have HBQ := Lib.hid hbq; have HKF := Lib.hid hkf; have f4 := free1 hq4; have c4' := cells_one0 hq4; obtain ⟨z0, z1, -⟩ := cells_two hx4; have hbW4 := HW.out w4 (HBE.out.trans hbq); have r0 := cells_one0 (HBX.out w4 hbW4).1; have r1 := cells_one0 (HBX.out w4 hbW4).2.1; have nQ : Bx ≠ Q := Nat.ne_of_gt hQB; have nP : P ≠ Q := (by omega); have nP1 : P + 1 ≠ Q := (by omega); clear hown4 hg4 hnil4 hq4 hx4 hbq hkf hbW4))
        have hbs : Below Q W (w4.setCell ⟨Q, 0, none⟩ (.slice a4 (pre.length + 1) c4)) := HBQ.out.setCell (p := ⟨Q, 0, none⟩) (Nat.le_refl _) _
        refine ⟨HKF.out.trans ((KeepsOthers.setCell _ _ _).from _), hbs, by simp; omega, ⟨a4, c4, ?_, ?_⟩, HBE.out.trans hbs⟩
        · rw [List.length_append, List.length_singleton]; exact set1 HQ4.out _
        · rw [List.length_append, List.length_singleton, dgRow_app]; exact ownsRow_setCell_typed (a := ⟨Q, 0, none⟩) HO4.out HQ4.out (by decide) _
      case done =>
        rintro D xs W hD rfl ⟨hm, ⟨a', c', hbx, hown⟩, hbe⟩ hK
        have hbW := HW.out W hbe
        obtain ⟨g0, g1, g2, hbP⟩ := HBX.out W hbW
        have p2 := cells_one0 g2; have f2 := free1 g2
        have c0 := cells_one0 hbx
        have hC : C2 W0 q q' xs xs W := HC3.out.call (by rw [HQ3.out]; exact hbe)
        have hWd : Below W.heap.size W W.drew := (Below.refl _ _).drew
        have hA : Calls Try.prog 15 #[.pointer (some ⟨q, 0, none⟩)] W.drew fun e w' => ∃ Bs, e = .returned (.func (.func 46) #[] #[.pointer (some ⟨Bs, 0, none⟩)]) ∧ AllAt w' W.drew.heap.size Bs xs ∧ Below W.drew.heap.size W.drew w' := by
          obtain ⟨F, G, nx', g1, _⟩ := hC
          exact hAll_any F q 16384 nx' xs W.drew W.drew (g1.below hWd) (Below.refl _ _)
        have hQl := (Array.getElem?_eq_some_iff.1 hbx).1
        have hP2l := (Array.getElem?_eq_some_iff.1 g2).1
        have HA := Lib.hid hA; have HO := Lib.hid hown; have HG2 := Lib.hid g2; have HBX2 := Lib.hid hbx; have HBP := Lib.hid hbP; have HKD := Lib.hid hK
        have HDD : Hid (P + 1 + 1 ≠ D) := Lib.hid (by omega)
        have HPD : Hid (P ≤ D) := Lib.hid (by omega)
        have HQL := Lib.hid hQl; have HPL := Lib.hid hP2l
        clear hbW g0 g1 g2 hbP hbx hown hC hWd hA hQl hP2l hK hbe hstops
        go_wp2_with fail
        go_region_held3 (fun w' => w'.cell? ⟨Q, 0, none⟩ = some (.slice a' xs.length c'))
          (first | (with_reducible exact c0) | go_keep)
          (first
            | (go_at_call 15; (with_reducible refine (HA.out).mono ?_); rintro e w1 ⟨Bs2, rfl, hal, hb1⟩; have hb1' := ((Below.refl W.heap.size W).drew).trans hb1; have HT := Lib.hid (tells13_any _ Bs2 xs _ 0 w1 hal (TdAt.of_own (own_call0 HO.out hb1'))); have hq1 := (hb1'.block Q HQL.out).trans HBX2.out; have hg1 := (hb1'.block _ HPL.out).trans HG2.out; have c0 := cells_one0 hq1; have p2 := cells_one0 hg1; have f2 := free1 hg1; have HB1 := Lib.hid hb1'; clear hal hb1 hb1' hq1 hg1)
            | (go_at_call 16; (with_reducible refine (HT.out).mono ?_); rintro e w2 ⟨rfl, hb2⟩; have hb3 := HB1.out.trans (hb2.mono HB1.out.size); have hq1 := (hb3.block Q HQL.out).trans HBX2.out; have hg1 := (hb3.block _ HPL.out).trans HG2.out; have c0 := cells_one0 hq1; have p2 := cells_one0 hg1; have f2 := free1 hg1; have HB2 := Lib.hid hb3; have c9 : ∀ v, (w2.setCell ⟨P + 1 + 1, 0, none⟩ v).cell? ⟨Q, 0, none⟩ = some (.slice a' xs.length c') := (fun v => (World.cell?_setCell_other _ _ _ _ (fun e => by simp only [Addr.mk.injEq] at e; omega)).trans c0); clear hb2 hb3 hq1 hg1))
        all_goals go_wp2
        all_goals
          have hg2 := (HB2.out.block _ HPL.out).trans HG2.out
          have hx4 := set1 hg2 (.bool true)
          have hkd : ((w2.setCell ⟨P + 1 + 1, 0, none⟩ (.bool true))).heap[D]? = some (.deferred (some [])) := (Below.heap_setCell w2 ⟨P + 1 + 1, 0, none⟩ (.bool true) D (Ne.symm HDD.out)).trans ((HB2.out.block D (Array.getElem?_eq_some_iff.1 HKD.out).1).trans HKD.out)
          refine ⟨by simp, .inl ⟨_, _, rfl, run_takeDeferred hkd, ?_⟩⟩
          have hc := cells_one0 ((World.putObj_heap_other (w := (w2.setCell ⟨P + 1 + 1, 0, none⟩ (.bool true))) (o := .deferred none) HDD.out).trans hx4)
          refine ⟨.bool true, by simp [results, Try.results4, go_sem, hc], rfl, ?_⟩
          rw [← HP.out]
          have hf : Below P w (w2.setCell ⟨P + 1 + 1, 0, none⟩ (.bool true)) := (HBP.out.trans (HB2.out.mono (by have := HPL.out; omega))).setCell (p := ⟨P + 1 + 1, 0, none⟩) (by simp; omega) _
          exact hf.grown (grownBy_putObj' _ D _) (by have h1 := hf.size; have h2 := HP.out; omega) (fun k e => by cases e; exact HPD.out)
      case stop =>
        rintro D c pre W hD hSp hF
        exact hF.elim
end Go.Proofs.Ytehdimaihkckkaa
