/- Joined: Rnd, Sr0, To2. -/
import Derived.Lib.QuietBelowIn
import Derived.TacticsIn
import Derived.CallsIn
import Derived.Test.YtcnecokamckfaaaGreatDoorK2
import Derived.Test.YtcnecokamckfaaaGreatDoorCe0
import Derived.Test.YtcnecokamckfaaaGreatDoorJ1
import Derived.Test.YtcnecokamckfaaaGreatDoorJ2
set_option linter.unusedVariables false
set_option linter.unusedSimpArgs false
/- A region that draws its order, within a round of a range over a function: its operations read, its callees may lay blocks: one walk in the order of the text serves (the library has this outside a round). -/
namespace Go.Proofs.YtcnecokamckfaaaGreatDoor
open Go Go.RowKit Go.Sort

variable {F : Fence} {n : Nat} {P : Program} {ops : Array Oper} {md : Region.Mode} {C : World → Prop} {K : Act → Prop} {K' : Act → World → Prop} {Q' : Exit → Act → World → Prop}

theorem quiet_in_round {o : Oper} {a : Act} {w : World} {l₀ : Nat} (hro : F.round = some l₀) (hd : ∀ c, o.op ≠ .defer c) (hw : C w) (h : ∀ a w', C w' → K a → K' a w')
    (ha : o.askedIn F P a C) (hh : o.quietIn F n P a C K) : o.wpIn F n P a w K' Q' := by
  obtain ⟨v, h1, h2⟩ := hh
  have h3 := h1 w hw
  refine ⟨ha w hw, ?_⟩
  rw [hro, Oper.semAt_some _ _ _ hd]
  unfold Oper.quietAtIn at h3
  revert h3
  cases (execOp a.eval o).run P w with
  | halt x w' => exact fun h3 => h3.elim
  | ok x w' =>
    cases x with
    | value u => rintro ⟨rfl, rfl⟩; exact h _ _ hw h2
    | skip => rintro ⟨rfl, rfl⟩; exact h _ _ hw h2
    | enter f args => rintro ⟨rfl, hdp, hc⟩; exact ⟨hdp, hc.mono fun e w'' ⟨he, hw''⟩ => by subst he; exact h _ _ hw'' h2⟩
    | _ => exact fun h3 => h3.elim
theorem any_in_round {l₀ : Nat} (hro : F.round = some l₀) (hd : ∀ (i : Nat) (o : Oper), ops[i]? = some o → ∀ c, o.op ≠ .defer c) (hQ : ∀ a w, C w → K a → Q' .normal a w) :
    ∀ (fuel : Nat) (listed : Array Bool) (a : Act) (w : World), C w → wpAnyQIn F n P md ops C K fuel listed a → wpAnyIn F n P md ops Q' fuel listed a w
  | 0, _, _, _, hw, h => ⟨h.1, hQ _ _ hw h.2⟩
  | fuel + 1, listed, a, w, hw, h => ⟨fun h0 => hQ _ _ hw (h.1 h0), fun i hi => by
    have hq := h.2 i hi
    have go : ∀ a' w', C w' → wpAnyQIn F n P md ops C K fuel (listed.setIfInBounds i true) a' → wpAnyIn F n P md ops Q' fuel (listed.setIfInBounds i true) a' w' := fun a' w' hw' hh => any_in_round hro hd hQ fuel _ a' w' hw' hh
    unfold qOpIn at hq
    unfold wpOpIn
    cases ho : ops[i]? with
    | none => simp only [ho] at hq ⊢; exact go _ _ hw hq
    | some o =>
      simp only [ho] at hq ⊢
      by_cases hwt : Region.wanted o (yielded ops a.tmps) = true
      · simp only [hwt, if_true] at hq ⊢; exact quiet_in_round hro (hd i o ho) hw go hq.1 hq.2
      · simp only [hwt] at hq ⊢; exact ⟨hq.1 w hw, go _ _ hw hq.2⟩⟩
/-- Within a round, at the class 'w, with blocks laid behind it'. -/
theorem wpIn_region_quiet_round {id : Nat} {Q : Exit → Act → World → Prop} {a : Act} {w : World} {l : List Oper} {l₀ : Nat} (hro : F.round = some l₀) (hm : P.follows .mixedOrders = true) (hB : Region.lexB .any l.toArray = true)
    (hd : l.all (fun o => match o.op with | .defer _ => false | _ => true) = true)
    (h : wpQuietIn F n P l.toArray (fun w' => ∃ p : Regrown, w' = grow (redrawn w p.d) p.os) (fun a' => ∀ w', (∃ p : Regrown, w' = grow (redrawn w p.d) p.os) → Q .normal a' w') l a) : (Code.region id l.toArray true).wpIn F n P Q a w := by
  simp only [Region.lexB, Bool.and_eq_true] at hB
  have hd' : ∀ (i : Nat) (o : Oper), l.toArray[i]? = some o → ∀ c, o.op ≠ .defer c := fun i o ho c hc => by
    have hm : o ∈ l := List.mem_of_getElem? (by simpa using ho)
    have := List.all_eq_true.1 hd o hm
    rw [hc] at this; cases this
  refine wpIn_region_any hm (any_in_round (C := fun w' => ∃ p : Regrown, w' = grow (redrawn w p.d) p.os) (K := fun a' => ∀ w', (∃ p : Regrown, w' = grow (redrawn w p.d) p.os) → Q .normal a' w') hro hd' (fun _ w' hw' h => h w' hw') _ _ _ _ ⟨⟨w.drawn + 1, #[]⟩, by rw [grow_empty]; rfl⟩ ?_)
  have := wpAnyQIn_lex (F := F) (n := n) (C := fun w' => ∃ p : Regrown, w' = grow (redrawn w p.d) p.os) (md := .any) hB.1 l 0 (Array.replicate l.toArray.size false) a (by simp) (by simpa using hB.2) h
  simpa using this
end Go.Proofs.YtcnecokamckfaaaGreatDoor

/- Contracts: the document's Same. -/
namespace Go.Proofs.YtcnecokamckfaaaGreatDoor
open Go Go.RowKit

set_option maxRecDepth 100000 in
set_option maxHeartbeats 6400000 in
theorem r10Same_any (B C : Nat) (ao : Option Addr) (n cap : Nat) (ao2 : Option Addr) (n2 cap2 : Nat) (cs bs : List Bd) (w : World) (h1 : BsV w B (.slice ao n cap) cs) (h2 : BsV w C (.slice ao2 n2 cap2) bs) (hB : B ≤ w.heap.size) (hC : C ≤ w.heap.size) :
    Calls Tryz.prog 23 #[.agg #[.slice ao n cap], .agg #[.slice ao2 n2 cap2]] w fun e w' => e = .returned (.bool (decide (cs = bs))) ∧ Below w.heap.size w w' := by
  obtain ⟨hn, hn63, _⟩ := h1.num
  obtain ⟨hm, hm63, _⟩ := h2.num
  have HN := Lib.hid hn; have HM := Lib.hid hm
  obtain ⟨P, hP⟩ : ∃ P, P = w.heap.size := ⟨_, rfl⟩
  obtain ⟨W, hW⟩ : ∃ W, W = (w.alloc (.cells #[.slice ao n cap] 38)).alloc (.cells #[.slice ao2 n2 cap2] 38) := ⟨_, rfl⟩
  have HB0 : Hid (Below P w W) := by rw [hW, hP]; exact ((Below.refl _ _).alloc (Nat.le_refl _) _).alloc (by simp) _
  have hPW : W.heap[P]? = some (.cells #[.slice ao n cap] 38 (0, 0)) := by rw [hW, hP]; exact heap_alloc_keeps (heap_alloc_new w _) _
  have hQW : W.heap[P + 1]? = some (.cells #[.slice ao2 n2 cap2] 38 (0, 0)) := by rw [hW, hP]; exact heap_alloc_at (by simp) rfl
  have hWs : W.heap.size = P + 2 := by rw [hW, hP]; simp
  have HW := Lib.hid hW; have HP := Lib.hid hP
  have HPS : Hid (P ≤ W.heap.size) := Lib.hid (by omega)
  have HPX := Lib.hid (fun u (hu : Below W.heap.size W u) => And.intro (cells_one0 ((hu.block P (by omega)).trans hPW)) (cells_one0 ((hu.block (P + 1) (by omega)).trans hQW)))
  have H1 := Lib.hid (h1.below HB0.out (by omega)); have H2 := Lib.hid (h2.below HB0.out (by omega))
  have HBB : Hid (B ≤ W.heap.size) := Lib.hid (by omega); have HCC : Hid (C ≤ W.heap.size) := Lib.hid (by omega)
  have HBR : Hid (Below W.heap.size W W) := Lib.hid (Below.refl _ _)
  obtain ⟨c0, d0⟩ := HPX.out _ HBR.out
  rw [← hP]
  clear h1 h2 hn hm hB hC hP hW hPW hQW hWs
  rcases Decidable.em (n = n2) with hnn | hnn
  case inr =>
    rw [show decide (cs = bs) = false from decide_eq_false fun e => hnn (by rw [HN.out, HM.out, e])]
    have e1 : ((n : Int) != (n2 : Int)) = true := by simp; omega
    have e2 : ((n : Int) == (n2 : Int)) = false := by simp; omega
    go_enter Tryz.func23, Tryz.ntmps23
    go_wp2
    go_ret
    exact ⟨rfl, by rw [← HW.out]; exact HB0.out⟩
  subst hnn
  go_enter Tryz.func23, Tryz.ntmps23
  go_wp2_with fail
  rw [← HW.out, ← HP.out]
  go_loopw [5] (fun iv wr => ∃ k : Nat, k ≤ n ∧ iv = .int .i64 k ∧ Hid (cs.take k = bs.take k) ∧ Hid (Below W.heap.size W wr)) (fun iv _ => n - (intOf iv).toNat)
  case atStart => exact ⟨0, Nat.zero_le _, rfl, Lib.hid rfl, HBR⟩
  case round =>
    obtain ⟨k, hk, rfl, HK, HB⟩ := hrel
    clear c0 d0
    obtain ⟨c0, d0⟩ := HPX.out _ HB.out
    by_cases hlt : k < n
    · obtain ⟨b, o, aa, ac, rfl, hbB, hkl, _, _, _, hav, hc⟩ := H1.out.at hlt
      obtain ⟨b2, o2, aa2, ac2, rfl, hbC, hkm, _, _, _, hav2, hc2⟩ := H2.out.at hlt
      obtain ⟨x0, x1, x2, x3, x4, x5⟩ := six_cells (hc _ (HB.out.mono HBB.out))
      obtain ⟨y0, y1, y2, y3, y4, y5⟩ := six_cells (hc2 _ (HB.out.mono HCC.out))
      have HT := Lib.hid (take_one hkl); have HT2 := Lib.hid (take_one hkm)
      have HS := Lib.hid (same_ne (b := bs) hkl (by rw [← HN.out, HM.out]))
      obtain ⟨x, hx⟩ : ∃ x, x = cs[k]! := ⟨_, rfl⟩
      obtain ⟨y, hy⟩ : ∃ y, y = bs[k]! := ⟨_, rfl⟩
      rw [← hx] at x0 x1 x2 x3 x4 x5 HT hav HS
      rw [← hy] at y0 y1 y2 y3 y4 y5 HT2 hav2 HS
      have CC := rg (w := wr) (fun u hu => r4Same_any x.ev y.ev B C aa _ ac aa2 _ ac2 u (hav.below (HB.out.trans (hu.mono HB.out.size)) HBB.out) (hav2.below (HB.out.trans (hu.mono HB.out.size)) HCC.out) (Nat.le_trans HBB.out (Nat.le_trans HB.out.size hu.size)) (Nat.le_trans HCC.out (Nat.le_trans HB.out.size hu.size)))
      unfold evV at CC
      have e1 : IntKind.i64.wrap ((k : Int) + 1) = (k : Int) + 1 := IntWalk.i64_in _ (by omega)
      have hk0 : (0 : Int) ≤ (k : Int) := by omega
      have hkn' : (k : Int) < (n : Int) := by omega
      have hsb : sameB x y = ((x.var.toList == y.var.toList) && sameE x.ev y.ev) := rfl
      have C0 := cell_regrown c0; have D0 := cell_regrown d0
      have X0 := cell_regrown x0; have X1 := cell_regrown x1; have X2 := cell_regrown x2; have X3 := cell_regrown x3; have X4 := cell_regrown x4; have X5 := cell_regrown x5
      have Y0 := cell_regrown y0; have Y1 := cell_regrown y1; have Y2 := cell_regrown y2; have Y3 := cell_regrown y3; have Y4 := cell_regrown y4; have Y5 := cell_regrown y5
      clear hx hy hc hc2 hkl hkm hav hav2
      cases hv : (x.var.toList == y.var.toList) with
      | false =>
        have HR := Lib.hid (HS.out (by rw [hsb, hv]; rfl))
        have hv2 : (x.var.toList != y.var.toList) = true := by unfold bne; rw [hv]; rfl
        clear CC hsb C0 D0 X0 X1 X2 X3 X4 X5 Y0 Y1 Y2 Y3 Y4 Y5
        go_wp2_with fail
        go_quiet (fail)
        go_wp2
        go_ret
        exact ⟨ret_bool0 HR.out.symm, HB0.out.trans ((Below.drewN' HB.out _).mono HPS.out)⟩
      | true =>
        have hv2 : (x.var.toList != y.var.toList) = false := by unfold bne; rw [hv]; rfl
        cases hs : sameE x.ev y.ev with
        | true =>
          have HR := Lib.hid (sameB_iff.1 (by rw [hsb, hv, hs]; rfl : sameB x y = true))
          rw [hs] at CC
          clear hsb hs
          go_wp2_with fail
          clear c0 d0 x0 x1 x2 x3 x4 x5 y0 y1 y2 y3 y4 y5
          refine wp_region_quiet_below (by kernel_rfl) (by kernel_rfl) ?_
          repeat (quiet_step (first | (with_reducible exact CC _ _)))
          refine wpQuiet_nil ?_
          intro _ hw'
          obtain ⟨⟨dq, osq⟩, hw''⟩ := hw'
          subst hw''
          have HBQ := Lib.hid (HB.out.trans ((below_regrown wr dq osq).mono HB.out.size))
          go_wp2
          go_roundw
          case rel => exact ⟨k + 1, by omega, by go_num, Lib.hid (by rw [HT.out, HT2.out, HK.out, HR.out]), HBQ⟩
          case measure => simp [intOf]; omega
        | false =>
          have HR := Lib.hid (HS.out (by rw [hsb, hv, hs]; rfl))
          rw [hs] at CC
          clear hsb hs
          go_wp2_with fail
          clear c0 d0 x0 x1 x2 x3 x4 x5 y0 y1 y2 y3 y4 y5
          refine wp_region_quiet_below (by kernel_rfl) (by kernel_rfl) ?_
          repeat (quiet_step (first | (with_reducible exact CC _ _)))
          refine wpQuiet_nil ?_
          intro _ hw'
          obtain ⟨⟨dq, osq⟩, hw''⟩ := hw'
          subst hw''
          have HBQ := Lib.hid (HB.out.trans ((below_regrown wr dq osq).mono HB.out.size))
          go_wp2
          go_ret
          exact ⟨ret_bool0 HR.out.symm, HB0.out.trans (HBQ.out.mono HPS.out)⟩
    · have HE : Hid (decide (cs = bs) = true) := Lib.hid (same_all (by rw [← HN.out, HM.out]) (by have := HK.out; rwa [show k = cs.length by have := HN.out; omega] at this))
      go_wp2
      go_ret
      exact ⟨ret_bool0 HE.out.symm, HB0.out.trans (HB.out.mono HPS.out)⟩
end Go.Proofs.YtcnecokamckfaaaGreatDoor

/- told: are just these partial matches told? -/
namespace Go.Proofs.YtcnecokamckfaaaGreatDoor
open Go Go.RowKit Go.Shelf
attribute [local go_sem] Oper.semAt_some

theorem step_take {ws : List (List Bd)} {k : Nat} (h : k < ws.length) : ws.take (k + 1) = ws.take k ++ [ws[k]!] := by
  rw [List.take_succ_eq_append_getElem h, getElem!_pos ws k h]
theorem long_pre {xs ws : List (List Bd)} (h : ws.length < xs.length) : ¬ xs <+: ws := fun hp => by have := hp.length_le; omega

set_option maxRecDepth 100000 in
set_option maxHeartbeats 4000000 in
theorem told10_in (n : Nat) (hn : 9 ≤ n) (Z : Nat → Prop) (gf : Nat) (lb : Array Value) (n₀ : Nat) (es ls : List (List Bd)) (v : Value) (w : World) (eg : ∀ args w, (callFunc gf args).run Tryz.prog w = .ok (.enter gf args) w)
    (hA : ∀ W, Below w.heap.size w W → SeqStopsH Fence.wide (n - 1) Tryz.prog gf lb (fun x : List Bd × Value => #[.agg #[x.2]]) (HC (fun _ => True) n₀) (KpY Z n₀) (fun ys => ys.map Prod.fst = es) (fun pre => pre.map Prod.fst <+: es) es.length W) (hn0 : n₀ ≤ w.heap.size) (hW : LpV w w.heap.size v ls) :
    CallsIn Fence.wide n Tryz.prog 9 #[.func (.func gf) #[] lb, v] w fun e w' => e = .returned (.bool (decide (es = ls))) ∧ Below w.heap.size w w' := by
  refine callsIn_of_wp_marks Tryz.func9 rfl trivial ?_ rfl
  simp only [Tryz.ntmps9, List.size_toArray, List.length_cons, List.length_nil, Nat.reduceAdd, Nat.reduceSub, Array.replicate_succ, Array.replicate_zero, List.push_toArray, List.append_toArray, List.nil_append, List.cons_append]
  obtain ⟨ao2, cap2, rfl, _⟩ := hW.row
  have hmany := hW.len
  have HW := Lib.hid hW; have HA := Lib.hid hA
  clear hW hA
  gi_wp2
  obtain ⟨P, hP⟩ : ∃ P, P = w.heap.size := ⟨_, rfl⟩
  obtain ⟨W0, hW0⟩ : ∃ W0, W0 = ((w.alloc (.cells #[.slice ao2 ls.length cap2] 22)).alloc (.cells #[.bool false] 4)).alloc (.cells #[.int .i64 0] 3) := ⟨_, rfl⟩
  have hb0 : Below P w W0 := by rw [hW0, hP]; exact (((Below.refl _ _).alloc (Nat.le_refl _) _).alloc (by simp) _).alloc (by simp; omega) _
  have hs0 : W0.heap.size = P + 3 := by rw [hW0, hP]; simp
  have h0 : W0.heap[P]? = some (.cells #[.slice ao2 ls.length cap2] 22 (0, 0)) := by rw [hW0, hP]; exact heap_alloc_keeps (heap_alloc_keeps (heap_alloc_new w _) _) _
  have h1 : W0.heap[P + 1]? = some (.cells #[.bool false] 4 (0, 0)) := by rw [hW0, hP]; exact heap_alloc_keeps (heap_alloc_at (by simp) rfl) _
  have h2 : W0.heap[P + 1 + 1]? = some (.cells #[.int .i64 0] 3 (0, 0)) := by rw [hW0, hP]; exact heap_alloc_at (by simp) rfl
  have hPw : P ≤ w.heap.size := by omega
  rw [← hW0, ← hP]
  rw [← hP] at hn0
  have HP := Lib.hid hP
  have hA0 := HA.out W0 (by rw [← hP]; exact hb0)
  have HWW : Hid (∀ W, Below P w W → LpV W P (.slice ao2 ls.length cap2) ls) := fun W hb => by rw [hP] at hb ⊢; exact HW.out.below hb
  clear hW0 hP HW HA
  have hfar : ∀ {A B : World} {row : Option Nat} {k : Nat} {cs : Array Value} {t : Nat}, k < P + 3 → A.heap[k]? = some (.cells cs t (0, 0)) → A.grownBy B row → (∀ r, row = some r → W0.heap.size ≤ r ∧ ∃ o : Obj, A.heap[r]? = some o ∧ o.isCells = false) → B.heap[k]? = some (.cells cs t (0, 0)) := fun {A B row k cs t} hk h hg hr =>
    (hg.block k (Array.getElem?_eq_some_iff.1 h).1 (fun e => by have := (hr _ e.symm).1; omega)).trans h
  refine wpIn_rangeFunc_HB 6 rfl (by omega) (gf := gf) (lb := lb) rfl trivial eg
    hA0 kpY_t (fun W l o o' hl h ho _ => kpY_b o' (by omega) h ho) (Below.refl _ _) (fun _ => rfl)
    (fun (pre : List (List Bd × Value)) (W : World) => ((pre.map Prod.fst = ls.take pre.length ∧ pre.length ≤ ls.length) ∧ (W.heap[P]? = some (.cells #[.slice ao2 ls.length cap2] 22 (0, 0)) ∧ W.heap[P + 1]? = some (.cells #[.bool false] 4 (0, 0)) ∧ W.heap[P + 1 + 1]? = some (.cells #[.int .i64 (pre.length : Int)] 3 (0, 0)))) ∧ Below P w W)
    (fun (c : Code) (pre : List (List Bd × Value)) (W : World) => (c = .ret ∧ ¬ pre.map Prod.fst <+: ls) ∧ W.heap[P + 1]? = some (.cells #[.bool false] 4 (0, 0)) ∧ Below P w W)
    ?ownI ?ownX ⟨⟨⟨rfl, Nat.zero_le _⟩, h0, h1, h2⟩, hb0⟩
    (fun (x : List Bd × Value) (Bx : Nat) (W : World) => ∃ va vk, P + 3 ≤ Bx ∧ x.2 = .slice va x.1.length vk ∧ W.heap[Bx]? = some (.cells #[.slice va x.1.length vk] 38 (0, 0)) ∧ HC (fun _ => True) n₀ x W)
    ?ownA ?assign ?body ?done ?stop
  case ownI => exact OwnFrom.and (fun s A B row hs hg hr => ⟨hs.1, hfar (by omega) hs.2.1 hg hr, hfar (by omega) hs.2.2.1 hg hr, hfar (by omega) hs.2.2.2 hg hr⟩) (ownFrom_below hPw (by omega))
  case ownX => exact fun c => OwnFrom.and (ownFrom_pure _ _) (OwnFrom.and (fun s A B row hs hg hr => hfar (by omega) hs hg hr) (ownFrom_below hPw (by omega)))
  case ownA =>
    rintro x Bx _ A B row ⟨va, vk, g1, g2, g3, g4⟩ hg hr
    have hno : ∀ (k : Nat) (cs : Array Value) (t : Nat) (fr : Nat × Nat), A.heap[k]? = some (.cells cs t fr) → B.heap[k]? = some (.cells cs t fr) := fun k cs t fr hk =>
      (hg.block k (Array.getElem?_eq_some_iff.1 hk).1 (fun e => by obtain ⟨_, o, ho, hc⟩ := hr k e.symm; rw [hk] at ho; cases ho; cases hc)).trans hk
    exact ⟨va, vk, g1, g2, hno _ _ _ _ g3, g4.1.stays fun k cs t fr _ hk => hno k cs t fr hk, g4.2⟩
  case assign =>
    rintro l' pre ⟨x, v⟩ W K hi hc hK
    obtain ⟨va, vk, hv⟩ := hc.1.shape
    simp only at hv
    subst hv
    have hlt : P + 3 ≤ W.heap.size := by have := (Array.getElem?_eq_some_iff.1 hi.1.2.2.2).1; omega
    have hK := Lib.hid hK
    gi_wp2
    have hb : Below W.heap.size W (W.alloc (.cells #[.slice va x.length vk] 38)) := (Below.refl _ _).alloc (Nat.le_refl _) _
    have hk := hK.out W.heap.size _ ((KeepsOthers.alloc _ _).from _) ⟨.of (hb.mono (by omega)), fun k cs fr hk => (hb.block k (Array.getElem?_eq_some_iff.1 hk).1).trans hk⟩ ⟨⟨hi.1.1, heap_alloc_keeps hi.1.2.1 _, heap_alloc_keeps hi.1.2.2.1 _, heap_alloc_keeps hi.1.2.2.2 _⟩, hi.2.alloc (by omega) _⟩ ⟨va, vk, hlt, rfl, heap_alloc_new _ _, hc.1.call hb, hc.2⟩
    clear hK
    simpa [boxAct] using hk
  case body =>
    rintro l' pre ⟨x, v⟩ Bx W hl' hr ⟨⟨⟨hp1, hp2⟩, hh0, hh1, hh2⟩, hb⟩ ⟨va, vk, hBx, hv, hx, hC⟩ hlen
    simp only at hv hx
    subst hv
    unfold boxAct
    have hst1 : ((pre ++ [(x, Value.slice va x.length vk)]).map Prod.fst) = pre.map Prod.fst ++ [x] := by simp
    have c0 := cells_one0 hx
    have p0 := cells_one0 hh0; have p1 := cells_one0 hh1; have p2 := cells_one0 hh2
    have f1 := free1 hh1; have f2 := free1 hh2
    have hmo : Tryz.prog.follows .mixedOrders = true := by kernel_rfl
    have hF1 : Fence.wide.fn 23 := trivial
    have hn1 : 1 ≤ n - 1 - 1 := by omega
    have hP2 : P + 1 + 1 < W.heap.size := (Array.getElem?_eq_some_iff.1 hh2).1
    have hwr : IntKind.i64.wrap ((pre.length : Int) + 1) = (pre.length : Int) + 1 := IntWalk.i64_in _ (by omega)
    by_cases hlt : pre.length < ls.length
    · have hev := HWW.out W hb
      obtain ⟨ao', cap', he, _, _, hrow⟩ := hev.row
      simp only [Value.slice.injEq] at he
      obtain ⟨rfl, -, rfl⟩ := he
      obtain ⟨b, o, rfl, hbB, hcl⟩ := hrow (by omega)
      obtain ⟨a2, n2, k2, e0, hav2⟩ := hcl _ hlt
      have hav1 : BsV W W.heap.size (.slice va x.length vk) x := hC.1.bsv
      have hge : decide (ls.length ≤ pre.length) = false := by simp; omega
      have C := r10Same_any W.heap.size P va x.length vk a2 n2 k2 x ls[pre.length]!
      have C := fun d os => CallsIn.regrown_of (CallsIn.inRound l' (callsIn_wide (n := n - 1 - 1 - 1).2 (C (Sort.grow (redrawn W d) os) (hav1.below (below_regrown W d os) (Nat.le_refl _)) (hav2.below (below_regrown W d os) (by omega)) (below_regrown W d os).size (by have := (below_regrown W d os).size; omega))))
      have HTS := Lib.hid (step_take hlt)
      have hEQ : Hid (decide (x = ls[pre.length]!) = true → x = ls[pre.length]!) := fun h => of_decide_eq_true h
      have hNE : Hid (decide (x = ls[pre.length]!) = false → x ≠ ls[pre.length]!) := fun h => of_decide_eq_false h
      generalize decide (x = ls[pre.length]!) = bb at C hEQ hNE
      generalize ls[pre.length]! = y at C hEQ hNE HTS
      have HC := Lib.hid C
      have g0 := cell_regrown c0
      have i0 := cell_regrown e0
      have q0 := cell_regrown p0; have q2 := cell_regrown p2
      clear C hcl hav1 hav2 hev c0 e0 hfar hrow
      gi_wp2
      refine wpIn_region_quiet_round rfl hmo (by kernel_rfl) (by kernel_rfl) ?_
      repeat (quiet_step_in (first | exact ⟨hn1, HC.out _ _⟩ | exact HC.out _ _))
      refine wpQuietIn_nil ?_
      rintro _ ⟨⟨dq, osq⟩, rfl⟩
      have hB3 : Below W.heap.size W (Sort.grow (redrawn W dq) osq) := below_regrown W dq osq
      generalize Sort.grow (redrawn W dq) osq = W3 at hB3 ⊢
      have hh0' := (hB3.block P (by omega)).trans hh0; have hh1' := (hB3.block (P + 1) (by omega)).trans hh1; have hh2' := (hB3.block (P + 1 + 1) hP2).trans hh2
      have p0 := cells_one0 hh0'; have p1 := cells_one0 hh1'; have p2 := cells_one0 hh2'
      have f1 := free1 hh1'; have f2 := free1 hh2'
      have hPW : P ≤ W.heap.size := by omega
      have HB3 := Lib.hid hB3; have HH0 := Lib.hid hh0'; have HH1 := Lib.hid hh1'; have HH2 := Lib.hid hh2'
      have hkf : KeepsFrom (P + 3) W W3 := ⟨hB3.size, fun k o _ hk _ => (hB3.block k (Array.getElem?_eq_some_iff.1 hk).1).trans hk⟩
      clear hB3 hh0' hh1' hh2' i0 g0 q0 q2
      cases bb with
      | true =>
        have HXY := Lib.hid (hEQ.out rfl)
        gi_wp2
        have hcast : ((pre.length : Int) + 1) = ((pre ++ [(x, Value.slice va x.length vk)]).length : Int) := by simp
        refine ⟨hkf.trans ((KeepsOthers.setCell _ _ _).from _), ⟨.of ((HB3.out.mono (by omega)).setCell (p := ⟨P + 1 + 1, 0, none⟩) (by simp; omega) _), fun k cs fr hk => ?_⟩, ⟨⟨?_, ?_⟩, ?_, ?_, ?_⟩, (hb.trans (HB3.out.mono hPW)).setCell (p := ⟨P + 1 + 1, 0, none⟩) (by simp; omega) _⟩
        · have hk3 := (HB3.out.block k (Array.getElem?_eq_some_iff.1 hk).1).trans hk
          have hne : k ≠ P + 1 + 1 := by rintro rfl; rw [HH2.out] at hk3; simp at hk3
          rw [Below.heap_setCell _ _ _ _ hne]; exact hk3
        · rw [hst1, hp1, List.length_append, List.length_singleton, HTS.out, HXY.out]
        · simp; omega
        · rw [Below.heap_setCell _ _ _ _ (by show P ≠ P + 1 + 1; omega)]; exact HH0.out
        · rw [Below.heap_setCell _ _ _ _ (by show P + 1 ≠ P + 1 + 1; omega)]; exact HH1.out
        · rw [← hcast]; exact set1 HH2.out _
      | false =>
        have HXY := Lib.hid (hNE.out rfl)
        gi_wp2
        refine ⟨hkf.trans ((KeepsOthers.setCell _ _ _).from _), ⟨rfl, ?_⟩, set1 HH1.out _, (hb.trans (HB3.out.mono hPW)).setCell (p := ⟨P + 1, 0, none⟩) (by simp) _⟩
        rw [hst1]; intro hp
        obtain ⟨r, hr⟩ := hp
        have h1 := congrArg (List.take (pre.length + 1)) hr
        rw [HTS.out, ← hp1, List.take_append_of_le_length (by simp), List.take_of_length_le (by simp)] at h1
        exact HXY.out (by simpa using h1)
    · have hge : decide (ls.length ≤ pre.length) = true := by simp; omega
      have q0 := cell_regrown p0; have q2 := cell_regrown p2
      clear c0 hfar
      gi_wp2
      refine wpIn_region_quiet_round rfl hmo (by kernel_rfl) (by kernel_rfl) ?_
      repeat (quiet_step_in (fail))
      refine wpQuietIn_nil ?_
      rintro _ ⟨⟨dq, osq⟩, rfl⟩
      have hB3 : Below W.heap.size W (Sort.grow (redrawn W dq) osq) := below_regrown W dq osq
      generalize Sort.grow (redrawn W dq) osq = W3 at hB3 ⊢
      have hh1' := (hB3.block (P + 1) (by omega)).trans hh1
      have p1 := cells_one0 hh1'; have f1 := free1 hh1'
      have hkf : KeepsFrom (P + 3) W W3 := ⟨hB3.size, fun k o _ hk _ => (hB3.block k (Array.getElem?_eq_some_iff.1 hk).1).trans hk⟩
      have HB3 := Lib.hid hB3; have HH1 := Lib.hid hh1'
      have hPW : P ≤ W.heap.size := by omega
      clear hB3 hh1' q0 q2
      gi_wp2
      exact ⟨by rw [hs0]; exact hkf.trans ((KeepsOthers.setCell _ _ _).from _), ⟨rfl, long_pre (by simp; omega)⟩, set1 HH1.out _, (hb.trans (HB3.out.mono hPW)).setCell (p := ⟨P + 1, 0, none⟩) (by simp) _⟩
  case done =>
    rintro D xs W hD hS ⟨⟨⟨hp1, hp2⟩, hh0, hh1, hh2⟩, hb⟩ hK
    have p0 := cells_one0 hh0; have p1 := cells_one0 hh1; have p2 := cells_one0 hh2
    have f1 := free1 hh1
    have hw := set1 hh1 (.bool (decide (es = ls)))
    have hkd : (W.setCell ⟨P + 1, 0, none⟩ (.bool (decide (es = ls)))).heap[D]? = some (.deferred (some [])) := by
      rw [Below.heap_setCell _ _ _ _ (by simp; omega)]; exact hK
    have hres : ((xs.length : Int) == (ls.length : Int)) = decide (es = ls) := by
      rw [← hS, hp1, Bool.eq_iff_iff]
      simp only [beq_iff_eq, decide_eq_true_eq]
      constructor
      · intro h; rw [List.take_of_length_le (by omega)]
      · intro h; have := congrArg List.length h; rw [List.length_take] at this; omega
    gi_wp2
    refine ⟨by simp, .inl ⟨_, _, rfl, run_takeDeferred hkd, ?_⟩⟩
    have hc := cells_one0 ((World.putObj_heap_other (w := W.setCell ⟨P + 1, 0, none⟩ (.bool (decide (es = ls)))) (o := .deferred none) (show P + 1 ≠ D by omega)).trans hw)
    refine ⟨.bool (decide (es = ls)), by simp [results, Tryz.results9, go_sem, hc], rfl, ?_⟩
    rw [← HP.out]
    have hf := hb.setCell (p := ⟨P + 1, 0, none⟩) (by simp) (.bool (decide (es = ls)))
    exact hf.grown (grownBy_putObj' _ D _) (by have := hf.size; omega) (fun k e => by cases e; omega)
  case stop =>
    rintro D c pre W hD hSp ⟨⟨rfl, hne⟩, hh1, hb⟩ hK
    gi_wp2
    refine ⟨by simp, .inl ⟨_, _, rfl, run_takeDeferred hK, ?_⟩⟩
    have hc := cells_one0 ((World.putObj_heap_other (w := W) (o := .deferred none) (show P + 1 ≠ D by omega)).trans hh1)
    have hres : decide (es = ls) = false := by simp only [decide_eq_false_iff_not]; rintro rfl; exact hne hSp
    refine ⟨.bool false, by simp [results, Tryz.results9, go_sem, hc], by rw [hres], ?_⟩
    rw [← HP.out]
    exact hb.grown (grownBy_putObj' _ D _) (by have := hb.size; omega) (fun k e => by cases e; omega)

theorem told10_any (Z : Nat → Prop) (n₀ Bc : Nat) (zs : List Pe) (v : Value) (ls : List (List Bd)) (w : World) (hA : PAllAt Z w n₀ Bc zs) (hW : LpV w w.heap.size v ls) :
    Calls Tryz.prog 9 #[.func (.func 57) #[] #[.pointer (some ⟨Bc, 0, none⟩)], v] w fun e w' => e = .returned (.bool (decide (zs.map Pe.l = ls))) ∧ Below w.heap.size w w' := by
  have hn0 : n₀ ≤ w.heap.size := by obtain ⟨_, _, _, _, _, _, h, _⟩ := hA; exact h
  refine (callsIn_wide (n := 9)).1 (told10_in 9 (by decide) Z 57 #[.pointer (some ⟨Bc, 0, none⟩)] n₀ (zs.map Pe.l) ls v w (enters_of Tryz.func57 (by kernel_rfl) rfl) (fun W hb => ?_) hn0 hW)
  have := (hA.below hb).stops (fun _ => True) (fun _ _ => trivial) 8 (by decide)
  rwa [List.length_map]
end Go.Proofs.YtcnecokamckfaaaGreatDoor
