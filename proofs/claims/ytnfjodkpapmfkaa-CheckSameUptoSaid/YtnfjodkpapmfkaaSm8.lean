/- Whether two trees are the same, as the document tells it. -/
import Derived.Test.YtnfjodkpapmfkaaEq7
import Derived.Test.YtnfjodkpapmfkaaRt7
import Derived.Test.YtnfjodkpapmfkaaTr7
import Derived.Deep.RegionHeld3
namespace Go.Proofs.Ytnfjodkpapmfkaa
open Go Go.RowKit Go.Lib

theorem and_no8 {a b : Prop} [Decidable a] [Decidable b] (h : ¬ (a ∧ b)) : (decide a && decide b) = false := by
  by_cases ha : a <;> by_cases hb : b <;> simp_all
theorem and_yes8 {a b : Prop} [Decidable a] [Decidable b] (h : a ∧ b) : (decide a && decide b) = true := by simp [h.1, h.2]
theorem drewN_add8 (w : World) (q n : Nat) : (w.drewN q).drewN n = w.drewN (q + n) := by
  unfold World.drewN; simp [Nat.add_assoc]
set_option maxRecDepth 100000 in
set_option maxHeartbeats 2000000 in
theorem r7SameConds_any (a b : List Cnd) (va vb : Value) (G : Nat → Prop) (w : World) (ha : CdV w G va a) (hb : CdV w G vb b) (hn : a.length ≤ 1048576) :
    Calls Try.prog 60 #[va, vb] w fun e w' => e = .returned (.bool (decide (a = b))) ∧ ∃ q, w' = w.drewN q := by
  obtain ⟨aa, ca, rfl, h1⟩ := ha
  obtain ⟨ab, cb, rfl, h2⟩ := hb
  by_cases hl : a.length = b.length
  · have H1 := Lib.hid h1; have H2 := Lib.hid h2; have HN := Lib.hid hn; have HL := Lib.hid hl
    have hne : ∀ (x y : Cnd) (w : World), Sem.run Try.prog (binOp .neq 37 (.agg #[.string x.left.var, .string x.left.attr, .int .i64 x.left.vk, .int .i64 x.left.vn, .string x.left.vs, .int .i64 x.rel, .string x.right.var, .string x.right.attr, .int .i64 x.right.vk, .int .i64 x.right.vn, .string x.right.vs]) (.agg #[.string y.left.var, .string y.left.attr, .int .i64 y.left.vk, .int .i64 y.left.vn, .string y.left.vs, .int .i64 y.rel, .string y.right.var, .string y.right.attr, .int .i64 y.right.vk, .int .i64 y.right.vn, .string y.right.vs])) w = .ok (.bool (!cEq x y)) w := cNe.1
    have hgd : ∀ (op : BinOp) (o1 o2 : Operand) (x y : Cnd) (w : World), Sem.run Try.prog (eqGuard op 37 o1 o2 (.agg #[.string x.left.var, .string x.left.attr, .int .i64 x.left.vk, .int .i64 x.left.vn, .string x.left.vs, .int .i64 x.rel, .string x.right.var, .string x.right.attr, .int .i64 x.right.vk, .int .i64 x.right.vn, .string x.right.vs]) (.agg #[.string y.left.var, .string y.left.attr, .int .i64 y.left.vk, .int .i64 y.left.vn, .string y.left.vs, .int .i64 y.rel, .string y.right.var, .string y.right.attr, .int .i64 y.right.vk, .int .i64 y.right.vn, .string y.right.vs])) w = .ok () w := cNe.2
    have HNE := Lib.hid hne; have HGD := Lib.hid hgd
    rw [← hl]
    clear h1 h2 hn hl hne hgd
    go_enter Try.func60, Try.ntmps60
    go_wp2_with fail
    go_loopw [5] (fun iv wr => ∃ k : Nat, k ≤ a.length ∧ iv = .int .i64 k ∧ Hid (∀ j (h : j < a.length) (h2 : j < b.length), j < k → a[j] = b[j]) ∧ Hid (∃ q, wr = w.drewN q)) (fun iv _ => a.length - (intOf iv).toNat)
    case atStart => exact ⟨0, Nat.zero_le _, rfl, fun j _ _ hj => absurd hj (Nat.not_lt_zero _), Lib.hid ⟨0, rfl⟩⟩
    case round =>
      obtain ⟨k, hk, rfl, HK, HQ⟩ := hrel
      by_cases hlt : k < a.length
      · have hlt2 : k < b.length := by have := HL.out; omega
        obtain ⟨b1, o1, rfl, _, hc1⟩ := H1.out (fun h => by rw [h] at hlt; exact absurd hlt (Nat.not_lt_zero _))
        obtain ⟨b2, o2, rfl, _, hc2⟩ := H2.out (fun h => by rw [h] at hlt2; exact absurd hlt2 (Nat.not_lt_zero _))
        obtain ⟨x0, x1, x2, x3, x4, x5, x6, x7, x8, x9, x10⟩ := hc1.cells hlt
        obtain ⟨y0, y1, y2, y3, y4, y5, y6, y7, y8, y9, y10⟩ := hc2.cells hlt2
        have HA := Lib.hid (show ∀ (c1 c2 : Cnd), c1 = a[k] → c2 = b[k] → (c1 = c2 → ∀ j (h : j < a.length) (h2 : j < b.length), j < k + 1 → a[j] = b[j]) ∧ (c1 ≠ c2 → a ≠ b) from by
          rintro c1 c2 rfl rfl
          refine ⟨fun e j h h2 hj => ?_, fun hne e => ?_⟩
          · rcases Nat.lt_succ_iff_lt_or_eq.1 hj with hj | rfl
            · exact HK.out j h h2 hj
            · exact e
          · subst e; exact hne rfl)
        obtain ⟨c1, hc1e⟩ : ∃ c1, c1 = a[k] := ⟨_, rfl⟩
        obtain ⟨c2, hc2e⟩ : ∃ c2, c2 = b[k] := ⟨_, rfl⟩
        rw [← hc1e] at x0 x1 x2 x3 x4 x5 x6 x7 x8 x9 x10
        rw [← hc2e] at y0 y1 y2 y3 y4 y5 y6 y7 y8 y9 y10
        have HAA := Lib.hid (HA.out c1 c2 hc1e hc2e)
        have e1 := HNE.out c1 c2; have e2 := fun op p q => HGD.out op p q c1 c2
        have hkz : (0 : Int) ≤ (k : Int) := by omega
        have hlti : (k : Int) < (a.length : Int) := by omega
        have hls := wr7 hlt (by have := HN.out; omega)
        obtain ⟨q, rfl⟩ := HQ.out
        have HLT := Lib.hid hlt
        clear HA hc1e hc2e hc1 hc2 hlt2 hk hlt H1 H2 HQ
        have x0 : (w.drewN q).cell? _ = _ := x0; have x1 : (w.drewN q).cell? _ = _ := x1; have x2 : (w.drewN q).cell? _ = _ := x2; have x3 : (w.drewN q).cell? _ = _ := x3; have x4 : (w.drewN q).cell? _ = _ := x4; have x5 : (w.drewN q).cell? _ = _ := x5; have x6 : (w.drewN q).cell? _ = _ := x6; have x7 : (w.drewN q).cell? _ = _ := x7; have x8 : (w.drewN q).cell? _ = _ := x8; have x9 : (w.drewN q).cell? _ = _ := x9; have x10 : (w.drewN q).cell? _ = _ := x10
        have y0 : (w.drewN q).cell? _ = _ := y0; have y1 : (w.drewN q).cell? _ = _ := y1; have y2 : (w.drewN q).cell? _ = _ := y2; have y3 : (w.drewN q).cell? _ = _ := y3; have y4 : (w.drewN q).cell? _ = _ := y4; have y5 : (w.drewN q).cell? _ = _ := y5; have y6 : (w.drewN q).cell? _ = _ := y6; have y7 : (w.drewN q).cell? _ = _ := y7; have y8 : (w.drewN q).cell? _ = _ := y8; have y9 : (w.drewN q).cell? _ = _ := y9; have y10 : (w.drewN q).cell? _ = _ := y10
        have HDR := Lib.hid (fun n : Nat => (⟨q + n, drewN_add8 w q n⟩ : ∃ m, (w.drewN q).drewN n = w.drewN m))
        generalize hW : w.drewN q = W at *
        cases hq : cEq c1 c2 with
        | true =>
          have HE := Lib.hid (HAA.out.1 (cEq_iff.1 hq))
          rw [hq] at e1
          clear hq HAA hW
          go_wp2_with fail
          try go_quiet (fail)
          go_wp2
          go_roundw
          all_goals first
            | exact ⟨k + 1, HLT.out, by go_num, HE, Lib.hid (HDR.out _)⟩
            | exact ⟨k + 1, HLT.out, by go_num, HE, Lib.hid (HDR.out 0)⟩
            | exact meas7 HLT.out
            | (rw [hls]; exact meas7 HLT.out)
        | false =>
          have HE := Lib.hid (HAA.out.2 (fun h => by rw [cEq_iff.2 h] at hq; cases hq))
          rw [hq] at e1
          clear hq HAA hW
          go_wp2_with fail
          try go_quiet (fail)
          go_wp2
          go_ret
          exact ⟨show Ending.returned (Value.bool false) = _ from by rw [decide_eq_false HE.out], by first | exact HDR.out _ | exact HDR.out 0⟩
      · have HE := Lib.hid (show a = b from List.ext_getElem HL.out (fun j h h2 => HK.out j h h2 (by omega)))
        obtain rfl : k = a.length := by omega
        have hnl : ¬ ((a.length : Int) < (a.length : Int)) := by omega
        clear hlt hk
        go_wp2
        go_ret
        exact ⟨show Ending.returned (Value.bool true) = _ from by rw [decide_eq_true HE.out], HQ.out⟩
  · rw [decide_eq_false (fun h => hl (by rw [h]))]
    have h3 : ¬ (a.length : Int) = (b.length : Int) := by omega
    have h4 : ((a.length : Int) == (b.length : Int)) = false := beq_eq_false_iff_ne.2 h3
    clear h1 h2 hl
    go_enter Try.func60, Try.ntmps60
    go_wp2
    go_ret
    exact ⟨rfl, 0, rfl⟩
set_option maxRecDepth 100000 in
set_option maxHeartbeats 2000000 in
theorem r6sameConds_any (a b : List Cnd) (va vb : Value) (G : Nat → Prop) (w : World) (ha : CdV w G va a) (hb : CdV w G vb b) (hn : a.length ≤ 1048576) :
    Calls Try.prog 83 #[va, vb] w fun e w' => e = .returned (.bool (decide (a = b))) ∧ ∃ q, w' = w.drewN q := by
  obtain ⟨aa, ca, rfl, h1⟩ := ha
  obtain ⟨ab, cb, rfl, h2⟩ := hb
  by_cases hl : a.length = b.length
  · have H1 := Lib.hid h1; have H2 := Lib.hid h2; have HN := Lib.hid hn; have HL := Lib.hid hl
    have hne : ∀ (x y : Cnd) (w : World), Sem.run Try.prog (binOp .neq 37 (.agg #[.string x.left.var, .string x.left.attr, .int .i64 x.left.vk, .int .i64 x.left.vn, .string x.left.vs, .int .i64 x.rel, .string x.right.var, .string x.right.attr, .int .i64 x.right.vk, .int .i64 x.right.vn, .string x.right.vs]) (.agg #[.string y.left.var, .string y.left.attr, .int .i64 y.left.vk, .int .i64 y.left.vn, .string y.left.vs, .int .i64 y.rel, .string y.right.var, .string y.right.attr, .int .i64 y.right.vk, .int .i64 y.right.vn, .string y.right.vs])) w = .ok (.bool (!cEq x y)) w := cNe.1
    have hgd : ∀ (op : BinOp) (o1 o2 : Operand) (x y : Cnd) (w : World), Sem.run Try.prog (eqGuard op 37 o1 o2 (.agg #[.string x.left.var, .string x.left.attr, .int .i64 x.left.vk, .int .i64 x.left.vn, .string x.left.vs, .int .i64 x.rel, .string x.right.var, .string x.right.attr, .int .i64 x.right.vk, .int .i64 x.right.vn, .string x.right.vs]) (.agg #[.string y.left.var, .string y.left.attr, .int .i64 y.left.vk, .int .i64 y.left.vn, .string y.left.vs, .int .i64 y.rel, .string y.right.var, .string y.right.attr, .int .i64 y.right.vk, .int .i64 y.right.vn, .string y.right.vs])) w = .ok () w := cNe.2
    have HNE := Lib.hid hne; have HGD := Lib.hid hgd
    rw [← hl]
    clear h1 h2 hn hl hne hgd
    go_enter Try.func83, Try.ntmps83
    go_wp2_with fail
    go_loopw [5] (fun iv wr => ∃ k : Nat, k ≤ a.length ∧ iv = .int .i64 k ∧ Hid (∀ j (h : j < a.length) (h2 : j < b.length), j < k → a[j] = b[j]) ∧ Hid (∃ q, wr = w.drewN q)) (fun iv _ => a.length - (intOf iv).toNat)
    case atStart => exact ⟨0, Nat.zero_le _, rfl, fun j _ _ hj => absurd hj (Nat.not_lt_zero _), Lib.hid ⟨0, rfl⟩⟩
    case round =>
      obtain ⟨k, hk, rfl, HK, HQ⟩ := hrel
      by_cases hlt : k < a.length
      · have hlt2 : k < b.length := by have := HL.out; omega
        obtain ⟨b1, o1, rfl, _, hc1⟩ := H1.out (fun h => by rw [h] at hlt; exact absurd hlt (Nat.not_lt_zero _))
        obtain ⟨b2, o2, rfl, _, hc2⟩ := H2.out (fun h => by rw [h] at hlt2; exact absurd hlt2 (Nat.not_lt_zero _))
        obtain ⟨x0, x1, x2, x3, x4, x5, x6, x7, x8, x9, x10⟩ := hc1.cells hlt
        obtain ⟨y0, y1, y2, y3, y4, y5, y6, y7, y8, y9, y10⟩ := hc2.cells hlt2
        have HA := Lib.hid (show ∀ (c1 c2 : Cnd), c1 = a[k] → c2 = b[k] → (c1 = c2 → ∀ j (h : j < a.length) (h2 : j < b.length), j < k + 1 → a[j] = b[j]) ∧ (c1 ≠ c2 → a ≠ b) from by
          rintro c1 c2 rfl rfl
          refine ⟨fun e j h h2 hj => ?_, fun hne e => ?_⟩
          · rcases Nat.lt_succ_iff_lt_or_eq.1 hj with hj | rfl
            · exact HK.out j h h2 hj
            · exact e
          · subst e; exact hne rfl)
        obtain ⟨c1, hc1e⟩ : ∃ c1, c1 = a[k] := ⟨_, rfl⟩
        obtain ⟨c2, hc2e⟩ : ∃ c2, c2 = b[k] := ⟨_, rfl⟩
        rw [← hc1e] at x0 x1 x2 x3 x4 x5 x6 x7 x8 x9 x10
        rw [← hc2e] at y0 y1 y2 y3 y4 y5 y6 y7 y8 y9 y10
        have HAA := Lib.hid (HA.out c1 c2 hc1e hc2e)
        have e1 := HNE.out c1 c2; have e2 := fun op p q => HGD.out op p q c1 c2
        have hkz : (0 : Int) ≤ (k : Int) := by omega
        have hlti : (k : Int) < (a.length : Int) := by omega
        have hls := wr7 hlt (by have := HN.out; omega)
        obtain ⟨q, rfl⟩ := HQ.out
        have HLT := Lib.hid hlt
        clear HA hc1e hc2e hc1 hc2 hlt2 hk hlt H1 H2 HQ
        have x0 : (w.drewN q).cell? _ = _ := x0; have x1 : (w.drewN q).cell? _ = _ := x1; have x2 : (w.drewN q).cell? _ = _ := x2; have x3 : (w.drewN q).cell? _ = _ := x3; have x4 : (w.drewN q).cell? _ = _ := x4; have x5 : (w.drewN q).cell? _ = _ := x5; have x6 : (w.drewN q).cell? _ = _ := x6; have x7 : (w.drewN q).cell? _ = _ := x7; have x8 : (w.drewN q).cell? _ = _ := x8; have x9 : (w.drewN q).cell? _ = _ := x9; have x10 : (w.drewN q).cell? _ = _ := x10
        have y0 : (w.drewN q).cell? _ = _ := y0; have y1 : (w.drewN q).cell? _ = _ := y1; have y2 : (w.drewN q).cell? _ = _ := y2; have y3 : (w.drewN q).cell? _ = _ := y3; have y4 : (w.drewN q).cell? _ = _ := y4; have y5 : (w.drewN q).cell? _ = _ := y5; have y6 : (w.drewN q).cell? _ = _ := y6; have y7 : (w.drewN q).cell? _ = _ := y7; have y8 : (w.drewN q).cell? _ = _ := y8; have y9 : (w.drewN q).cell? _ = _ := y9; have y10 : (w.drewN q).cell? _ = _ := y10
        have HDR := Lib.hid (fun n : Nat => (⟨q + n, drewN_add8 w q n⟩ : ∃ m, (w.drewN q).drewN n = w.drewN m))
        generalize hW : w.drewN q = W at *
        cases hq : cEq c1 c2 with
        | true =>
          have HE := Lib.hid (HAA.out.1 (cEq_iff.1 hq))
          rw [hq] at e1
          clear hq HAA hW
          go_wp2_with fail
          try go_quiet (fail)
          go_wp2
          go_roundw
          all_goals first
            | exact ⟨k + 1, HLT.out, by go_num, HE, Lib.hid (HDR.out _)⟩
            | exact ⟨k + 1, HLT.out, by go_num, HE, Lib.hid (HDR.out 0)⟩
            | exact meas7 HLT.out
            | (rw [hls]; exact meas7 HLT.out)
        | false =>
          have HE := Lib.hid (HAA.out.2 (fun h => by rw [cEq_iff.2 h] at hq; cases hq))
          rw [hq] at e1
          clear hq HAA hW
          go_wp2_with fail
          try go_quiet (fail)
          go_wp2
          go_ret
          exact ⟨show Ending.returned (Value.bool false) = _ from by rw [decide_eq_false HE.out], by first | exact HDR.out _ | exact HDR.out 0⟩
      · have HE := Lib.hid (show a = b from List.ext_getElem HL.out (fun j h h2 => HK.out j h h2 (by omega)))
        obtain rfl : k = a.length := by omega
        have hnl : ¬ ((a.length : Int) < (a.length : Int)) := by omega
        clear hlt hk
        go_wp2
        go_ret
        exact ⟨show Ending.returned (Value.bool true) = _ from by rw [decide_eq_true HE.out], HQ.out⟩
  · rw [decide_eq_false (fun h => hl (by rw [h]))]
    have h3 : ¬ (a.length : Int) = (b.length : Int) := by omega
    have h4 : ((a.length : Int) == (b.length : Int)) = false := beq_eq_false_iff_ne.2 h3
    clear h1 h2 hl
    go_enter Try.func83, Try.ntmps83
    go_wp2
    go_ret
    exact ⟨rfl, 0, rfl⟩
set_option maxRecDepth 100000 in
set_option maxHeartbeats 4000000 in
theorem r7SameNode_any (d : Nt) (k : Fo) : ∀ (d' : Nt) (k' : Fo) (w : World) (v v' : Value), NdV w (fun x => x < w.heap.size) d k v → NdV w (fun x => x < w.heap.size) d' k' v' → szD d + szF k ≤ 1048576 → Calls Try.prog 59 #[v, v'] w fun e w' => e = .returned (.bool (decide (d = d') && decide (k = k'))) ∧ Below w.heap.size w w' := by
  revert d k
  refine Fo.node_ind (p := fun d k => ∀ (d' : Nt) (k' : Fo) (w : World) (v v' : Value), NdV w (fun x => x < w.heap.size) d k v → NdV w (fun x => x < w.heap.size) d' k' v' → szD d + szF k ≤ 1048576 → Calls Try.prog 59 #[v, v'] w fun e w' => e = .returned (.bool (decide (d = d') && decide (k = k'))) ∧ Below w.heap.size w w') ?_
  intro d K ih d' K' w v v' hv hv' hsz
  obtain ⟨ta, tc, ka, kc, rfl⟩ := hv.shape
  obtain ⟨ht, hk⟩ := hv.inj
  obtain ⟨ta', tc', ka', kc', rfl⟩ := hv'.shape
  obtain ⟨ht', hk'⟩ := hv'.inj
  obtain ⟨P, hP⟩ : ∃ P, P = w.heap.size := ⟨_, rfl⟩
  obtain ⟨W, hW⟩ : ∃ W, W = (w.alloc (.cells #[.int .i64 d.kind, .string d.var, .string d.ty, .slice ta d.tests.length tc, .slice ka K.len kc] 25)).alloc (.cells #[.int .i64 d'.kind, .string d'.var, .string d'.ty, .slice ta' d'.tests.length tc', .slice ka' K'.len kc'] 25) := ⟨_, rfl⟩
  have hb0 : Below w.heap.size w W := by rw [hW]; exact ((Below.refl _ _).alloc (Nat.le_refl _) _).alloc (by simp) _
  have hq : W.heap[P]? = some (.cells #[.int .i64 d.kind, .string d.var, .string d.ty, .slice ta d.tests.length tc, .slice ka K.len kc] 25 (0, 0)) := by rw [hW, hP]; exact heap_alloc_keeps (heap_alloc_new _ _) _
  have hq' : W.heap[P + 1]? = some (.cells #[.int .i64 d'.kind, .string d'.var, .string d'.ty, .slice ta' d'.tests.length tc', .slice ka' K'.len kc'] 25 (0, 0)) := by
    have := heap_alloc_new (w.alloc (.cells #[.int .i64 d.kind, .string d.var, .string d.ty, .slice ta d.tests.length tc, .slice ka K.len kc] 25)) (.cells #[.int .i64 d'.kind, .string d'.var, .string d'.ty, .slice ta' d'.tests.length tc', .slice ka' K'.len kc'] 25)
    rw [World.size_alloc, ← hW, ← hP] at this
    exact this
  have hz : W.heap.size = P + 2 := by rw [hW, hP]; simp
  have hlen : K.len ≤ 1048576 := by have := szF_len K; omega
  have hKW : Keep (fun x => x < w.heap.size) w W := fun x hx => hb0.block x hx
  have hlW : ∀ x, x < w.heap.size → x < W.heap.size := fun x hx => Nat.lt_of_lt_of_le hx hb0.size
  have hall := ih
  have HK := Lib.hid (fun (i : Nat) (hi : i < K.len) (hi' : i < K'.len) => (by
    obtain ⟨b, o, e, hb, hf⟩ := hk (nil_of_len hi)
    obtain ⟨d2, k2, hd⟩ := Fo.drop_cons hi
    obtain ⟨b', o', e', hb', hf'⟩ := hk' (nil_of_len hi')
    obtain ⟨d3, k3, hd'⟩ := Fo.drop_cons hi'
    refine ⟨b, o, d2, k2, b', o', d3, k3, e, hd, e', hd', hlW b hb, hlW b' hb', fun u hu => ?_⟩
    obtain ⟨ta, tc, ka, kc, c0, c1, c2, c3, c4, hv2⟩ := kid_val (W := W) (u := u) ((FoAt.keep hKW hb hf).mono hlW) (hlW b hb) hu hd
    obtain ⟨ta', tc', ka', kc', c0', c1', c2', c3', c4', hv2'⟩ := kid_val (W := W) (u := u) ((FoAt.keep hKW hb' hf').mono hlW) (hlW b' hb') hu hd'
    have h1 := Fo.All.drop i ih
    have h4 := szF_drop K i
    rw [hd] at h1 h4
    simp only [szF] at h4
    exact ⟨ta, tc, ka, kc, ta', tc', ka', kc', ⟨c0, c1, c2, c3, c4, c0', c1', c2', c3', c4'⟩, (h1.1 d3 k3 u.drew _ _ (hv2.keep (fun _ _ => rfl)) (hv2'.keep (fun _ _ => rfl)) (by omega)).mono (fun e w' h => ⟨h.1, hu.drew.trans (h.2.mono hu.size)⟩)⟩ :
      ∃ b o d2 k2 b' o' d3 k3, ka = some ⟨b, o, none⟩ ∧ K.drop i = .cons d2 k2 (K.drop (i + 1)) ∧ ka' = some ⟨b', o', none⟩ ∧ K'.drop i = .cons d3 k3 (K'.drop (i + 1)) ∧ b < W.heap.size ∧ b' < W.heap.size ∧ ∀ u, Below W.heap.size W u → ∃ ta tc ka kc ta' tc' ka' kc', (u.cell? ⟨b, o + i * 5, none⟩ = some (.int .i64 d2.kind) ∧ u.cell? ⟨b, o + i * 5 + 1, none⟩ = some (.string d2.var) ∧ u.cell? ⟨b, o + i * 5 + 2, none⟩ = some (.string d2.ty) ∧
      u.cell? ⟨b, o + i * 5 + 3, none⟩ = some (.slice ta d2.tests.length tc) ∧ u.cell? ⟨b, o + i * 5 + 4, none⟩ = some (.slice ka k2.len kc) ∧ u.cell? ⟨b', o' + i * 5, none⟩ = some (.int .i64 d3.kind) ∧ u.cell? ⟨b', o' + i * 5 + 1, none⟩ = some (.string d3.var) ∧ u.cell? ⟨b', o' + i * 5 + 2, none⟩ = some (.string d3.ty) ∧
      u.cell? ⟨b', o' + i * 5 + 3, none⟩ = some (.slice ta' d3.tests.length tc') ∧ u.cell? ⟨b', o' + i * 5 + 4, none⟩ = some (.slice ka' k3.len kc')) ∧
      Calls Try.prog 59 #[.agg #[.int .i64 d2.kind, .string d2.var, .string d2.ty, .slice ta d2.tests.length tc, .slice ka k2.len kc], .agg #[.int .i64 d3.kind, .string d3.var, .string d3.ty, .slice ta' d3.tests.length tc', .slice ka' k3.len kc']] u.drew (fun e w' => e = .returned (.bool (decide (d2 = d3) && decide (k2 = k3))) ∧ Below W.heap.size W w')))
  have HX := Lib.hid (fun (u : World) (hu : Below W.heap.size W u) => (by
    have h1 := (hu.block P (by omega)).trans hq
    have h2 := (hu.block (P + 1) (by omega)).trans hq'
    simp [World.cell?, h1, h2] : u.cell? ⟨P, 0, none⟩ = some (.int .i64 d.kind) ∧ u.cell? ⟨P, 1, none⟩ = some (.string d.var) ∧ u.cell? ⟨P, 2, none⟩ = some (.string d.ty) ∧ u.cell? ⟨P, 3, none⟩ = some (.slice ta d.tests.length tc) ∧ u.cell? ⟨P, 4, none⟩ = some (.slice ka K.len kc) ∧ u.cell? ⟨P + 1, 0, none⟩ = some (.int .i64 d'.kind) ∧ u.cell? ⟨P + 1, 1, none⟩ = some (.string d'.var) ∧ u.cell? ⟨P + 1, 2, none⟩ = some (.string d'.ty) ∧ u.cell? ⟨P + 1, 3, none⟩ = some (.slice ta' d'.tests.length tc') ∧ u.cell? ⟨P + 1, 4, none⟩ = some (.slice ka' K'.len kc')))
  have htl : d.tests.length ≤ 1048576 := by have := szT_len d.tests; simp only [szD] at hsz; omega
  have HC := Lib.hid (fun (u : World) (hu : Below W.heap.size W u) => r7SameConds_any d.tests d'.tests _ _ (fun x => x < w.heap.size) u (ht.keep (fun x hx => (hu.block x (hlW x hx)).trans (hb0.block x hx))) (ht'.keep (fun x hx => (hu.block x (hlW x hx)).trans (hb0.block x hx))) htl)
  have HW := Lib.hid hW; have HP := Lib.hid hP
  have HR := Lib.hid (Below.refl W.heap.size W)
  have HE := Lib.hid (fun (u : World) (hu : Below W.heap.size W u) => hb0.trans (hu.mono hb0.size))
  have HLEN := Lib.hid hlen
  have sEq : ∀ a b : ByteArray, (a.toList == b.toList) = true → a = b := fun a b h => ba_ext2 (beq_iff_eq.1 h)
  rw [← hP]
  clear hk ih hv hsz hq hb0 hz hW hP hlen ht hk' hv' hq' ht' hKW hlW hall htl
  by_cases h0 : d.kind = d'.kind
  · rw [← h0] at HX HW ⊢
    cases h1 : (d.var.toList == d'.var.toList) with
    | true =>
      have e1 := Lib.hid (sEq _ _ h1)
      cases h2 : (d.ty.toList == d'.ty.toList) with
      | true =>
        have e2 := Lib.hid (sEq _ _ h2)
        by_cases h3 : d.tests = d'.tests
        · rw [decide_eq_true h3] at HC
          have HDD := Lib.hid (show d = d' from by cases d; cases d'; simp only at h0 e1 e2 h3; have a1 := e1.out; have a2 := e2.out; subst h0 a1 a2 h3; rfl)
          by_cases h4 : K.len = K'.len
          · rw [← h4] at HX HW ⊢
            have HKK := Lib.hid h4
            have HD0 := Lib.hid h0; have HT0 := Lib.hid h3
            clear h0 h3 sEq h4 e1 e2
            go_enter Try.func59, Try.ntmps59
            go_wp2_with fail
            rw [← HP.out, ← HW.out]
            obtain ⟨x0, x1, x2, x3, x4, y0, y1, y2, y3, y4⟩ := HX.out _ HR.out
            go_wp2_with (first | (go_at_call 60; (with_reducible refine (HC.out _ HR.out).mono ?_); rintro e u1 ⟨rfl, n, hn⟩; have HU1 := Lib.hid (show Below W.heap.size W u1 from by rw [hn]; exact below_dn7 HR.out n); clear hn x0 x1 x2 x3 x4 y0 y1 y2 y3 y4; obtain ⟨x0, x1, x2, x3, x4, y0, y1, y2, y3, y4⟩ := HX.out _ HU1.out))
            clear h1 h2 x0 x1 x2 x3 x4 y0 y1 y2 y3 y4
            go_loopw [5] (fun iv wr => ∃ i : Nat, i ≤ K.len ∧ iv = .int .i64 (i : Int) ∧ Hid ((K = K') ↔ (K.drop i = K'.drop i)) ∧ Hid (Below W.heap.size W wr)) (fun iv _ => K.len - (intOf iv).toNat)
            case atStart => exact ⟨0, Nat.zero_le _, rfl, Lib.hid (by rw [Fo.drop_zero, Fo.drop_zero]), HU1⟩
            case round =>
              obtain ⟨i, hi, rfl, HI, HB⟩ := hrel
              obtain ⟨x0, x1, x2, x3, x4, y0, y1, y2, y3, y4⟩ := HX.out _ HB.out
              by_cases hlt : i < K.len
              · obtain ⟨b, o, d2, k2, b', o', d3, k3, rfl, hd, rfl, hd', hbW, hbW', hcs⟩ := HK.out i hlt (by have := HKK.out; omega)
                obtain ⟨ta2, tc2, ka2, kc2, ta3, tc3, ka3, kc3, ⟨c0, c1, c2, c3, c4, g0, g1, g2, g3, g4⟩, hcall⟩ := hcs _ HB.out
                have HKEEP := Lib.hid (fun (u : World) (hu : Below W.heap.size W u) => (by
                  have k1 : ∀ n, u.cell? ⟨b, n, none⟩ = wr.cell? ⟨b, n, none⟩ := fun n => by simp only [World.cell?, hu.block b hbW, HB.out.block b hbW]
                  have k2 : ∀ n, u.cell? ⟨b', n, none⟩ = wr.cell? ⟨b', n, none⟩ := fun n => by simp only [World.cell?, hu.block b' hbW', HB.out.block b' hbW']
                  exact ⟨(k1 _).trans c0, (k1 _).trans c1, (k1 _).trans c2, (k1 _).trans c3, (k1 _).trans c4, (k2 _).trans g0, (k2 _).trans g1, (k2 _).trans g2, (k2 _).trans g3, (k2 _).trans g4⟩ : u.cell? ⟨b, o + i * 5, none⟩ = some (.int .i64 d2.kind) ∧ u.cell? ⟨b, o + i * 5 + 1, none⟩ = some (.string d2.var) ∧ u.cell? ⟨b, o + i * 5 + 2, none⟩ = some (.string d2.ty) ∧ u.cell? ⟨b, o + i * 5 + 3, none⟩ = some (.slice ta2 d2.tests.length tc2) ∧ u.cell? ⟨b, o + i * 5 + 4, none⟩ = some (.slice ka2 k2.len kc2) ∧ u.cell? ⟨b', o' + i * 5, none⟩ = some (.int .i64 d3.kind) ∧ u.cell? ⟨b', o' + i * 5 + 1, none⟩ = some (.string d3.var) ∧ u.cell? ⟨b', o' + i * 5 + 2, none⟩ = some (.string d3.ty) ∧ u.cell? ⟨b', o' + i * 5 + 3, none⟩ = some (.slice ta3 d3.tests.length tc3) ∧ u.cell? ⟨b', o' + i * 5 + 4, none⟩ = some (.slice ka3 k3.len kc3)))
                have hlti : (i : Int) < (K.len : Int) := by omega
                have hi0 : (0 : Int) ≤ (i : Int) := by omega
                have hls := wr7 hlt (by have := HLEN.out; omega)
                have HLT := Lib.hid hlt
                have HST := Lib.hid (show (d2 = d3 ∧ k2 = k3 → (K = K' ↔ K.drop (i + 1) = K'.drop (i + 1))) ∧ (¬ (d2 = d3 ∧ k2 = k3) → ¬ (d = d' ∧ K = K')) from by
                  refine ⟨fun ⟨e1, e2⟩ => ?_, fun hne ⟨_, e⟩ => ?_⟩
                  · rw [HI.out, hd, hd', e1, e2]; simp
                  · rw [e, hd'] at hd
                    simp only [Fo.cons.injEq] at hd
                    exact hne ⟨hd.1.symm, hd.2.1.symm⟩)
                clear x0 x1 x2 x3 y0 y1 y2 y3 hd hd' hcs hlt hi HI hbW hbW'
                by_cases hq : d2 = d3 ∧ k2 = k3
                · rw [and_yes8 hq] at hcall
                  have HC2 := Lib.hid hcall
                  have HN2 := Lib.hid (HST.out.1 hq)
                  clear hcall hq HST
                  go_wp2_with fail
                  go_region_held3 (fun u => u.cell? ⟨P, 4, none⟩ = some (.slice (some ⟨b, o, none⟩) K.len kc) ∧ u.cell? ⟨P + 1, 4, none⟩ = some (.slice (some ⟨b', o', none⟩) K.len kc') ∧ u.cell? ⟨b, o + i * 5, none⟩ = some (.int .i64 d2.kind) ∧ u.cell? ⟨b, o + i * 5 + 1, none⟩ = some (.string d2.var) ∧ u.cell? ⟨b, o + i * 5 + 2, none⟩ = some (.string d2.ty) ∧ u.cell? ⟨b, o + i * 5 + 3, none⟩ = some (.slice ta2 d2.tests.length tc2) ∧ u.cell? ⟨b, o + i * 5 + 4, none⟩ = some (.slice ka2 k2.len kc2) ∧ u.cell? ⟨b', o' + i * 5, none⟩ = some (.int .i64 d3.kind) ∧ u.cell? ⟨b', o' + i * 5 + 1, none⟩ = some (.string d3.var) ∧ u.cell? ⟨b', o' + i * 5 + 2, none⟩ = some (.string d3.ty) ∧ u.cell? ⟨b', o' + i * 5 + 3, none⟩ = some (.slice ta3 d3.tests.length tc3) ∧ u.cell? ⟨b', o' + i * 5 + 4, none⟩ = some (.slice ka3 k3.len kc3)) (first | exact ⟨x4, y4, c0, c1, c2, c3, c4, g0, g1, g2, g3, g4⟩ | trivial | go_keep)
                    (first | (go_at_call 59; (with_reducible refine HC2.out.mono ?_); rintro e u2 ⟨rfl, hb⟩; have HB2 := Lib.hid hb; clear hb x4 y4 c0 c1 c2 c3 c4 g0 g1 g2 g3 g4; obtain ⟨x0, x1, x2, x3, x4, y0, y1, y2, y3, y4⟩ := HX.out _ HB2.out; obtain ⟨c0, c1, c2, c3, c4, g0, g1, g2, g3, g4⟩ := HKEEP.out _ HB2.out))
                  all_goals go_wp2
                  all_goals go_roundw
                  all_goals first
                    | exact ⟨i + 1, HLT.out, by go_num, HN2, HB2⟩
                    | exact meas7 HLT.out
                    | (rw [hls]; exact meas7 HLT.out)
                · rw [and_no8 hq] at hcall
                  have HC2 := Lib.hid hcall
                  have HNO := Lib.hid (HST.out.2 hq)
                  clear hcall hq HST
                  go_wp2_with fail
                  go_region_held3 (fun u => u.cell? ⟨P, 4, none⟩ = some (.slice (some ⟨b, o, none⟩) K.len kc) ∧ u.cell? ⟨P + 1, 4, none⟩ = some (.slice (some ⟨b', o', none⟩) K.len kc') ∧ u.cell? ⟨b, o + i * 5, none⟩ = some (.int .i64 d2.kind) ∧ u.cell? ⟨b, o + i * 5 + 1, none⟩ = some (.string d2.var) ∧ u.cell? ⟨b, o + i * 5 + 2, none⟩ = some (.string d2.ty) ∧ u.cell? ⟨b, o + i * 5 + 3, none⟩ = some (.slice ta2 d2.tests.length tc2) ∧ u.cell? ⟨b, o + i * 5 + 4, none⟩ = some (.slice ka2 k2.len kc2) ∧ u.cell? ⟨b', o' + i * 5, none⟩ = some (.int .i64 d3.kind) ∧ u.cell? ⟨b', o' + i * 5 + 1, none⟩ = some (.string d3.var) ∧ u.cell? ⟨b', o' + i * 5 + 2, none⟩ = some (.string d3.ty) ∧ u.cell? ⟨b', o' + i * 5 + 3, none⟩ = some (.slice ta3 d3.tests.length tc3) ∧ u.cell? ⟨b', o' + i * 5 + 4, none⟩ = some (.slice ka3 k3.len kc3)) (first | exact ⟨x4, y4, c0, c1, c2, c3, c4, g0, g1, g2, g3, g4⟩ | trivial | go_keep)
                    (first | (go_at_call 59; (with_reducible refine HC2.out.mono ?_); rintro e u2 ⟨rfl, hb⟩; have HB2 := Lib.hid hb; clear hb x4 y4 c0 c1 c2 c3 c4 g0 g1 g2 g3 g4; obtain ⟨x0, x1, x2, x3, x4, y0, y1, y2, y3, y4⟩ := HX.out _ HB2.out; obtain ⟨c0, c1, c2, c3, c4, g0, g1, g2, g3, g4⟩ := HKEEP.out _ HB2.out))
                  all_goals go_wp2
                  all_goals go_ret
                  all_goals exact ⟨show Ending.returned (Value.bool false) = _ from by rw [and_no8 HNO.out], by first | exact HE.out _ HB2.out | (rw [HP.out]; exact HE.out _ HB2.out)⟩
              · obtain rfl : i = K.len := by omega
                have HYES := Lib.hid (show d = d' ∧ K = K' from ⟨HDD.out, HI.out.2 (by rw [Fo.drop_end (Nat.le_refl _), Fo.drop_end (by rw [HKK.out]; exact Nat.le_refl _)])⟩)
                have hnl : ¬ ((K.len : Int) < (K.len : Int)) := by omega
                clear hlt hi
                go_wp2
                go_ret
                exact ⟨show Ending.returned (Value.bool true) = _ from by rw [and_yes8 HYES.out], by first | exact HE.out _ HB.out | (rw [HP.out]; exact HE.out _ HB.out)⟩
          · have h4' : ((K.len : Int) == (K'.len : Int)) = false := beq_eq_false_iff_ne.2 (by omega)
            have h4'' : ¬ (K.len : Int) = (K'.len : Int) := by omega
            have HNO := Lib.hid (show ¬ (d = d' ∧ K = K') from fun h => h4 (by rw [h.2]))
            clear h0 h3 sEq h4 e1 e2
            go_enter Try.func59, Try.ntmps59
            go_wp2_with fail
            rw [← HP.out, ← HW.out]
            obtain ⟨x0, x1, x2, x3, x4, y0, y1, y2, y3, y4⟩ := HX.out _ HR.out
            go_wp2_with (first | (go_at_call 60; (with_reducible refine (HC.out _ HR.out).mono ?_); rintro e u1 ⟨rfl, n, hn⟩; have HU1 := Lib.hid (show Below W.heap.size W u1 from by rw [hn]; exact below_dn7 HR.out n); clear hn x0 x1 x2 x3 x4 y0 y1 y2 y3 y4; obtain ⟨x0, x1, x2, x3, x4, y0, y1, y2, y3, y4⟩ := HX.out _ HU1.out))
            go_ret
            exact ⟨show Ending.returned (Value.bool false) = _ from by rw [and_no8 HNO.out], by first | exact HE.out _ HU1.out | (rw [HP.out]; exact HE.out _ HU1.out)⟩
        · rw [decide_eq_false h3] at HC
          have HNO := Lib.hid (show ¬ (d = d' ∧ K = K') from fun h => h3 (by rw [h.1]))
          clear h0 h3 sEq e1 e2
          go_enter Try.func59, Try.ntmps59
          go_wp2_with fail
          rw [← HP.out, ← HW.out]
          obtain ⟨x0, x1, x2, x3, x4, y0, y1, y2, y3, y4⟩ := HX.out _ HR.out
          go_wp2_with (first | (go_at_call 60; (with_reducible refine (HC.out _ HR.out).mono ?_); rintro e u1 ⟨rfl, n, hn⟩; have HU1 := Lib.hid (show Below W.heap.size W u1 from by rw [hn]; exact below_dn7 HR.out n); clear hn x0 x1 x2 x3 x4 y0 y1 y2 y3 y4; obtain ⟨x0, x1, x2, x3, x4, y0, y1, y2, y3, y4⟩ := HX.out _ HU1.out))
          go_ret
          exact ⟨show Ending.returned (Value.bool false) = _ from by rw [and_no8 HNO.out], by first | exact HE.out _ HU1.out | (rw [HP.out]; exact HE.out _ HU1.out)⟩
      | false =>
        have HNO := Lib.hid (show ¬ (d = d' ∧ K = K') from fun h => by rw [h.1] at h2; simp at h2)
        clear h0 sEq e1
        go_enter Try.func59, Try.ntmps59
        go_wp2_with fail
        rw [← HP.out, ← HW.out]
        obtain ⟨x0, x1, x2, x3, x4, y0, y1, y2, y3, y4⟩ := HX.out _ HR.out
        go_wp2
        go_ret
        exact ⟨show Ending.returned (Value.bool false) = _ from by rw [and_no8 HNO.out], by first | exact HE.out _ HR.out | (rw [HP.out]; exact HE.out _ HR.out)⟩
    | false =>
      have HNO := Lib.hid (show ¬ (d = d' ∧ K = K') from fun h => by rw [h.1] at h1; simp at h1)
      clear h0 sEq
      go_enter Try.func59, Try.ntmps59
      go_wp2_with fail
      rw [← HP.out, ← HW.out]
      obtain ⟨x0, x1, x2, x3, x4, y0, y1, y2, y3, y4⟩ := HX.out _ HR.out
      go_wp2
      go_ret
      exact ⟨show Ending.returned (Value.bool false) = _ from by rw [and_no8 HNO.out], by first | exact HE.out _ HR.out | (rw [HP.out]; exact HE.out _ HR.out)⟩
  · have h0' : (d.kind == d'.kind) = false := beq_eq_false_iff_ne.2 h0
    have HNO := Lib.hid (show ¬ (d = d' ∧ K = K') from fun h => h0 (by rw [h.1]))
    clear sEq
    go_enter Try.func59, Try.ntmps59
    go_wp2_with fail
    rw [← HP.out, ← HW.out]
    obtain ⟨x0, x1, x2, x3, x4, y0, y1, y2, y3, y4⟩ := HX.out _ HR.out
    go_wp2
    go_ret
    exact ⟨show Ending.returned (Value.bool false) = _ from by rw [and_no8 HNO.out], by first | exact HE.out _ HR.out | (rw [HP.out]; exact HE.out _ HR.out)⟩
set_option maxRecDepth 100000 in
set_option maxHeartbeats 4000000 in
theorem r6SameTree_any (d : Nt) (k : Fo) : ∀ (d' : Nt) (k' : Fo) (w : World) (v v' : Value), NdV w (fun x => x < w.heap.size) d k v → NdV w (fun x => x < w.heap.size) d' k' v' → szD d + szF k ≤ 1048576 → Calls Try.prog 30 #[v, v'] w fun e w' => e = .returned (.bool (decide (d = d') && decide (k = k'))) ∧ Below w.heap.size w w' := by
  revert d k
  refine Fo.node_ind (p := fun d k => ∀ (d' : Nt) (k' : Fo) (w : World) (v v' : Value), NdV w (fun x => x < w.heap.size) d k v → NdV w (fun x => x < w.heap.size) d' k' v' → szD d + szF k ≤ 1048576 → Calls Try.prog 30 #[v, v'] w fun e w' => e = .returned (.bool (decide (d = d') && decide (k = k'))) ∧ Below w.heap.size w w') ?_
  intro d K ih d' K' w v v' hv hv' hsz
  obtain ⟨ta, tc, ka, kc, rfl⟩ := hv.shape
  obtain ⟨ht, hk⟩ := hv.inj
  obtain ⟨ta', tc', ka', kc', rfl⟩ := hv'.shape
  obtain ⟨ht', hk'⟩ := hv'.inj
  obtain ⟨P, hP⟩ : ∃ P, P = w.heap.size := ⟨_, rfl⟩
  obtain ⟨W, hW⟩ : ∃ W, W = (w.alloc (.cells #[.int .i64 d.kind, .string d.var, .string d.ty, .slice ta d.tests.length tc, .slice ka K.len kc] 25)).alloc (.cells #[.int .i64 d'.kind, .string d'.var, .string d'.ty, .slice ta' d'.tests.length tc', .slice ka' K'.len kc'] 25) := ⟨_, rfl⟩
  have hb0 : Below w.heap.size w W := by rw [hW]; exact ((Below.refl _ _).alloc (Nat.le_refl _) _).alloc (by simp) _
  have hq : W.heap[P]? = some (.cells #[.int .i64 d.kind, .string d.var, .string d.ty, .slice ta d.tests.length tc, .slice ka K.len kc] 25 (0, 0)) := by rw [hW, hP]; exact heap_alloc_keeps (heap_alloc_new _ _) _
  have hq' : W.heap[P + 1]? = some (.cells #[.int .i64 d'.kind, .string d'.var, .string d'.ty, .slice ta' d'.tests.length tc', .slice ka' K'.len kc'] 25 (0, 0)) := by
    have := heap_alloc_new (w.alloc (.cells #[.int .i64 d.kind, .string d.var, .string d.ty, .slice ta d.tests.length tc, .slice ka K.len kc] 25)) (.cells #[.int .i64 d'.kind, .string d'.var, .string d'.ty, .slice ta' d'.tests.length tc', .slice ka' K'.len kc'] 25)
    rw [World.size_alloc, ← hW, ← hP] at this
    exact this
  have hz : W.heap.size = P + 2 := by rw [hW, hP]; simp
  have hlen : K.len ≤ 1048576 := by have := szF_len K; omega
  have hKW : Keep (fun x => x < w.heap.size) w W := fun x hx => hb0.block x hx
  have hlW : ∀ x, x < w.heap.size → x < W.heap.size := fun x hx => Nat.lt_of_lt_of_le hx hb0.size
  have hall := ih
  have HK := Lib.hid (fun (i : Nat) (hi : i < K.len) (hi' : i < K'.len) => (by
    obtain ⟨b, o, e, hb, hf⟩ := hk (nil_of_len hi)
    obtain ⟨d2, k2, hd⟩ := Fo.drop_cons hi
    obtain ⟨b', o', e', hb', hf'⟩ := hk' (nil_of_len hi')
    obtain ⟨d3, k3, hd'⟩ := Fo.drop_cons hi'
    refine ⟨b, o, d2, k2, b', o', d3, k3, e, hd, e', hd', hlW b hb, hlW b' hb', fun u hu => ?_⟩
    obtain ⟨ta, tc, ka, kc, c0, c1, c2, c3, c4, hv2⟩ := kid_val (W := W) (u := u) ((FoAt.keep hKW hb hf).mono hlW) (hlW b hb) hu hd
    obtain ⟨ta', tc', ka', kc', c0', c1', c2', c3', c4', hv2'⟩ := kid_val (W := W) (u := u) ((FoAt.keep hKW hb' hf').mono hlW) (hlW b' hb') hu hd'
    have h1 := Fo.All.drop i ih
    have h4 := szF_drop K i
    rw [hd] at h1 h4
    simp only [szF] at h4
    exact ⟨ta, tc, ka, kc, ta', tc', ka', kc', ⟨c0, c1, c2, c3, c4, c0', c1', c2', c3', c4'⟩, (h1.1 d3 k3 u.drew _ _ (hv2.keep (fun _ _ => rfl)) (hv2'.keep (fun _ _ => rfl)) (by omega)).mono (fun e w' h => ⟨h.1, hu.drew.trans (h.2.mono hu.size)⟩)⟩ :
      ∃ b o d2 k2 b' o' d3 k3, ka = some ⟨b, o, none⟩ ∧ K.drop i = .cons d2 k2 (K.drop (i + 1)) ∧ ka' = some ⟨b', o', none⟩ ∧ K'.drop i = .cons d3 k3 (K'.drop (i + 1)) ∧ b < W.heap.size ∧ b' < W.heap.size ∧ ∀ u, Below W.heap.size W u → ∃ ta tc ka kc ta' tc' ka' kc', (u.cell? ⟨b, o + i * 5, none⟩ = some (.int .i64 d2.kind) ∧ u.cell? ⟨b, o + i * 5 + 1, none⟩ = some (.string d2.var) ∧ u.cell? ⟨b, o + i * 5 + 2, none⟩ = some (.string d2.ty) ∧
      u.cell? ⟨b, o + i * 5 + 3, none⟩ = some (.slice ta d2.tests.length tc) ∧ u.cell? ⟨b, o + i * 5 + 4, none⟩ = some (.slice ka k2.len kc) ∧ u.cell? ⟨b', o' + i * 5, none⟩ = some (.int .i64 d3.kind) ∧ u.cell? ⟨b', o' + i * 5 + 1, none⟩ = some (.string d3.var) ∧ u.cell? ⟨b', o' + i * 5 + 2, none⟩ = some (.string d3.ty) ∧
      u.cell? ⟨b', o' + i * 5 + 3, none⟩ = some (.slice ta' d3.tests.length tc') ∧ u.cell? ⟨b', o' + i * 5 + 4, none⟩ = some (.slice ka' k3.len kc')) ∧
      Calls Try.prog 30 #[.agg #[.int .i64 d2.kind, .string d2.var, .string d2.ty, .slice ta d2.tests.length tc, .slice ka k2.len kc], .agg #[.int .i64 d3.kind, .string d3.var, .string d3.ty, .slice ta' d3.tests.length tc', .slice ka' k3.len kc']] u.drew (fun e w' => e = .returned (.bool (decide (d2 = d3) && decide (k2 = k3))) ∧ Below W.heap.size W w')))
  have HX := Lib.hid (fun (u : World) (hu : Below W.heap.size W u) => (by
    have h1 := (hu.block P (by omega)).trans hq
    have h2 := (hu.block (P + 1) (by omega)).trans hq'
    simp [World.cell?, h1, h2] : u.cell? ⟨P, 0, none⟩ = some (.int .i64 d.kind) ∧ u.cell? ⟨P, 1, none⟩ = some (.string d.var) ∧ u.cell? ⟨P, 2, none⟩ = some (.string d.ty) ∧ u.cell? ⟨P, 3, none⟩ = some (.slice ta d.tests.length tc) ∧ u.cell? ⟨P, 4, none⟩ = some (.slice ka K.len kc) ∧ u.cell? ⟨P + 1, 0, none⟩ = some (.int .i64 d'.kind) ∧ u.cell? ⟨P + 1, 1, none⟩ = some (.string d'.var) ∧ u.cell? ⟨P + 1, 2, none⟩ = some (.string d'.ty) ∧ u.cell? ⟨P + 1, 3, none⟩ = some (.slice ta' d'.tests.length tc') ∧ u.cell? ⟨P + 1, 4, none⟩ = some (.slice ka' K'.len kc')))
  have htl : d.tests.length ≤ 1048576 := by have := szT_len d.tests; simp only [szD] at hsz; omega
  have HC := Lib.hid (fun (u : World) (hu : Below W.heap.size W u) => r6sameConds_any d.tests d'.tests _ _ (fun x => x < w.heap.size) u (ht.keep (fun x hx => (hu.block x (hlW x hx)).trans (hb0.block x hx))) (ht'.keep (fun x hx => (hu.block x (hlW x hx)).trans (hb0.block x hx))) htl)
  have HW := Lib.hid hW; have HP := Lib.hid hP
  have HR := Lib.hid (Below.refl W.heap.size W)
  have HE := Lib.hid (fun (u : World) (hu : Below W.heap.size W u) => hb0.trans (hu.mono hb0.size))
  have HLEN := Lib.hid hlen
  have sEq : ∀ a b : ByteArray, (a.toList == b.toList) = true → a = b := fun a b h => ba_ext2 (beq_iff_eq.1 h)
  rw [← hP]
  clear hk ih hv hsz hq hb0 hz hW hP hlen ht hk' hv' hq' ht' hKW hlW hall htl
  by_cases h0 : d.kind = d'.kind
  · rw [← h0] at HX HW ⊢
    cases h1 : (d.var.toList == d'.var.toList) with
    | true =>
      have e1 := Lib.hid (sEq _ _ h1)
      cases h2 : (d.ty.toList == d'.ty.toList) with
      | true =>
        have e2 := Lib.hid (sEq _ _ h2)
        by_cases h3 : d.tests = d'.tests
        · rw [decide_eq_true h3] at HC
          have HDD := Lib.hid (show d = d' from by cases d; cases d'; simp only at h0 e1 e2 h3; have a1 := e1.out; have a2 := e2.out; subst h0 a1 a2 h3; rfl)
          by_cases h4 : K.len = K'.len
          · rw [← h4] at HX HW ⊢
            have HKK := Lib.hid h4
            have HD0 := Lib.hid h0; have HT0 := Lib.hid h3
            clear h0 h3 sEq h4 e1 e2
            go_enter Try.func30, Try.ntmps30
            go_wp2_with fail
            rw [← HP.out, ← HW.out]
            obtain ⟨x0, x1, x2, x3, x4, y0, y1, y2, y3, y4⟩ := HX.out _ HR.out
            go_wp2_with (first | (go_at_call 83; (with_reducible refine (HC.out _ HR.out).mono ?_); rintro e u1 ⟨rfl, n, hn⟩; have HU1 := Lib.hid (show Below W.heap.size W u1 from by rw [hn]; exact below_dn7 HR.out n); clear hn x0 x1 x2 x3 x4 y0 y1 y2 y3 y4; obtain ⟨x0, x1, x2, x3, x4, y0, y1, y2, y3, y4⟩ := HX.out _ HU1.out))
            clear h1 h2 x0 x1 x2 x3 x4 y0 y1 y2 y3 y4
            go_loopw [5] (fun iv wr => ∃ i : Nat, i ≤ K.len ∧ iv = .int .i64 (i : Int) ∧ Hid ((K = K') ↔ (K.drop i = K'.drop i)) ∧ Hid (Below W.heap.size W wr)) (fun iv _ => K.len - (intOf iv).toNat)
            case atStart => exact ⟨0, Nat.zero_le _, rfl, Lib.hid (by rw [Fo.drop_zero, Fo.drop_zero]), HU1⟩
            case round =>
              obtain ⟨i, hi, rfl, HI, HB⟩ := hrel
              obtain ⟨x0, x1, x2, x3, x4, y0, y1, y2, y3, y4⟩ := HX.out _ HB.out
              by_cases hlt : i < K.len
              · obtain ⟨b, o, d2, k2, b', o', d3, k3, rfl, hd, rfl, hd', hbW, hbW', hcs⟩ := HK.out i hlt (by have := HKK.out; omega)
                obtain ⟨ta2, tc2, ka2, kc2, ta3, tc3, ka3, kc3, ⟨c0, c1, c2, c3, c4, g0, g1, g2, g3, g4⟩, hcall⟩ := hcs _ HB.out
                have HKEEP := Lib.hid (fun (u : World) (hu : Below W.heap.size W u) => (by
                  have k1 : ∀ n, u.cell? ⟨b, n, none⟩ = wr.cell? ⟨b, n, none⟩ := fun n => by simp only [World.cell?, hu.block b hbW, HB.out.block b hbW]
                  have k2 : ∀ n, u.cell? ⟨b', n, none⟩ = wr.cell? ⟨b', n, none⟩ := fun n => by simp only [World.cell?, hu.block b' hbW', HB.out.block b' hbW']
                  exact ⟨(k1 _).trans c0, (k1 _).trans c1, (k1 _).trans c2, (k1 _).trans c3, (k1 _).trans c4, (k2 _).trans g0, (k2 _).trans g1, (k2 _).trans g2, (k2 _).trans g3, (k2 _).trans g4⟩ : u.cell? ⟨b, o + i * 5, none⟩ = some (.int .i64 d2.kind) ∧ u.cell? ⟨b, o + i * 5 + 1, none⟩ = some (.string d2.var) ∧ u.cell? ⟨b, o + i * 5 + 2, none⟩ = some (.string d2.ty) ∧ u.cell? ⟨b, o + i * 5 + 3, none⟩ = some (.slice ta2 d2.tests.length tc2) ∧ u.cell? ⟨b, o + i * 5 + 4, none⟩ = some (.slice ka2 k2.len kc2) ∧ u.cell? ⟨b', o' + i * 5, none⟩ = some (.int .i64 d3.kind) ∧ u.cell? ⟨b', o' + i * 5 + 1, none⟩ = some (.string d3.var) ∧ u.cell? ⟨b', o' + i * 5 + 2, none⟩ = some (.string d3.ty) ∧ u.cell? ⟨b', o' + i * 5 + 3, none⟩ = some (.slice ta3 d3.tests.length tc3) ∧ u.cell? ⟨b', o' + i * 5 + 4, none⟩ = some (.slice ka3 k3.len kc3)))
                have hlti : (i : Int) < (K.len : Int) := by omega
                have hi0 : (0 : Int) ≤ (i : Int) := by omega
                have hls := wr7 hlt (by have := HLEN.out; omega)
                have HLT := Lib.hid hlt
                have HST := Lib.hid (show (d2 = d3 ∧ k2 = k3 → (K = K' ↔ K.drop (i + 1) = K'.drop (i + 1))) ∧ (¬ (d2 = d3 ∧ k2 = k3) → ¬ (d = d' ∧ K = K')) from by
                  refine ⟨fun ⟨e1, e2⟩ => ?_, fun hne ⟨_, e⟩ => ?_⟩
                  · rw [HI.out, hd, hd', e1, e2]; simp
                  · rw [e, hd'] at hd
                    simp only [Fo.cons.injEq] at hd
                    exact hne ⟨hd.1.symm, hd.2.1.symm⟩)
                clear x0 x1 x2 x3 y0 y1 y2 y3 hd hd' hcs hlt hi HI hbW hbW'
                by_cases hq : d2 = d3 ∧ k2 = k3
                · rw [and_yes8 hq] at hcall
                  have HC2 := Lib.hid hcall
                  have HN2 := Lib.hid (HST.out.1 hq)
                  clear hcall hq HST
                  go_wp2_with fail
                  go_region_held3 (fun u => u.cell? ⟨P, 4, none⟩ = some (.slice (some ⟨b, o, none⟩) K.len kc) ∧ u.cell? ⟨P + 1, 4, none⟩ = some (.slice (some ⟨b', o', none⟩) K.len kc') ∧ u.cell? ⟨b, o + i * 5, none⟩ = some (.int .i64 d2.kind) ∧ u.cell? ⟨b, o + i * 5 + 1, none⟩ = some (.string d2.var) ∧ u.cell? ⟨b, o + i * 5 + 2, none⟩ = some (.string d2.ty) ∧ u.cell? ⟨b, o + i * 5 + 3, none⟩ = some (.slice ta2 d2.tests.length tc2) ∧ u.cell? ⟨b, o + i * 5 + 4, none⟩ = some (.slice ka2 k2.len kc2) ∧ u.cell? ⟨b', o' + i * 5, none⟩ = some (.int .i64 d3.kind) ∧ u.cell? ⟨b', o' + i * 5 + 1, none⟩ = some (.string d3.var) ∧ u.cell? ⟨b', o' + i * 5 + 2, none⟩ = some (.string d3.ty) ∧ u.cell? ⟨b', o' + i * 5 + 3, none⟩ = some (.slice ta3 d3.tests.length tc3) ∧ u.cell? ⟨b', o' + i * 5 + 4, none⟩ = some (.slice ka3 k3.len kc3)) (first | exact ⟨x4, y4, c0, c1, c2, c3, c4, g0, g1, g2, g3, g4⟩ | trivial | go_keep)
                    (first | (go_at_call 30; (with_reducible refine HC2.out.mono ?_); rintro e u2 ⟨rfl, hb⟩; have HB2 := Lib.hid hb; clear hb x4 y4 c0 c1 c2 c3 c4 g0 g1 g2 g3 g4; obtain ⟨x0, x1, x2, x3, x4, y0, y1, y2, y3, y4⟩ := HX.out _ HB2.out; obtain ⟨c0, c1, c2, c3, c4, g0, g1, g2, g3, g4⟩ := HKEEP.out _ HB2.out))
                  all_goals go_wp2
                  all_goals go_roundw
                  all_goals first
                    | exact ⟨i + 1, HLT.out, by go_num, HN2, HB2⟩
                    | exact meas7 HLT.out
                    | (rw [hls]; exact meas7 HLT.out)
                · rw [and_no8 hq] at hcall
                  have HC2 := Lib.hid hcall
                  have HNO := Lib.hid (HST.out.2 hq)
                  clear hcall hq HST
                  go_wp2_with fail
                  go_region_held3 (fun u => u.cell? ⟨P, 4, none⟩ = some (.slice (some ⟨b, o, none⟩) K.len kc) ∧ u.cell? ⟨P + 1, 4, none⟩ = some (.slice (some ⟨b', o', none⟩) K.len kc') ∧ u.cell? ⟨b, o + i * 5, none⟩ = some (.int .i64 d2.kind) ∧ u.cell? ⟨b, o + i * 5 + 1, none⟩ = some (.string d2.var) ∧ u.cell? ⟨b, o + i * 5 + 2, none⟩ = some (.string d2.ty) ∧ u.cell? ⟨b, o + i * 5 + 3, none⟩ = some (.slice ta2 d2.tests.length tc2) ∧ u.cell? ⟨b, o + i * 5 + 4, none⟩ = some (.slice ka2 k2.len kc2) ∧ u.cell? ⟨b', o' + i * 5, none⟩ = some (.int .i64 d3.kind) ∧ u.cell? ⟨b', o' + i * 5 + 1, none⟩ = some (.string d3.var) ∧ u.cell? ⟨b', o' + i * 5 + 2, none⟩ = some (.string d3.ty) ∧ u.cell? ⟨b', o' + i * 5 + 3, none⟩ = some (.slice ta3 d3.tests.length tc3) ∧ u.cell? ⟨b', o' + i * 5 + 4, none⟩ = some (.slice ka3 k3.len kc3)) (first | exact ⟨x4, y4, c0, c1, c2, c3, c4, g0, g1, g2, g3, g4⟩ | trivial | go_keep)
                    (first | (go_at_call 30; (with_reducible refine HC2.out.mono ?_); rintro e u2 ⟨rfl, hb⟩; have HB2 := Lib.hid hb; clear hb x4 y4 c0 c1 c2 c3 c4 g0 g1 g2 g3 g4; obtain ⟨x0, x1, x2, x3, x4, y0, y1, y2, y3, y4⟩ := HX.out _ HB2.out; obtain ⟨c0, c1, c2, c3, c4, g0, g1, g2, g3, g4⟩ := HKEEP.out _ HB2.out))
                  all_goals go_wp2
                  all_goals go_ret
                  all_goals exact ⟨show Ending.returned (Value.bool false) = _ from by rw [and_no8 HNO.out], by first | exact HE.out _ HB2.out | (rw [HP.out]; exact HE.out _ HB2.out)⟩
              · obtain rfl : i = K.len := by omega
                have HYES := Lib.hid (show d = d' ∧ K = K' from ⟨HDD.out, HI.out.2 (by rw [Fo.drop_end (Nat.le_refl _), Fo.drop_end (by rw [HKK.out]; exact Nat.le_refl _)])⟩)
                have hnl : ¬ ((K.len : Int) < (K.len : Int)) := by omega
                clear hlt hi
                go_wp2
                go_ret
                exact ⟨show Ending.returned (Value.bool true) = _ from by rw [and_yes8 HYES.out], by first | exact HE.out _ HB.out | (rw [HP.out]; exact HE.out _ HB.out)⟩
          · have h4' : ((K.len : Int) == (K'.len : Int)) = false := beq_eq_false_iff_ne.2 (by omega)
            have h4'' : ¬ (K.len : Int) = (K'.len : Int) := by omega
            have HNO := Lib.hid (show ¬ (d = d' ∧ K = K') from fun h => h4 (by rw [h.2]))
            clear h0 h3 sEq h4 e1 e2
            go_enter Try.func30, Try.ntmps30
            go_wp2_with fail
            rw [← HP.out, ← HW.out]
            obtain ⟨x0, x1, x2, x3, x4, y0, y1, y2, y3, y4⟩ := HX.out _ HR.out
            go_wp2_with (first | (go_at_call 83; (with_reducible refine (HC.out _ HR.out).mono ?_); rintro e u1 ⟨rfl, n, hn⟩; have HU1 := Lib.hid (show Below W.heap.size W u1 from by rw [hn]; exact below_dn7 HR.out n); clear hn x0 x1 x2 x3 x4 y0 y1 y2 y3 y4; obtain ⟨x0, x1, x2, x3, x4, y0, y1, y2, y3, y4⟩ := HX.out _ HU1.out))
            go_ret
            exact ⟨show Ending.returned (Value.bool false) = _ from by rw [and_no8 HNO.out], by first | exact HE.out _ HU1.out | (rw [HP.out]; exact HE.out _ HU1.out)⟩
        · rw [decide_eq_false h3] at HC
          have HNO := Lib.hid (show ¬ (d = d' ∧ K = K') from fun h => h3 (by rw [h.1]))
          clear h0 h3 sEq e1 e2
          go_enter Try.func30, Try.ntmps30
          go_wp2_with fail
          rw [← HP.out, ← HW.out]
          obtain ⟨x0, x1, x2, x3, x4, y0, y1, y2, y3, y4⟩ := HX.out _ HR.out
          go_wp2_with (first | (go_at_call 83; (with_reducible refine (HC.out _ HR.out).mono ?_); rintro e u1 ⟨rfl, n, hn⟩; have HU1 := Lib.hid (show Below W.heap.size W u1 from by rw [hn]; exact below_dn7 HR.out n); clear hn x0 x1 x2 x3 x4 y0 y1 y2 y3 y4; obtain ⟨x0, x1, x2, x3, x4, y0, y1, y2, y3, y4⟩ := HX.out _ HU1.out))
          go_ret
          exact ⟨show Ending.returned (Value.bool false) = _ from by rw [and_no8 HNO.out], by first | exact HE.out _ HU1.out | (rw [HP.out]; exact HE.out _ HU1.out)⟩
      | false =>
        have HNO := Lib.hid (show ¬ (d = d' ∧ K = K') from fun h => by rw [h.1] at h2; simp at h2)
        clear h0 sEq e1
        go_enter Try.func30, Try.ntmps30
        go_wp2_with fail
        rw [← HP.out, ← HW.out]
        obtain ⟨x0, x1, x2, x3, x4, y0, y1, y2, y3, y4⟩ := HX.out _ HR.out
        go_wp2
        go_ret
        exact ⟨show Ending.returned (Value.bool false) = _ from by rw [and_no8 HNO.out], by first | exact HE.out _ HR.out | (rw [HP.out]; exact HE.out _ HR.out)⟩
    | false =>
      have HNO := Lib.hid (show ¬ (d = d' ∧ K = K') from fun h => by rw [h.1] at h1; simp at h1)
      clear h0 sEq
      go_enter Try.func30, Try.ntmps30
      go_wp2_with fail
      rw [← HP.out, ← HW.out]
      obtain ⟨x0, x1, x2, x3, x4, y0, y1, y2, y3, y4⟩ := HX.out _ HR.out
      go_wp2
      go_ret
      exact ⟨show Ending.returned (Value.bool false) = _ from by rw [and_no8 HNO.out], by first | exact HE.out _ HR.out | (rw [HP.out]; exact HE.out _ HR.out)⟩
  · have h0' : (d.kind == d'.kind) = false := beq_eq_false_iff_ne.2 h0
    have HNO := Lib.hid (show ¬ (d = d' ∧ K = K') from fun h => h0 (by rw [h.1]))
    clear sEq
    go_enter Try.func30, Try.ntmps30
    go_wp2_with fail
    rw [← HP.out, ← HW.out]
    obtain ⟨x0, x1, x2, x3, x4, y0, y1, y2, y3, y4⟩ := HX.out _ HR.out
    go_wp2
    go_ret
    exact ⟨show Ending.returned (Value.bool false) = _ from by rw [and_no8 HNO.out], by first | exact HE.out _ HR.out | (rw [HP.out]; exact HE.out _ HR.out)⟩
end Go.Proofs.Ytnfjodkpapmfkaa
