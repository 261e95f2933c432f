/- The walk of PredValues. -/
import Derived.Test.YtpbloplbpkedcaaPt9
namespace Go.Proofs.Ytpbloplbpkedcaa
open Go Go.RowKit Go.Sort

theorem cell_of_ten {w : World} {q : Nat} {c0 c1 c2 c3 c4 c5 c6 c7 c8 c9 : Value} {t : Nat} (h : w.heap[q]? = some (.cells #[c0, c1, c2, c3, c4, c5, c6, c7, c8, c9] t (0, 0))) :
    w.cell? ⟨q, 0, none⟩ = some c0 ∧ w.cell? ⟨q, 1, none⟩ = some c1 ∧ w.cell? ⟨q, 2, none⟩ = some c2 ∧ w.cell? ⟨q, 3, none⟩ = some c3 ∧ w.cell? ⟨q, 4, none⟩ = some c4 ∧ w.cell? ⟨q, 5, none⟩ = some c5 ∧ w.cell? ⟨q, 6, none⟩ = some c6 ∧ w.cell? ⟨q, 7, none⟩ = some c7 ∧ w.cell? ⟨q, 8, none⟩ = some c8 ∧ w.cell? ⟨q, 9, none⟩ = some c9 := by
  simp [World.cell?, h]

set_option maxRecDepth 100000 in
set_option maxHeartbeats 4000000 in
theorem values9_walk (cl : List Cnd) (ta : Option Addr) (tc : Nat) (ao : Option Addr) (n cap : Nat) (bs : List Bd) (w : World)
    (hc : CdV w (fun x => x < w.heap.size) (.slice ta cl.length tc) cl) (hcl : cl.length * 136 ≤ 140737488355328) (hwc : ∀ c ∈ cl, wdC c) (h : BsV w w.heap.size (.slice ao n cap) bs) (hat : attrsB bs ≤ 1048576) (hvs : ∀ b ∈ bs, b.var.size ≤ maxLen) :
    Calls Try.prog 4 #[.slice ta cl.length tc, .agg #[.slice ao n cap]] w fun e w' => e = .returned (.bool true) ∧ Below w.heap.size w w' := by
  have hnl : n = bs.length := by obtain ⟨_, _, he, _⟩ := h; simp only [Value.slice.injEq] at he; exact he.2.1
  have hsl := strsB_len bs
  have hn2 : n ≤ 140737488355328 := by omega
  obtain ⟨P, hP⟩ : ∃ P, P = w.heap.size := ⟨_, rfl⟩
  obtain ⟨W, hW⟩ : ∃ W, W = w.alloc (.cells #[.slice ao n cap] 43) := ⟨_, rfl⟩
  have hb : Below P w W := by rw [hW, hP]; exact (Below.refl _ _).alloc (Nat.le_refl _) _
  have q0 : W.heap[P]? = some (.cells #[.slice ao n cap] 43 (0, 0)) := by rw [hW, hP]; exact heap_alloc_new _ _
  have hPW : P ≤ W.heap.size := by have := lt_of_block q0; omega
  have hXC := fun (u : World) (hu : Below W.heap.size W u) => (show u.cell? ⟨P, 0, none⟩ = some (.slice ao n cap) from cell_of_one ((hu.block P (lt_of_block q0)).trans q0))
  have hbs := fun (u : World) (hu : Below W.heap.size W u) => (h.below (hP ▸ (hb.trans (hu.mono hPW))) (Nat.le_refl _))
  have hsz := fun (u : World) (hu : Below W.heap.size W u) => (show w.heap.size ≤ u.heap.size by have := hu.size; omega)
  have hcd := fun (u : World) (hu : Below W.heap.size W u) => (show CdV u (fun x => x < u.heap.size) (.slice ta cl.length tc) cl from (hc.keep (fun b hx => (hb.trans (hu.mono hPW)).block b (by omega))).mono (fun x hx => by have := hu.size; omega))
  have HL := Lib.hid live9_any
  have HA := Lib.hid (fun (u : World) (hu : Below W.heap.size W u) => pAll_any cl ta tc w.heap.size ao n cap bs u (hbs u hu) (hsz u hu) hn2 (hcd u hu) (by omega) hwc hat hvs)
  have HR := Lib.hid (fun (u : World) (hu : Below W.heap.size W u) => r9All_any cl ta tc w.heap.size ao n cap bs u (hbs u hu) (hsz u hu) hn2 (hcd u hu) (by omega))
  have H1 := Lib.hid (fun (o : Opd) (u : World) (hu : Below W.heap.size W u) => pValue_any o w.heap.size ao n cap bs u (hbs u hu) (hsz u hu) hn2)
  have H2 := Lib.hid (fun (o : Opd) (u : World) (hu : Below W.heap.size W u) => r9Value_any o w.heap.size ao n cap bs u (hbs u hu) (hsz u hu) hn2)
  have H3 := Lib.hid (fun (c : Cnd) (u : World) (hu : Below W.heap.size W u) => pCond_any c w.heap.size ao n cap bs u (hbs u hu) (hsz u hu) hn2)
  have H4 := Lib.hid (fun (c : Cnd) (u : World) (hu : Below W.heap.size W u) => r9Cond_any c w.heap.size ao n cap bs u (hbs u hu) (hsz u hu) hn2)
  have HX := Lib.hid (fun (u : World) (hu : Below W.heap.size W u) => hc.keep (fun b hb2 => (hb.trans (hu.mono hPW)).block b (by omega)))
  have HN := Lib.hid hcl
  generalize allB cl bs = al at HA HR
  have r1 : (al == al) = true := by simp
  have HXC := Lib.hid hXC
  have HP := Lib.hid hP; have HW := Lib.hid hW; have HB := Lib.hid hb; have HPW := Lib.hid hPW; have HPL := Lib.hid (lt_of_block q0)
  have B2 := Lib.hid (Below.refl W.heap.size W)
  rw [← hP]
  clear hc hcl hwc h hat hvs hnl hsl hn2 hP hW hb q0 hPW hbs hsz hcd hXC
  go_enter Try.func4, Try.ntmps4
  go_wp2_with fail
  rw [← HW.out, ← HP.out]
  have hc0 := HXC.out _ B2.out
  go_wp2_with (first | (go_at_call 8; (with_reducible refine (HL.out _).mono ?_); rintro e u0 ⟨rfl, hb0⟩; have HB0 := Lib.hid (B2.out.trans (hb0.mono B2.out.size)); clear hb0))
  have HE0 := HXC.out
  go_loopw [17] (fun iv wr => ∃ k : Nat, k ≤ cl.length ∧ iv = .int .i64 k ∧ Hid (Below W.heap.size W wr)) (fun iv _ => cl.length - (intOf iv).toNat)
  case atStart => exact ⟨0, Nat.zero_le _, rfl, HB0⟩
  case round =>
    obtain ⟨k, hk, rfl, HBr⟩ := hrel
    by_cases hlt : k < cl.length
    · have hlti : (k : Int) < (cl.length : Int) := by omega
      have hls := wr7 hlt (by have := HN.out; omega)
      have hne : cl ≠ [] := fun h => by rw [h] at hlt; exact absurd hlt (Nat.not_lt_zero _)
      obtain ⟨ta', tc', he, hh⟩ := HX.out _ HBr.out
      simp only [Value.slice.injEq, true_and] at he
      obtain ⟨rfl, rfl⟩ := he
      obtain ⟨b, o, rfl, hb, hat⟩ := hh hne
      obtain ⟨d0, d1, d2, d3, d4, d5, d6, d7, d8, d9, d10⟩ := hat.cells hlt
      have HLT := Lib.hid hlt
      clear hh hne hat hk hb
      generalize cl[k] = x at d0 d1 d2 d3 d4 d5 d6 d7 d8 d9 d10
      clear hlt hc0
      obtain ⟨Q, hQ⟩ : ∃ Q, Q = wr.heap.size := ⟨_, rfl⟩
      obtain ⟨V, hV⟩ : ∃ V, V = (wr.alloc (.cells #[.string x.left.var, .string x.left.attr, .int .i64 x.left.vk, .int .i64 x.left.vn, .string x.left.vs, .int .i64 x.rel, .string x.right.var, .string x.right.attr, .int .i64 x.right.vk, .int .i64 x.right.vn, .string x.right.vs] 27)).alloc (.cells #[.string x.left.var, .string x.left.attr, .int .i64 x.left.vk, .int .i64 x.left.vn, .string x.left.vs, .string x.right.var, .string x.right.attr, .int .i64 x.right.vk, .int .i64 x.right.vn, .string x.right.vs] 25) := ⟨_, rfl⟩
      have hbV : Below W.heap.size W V := by rw [hV]; exact (HBr.out.alloc HBr.out.size _).alloc (by have := HBr.out.size; simp; omega) _
      have hq0 : V.heap[Q]? = some (.cells #[.string x.left.var, .string x.left.attr, .int .i64 x.left.vk, .int .i64 x.left.vn, .string x.left.vs, .int .i64 x.rel, .string x.right.var, .string x.right.attr, .int .i64 x.right.vk, .int .i64 x.right.vn, .string x.right.vs] 27 (0, 0)) := by rw [hV, hQ, heap_alloc_old _ _ (by simp)]; exact heap_alloc_new _ _
      have hq1 : V.heap[Q + 1]? = some (.cells #[.string x.left.var, .string x.left.attr, .int .i64 x.left.vk, .int .i64 x.left.vn, .string x.left.vs, .string x.right.var, .string x.right.attr, .int .i64 x.right.vk, .int .i64 x.right.vn, .string x.right.vs] 25 (0, 0)) := by
        rw [hV, hQ]
        have := heap_alloc_new (wr.alloc (.cells #[.string x.left.var, .string x.left.attr, .int .i64 x.left.vk, .int .i64 x.left.vn, .string x.left.vs, .int .i64 x.rel, .string x.right.var, .string x.right.attr, .int .i64 x.right.vk, .int .i64 x.right.vn, .string x.right.vs] 27)) (.cells #[.string x.left.var, .string x.left.attr, .int .i64 x.left.vk, .int .i64 x.left.vn, .string x.left.vs, .string x.right.var, .string x.right.attr, .int .i64 x.right.vk, .int .i64 x.right.vn, .string x.right.vs] 25)
        simpa using this
      have HVC := Lib.hid (fun (u : World) (hu : Below V.heap.size V u) => cell_of_eleven ((hu.block Q (lt_of_block hq0)).trans hq0))
      have HVO := Lib.hid (fun (u : World) (hu : Below V.heap.size V u) => cell_of_ten ((hu.block (Q + 1) (lt_of_block hq1)).trans hq1))
      have HBV := Lib.hid hbV
      have HV := Lib.hid hV; have HQ := Lib.hid hQ
      have BV := Lib.hid (Below.refl V.heap.size V)
      clear hbV hq0 hq1 hV hQ
      go_wp2_with fail
      rw [← HV.out, ← HQ.out]
      clear d0 d1 d2 d3 d4 d5 d6 d7 d8 d9 d10
      go_loopw [27] (fun iv wr => (iv = .int .i64 0 ∨ iv = .int .i64 1 ∨ iv = .int .i64 2) ∧ Hid (Below V.heap.size V wr)) (fun iv _ => 2 - (intOf iv).toNat)
      case atStart => exact ⟨.inl rfl, BV⟩
      case round =>
        obtain ⟨hiv, HBi⟩ := hrel
        obtain ⟨f0, f1, f2, f3, f4, f5, f6, f7, f8, f9⟩ := HVO.out _ HBi.out
        rcases hiv with rfl | rfl | rfl
        · obtain ⟨Z, hZ⟩ : ∃ Z, Z = wr.heap.size := ⟨_, rfl⟩
          obtain ⟨Y, hY⟩ : ∃ Y, Y = wr.alloc (.cells #[.string x.left.var, .string x.left.attr, .int .i64 x.left.vk, .int .i64 x.left.vn, .string x.left.vs] 25) := ⟨_, rfl⟩
          have hy : Y.heap[Z]? = some (.cells #[.string x.left.var, .string x.left.attr, .int .i64 x.left.vk, .int .i64 x.left.vn, .string x.left.vs] 25 (0, 0)) := by rw [hY, hZ]; exact heap_alloc_new _ _
          have HYC := Lib.hid (fun (u : World) (hu : Below Y.heap.size Y u) => cell_of_five ((hu.block Z (lt_of_block hy)).trans hy))
          have HBY := Lib.hid (show Below V.heap.size V Y by rw [hY]; exact HBi.out.alloc HBi.out.size _)
          have HWY := Lib.hid (HBV.out.trans (HBY.out.mono HBV.out.size))
          have HY := Lib.hid hY; have HZ := Lib.hid hZ; have HZL := Lib.hid (lt_of_block hy); have HPY := Lib.hid (Nat.lt_of_lt_of_le HPL.out HWY.out.size)
          have hR : ∃ k n s b, resL (valL x.left bs) = .tuple #[.agg #[.int .i64 k, .int .i64 n, .string s], .bool b] := ⟨_, _, _, _, rfl⟩
          obtain ⟨qk, qn, qs, qb, hR⟩ := hR
          have G1 := Lib.hid (H1.out x.left); have G2 := Lib.hid (H2.out x.left)
          rw [hR] at G1 G2
          unfold opV at G1 G2
          have hne : ∀ w : World, (binOp .neq 23 (.agg #[.int .i64 qk, .int .i64 qn, .string qs]) (.agg #[.int .i64 qk, .int .i64 qn, .string qs])).run Try.prog w = .ok (.bool false) w := fun w => by rw [vNe_run, vEq_iff.2 ⟨rfl, rfl, rfl⟩]; rfl
          have hgd := fun (op : BinOp) (x y : Operand) (w : World) => vGuard op x y qk qn qs qk qn qs w
          have HNE := Lib.hid hne; have HGD := Lib.hid hgd
          have hbb : (qb != qb) = false := by simp
          have hpa := HXC.out wr (HBV.out.trans (HBi.out.mono HBV.out.size))
          have hla : P < wr.heap.size := Nat.lt_of_lt_of_le HPL.out (Nat.le_trans HBV.out.size HBi.out.size)
          have hlb : P ≠ wr.heap.size := Nat.ne_of_lt hla
          clear hR hY hZ hy hne hgd
          go_wp2_with fail
          rw [← HY.out, ← HZ.out]
          clear f0 f1 f2 f3 f4 f5 f6 f7 f8 f9 hpa hla hlb
          have hp := HXC.out _ HWY.out
          obtain ⟨e0, e1, e2, e3, e4⟩ := HYC.out _ (Below.refl _ _)
          go_wp2_with (go_at_call 13; (with_reducible refine (G1.out _ HWY.out).mono ?_); rintro e u1 ⟨rfl, hb⟩; have B1 := Lib.hid hb; clear hb hp e0 e1 e2 e3 e4; have hp := HXC.out _ (HWY.out.trans (B1.out.mono HWY.out.size)); obtain ⟨e0, e1, e2, e3, e4⟩ := HYC.out _ B1.out; have l0 := Nat.lt_of_lt_of_le HZL.out B1.out.size; have l1 := Nat.lt_of_lt_of_le HPY.out B1.out.size; have l2 := Nat.ne_of_lt l0; have l3 := Nat.ne_of_lt l1)
          have HA1 := Lib.hid (B1.out.alloc B1.out.size (.cells #[.int .i64 qk, .int .i64 qn, .string qs] 23))
          have HV1 := Lib.hid (show Val3 u1.heap.size qk qn qs (u1.alloc (.cells #[.int .i64 qk, .int .i64 qn, .string qs] 23)) from heap_alloc_new _ _)
          go_wp2_with (go_at_call 14; (with_reducible refine (G2.out _ (HWY.out.trans (HA1.out.mono HWY.out.size))).mono ?_); rintro e u2 ⟨rfl, hb⟩; have B3 := Lib.hid (HA1.out.trans (hb.mono HA1.out.size)); have HV3 := Lib.hid (show Val3 u1.heap.size _ _ _ u2 from (hb.block _ HV1.out.cells.2.1).trans HV1.out); clear hb hp e0 e1 e2 e3 e4 l0 l1 l2 l3; obtain ⟨⟨y0, y1, y2⟩, m0, m1⟩ := HV3.out.cells; have hne := HNE.out; have hgd := HGD.out)
          have HB9 := Lib.hid (HBY.out.trans ((B3.out.alloc B3.out.size (.cells #[.int .i64 qk, .int .i64 qn, .string qs] 23)).mono HBY.out.size))
          go_wp2
          go_roundw
          all_goals first
            | exact ⟨.inr (.inl (by first | rfl | go_num)), HB9⟩
            | exact ⟨.inr (.inr (by first | rfl | go_num)), HB9⟩
            | (simp [intOf]; done)
            | decide
        · obtain ⟨Z, hZ⟩ : ∃ Z, Z = wr.heap.size := ⟨_, rfl⟩
          obtain ⟨Y, hY⟩ : ∃ Y, Y = wr.alloc (.cells #[.string x.right.var, .string x.right.attr, .int .i64 x.right.vk, .int .i64 x.right.vn, .string x.right.vs] 25) := ⟨_, rfl⟩
          have hy : Y.heap[Z]? = some (.cells #[.string x.right.var, .string x.right.attr, .int .i64 x.right.vk, .int .i64 x.right.vn, .string x.right.vs] 25 (0, 0)) := by rw [hY, hZ]; exact heap_alloc_new _ _
          have HYC := Lib.hid (fun (u : World) (hu : Below Y.heap.size Y u) => cell_of_five ((hu.block Z (lt_of_block hy)).trans hy))
          have HBY := Lib.hid (show Below V.heap.size V Y by rw [hY]; exact HBi.out.alloc HBi.out.size _)
          have HWY := Lib.hid (HBV.out.trans (HBY.out.mono HBV.out.size))
          have HY := Lib.hid hY; have HZ := Lib.hid hZ; have HZL := Lib.hid (lt_of_block hy); have HPY := Lib.hid (Nat.lt_of_lt_of_le HPL.out HWY.out.size)
          have hR : ∃ k n s b, resL (valL x.right bs) = .tuple #[.agg #[.int .i64 k, .int .i64 n, .string s], .bool b] := ⟨_, _, _, _, rfl⟩
          obtain ⟨qk, qn, qs, qb, hR⟩ := hR
          have G1 := Lib.hid (H1.out x.right); have G2 := Lib.hid (H2.out x.right)
          rw [hR] at G1 G2
          unfold opV at G1 G2
          have hne : ∀ w : World, (binOp .neq 23 (.agg #[.int .i64 qk, .int .i64 qn, .string qs]) (.agg #[.int .i64 qk, .int .i64 qn, .string qs])).run Try.prog w = .ok (.bool false) w := fun w => by rw [vNe_run, vEq_iff.2 ⟨rfl, rfl, rfl⟩]; rfl
          have hgd := fun (op : BinOp) (x y : Operand) (w : World) => vGuard op x y qk qn qs qk qn qs w
          have HNE := Lib.hid hne; have HGD := Lib.hid hgd
          have hbb : (qb != qb) = false := by simp
          have hpa := HXC.out wr (HBV.out.trans (HBi.out.mono HBV.out.size))
          have hla : P < wr.heap.size := Nat.lt_of_lt_of_le HPL.out (Nat.le_trans HBV.out.size HBi.out.size)
          have hlb : P ≠ wr.heap.size := Nat.ne_of_lt hla
          clear hR hY hZ hy hne hgd
          go_wp2_with fail
          rw [← HY.out, ← HZ.out]
          clear f0 f1 f2 f3 f4 f5 f6 f7 f8 f9 hpa hla hlb
          have hp := HXC.out _ HWY.out
          obtain ⟨e0, e1, e2, e3, e4⟩ := HYC.out _ (Below.refl _ _)
          go_wp2_with (go_at_call 13; (with_reducible refine (G1.out _ HWY.out).mono ?_); rintro e u1 ⟨rfl, hb⟩; have B1 := Lib.hid hb; clear hb hp e0 e1 e2 e3 e4; have hp := HXC.out _ (HWY.out.trans (B1.out.mono HWY.out.size)); obtain ⟨e0, e1, e2, e3, e4⟩ := HYC.out _ B1.out; have l0 := Nat.lt_of_lt_of_le HZL.out B1.out.size; have l1 := Nat.lt_of_lt_of_le HPY.out B1.out.size; have l2 := Nat.ne_of_lt l0; have l3 := Nat.ne_of_lt l1)
          have HA1 := Lib.hid (B1.out.alloc B1.out.size (.cells #[.int .i64 qk, .int .i64 qn, .string qs] 23))
          have HV1 := Lib.hid (show Val3 u1.heap.size qk qn qs (u1.alloc (.cells #[.int .i64 qk, .int .i64 qn, .string qs] 23)) from heap_alloc_new _ _)
          go_wp2_with (go_at_call 14; (with_reducible refine (G2.out _ (HWY.out.trans (HA1.out.mono HWY.out.size))).mono ?_); rintro e u2 ⟨rfl, hb⟩; have B3 := Lib.hid (HA1.out.trans (hb.mono HA1.out.size)); have HV3 := Lib.hid (show Val3 u1.heap.size _ _ _ u2 from (hb.block _ HV1.out.cells.2.1).trans HV1.out); clear hb hp e0 e1 e2 e3 e4 l0 l1 l2 l3; obtain ⟨⟨y0, y1, y2⟩, m0, m1⟩ := HV3.out.cells; have hne := HNE.out; have hgd := HGD.out)
          have HB9 := Lib.hid (HBY.out.trans ((B3.out.alloc B3.out.size (.cells #[.int .i64 qk, .int .i64 qn, .string qs] 23)).mono HBY.out.size))
          go_wp2
          go_roundw
          all_goals first
            | exact ⟨.inr (.inl (by first | rfl | go_num)), HB9⟩
            | exact ⟨.inr (.inr (by first | rfl | go_num)), HB9⟩
            | (simp [intOf]; done)
            | decide
        · obtain ⟨c0, c1, c2, c3, c4, c5, c6, c7, c8, c9, c10⟩ := HVC.out _ HBi.out
          have hp := HXC.out _ (HBV.out.trans (HBi.out.mono HBV.out.size))
          have BI := HBi
          have G3 := Lib.hid (H3.out x); have G4 := Lib.hid (H4.out x)
          unfold cdV at G3 G4
          generalize condB x bs = cb at G3 G4
          have hcb : (cb != cb) = false := by simp
          have hcc : (cb == cb) = true := by simp
          clear f0 f1 f2 f3 f4 f5 f6 f7 f8 f9 HBi
          go_wp2_with fail
          go_region_held3 (fun u => u.cell? ⟨Q, 0, none⟩ = some (.string x.left.var) ∧ u.cell? ⟨Q, 1, none⟩ = some (.string x.left.attr) ∧ u.cell? ⟨Q, 2, none⟩ = some (.int .i64 x.left.vk) ∧ u.cell? ⟨Q, 3, none⟩ = some (.int .i64 x.left.vn) ∧ u.cell? ⟨Q, 4, none⟩ = some (.string x.left.vs) ∧ u.cell? ⟨Q, 5, none⟩ = some (.int .i64 x.rel) ∧ u.cell? ⟨Q, 6, none⟩ = some (.string x.right.var) ∧ u.cell? ⟨Q, 7, none⟩ = some (.string x.right.attr) ∧ u.cell? ⟨Q, 8, none⟩ = some (.int .i64 x.right.vk) ∧ u.cell? ⟨Q, 9, none⟩ = some (.int .i64 x.right.vn) ∧ u.cell? ⟨Q, 10, none⟩ = some (.string x.right.vs) ∧ u.cell? ⟨P, 0, none⟩ = some (.slice ao n cap)) (first | exact ⟨c0, c1, c2, c3, c4, c5, c6, c7, c8, c9, c10, hp⟩ | go_keep)
            (first
              | (go_at_call 15; (with_reducible refine (G3.out _ (HBV.out.trans ((show Below V.heap.size V _ by first | exact BI.out | exact BI.out.drew).mono HBV.out.size))).mono ?_); rintro e u4 ⟨rfl, hb⟩; have BI := Lib.hid ((show Below V.heap.size V _ by first | exact BI.out | exact BI.out.drew).trans (hb.mono (by first | exact BI.out.size | exact BI.out.drew.size))); clear hb c0 c1 c2 c3 c4 c5 c6 c7 c8 c9 c10 hp; obtain ⟨c0, c1, c2, c3, c4, c5, c6, c7, c8, c9, c10⟩ := HVC.out _ BI.out; have hp := HXC.out _ (HBV.out.trans (BI.out.mono HBV.out.size)))
              | (go_at_call 16; (with_reducible refine (G4.out _ (HBV.out.trans ((show Below V.heap.size V _ by first | exact BI.out | exact BI.out.drew).mono HBV.out.size))).mono ?_); rintro e u4 ⟨rfl, hb⟩; have BI := Lib.hid ((show Below V.heap.size V _ by first | exact BI.out | exact BI.out.drew).trans (hb.mono (by first | exact BI.out.size | exact BI.out.drew.size))); clear hb c0 c1 c2 c3 c4 c5 c6 c7 c8 c9 c10 hp; obtain ⟨c0, c1, c2, c3, c4, c5, c6, c7, c8, c9, c10⟩ := HVC.out _ BI.out; have hp := HXC.out _ (HBV.out.trans (BI.out.mono HBV.out.size))))
          all_goals
            have HB9 := Lib.hid (HBV.out.trans (BI.out.mono HBV.out.size))
            go_wp2
            go_roundw
            all_goals first
              | exact ⟨k + 1, HLT.out, by go_num, HB9⟩
              | exact meas7 HLT.out
              | (rw [hls]; exact meas7 HLT.out)
    · obtain rfl : k = cl.length := by omega
      have hnl : ¬ ((cl.length : Int) < (cl.length : Int)) := by omega
      have BE := HBr
      have hp := HXC.out _ BE.out
      clear hlt hk HBr hc0
      go_wp2_with fail
      go_region_held3 (fun u => u.cell? ⟨P, 0, none⟩ = some (.slice ao n cap)) (first | exact hp | go_keep)
        (first
          | (go_at_call 17; (with_reducible refine (HA.out _ (by first | exact BE.out | exact BE.out.drew)).mono ?_); rintro e u4 ⟨rfl, hb⟩; have BE := Lib.hid ((show Below W.heap.size W _ by first | exact BE.out | exact BE.out.drew).trans (hb.mono (by first | exact BE.out.size | exact BE.out.drew.size))); clear hb hp; have hp := HXC.out _ BE.out)
          | (go_at_call 18; (with_reducible refine (HR.out _ (by first | exact BE.out | exact BE.out.drew)).mono ?_); rintro e u4 ⟨rfl, hb⟩; have BE := Lib.hid ((show Below W.heap.size W _ by first | exact BE.out | exact BE.out.drew).trans (hb.mono (by first | exact BE.out.size | exact BE.out.drew.size))); clear hb hp; have hp := HXC.out _ BE.out))
      all_goals go_wp2
      all_goals go_ret
      all_goals exact ⟨rfl, HB.out.trans (BE.out.mono HPW.out)⟩
end Go.Proofs.Ytpbloplbpkedcaa
