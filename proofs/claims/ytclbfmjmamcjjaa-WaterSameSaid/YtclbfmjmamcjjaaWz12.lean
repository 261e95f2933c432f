/- The walk of WaterDoes. Written by wip/genwz12.py. -/
import Derived.Test.YtclbfmjmamcjjaaWi12
namespace Go.Proofs.Ytclbfmjmamcjjaa
open Go Go.RowKit

theorem RwIs.turn2 {w w' : World} {q p p' : Nat} {ms : List Int} (h : RwIs w q p ms) (h' : RwIs w q p' ms) (hc : Chg (fun b => b = p) w w') : RwIs w' q p' ms := by
  obtain ⟨g, c, h1, h2, h3, h4⟩ := h.row
  obtain ⟨g', c', k1, k2, k3, k4⟩ := h'.row
  rw [h1] at k1
  simp only [Option.some.injEq, Obj.cells.injEq, Array.mk.injEq, List.cons.injEq, Value.slice.injEq, Addr.mk.injEq, and_true, true_and] at k1
  obtain ⟨rfl, rfl⟩ := k1
  exact ⟨h.k0, h.k12, h.may, h'.qp, g, c, (hc.block q h.lt h.qp).trans h1, h2.turn hc h3, k3, h4⟩
/-- Between two operations of a script: the program's marks ns in the block p, the document's ms in the block q. -/
structure D12 (W : World) (p q : Nat) (ns ms : List Int) (u : World) : Prop where
  below : Below W.heap.size W u
  hp : W.heap.size ≤ p
  hq : W.heap.size ≤ q
  pm : WtIs u p ns
  dm : RwIs u q p ms
theorem D12.call {W : World} {p q : Nat} {ns ms : List Int} {u u' : World} (h : D12 W p q ns ms u) (hb : Below u.heap.size u u') : D12 W p q ns ms u' :=
  ⟨h.below.trans (hb.mono h.below.size), h.hp, h.hq, h.pm.below hb, h.dm.call hb⟩
theorem D12.drewN {W : World} {p q : Nat} {ns ms : List Int} {u : World} (h : D12 W p q ns ms u) (n : Nat) : D12 W p q ns ms (u.drewN n) := ⟨Below.drewN' h.below n, h.hp, h.hq, h.pm.drewN n, h.dm.drewN n⟩
theorem D12.markP {W : World} {p q : Nat} {ns ns' ms : List Int} {u u' : World} (h : D12 W p q ns ms u) (hc : Chg (fun b => b = p) u u') (hi : WtIs u' p ns') : D12 W p q ns' ms u' :=
  ⟨h.below.trans (hc.below h.below.size (fun k hk => by rw [hk]; exact h.hp)), h.hp, h.hq, hi, h.dm.turn hc⟩
theorem D12.markQ {W : World} {p q : Nat} {ns ms ms' : List Int} {u u' : World} (h : D12 W p q ns ms u) (hc : Chg (fun b => b = q) u u') (hi : RwIs u' q p ms') : D12 W p q ns ms' u' :=
  ⟨h.below.trans (hc.below h.below.size (fun k hk => by rw [hk]; exact h.hq)), h.hp, h.hq, h.pm.chg hc (fun e => h.dm.qp e.symm), hi⟩
/-- In its clone, while the old marks p go on their own way. -/
structure D12c (W : World) (p p' q : Nat) (ns ms : List Int) (u : World) : Prop where
  old : WtIs u p ns
  dold : RwIs u q p ms
  now : D12 W p' q ns ms u
  hp : W.heap.size ≤ p
  ne : p' ≠ p
theorem D12.clone {W : World} {p q : Nat} {ns ms : List Int} {u u' : World} (h : D12 W p q ns ms u) (hb : Below u.heap.size u u') (hi : WtIs u' u.heap.size ns) : D12c W p u.heap.size q ns ms u' :=
  ⟨h.pm.below hb, h.dm.call hb, ⟨h.below.trans (hb.mono h.below.size), h.below.size, h.hq, hi, (h.dm.other (Nat.le_refl _)).call hb⟩, h.hp, fun e => by have := h.pm.lt; omega⟩
theorem D12c.drewN {W : World} {p p' q : Nat} {ns ms : List Int} {u : World} (h : D12c W p p' q ns ms u) (n : Nat) : D12c W p p' q ns ms (u.drewN n) := ⟨h.old.drewN n, h.dold.drewN n, h.now.drewN n, h.hp, h.ne⟩
theorem D12c.mark {W : World} {p p' q : Nat} {ns ms : List Int} {u u' : World} (h : D12c W p p' q ns ms u) (hc : Chg (fun b => b = p) u u') : D12 W p' q ns ms u' :=
  ⟨h.now.below.trans (hc.below h.now.below.size (fun k hk => by rw [hk]; exact h.hp)), h.now.hp, h.now.hq, h.now.pm.chg hc h.ne, h.dold.turn2 h.now.dm hc⟩

set_option maxRecDepth 100000 in
set_option maxHeartbeats 6400000 in
theorem does_walk (inputs window end_ : Int) (given : Bool) (vf v : Value) (from_ : List Int) (xs : List Op12) (W : World) (hf : Nv W W.heap.size vf from_) (hx : Pv W W.heap.size v xs) :
    Calls Try.prog 3 #[.int .i64 inputs, vf, .bool given, v, .int .i64 window, .int .i64 end_] W fun e w' => e = .returned (.bool true) ∧ Below W.heap.size W w' := by
  obtain ⟨ao, cap, rfl, hcap, hcap2, hrow⟩ := hx.row
  obtain ⟨fo, fc, rfl, _⟩ := hf.row
  obtain ⟨B, hB⟩ : ∃ B, B = W.heap.size := ⟨_, rfl⟩
  obtain ⟨N, hN⟩ : ∃ N, N = xs.length := ⟨_, rfl⟩
  obtain ⟨M, hM⟩ : ∃ M, M = from_.length := ⟨_, rfl⟩
  have hlen := hx.len
  rw [← hN] at hlen hcap ⊢
  rw [← hM] at hf ⊢
  have HF : Hid (∀ u, Below B W u → Nv u u.heap.size (.slice fo M fc) from_) := fun u hb => by
    refine ⟨hf.len, hf.wf, ?_⟩
    obtain ⟨a, c, h1, h2, h3, h4⟩ := hf.row
    refine ⟨a, c, h1, h2, h3, fun h0 => ?_⟩
    obtain ⟨b, o, e, hb1, hc⟩ := h4 h0
    exact ⟨b, o, e, Nat.lt_of_lt_of_le hb1 (by rw [← hB]; have := hb.size; omega), fun j hj => (hb.cell (p := ⟨b, o + j, none⟩) (show b < B by rw [hB]; exact hb1)).trans (hc j hj)⟩
  have HB := Lib.hid hB; have HN := Lib.hid hN; have HROW := Lib.hid hrow
  have HL63 : Hid (N ≤ 9223372036854775807) := Lib.hid (by omega)
  clear hx hrow hB hN hcap hcap2 hlen hf hM
  cases given with
  | false =>
    cases hnb : newB inputs with
    | false =>
      have HC0 := Lib.hid (wNew_err inputs hnb W)
      have HC1 := Lib.hid (r12New_err inputs hnb W)
      clear hnb
      have HB0 : Hid (Below B W W) := Lib.hid (Below.refl _ _)
      go_enter Try.func3, Try.ntmps3
      go_wp2_with (first | (go_at_call 7; (with_reducible refine HC0.out.mono ?_); rintro e w1 ⟨rfl, rfl⟩) | (go_at_call 8; (with_reducible refine HC1.out.mono ?_); rintro e w1 ⟨rfl, rfl⟩) | fail)
      go_wp2_with (go_at_call 11; (with_reducible refine (begun12_any _).mono ?_); rintro e w9 ⟨rfl, hb⟩; have HZ := Lib.hid (HB0.out.trans (hb.mono (by have := HB0.out.size; rw [HB.out]; exact this))); clear hb)
      go_ret
      exact ⟨rfl, by rw [← HB.out]; exact HZ.out⟩
    | true =>
      obtain ⟨h1, h2⟩ : 1 ≤ inputs ∧ inputs ≤ 12 := by unfold newB at hnb; rw [Bool.and_eq_true, decide_eq_true_iff, decide_eq_true_iff] at hnb; exact hnb
      obtain ⟨n, rfl⟩ : ∃ n : Nat, inputs = (n : Int) := ⟨inputs.toNat, by omega⟩
      have HC0 := Lib.hid (wNew_ok n (by omega) (by omega) W)
      have HC1 := Lib.hid (fun u p (hp : p < u.heap.size) => r12New_ok n p (by omega) (by omega) u hp)
      clear h1 h2 hnb
      go_enter Try.func3, Try.ntmps3
      go_wp2_with fail
      (with_reducible refine HC0.out.mono ?_)
      rw [← HB.out]
      rintro e w1 ⟨rfl, hi1, hb1⟩
      have H1 := Lib.hid hi1; have B1 := Lib.hid hb1
      clear hi1 hb1
      go_wp2_with fail
      (with_reducible refine (HC1.out _ B H1.out.lt).mono ?_)
      rintro e w2 ⟨q, rfl, hi2, hq2, hb2⟩
      have HD0 : Hid (D12 W B q (List.replicate n 0) (List.replicate n 0) w2) := by
        have hs := B1.out.size
        exact Lib.hid ⟨by rw [← HB.out]; exact B1.out.trans (hb2.mono (by rw [HB.out]; exact hs)), by rw [HB.out]; exact Nat.le_refl _, Nat.le_trans hs hq2, H1.out.below hb2, hi2⟩
      clear hi2 hq2 hb2 HC0 HC1
      have HB0 : Hid (Below B W w2) := by rw [HB.out]; exact HD0.out.below
      go_wp2_with (go_at_call 11; (with_reducible refine (begun12_any _).mono ?_); rintro e w9 ⟨rfl, hb⟩; have HS := Lib.hid (HD0.out.call hb); clear hb HD0)
      go_loopw [13, 63] (fun wv iv wr => ∃ (p k : Nat) (ms : List Int), k ≤ N ∧ wv = .pointer (some ⟨p, 0, none⟩) ∧ iv = .int .i64 (k : Int) ∧ Hid (D12 W p q ms ms wr)) (fun _ iv _ => N - (intOf iv).toNat)
      case atStart => exact ⟨_, 0, _, Nat.zero_le _, rfl, rfl, HS⟩
      case round =>
        obtain ⟨p, k, ms, hk, rfl, rfl, HR⟩ := hrel
        by_cases hlt : k < N
        · obtain ⟨b, o, rfl, hb, hcell⟩ := HROW.out (by have := HN.out; omega)
          obtain ⟨x, hx⟩ : ∃ x, x = xs[k]! := ⟨_, rfl⟩
          obtain ⟨a0, a1, a2⟩ := three_cells (w := wr) (b := b) (o := o) (k := k) (x := x) (fun i u hu => (HR.out.below.cell hb).trans (hcell k (by have := HN.out; omega) i u (by rw [← hx]; exact hu)))
          obtain ⟨ns, hns⟩ : ∃ ns, ns = mkL ms x.inp x.t := ⟨_, rfl⟩
          obtain ⟨er, her⟩ : ∃ er, er = mkErr ms x.inp x.t := ⟨_, rfl⟩
          obtain ⟨rz, hrz⟩ : ∃ rz, rz = decide (minI ms < minI ns) := ⟨_, rfl⟩
          have HM := Lib.hid (fun u P (h : WtIs u P ms) => wMark_any P ms x.inp x.t u h)
          have HM' := Lib.hid (fun u P (h : RwIs u q P ms) (hp : P < u.heap.size) => r12Mark_any q P ms x.inp x.t u h hp)
          rw [← hns, ← her, ← hrz] at HM HM'
          have HE := Lib.hid (fun u P (h : WtIs u P ns) (h' : RwIs u q P ns) => equal12_any P q ns window end_ u h h')
          have HSM := Lib.hid (fun u P P' (h : WtIs u P ms) (h' : WtIs u P' ms) => wSame_any P P' ms ms u h h')
          rw [show decide (ms = ms) = true from decide_eq_true rfl] at HSM
          have HCL := Lib.hid (fun u (h : WtIs u p ms) => wClone_any p ms u h)
          have e1 : IntKind.i64.wrap ((k : Int) + 1) = (k : Int) + 1 := IntWalk.i64_in _ (by have := HL63.out; omega)
          obtain ⟨P, hP⟩ : ∃ P, P = wr.heap.size := ⟨_, rfl⟩
          obtain ⟨u0, hu0⟩ : ∃ u, u = wr.alloc (.cells #[.int .i64 x.inp, .int .i64 x.t, .bool x.cl] 35) := ⟨_, rfl⟩
          have HA : Hid (D12 W p q ms ms u0) := by rw [hu0]; exact Lib.hid (HR.out.call ((Below.refl _ _).alloc (Nat.le_refl _) _))
          have HX : Hid (BoxAt u0 P x) := by rw [hu0, hP]; exact heap_alloc_new wr _
          have HPP : Hid (P ≠ p) := by have := HR.out.pm.lt; unfold Hid; omega
          have HPQ : Hid (P ≠ q) := by have := HR.out.dm.lt; unfold Hid; omega
          have hbw : b ≠ wr.heap.size := by have := HR.out.below.size; omega
          have hkz : (0 : Int) ≤ (k : Int) := by omega
          obtain ⟨b0, b1, b2⟩ := HX.out.cells
          cases hcl : x.cl with
          | true =>
            rw [hcl] at a2 b2 hu0
            clear hcell hx hb hns her hrz hcl
            go_wp2_with fail
            rw [← hu0, ← hP]
            clear hu0 hP hbw a0 a1 a2
            go_wp2_with fail
            (with_reducible refine (HCL.out _ HA.out.pm).mono ?_)
            rintro e w3 ⟨rfl, hi, hb⟩
            have HC3 := Lib.hid (HA.out.clone hb hi)
            have HX3 := Lib.hid (HX.out.call hb)
            have HPP3 : Hid (P ≠ u0.heap.size) := by have := lt_of_block HX.out; unfold Hid; omega
            generalize u0.heap.size = p' at HC3 HPP3 ⊢
            clear hi hb b0 b1 b2
            obtain ⟨b0, b1, b2⟩ := HX3.out.cells
            go_wp2_with (go_at_call 13; (with_reducible refine (QC.one (HSM.out _ _ _ HC3.out.now.pm HC3.out.old)).mono ?_); rintro e w4 ⟨rfl, n1, hw4⟩; have HC4 : Hid (D12c W p p' q ms ms w4) := (by rw [hw4]; exact HC3.out.drewN n1); have HX4 : Hid (BoxAt w4 P x) := (by rw [hw4]; exact HX3.out); clear hw4 b0 b1 b2; obtain ⟨b0, b1, b2⟩ := HX4.out.cells)
            (with_reducible refine (HM.out _ _ HC4.out.old).mono ?_)
            rintro e w5 ⟨rfl, hi, hc⟩
            have HD5 := Lib.hid (HC4.out.mark hc)
            have HX5 := Lib.hid (HX4.out.turn hc HPP.out)
            clear hi hc b0 b1 b2
            obtain ⟨b0, b1, b2⟩ := HX5.out.cells
            go_wp2_with fail
            (with_reducible refine (HM.out _ _ HD5.out.pm).mono ?_)
            rintro e w6 ⟨rfl, hi, hc⟩
            have HD6 := Lib.hid (HD5.out.markP hc hi)
            have HX6 := Lib.hid (HX5.out.turn hc HPP3.out)
            clear hi hc b0 b1 b2
            obtain ⟨b0, b1, b2⟩ := HX6.out.cells
            go_wp2_with fail
            (with_reducible refine (HM'.out _ _ HD6.out.dm HD6.out.pm.lt).mono ?_)
            rintro e w7 ⟨rfl, hi, hc⟩
            have HD7 := Lib.hid (HD6.out.markQ hc hi)
            clear hi hc b0 b1 b2
            go_wp2_with (go_at_call 16; (with_reducible refine (HE.out _ _ HD7.out.pm HD7.out.dm).mono ?_); rintro e w8 ⟨rfl, hb⟩; have HD8 := Lib.hid (HD7.out.call hb); clear hb)
            go_roundw
            case rel => exact ⟨_, k + 1, _, by omega, rfl, by go_num, HD8⟩
            case measure => simp [intOf]; omega
          | false =>
            rw [hcl] at a2 b2 hu0
            clear hcell hx hb hns her hrz hcl
            go_wp2_with fail
            rw [← hu0, ← hP]
            clear hu0 hP hbw a0 a1 a2
            go_wp2_with fail
            (with_reducible refine (HM.out _ _ HA.out.pm).mono ?_)
            rintro e w6 ⟨rfl, hi, hc⟩
            have HD6 := Lib.hid (HA.out.markP hc hi)
            have HX6 := Lib.hid (HX.out.turn hc HPP.out)
            clear hi hc b0 b1 b2
            obtain ⟨b0, b1, b2⟩ := HX6.out.cells
            go_wp2_with fail
            (with_reducible refine (HM'.out _ _ HD6.out.dm HD6.out.pm.lt).mono ?_)
            rintro e w7 ⟨rfl, hi, hc⟩
            have HD7 := Lib.hid (HD6.out.markQ hc hi)
            clear hi hc b0 b1 b2
            go_wp2_with (go_at_call 16; (with_reducible refine (HE.out _ _ HD7.out.pm HD7.out.dm).mono ?_); rintro e w8 ⟨rfl, hb⟩; have HD8 := Lib.hid (HD7.out.call hb); clear hb)
            go_roundw
            case rel => exact ⟨_, k + 1, _, by omega, rfl, by go_num, HD8⟩
            case measure => simp [intOf]; omega
        · have HE := Lib.hid (equal12_any p q ms window end_ wr HR.out.pm HR.out.dm)
          go_wp2_with (go_at_call 16; (with_reducible refine HE.out.mono ?_); rintro e w8 ⟨rfl, hb⟩; have HD8 := Lib.hid (HR.out.call hb); clear hb)
          go_ret
          exact ⟨rfl, HD8.out.below⟩
  | true =>
    cases hnb : newB inputs with
    | false =>
      have HC0 := Lib.hid (wNew_err inputs hnb W)
      have HC1 := Lib.hid (r12New_err inputs hnb W)
      clear hnb
      have HB0 : Hid (Below B W W) := Lib.hid (Below.refl _ _)
      go_enter Try.func3, Try.ntmps3
      go_wp2_with (first | (go_at_call 7; (with_reducible refine HC0.out.mono ?_); rintro e w1 ⟨rfl, rfl⟩) | (go_at_call 8; (with_reducible refine HC1.out.mono ?_); rintro e w1 ⟨rfl, rfl⟩) | fail)
      cases hok : okF from_ with
      | false =>
        have HG0 := Lib.hid (wFrom_any _ _ from_ W (HF.out _ HB0.out) (Nat.le_refl _))
        have HG1 := Lib.hid (fun u (h : Nv u u.heap.size (.slice fo M fc) from_) => r12From_any _ _ from_ u h (Nat.le_refl _))
        rw [hok] at HG0 HG1
        clear hok
        go_wp2_with fail
        (with_reducible refine HG0.out.mono ?_)
        rintro e w3 ⟨(⟨h, _⟩ | ⟨_, rfl⟩), hb3⟩
        case inl => cases h
        have HBL : Hid (B ≤ W.heap.size) := by have := HB0.out.size; rw [HB.out]; exact this
        have B3 := Lib.hid (HB0.out.trans (hb3.mono HBL.out))
        clear hb3
        go_wp2_with fail
        (with_reducible refine (HG1.out _ (HF.out _ B3.out)).mono ?_)
        rintro e w4 ⟨(⟨h, _⟩ | ⟨_, rfl⟩), hb4⟩
        case inl => cases h
        have B4 := Lib.hid (B3.out.trans (hb4.mono (by have := B3.out.size; rw [HB.out]; exact this)))
        clear HG0 HG1 hb4
        go_wp2_with (go_at_call 11; (with_reducible refine (begun12_any _).mono ?_); rintro e w9 ⟨rfl, hb⟩; have HZ := Lib.hid (B4.out.trans (hb.mono (by have := B4.out.size; rw [HB.out]; exact this))); clear hb)
        go_ret
        exact ⟨rfl, by rw [← HB.out]; exact HZ.out⟩
      | true =>
        have HG0 := Lib.hid (wFrom_any _ _ from_ W (HF.out _ HB0.out) (Nat.le_refl _))
        have HG1 := Lib.hid (fun u (h : Nv u u.heap.size (.slice fo M fc) from_) => r12From_any _ _ from_ u h (Nat.le_refl _))
        rw [hok] at HG0 HG1
        clear hok
        go_wp2_with fail
        (with_reducible refine HG0.out.mono ?_)
        rintro e w3 ⟨(⟨_, rfl, hi3⟩ | ⟨h, _⟩), hb3⟩
        case inr => cases h
        have HBL : Hid (B ≤ W.heap.size) := by have := HB0.out.size; rw [HB.out]; exact this
        have B3 := Lib.hid (HB0.out.trans (hb3.mono HBL.out))
        have H3 := Lib.hid hi3
        clear hi3 hb3
        obtain ⟨P0, hP0⟩ : ∃ P0, P0 = W.heap.size := ⟨_, rfl⟩
        have HBW : Hid (W.heap.size ≤ P0) := by rw [hP0]; have := HBL.out; have := HB.out; unfold Hid; omega
        rw [← hP0] at H3 ⊢
        clear hP0
        go_wp2_with fail
        (with_reducible refine (HG1.out _ (HF.out _ B3.out)).mono ?_)
        rintro e w4 ⟨(⟨_, q, rfl, hi4, hq4⟩ | ⟨h, _⟩), hb4⟩
        case inr => cases h
        have HD4 : Hid (D12 W P0 q from_ from_ w4) := by
          have hs := B3.out.size
          exact Lib.hid ⟨by rw [← HB.out]; exact B3.out.trans (hb4.mono (by rw [HB.out]; exact hs)), HBW.out, Nat.le_trans hs hq4, H3.out.below hb4, hi4 _ H3.out.lt⟩
        clear hi4 hq4 hb4 HG0 HG1
        go_wp2_with (go_at_call 11; (with_reducible refine (begun12_any _).mono ?_); rintro e w9 ⟨rfl, hb⟩; have HS := Lib.hid (HD4.out.call hb); clear hb HD4)
        go_loopw [13, 63] (fun wv iv wr => ∃ (p k : Nat) (ms : List Int), k ≤ N ∧ wv = .pointer (some ⟨p, 0, none⟩) ∧ iv = .int .i64 (k : Int) ∧ Hid (D12 W p q ms ms wr)) (fun _ iv _ => N - (intOf iv).toNat)
        case atStart => exact ⟨_, 0, _, Nat.zero_le _, rfl, rfl, HS⟩
        case round =>
          obtain ⟨p, k, ms, hk, rfl, rfl, HR⟩ := hrel
          by_cases hlt : k < N
          · obtain ⟨b, o, rfl, hb, hcell⟩ := HROW.out (by have := HN.out; omega)
            obtain ⟨x, hx⟩ : ∃ x, x = xs[k]! := ⟨_, rfl⟩
            obtain ⟨a0, a1, a2⟩ := three_cells (w := wr) (b := b) (o := o) (k := k) (x := x) (fun i u hu => (HR.out.below.cell hb).trans (hcell k (by have := HN.out; omega) i u (by rw [← hx]; exact hu)))
            obtain ⟨ns, hns⟩ : ∃ ns, ns = mkL ms x.inp x.t := ⟨_, rfl⟩
            obtain ⟨er, her⟩ : ∃ er, er = mkErr ms x.inp x.t := ⟨_, rfl⟩
            obtain ⟨rz, hrz⟩ : ∃ rz, rz = decide (minI ms < minI ns) := ⟨_, rfl⟩
            have HM := Lib.hid (fun u P (h : WtIs u P ms) => wMark_any P ms x.inp x.t u h)
            have HM' := Lib.hid (fun u P (h : RwIs u q P ms) (hp : P < u.heap.size) => r12Mark_any q P ms x.inp x.t u h hp)
            rw [← hns, ← her, ← hrz] at HM HM'
            have HE := Lib.hid (fun u P (h : WtIs u P ns) (h' : RwIs u q P ns) => equal12_any P q ns window end_ u h h')
            have HSM := Lib.hid (fun u P P' (h : WtIs u P ms) (h' : WtIs u P' ms) => wSame_any P P' ms ms u h h')
            rw [show decide (ms = ms) = true from decide_eq_true rfl] at HSM
            have HCL := Lib.hid (fun u (h : WtIs u p ms) => wClone_any p ms u h)
            have e1 : IntKind.i64.wrap ((k : Int) + 1) = (k : Int) + 1 := IntWalk.i64_in _ (by have := HL63.out; omega)
            obtain ⟨P, hP⟩ : ∃ P, P = wr.heap.size := ⟨_, rfl⟩
            obtain ⟨u0, hu0⟩ : ∃ u, u = wr.alloc (.cells #[.int .i64 x.inp, .int .i64 x.t, .bool x.cl] 35) := ⟨_, rfl⟩
            have HA : Hid (D12 W p q ms ms u0) := by rw [hu0]; exact Lib.hid (HR.out.call ((Below.refl _ _).alloc (Nat.le_refl _) _))
            have HX : Hid (BoxAt u0 P x) := by rw [hu0, hP]; exact heap_alloc_new wr _
            have HPP : Hid (P ≠ p) := by have := HR.out.pm.lt; unfold Hid; omega
            have HPQ : Hid (P ≠ q) := by have := HR.out.dm.lt; unfold Hid; omega
            have hbw : b ≠ wr.heap.size := by have := HR.out.below.size; omega
            have hkz : (0 : Int) ≤ (k : Int) := by omega
            obtain ⟨b0, b1, b2⟩ := HX.out.cells
            cases hcl : x.cl with
            | true =>
              rw [hcl] at a2 b2 hu0
              clear hcell hx hb hns her hrz hcl
              go_wp2_with fail
              rw [← hu0, ← hP]
              clear hu0 hP hbw a0 a1 a2
              go_wp2_with fail
              (with_reducible refine (HCL.out _ HA.out.pm).mono ?_)
              rintro e w3 ⟨rfl, hi, hb⟩
              have HC3 := Lib.hid (HA.out.clone hb hi)
              have HX3 := Lib.hid (HX.out.call hb)
              have HPP3 : Hid (P ≠ u0.heap.size) := by have := lt_of_block HX.out; unfold Hid; omega
              generalize u0.heap.size = p' at HC3 HPP3 ⊢
              clear hi hb b0 b1 b2
              obtain ⟨b0, b1, b2⟩ := HX3.out.cells
              go_wp2_with (go_at_call 13; (with_reducible refine (QC.one (HSM.out _ _ _ HC3.out.now.pm HC3.out.old)).mono ?_); rintro e w4 ⟨rfl, n1, hw4⟩; have HC4 : Hid (D12c W p p' q ms ms w4) := (by rw [hw4]; exact HC3.out.drewN n1); have HX4 : Hid (BoxAt w4 P x) := (by rw [hw4]; exact HX3.out); clear hw4 b0 b1 b2; obtain ⟨b0, b1, b2⟩ := HX4.out.cells)
              (with_reducible refine (HM.out _ _ HC4.out.old).mono ?_)
              rintro e w5 ⟨rfl, hi, hc⟩
              have HD5 := Lib.hid (HC4.out.mark hc)
              have HX5 := Lib.hid (HX4.out.turn hc HPP.out)
              clear hi hc b0 b1 b2
              obtain ⟨b0, b1, b2⟩ := HX5.out.cells
              go_wp2_with fail
              (with_reducible refine (HM.out _ _ HD5.out.pm).mono ?_)
              rintro e w6 ⟨rfl, hi, hc⟩
              have HD6 := Lib.hid (HD5.out.markP hc hi)
              have HX6 := Lib.hid (HX5.out.turn hc HPP3.out)
              clear hi hc b0 b1 b2
              obtain ⟨b0, b1, b2⟩ := HX6.out.cells
              go_wp2_with fail
              (with_reducible refine (HM'.out _ _ HD6.out.dm HD6.out.pm.lt).mono ?_)
              rintro e w7 ⟨rfl, hi, hc⟩
              have HD7 := Lib.hid (HD6.out.markQ hc hi)
              clear hi hc b0 b1 b2
              go_wp2_with (go_at_call 16; (with_reducible refine (HE.out _ _ HD7.out.pm HD7.out.dm).mono ?_); rintro e w8 ⟨rfl, hb⟩; have HD8 := Lib.hid (HD7.out.call hb); clear hb)
              go_roundw
              case rel => exact ⟨_, k + 1, _, by omega, rfl, by go_num, HD8⟩
              case measure => simp [intOf]; omega
            | false =>
              rw [hcl] at a2 b2 hu0
              clear hcell hx hb hns her hrz hcl
              go_wp2_with fail
              rw [← hu0, ← hP]
              clear hu0 hP hbw a0 a1 a2
              go_wp2_with fail
              (with_reducible refine (HM.out _ _ HA.out.pm).mono ?_)
              rintro e w6 ⟨rfl, hi, hc⟩
              have HD6 := Lib.hid (HA.out.markP hc hi)
              have HX6 := Lib.hid (HX.out.turn hc HPP.out)
              clear hi hc b0 b1 b2
              obtain ⟨b0, b1, b2⟩ := HX6.out.cells
              go_wp2_with fail
              (with_reducible refine (HM'.out _ _ HD6.out.dm HD6.out.pm.lt).mono ?_)
              rintro e w7 ⟨rfl, hi, hc⟩
              have HD7 := Lib.hid (HD6.out.markQ hc hi)
              clear hi hc b0 b1 b2
              go_wp2_with (go_at_call 16; (with_reducible refine (HE.out _ _ HD7.out.pm HD7.out.dm).mono ?_); rintro e w8 ⟨rfl, hb⟩; have HD8 := Lib.hid (HD7.out.call hb); clear hb)
              go_roundw
              case rel => exact ⟨_, k + 1, _, by omega, rfl, by go_num, HD8⟩
              case measure => simp [intOf]; omega
          · have HE := Lib.hid (equal12_any p q ms window end_ wr HR.out.pm HR.out.dm)
            go_wp2_with (go_at_call 16; (with_reducible refine HE.out.mono ?_); rintro e w8 ⟨rfl, hb⟩; have HD8 := Lib.hid (HR.out.call hb); clear hb)
            go_ret
            exact ⟨rfl, HD8.out.below⟩
    | true =>
      obtain ⟨h1, h2⟩ : 1 ≤ inputs ∧ inputs ≤ 12 := by unfold newB at hnb; rw [Bool.and_eq_true, decide_eq_true_iff, decide_eq_true_iff] at hnb; exact hnb
      obtain ⟨n, rfl⟩ : ∃ n : Nat, inputs = (n : Int) := ⟨inputs.toNat, by omega⟩
      have HC0 := Lib.hid (wNew_ok n (by omega) (by omega) W)
      have HC1 := Lib.hid (fun u p (hp : p < u.heap.size) => r12New_ok n p (by omega) (by omega) u hp)
      clear h1 h2 hnb
      go_enter Try.func3, Try.ntmps3
      go_wp2_with fail
      (with_reducible refine HC0.out.mono ?_)
      rw [← HB.out]
      rintro e w1 ⟨rfl, hi1, hb1⟩
      have H1 := Lib.hid hi1; have B1 := Lib.hid hb1
      clear hi1 hb1
      go_wp2_with fail
      (with_reducible refine (HC1.out _ B H1.out.lt).mono ?_)
      rintro e w2 ⟨q, rfl, hi2, hq2, hb2⟩
      have HD0 : Hid (D12 W B q (List.replicate n 0) (List.replicate n 0) w2) := by
        have hs := B1.out.size
        exact Lib.hid ⟨by rw [← HB.out]; exact B1.out.trans (hb2.mono (by rw [HB.out]; exact hs)), by rw [HB.out]; exact Nat.le_refl _, Nat.le_trans hs hq2, H1.out.below hb2, hi2⟩
      clear hi2 hq2 hb2 HC0 HC1
      have HB0 : Hid (Below B W w2) := by rw [HB.out]; exact HD0.out.below
      cases hok : okF from_ with
      | false =>
        have HG0 := Lib.hid (wFrom_any _ _ from_ w2 (HF.out _ HB0.out) (Nat.le_refl _))
        have HG1 := Lib.hid (fun u (h : Nv u u.heap.size (.slice fo M fc) from_) => r12From_any _ _ from_ u h (Nat.le_refl _))
        rw [hok] at HG0 HG1
        clear hok
        go_wp2_with fail
        (with_reducible refine HG0.out.mono ?_)
        rintro e w3 ⟨(⟨h, _⟩ | ⟨_, rfl⟩), hb3⟩
        case inl => cases h
        have HBL : Hid (B ≤ w2.heap.size) := by have := HB0.out.size; rw [HB.out]; exact this
        have B3 := Lib.hid (HB0.out.trans (hb3.mono HBL.out))
        clear hb3
        go_wp2_with fail
        (with_reducible refine (HG1.out _ (HF.out _ B3.out)).mono ?_)
        rintro e w4 ⟨(⟨h, _⟩ | ⟨_, rfl⟩), hb4⟩
        case inl => cases h
        have B4 := Lib.hid (B3.out.trans (hb4.mono (by have := B3.out.size; rw [HB.out]; exact this)))
        clear HG0 HG1 hb4
        go_wp2_with (go_at_call 11; (with_reducible refine (begun12_any _).mono ?_); rintro e w9 ⟨rfl, hb⟩; have HZ := Lib.hid (B4.out.trans (hb.mono (by have := B4.out.size; rw [HB.out]; exact this))); clear hb)
        go_ret
        exact ⟨rfl, by rw [← HB.out]; exact HZ.out⟩
      | true =>
        have HG0 := Lib.hid (wFrom_any _ _ from_ w2 (HF.out _ HB0.out) (Nat.le_refl _))
        have HG1 := Lib.hid (fun u (h : Nv u u.heap.size (.slice fo M fc) from_) => r12From_any _ _ from_ u h (Nat.le_refl _))
        rw [hok] at HG0 HG1
        clear hok
        go_wp2_with fail
        (with_reducible refine HG0.out.mono ?_)
        rintro e w3 ⟨(⟨_, rfl, hi3⟩ | ⟨h, _⟩), hb3⟩
        case inr => cases h
        have HBL : Hid (B ≤ w2.heap.size) := by have := HB0.out.size; rw [HB.out]; exact this
        have B3 := Lib.hid (HB0.out.trans (hb3.mono HBL.out))
        have H3 := Lib.hid hi3
        clear hi3 hb3
        obtain ⟨P0, hP0⟩ : ∃ P0, P0 = w2.heap.size := ⟨_, rfl⟩
        have HBW : Hid (W.heap.size ≤ P0) := by rw [hP0]; have := HBL.out; have := HB.out; unfold Hid; omega
        rw [← hP0] at H3 ⊢
        clear hP0
        go_wp2_with fail
        (with_reducible refine (HG1.out _ (HF.out _ B3.out)).mono ?_)
        rintro e w4 ⟨(⟨_, q, rfl, hi4, hq4⟩ | ⟨h, _⟩), hb4⟩
        case inr => cases h
        have HD4 : Hid (D12 W P0 q from_ from_ w4) := by
          have hs := B3.out.size
          exact Lib.hid ⟨by rw [← HB.out]; exact B3.out.trans (hb4.mono (by rw [HB.out]; exact hs)), HBW.out, Nat.le_trans hs hq4, H3.out.below hb4, hi4 _ H3.out.lt⟩
        clear hi4 hq4 hb4 HG0 HG1
        go_wp2_with (go_at_call 11; (with_reducible refine (begun12_any _).mono ?_); rintro e w9 ⟨rfl, hb⟩; have HS := Lib.hid (HD4.out.call hb); clear hb HD4)
        go_loopw [13, 63] (fun wv iv wr => ∃ (p k : Nat) (ms : List Int), k ≤ N ∧ wv = .pointer (some ⟨p, 0, none⟩) ∧ iv = .int .i64 (k : Int) ∧ Hid (D12 W p q ms ms wr)) (fun _ iv _ => N - (intOf iv).toNat)
        case atStart => exact ⟨_, 0, _, Nat.zero_le _, rfl, rfl, HS⟩
        case round =>
          obtain ⟨p, k, ms, hk, rfl, rfl, HR⟩ := hrel
          by_cases hlt : k < N
          · obtain ⟨b, o, rfl, hb, hcell⟩ := HROW.out (by have := HN.out; omega)
            obtain ⟨x, hx⟩ : ∃ x, x = xs[k]! := ⟨_, rfl⟩
            obtain ⟨a0, a1, a2⟩ := three_cells (w := wr) (b := b) (o := o) (k := k) (x := x) (fun i u hu => (HR.out.below.cell hb).trans (hcell k (by have := HN.out; omega) i u (by rw [← hx]; exact hu)))
            obtain ⟨ns, hns⟩ : ∃ ns, ns = mkL ms x.inp x.t := ⟨_, rfl⟩
            obtain ⟨er, her⟩ : ∃ er, er = mkErr ms x.inp x.t := ⟨_, rfl⟩
            obtain ⟨rz, hrz⟩ : ∃ rz, rz = decide (minI ms < minI ns) := ⟨_, rfl⟩
            have HM := Lib.hid (fun u P (h : WtIs u P ms) => wMark_any P ms x.inp x.t u h)
            have HM' := Lib.hid (fun u P (h : RwIs u q P ms) (hp : P < u.heap.size) => r12Mark_any q P ms x.inp x.t u h hp)
            rw [← hns, ← her, ← hrz] at HM HM'
            have HE := Lib.hid (fun u P (h : WtIs u P ns) (h' : RwIs u q P ns) => equal12_any P q ns window end_ u h h')
            have HSM := Lib.hid (fun u P P' (h : WtIs u P ms) (h' : WtIs u P' ms) => wSame_any P P' ms ms u h h')
            rw [show decide (ms = ms) = true from decide_eq_true rfl] at HSM
            have HCL := Lib.hid (fun u (h : WtIs u p ms) => wClone_any p ms u h)
            have e1 : IntKind.i64.wrap ((k : Int) + 1) = (k : Int) + 1 := IntWalk.i64_in _ (by have := HL63.out; omega)
            obtain ⟨P, hP⟩ : ∃ P, P = wr.heap.size := ⟨_, rfl⟩
            obtain ⟨u0, hu0⟩ : ∃ u, u = wr.alloc (.cells #[.int .i64 x.inp, .int .i64 x.t, .bool x.cl] 35) := ⟨_, rfl⟩
            have HA : Hid (D12 W p q ms ms u0) := by rw [hu0]; exact Lib.hid (HR.out.call ((Below.refl _ _).alloc (Nat.le_refl _) _))
            have HX : Hid (BoxAt u0 P x) := by rw [hu0, hP]; exact heap_alloc_new wr _
            have HPP : Hid (P ≠ p) := by have := HR.out.pm.lt; unfold Hid; omega
            have HPQ : Hid (P ≠ q) := by have := HR.out.dm.lt; unfold Hid; omega
            have hbw : b ≠ wr.heap.size := by have := HR.out.below.size; omega
            have hkz : (0 : Int) ≤ (k : Int) := by omega
            obtain ⟨b0, b1, b2⟩ := HX.out.cells
            cases hcl : x.cl with
            | true =>
              rw [hcl] at a2 b2 hu0
              clear hcell hx hb hns her hrz hcl
              go_wp2_with fail
              rw [← hu0, ← hP]
              clear hu0 hP hbw a0 a1 a2
              go_wp2_with fail
              (with_reducible refine (HCL.out _ HA.out.pm).mono ?_)
              rintro e w3 ⟨rfl, hi, hb⟩
              have HC3 := Lib.hid (HA.out.clone hb hi)
              have HX3 := Lib.hid (HX.out.call hb)
              have HPP3 : Hid (P ≠ u0.heap.size) := by have := lt_of_block HX.out; unfold Hid; omega
              generalize u0.heap.size = p' at HC3 HPP3 ⊢
              clear hi hb b0 b1 b2
              obtain ⟨b0, b1, b2⟩ := HX3.out.cells
              go_wp2_with (go_at_call 13; (with_reducible refine (QC.one (HSM.out _ _ _ HC3.out.now.pm HC3.out.old)).mono ?_); rintro e w4 ⟨rfl, n1, hw4⟩; have HC4 : Hid (D12c W p p' q ms ms w4) := (by rw [hw4]; exact HC3.out.drewN n1); have HX4 : Hid (BoxAt w4 P x) := (by rw [hw4]; exact HX3.out); clear hw4 b0 b1 b2; obtain ⟨b0, b1, b2⟩ := HX4.out.cells)
              (with_reducible refine (HM.out _ _ HC4.out.old).mono ?_)
              rintro e w5 ⟨rfl, hi, hc⟩
              have HD5 := Lib.hid (HC4.out.mark hc)
              have HX5 := Lib.hid (HX4.out.turn hc HPP.out)
              clear hi hc b0 b1 b2
              obtain ⟨b0, b1, b2⟩ := HX5.out.cells
              go_wp2_with fail
              (with_reducible refine (HM.out _ _ HD5.out.pm).mono ?_)
              rintro e w6 ⟨rfl, hi, hc⟩
              have HD6 := Lib.hid (HD5.out.markP hc hi)
              have HX6 := Lib.hid (HX5.out.turn hc HPP3.out)
              clear hi hc b0 b1 b2
              obtain ⟨b0, b1, b2⟩ := HX6.out.cells
              go_wp2_with fail
              (with_reducible refine (HM'.out _ _ HD6.out.dm HD6.out.pm.lt).mono ?_)
              rintro e w7 ⟨rfl, hi, hc⟩
              have HD7 := Lib.hid (HD6.out.markQ hc hi)
              clear hi hc b0 b1 b2
              go_wp2_with (go_at_call 16; (with_reducible refine (HE.out _ _ HD7.out.pm HD7.out.dm).mono ?_); rintro e w8 ⟨rfl, hb⟩; have HD8 := Lib.hid (HD7.out.call hb); clear hb)
              go_roundw
              case rel => exact ⟨_, k + 1, _, by omega, rfl, by go_num, HD8⟩
              case measure => simp [intOf]; omega
            | false =>
              rw [hcl] at a2 b2 hu0
              clear hcell hx hb hns her hrz hcl
              go_wp2_with fail
              rw [← hu0, ← hP]
              clear hu0 hP hbw a0 a1 a2
              go_wp2_with fail
              (with_reducible refine (HM.out _ _ HA.out.pm).mono ?_)
              rintro e w6 ⟨rfl, hi, hc⟩
              have HD6 := Lib.hid (HA.out.markP hc hi)
              have HX6 := Lib.hid (HX.out.turn hc HPP.out)
              clear hi hc b0 b1 b2
              obtain ⟨b0, b1, b2⟩ := HX6.out.cells
              go_wp2_with fail
              (with_reducible refine (HM'.out _ _ HD6.out.dm HD6.out.pm.lt).mono ?_)
              rintro e w7 ⟨rfl, hi, hc⟩
              have HD7 := Lib.hid (HD6.out.markQ hc hi)
              clear hi hc b0 b1 b2
              go_wp2_with (go_at_call 16; (with_reducible refine (HE.out _ _ HD7.out.pm HD7.out.dm).mono ?_); rintro e w8 ⟨rfl, hb⟩; have HD8 := Lib.hid (HD7.out.call hb); clear hb)
              go_roundw
              case rel => exact ⟨_, k + 1, _, by omega, rfl, by go_num, HD8⟩
              case measure => simp [intOf]; omega
          · have HE := Lib.hid (equal12_any p q ms window end_ wr HR.out.pm HR.out.dm)
            go_wp2_with (go_at_call 16; (with_reducible refine HE.out.mono ?_); rintro e w8 ⟨rfl, hb⟩; have HD8 := Lib.hid (HR.out.call hb); clear hb)
            go_ret
            exact ⟨rfl, HD8.out.below⟩
end Go.Proofs.Ytclbfmjmamcjjaa
