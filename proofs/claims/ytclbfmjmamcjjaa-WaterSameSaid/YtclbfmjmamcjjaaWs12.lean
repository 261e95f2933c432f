/- The walk of WaterSame. Written by wip/genws12.py. -/
import Derived.Test.YtclbfmjmamcjjaaWz12
namespace Go.Proofs.Ytclbfmjmamcjjaa
open Go Go.RowKit

/-- A pointer to marks that no call made: nil, or to a block that says 0 inputs. -/
def NoW (u : World) (x : Value) : Prop := x = .pointer none ∨ ∃ b, x = .pointer (some ⟨b, 0, none⟩) ∧ u.cell? ⟨b, 0, none⟩ = some (.int .i64 ((0 : Nat) : Int))
theorem NoW.made {u : World} {x : Value} (h : NoW u x) : ∀ n, Calls Try.prog 27 #[x] (u.drewN n) fun e w' => e = .returned (.bool false) ∧ u.drewN n = w' := fun n => by
  rcases h with rfl | ⟨b, rfl, hc⟩
  · exact wIsMade_nil _
  · exact wIsMade_any b 0 (u.drewN n) hc
/-- Marks that a call made, or that no call made, held against such as no call made. -/
theorem same_vx {u : World} {v x : Value} (hv : NoW u v ∨ ∃ p ms, v = .pointer (some ⟨p, 0, none⟩) ∧ WtIs u p ms) (hx : NoW u x) : QC 13 #[v, x] (.bool false) u := by
  rcases hv with hv | ⟨p, ms, rfl, hi⟩
  · exact wSame_not v x u hv.made
  · exact wSame_not2 p ms x u hi hx.made
theorem Nv.later {W u : World} {v : Value} {ms : List Int} (h : Nv W W.heap.size v ms) (hb : Below W.heap.size W u) : Nv u u.heap.size v ms := by
  refine ⟨h.len, h.wf, ?_⟩
  obtain ⟨a, c, h1, h2, h3, h4⟩ := h.row
  refine ⟨a, c, h1, h2, h3, fun h0 => ?_⟩
  obtain ⟨b, o, e, hb1, hc⟩ := h4 h0
  exact ⟨b, o, e, Nat.lt_of_lt_of_le hb1 hb.size, fun j hj => (hb.cell (p := ⟨b, o + j, none⟩) hb1).trans (hc j hj)⟩
theorem heap_alloc_at {w : World} {ob o : Obj} {q : Nat} (hq : q = w.heap.size) (h : ob = o) : (w.alloc o).heap[q]? = some ob := by
  subst hq h; exact heap_alloc_new w _
theorem QC.nth {f : Nat} {args : Array Value} {v : Value} {w : World} (h : QC f args v w) (n : Nat) : Calls Try.prog f args (w.drewN n) fun e w' => e = .returned v ∧ ∃ m, w' = w.drewN m := h n
theorem rowI_set (l : List Int) (k : Nat) (z : Int) : (rowI l).set k (.int .i64 z) = rowI (l.set k z) := by unfold rowI; rw [List.map_set]
theorem horI_01 : horI 0 1 = 0 := by decide
theorem far_0 : decide ((0 : Int) = 1099511627777) = false := by decide

set_option maxRecDepth 100000 in
set_option maxHeartbeats 6400000 in
theorem same12_walk (va vb : Value) (xa xb : List Int) (W : World) (ha : Nv W W.heap.size va xa) (hb : Nv W W.heap.size vb xb) :
    Calls Try.prog 6 #[va, vb] W fun e w' => e = .returned (.bool true) ∧ Below W.heap.size W w' := by
  obtain ⟨ao, ac, rfl, -⟩ := ha.row
  obtain ⟨bo, bc, rfl, -⟩ := hb.row
  have HA := Lib.hid (fun u (h : Below W.heap.size W u) => ha.later h)
  have HBB := Lib.hid (fun u (h : Below W.heap.size W u) => hb.later h)
  obtain ⟨M, hM⟩ : ∃ M, M = xa.length := ⟨_, rfl⟩
  obtain ⟨K, hK⟩ : ∃ K, K = xb.length := ⟨_, rfl⟩
  have HML := Lib.hid hM
  rw [← hM] at HA ⊢
  rw [← hK] at HBB ⊢
  clear ha hb hM hK
  cases hoa : okF xa with
  | false =>
    cases hob : okF xb with
    | false =>
      have HLW : Hid (Below W.heap.size W W) := Lib.hid (Below.refl _ _)
      go_enter Try.func6, Try.ntmps6
      have HG := Lib.hid (wFrom_any _ _ xa W (HA.out _ HLW.out) (Nat.le_refl _))
      rw [hoa] at HG
      go_wp2_with fail
      (with_reducible refine HG.out.mono ?_)
      rintro e w1 ⟨(⟨h, _⟩ | ⟨_, rfl⟩), hb⟩
      case inl => cases h
      have HLw1 := Lib.hid (HLW.out.trans (hb.mono HLW.out.size))
      have HSw1 := Lib.hid hb
      clear hb HG
      have HG := Lib.hid (wFrom_any _ _ xb w1 (HBB.out _ HLw1.out) (Nat.le_refl _))
      rw [hob] at HG
      go_wp2_with fail
      (with_reducible refine HG.out.mono ?_)
      rintro e w2 ⟨(⟨h, _⟩ | ⟨_, rfl⟩), hb⟩
      case inl => cases h
      have HLw2 := Lib.hid (HLw1.out.trans (hb.mono HLw1.out.size))
      have HSw2 := Lib.hid hb
      clear hb HG
      have HG := Lib.hid (r12From_any _ _ xa w2 (HA.out _ HLw2.out) (Nat.le_refl _))
      rw [hoa] at HG
      go_wp2_with fail
      (with_reducible refine HG.out.mono ?_)
      rintro e w3 ⟨(⟨h, _⟩ | ⟨_, rfl⟩), hb⟩
      case inl => cases h
      have HLw3 := Lib.hid (HLw2.out.trans (hb.mono HLw2.out.size))
      have HSw3 := Lib.hid hb
      clear hb HG
      have HG := Lib.hid (r12From_any _ _ xb w3 (HBB.out _ HLw3.out) (Nat.le_refl _))
      rw [hob] at HG
      go_wp2_with fail
      (with_reducible refine HG.out.mono ?_)
      rintro e w4 ⟨(⟨h, _⟩ | ⟨_, rfl⟩), hb⟩
      case inl => cases h
      have HLw4 := Lib.hid (HLw3.out.trans (hb.mono HLw3.out.size))
      have HSw4 := Lib.hid hb
      clear hb HG
      go_wp2_with (go_at_call 11; (with_reducible refine (begun12_any _).mono ?_); rintro e w5 ⟨rfl, hb⟩; have HS5 := Lib.hid hb; clear hb)
      obtain ⟨P0, hP0⟩ : ∃ P0, P0 = w5.heap.size := ⟨_, rfl⟩
      obtain ⟨u7, hu7⟩ : ∃ u7, u7 = (w5.alloc (.cells #[.int .i64 0, .int .i64 0, .int .i64 0, .int .i64 0, .int .i64 0, .int .i64 0, .int .i64 0, .int .i64 0, .int .i64 0, .int .i64 0, .int .i64 0, .int .i64 0, .int .i64 0] 50)).alloc (.cells #[.pointer none, .pointer (some ⟨w5.heap.size, 0, none⟩)] 24) := ⟨_, rfl⟩
      have HS7 : Hid (Below w5.heap.size w5 u7) := by rw [hu7]; exact Lib.hid (((Below.refl _ _).alloc (Nat.le_refl _) _).alloc (by simp) _)
      have HZ : Hid (∀ u, Below u7.heap.size u7 u → u.cell? ⟨P0, 0, none⟩ = some (.int .i64 ((0 : Nat) : Int))) := fun u hb => by
        have h1 : u7.heap[P0]? = some (.cells #[.int .i64 0, .int .i64 0, .int .i64 0, .int .i64 0, .int .i64 0, .int .i64 0, .int .i64 0, .int .i64 0, .int .i64 0, .int .i64 0, .int .i64 0, .int .i64 0, .int .i64 0] 50 (0, 0)) := by rw [hu7, hP0]; exact heap_alloc_keeps (heap_alloc_new w5 _) _
        rw [World.cell?_of_block (a := ⟨P0, 0, none⟩) (hb.block P0 (lt_of_block h1))]
        simp [World.cell?, h1]
      have HE : Hid (∀ u, Below u7.heap.size u7 u → u.cell? ⟨P0 + 1, 0, none⟩ = some (.pointer none) ∧ u.cell? ⟨P0 + 1, 1, none⟩ = some (.pointer (some ⟨P0, 0, none⟩))) := fun u hb => by
        have h1 : u7.heap[P0 + 1]? = some (.cells #[.pointer none, .pointer (some ⟨P0, 0, none⟩)] 24 (0, 0)) := by rw [hu7, hP0]; exact heap_alloc_at (by simp) rfl
        refine ⟨?_, ?_⟩
        · rw [World.cell?_of_block (a := ⟨P0 + 1, 0, none⟩) (hb.block (P0 + 1) (lt_of_block h1))]; simp [World.cell?, h1]
        · rw [World.cell?_of_block (a := ⟨P0 + 1, 1, none⟩) (hb.block (P0 + 1) (lt_of_block h1))]; simp [World.cell?, h1]
      rw [← hu7, ← hP0]
      clear hu7 hP0
      have HL5 := Lib.hid (HLw4.out.trans (HS5.out.mono HLw4.out.size))
      have HL7 := Lib.hid (HL5.out.trans (HS7.out.mono HL5.out.size))
      have HV : Hid (∀ u, Below u7.heap.size u7 u → NoW u (.pointer none) ∨ ∃ p ms, (.pointer none : Value) = .pointer (some ⟨p, 0, none⟩) ∧ WtIs u p ms) := fun u hb => by exact .inl (.inl rfl)
      go_loopw [55] (fun iv wr => ∃ k : Nat, k ≤ 2 ∧ iv = .int .i64 (k : Int) ∧ Hid (Below u7.heap.size u7 wr)) (fun iv _ => 2 - (intOf iv).toNat)
      case atStart => exact ⟨0, Nat.zero_le _, rfl, Lib.hid (Below.refl _ _)⟩
      case round =>
        obtain ⟨k, hk, rfl, HR⟩ := hrel
        by_cases hlt : k < 2
        · obtain ⟨x, hcx, hno⟩ : ∃ x, wr.cell? ⟨P0 + 1, k, none⟩ = some x ∧ NoW wr x := by
            match k, hlt with
            | 0, _ => exact ⟨_, (HE.out wr HR.out).1, .inl rfl⟩
            | 1, _ => exact ⟨_, (HE.out wr HR.out).2, .inr ⟨P0, rfl, HZ.out wr HR.out⟩⟩
          have hmg := wMerged_not x wr hno.made
          have D1 := Lib.hid (wMark_not x 0 1 wr (hno.made 0))
          have D2 := Lib.hid hmg
          have D3 := Lib.hid (fun n => wAt_not x 0 (wr.drewN n) (hno.made n))
          have D4 := Lib.hid (wHorizon_any x 0 1 wr (by decide) (by decide) hmg)
          have D5 := Lib.hid (fun n => wMarks_not x (wr.drewN n) (hno.made n))
          have D6 := Lib.hid (fun n => wLate_not x 0 5 (wr.drewN n) (hno.made n))
          have D7 := Lib.hid (wDone_any x 0 wr hmg)
          have D8 := Lib.hid (fun n => wClone_not x (wr.drewN n) (hno.made n))
          have D9 := Lib.hid (wSame_not x (.pointer none) wr hno.made)
          have D10 := Lib.hid (same_vx (HV.out wr HR.out) hno)
          rw [horI_01] at D4
          rw [far_0] at D7
          have hkz : (0 : Int) ≤ (k : Int) := by omega
          have hk2 : (k : Int) < 2 := by omega
          have e1 : IntKind.i64.wrap ((k : Int) + 1) = (k : Int) + 1 := IntWalk.i64_in _ (by omega)
          clear hno hmg
          go_wp2_with (first
            | (go_at_call 14; (with_reducible refine D1.out.mono ?_); rintro e w8 ⟨rfl, rfl⟩)
            | (go_at_call 18; (with_reducible refine (QC.one D2.out).mono ?_); rintro e w8 ⟨rfl, n1, rfl⟩)
            | (go_at_call 22; (with_reducible refine (D3.out _).mono ?_); rintro e w8 ⟨rfl, rfl⟩)
            | (go_at_call 19; (with_reducible refine (QC.nth D4.out _).mono ?_); rintro e w8 ⟨rfl, n1, rfl⟩)
            | (go_at_call 17; (with_reducible refine (D5.out _).mono ?_); rintro e w8 ⟨rfl, rfl⟩)
            | (go_at_call 20; (with_reducible refine (D6.out _).mono ?_); rintro e w8 ⟨rfl, rfl⟩)
            | (go_at_call 21; (with_reducible refine (QC.nth D7.out _).mono ?_); rintro e w8 ⟨rfl, n1, rfl⟩)
            | (go_at_call 12; (with_reducible refine (D8.out _).mono ?_); rintro e w8 ⟨rfl, rfl⟩)
            | (go_at_call 13; (with_reducible refine (QC.nth D9.out _).mono ?_); rintro e w8 ⟨rfl, n1, rfl⟩)
            | (go_at_call 13; (with_reducible refine (QC.nth D10.out _).mono ?_); rintro e w8 ⟨rfl, n1, rfl⟩))
          go_roundw
          case rel => exact ⟨k + 1, by omega, by go_num, Lib.hid (Below.drewN' HR.out _)⟩
          case measure => simp [intOf]; omega
        · have D1 := Lib.hid (wSame_not (.pointer none) (.pointer none) wr (NoW.made (.inl rfl)))
          go_wp2_with (go_at_call 13; (with_reducible refine (QC.one D1.out).mono ?_); rintro e w8 ⟨rfl, n1, rfl⟩)
          go_ret
          exact ⟨rfl, Below.drewN' (HL7.out.trans (HR.out.mono HL7.out.size)) _⟩
    | true =>
      have HLW : Hid (Below W.heap.size W W) := Lib.hid (Below.refl _ _)
      go_enter Try.func6, Try.ntmps6
      have HG := Lib.hid (wFrom_any _ _ xa W (HA.out _ HLW.out) (Nat.le_refl _))
      rw [hoa] at HG
      go_wp2_with fail
      (with_reducible refine HG.out.mono ?_)
      rintro e w1 ⟨(⟨h, _⟩ | ⟨_, rfl⟩), hb⟩
      case inl => cases h
      have HLw1 := Lib.hid (HLW.out.trans (hb.mono HLW.out.size))
      have HSw1 := Lib.hid hb
      clear hb HG
      have HG := Lib.hid (wFrom_any _ _ xb w1 (HBB.out _ HLw1.out) (Nat.le_refl _))
      rw [hob] at HG
      go_wp2_with fail
      (with_reducible refine HG.out.mono ?_)
      rintro e w2 ⟨(⟨_, rfl, hi⟩ | ⟨h, _⟩), hb⟩
      case inr => cases h
      have HLw2 := Lib.hid (HLw1.out.trans (hb.mono HLw1.out.size))
      have HIw := Lib.hid hi
      have HSw2 := Lib.hid hb
      clear hi hb HG
      obtain ⟨pw, hpw⟩ : ∃ p, p = w1.heap.size := ⟨_, rfl⟩
      rw [← hpw] at HIw ⊢
      clear hpw
      have HG := Lib.hid (r12From_any _ _ xa w2 (HA.out _ HLw2.out) (Nat.le_refl _))
      rw [hoa] at HG
      go_wp2_with fail
      (with_reducible refine HG.out.mono ?_)
      rintro e w3 ⟨(⟨h, _⟩ | ⟨_, rfl⟩), hb⟩
      case inl => cases h
      have HLw3 := Lib.hid (HLw2.out.trans (hb.mono HLw2.out.size))
      have HSw3 := Lib.hid hb
      clear hb HG
      have HG := Lib.hid (r12From_any _ _ xb w3 (HBB.out _ HLw3.out) (Nat.le_refl _))
      rw [hob] at HG
      go_wp2_with fail
      (with_reducible refine HG.out.mono ?_)
      rintro e w4 ⟨(⟨_, qs, rfl, hi, _⟩ | ⟨h, _⟩), hb⟩
      case inr => cases h
      have HLw4 := Lib.hid (HLw3.out.trans (hb.mono HLw3.out.size))
      have HSw4 := Lib.hid hb
      have HRs := Lib.hid (hi pw (by have := HIw.out.lt; have := HSw3.out.size; omega))
      clear hi hb HG
      go_wp2_with (go_at_call 11; (with_reducible refine (begun12_any _).mono ?_); rintro e w5 ⟨rfl, hb⟩; have HS5 := Lib.hid hb; clear hb)
      obtain ⟨P0, hP0⟩ : ∃ P0, P0 = w5.heap.size := ⟨_, rfl⟩
      obtain ⟨u7, hu7⟩ : ∃ u7, u7 = (w5.alloc (.cells #[.int .i64 0, .int .i64 0, .int .i64 0, .int .i64 0, .int .i64 0, .int .i64 0, .int .i64 0, .int .i64 0, .int .i64 0, .int .i64 0, .int .i64 0, .int .i64 0, .int .i64 0] 50)).alloc (.cells #[.pointer none, .pointer (some ⟨w5.heap.size, 0, none⟩)] 24) := ⟨_, rfl⟩
      have HS7 : Hid (Below w5.heap.size w5 u7) := by rw [hu7]; exact Lib.hid (((Below.refl _ _).alloc (Nat.le_refl _) _).alloc (by simp) _)
      have HZ : Hid (∀ u, Below u7.heap.size u7 u → u.cell? ⟨P0, 0, none⟩ = some (.int .i64 ((0 : Nat) : Int))) := fun u hb => by
        have h1 : u7.heap[P0]? = some (.cells #[.int .i64 0, .int .i64 0, .int .i64 0, .int .i64 0, .int .i64 0, .int .i64 0, .int .i64 0, .int .i64 0, .int .i64 0, .int .i64 0, .int .i64 0, .int .i64 0, .int .i64 0] 50 (0, 0)) := by rw [hu7, hP0]; exact heap_alloc_keeps (heap_alloc_new w5 _) _
        rw [World.cell?_of_block (a := ⟨P0, 0, none⟩) (hb.block P0 (lt_of_block h1))]
        simp [World.cell?, h1]
      have HE : Hid (∀ u, Below u7.heap.size u7 u → u.cell? ⟨P0 + 1, 0, none⟩ = some (.pointer none) ∧ u.cell? ⟨P0 + 1, 1, none⟩ = some (.pointer (some ⟨P0, 0, none⟩))) := fun u hb => by
        have h1 : u7.heap[P0 + 1]? = some (.cells #[.pointer none, .pointer (some ⟨P0, 0, none⟩)] 24 (0, 0)) := by rw [hu7, hP0]; exact heap_alloc_at (by simp) rfl
        refine ⟨?_, ?_⟩
        · rw [World.cell?_of_block (a := ⟨P0 + 1, 0, none⟩) (hb.block (P0 + 1) (lt_of_block h1))]; simp [World.cell?, h1]
        · rw [World.cell?_of_block (a := ⟨P0 + 1, 1, none⟩) (hb.block (P0 + 1) (lt_of_block h1))]; simp [World.cell?, h1]
      rw [← hu7, ← hP0]
      clear hu7 hP0
      have HL5 := Lib.hid (HLw4.out.trans (HS5.out.mono HLw4.out.size))
      have HL7 := Lib.hid (HL5.out.trans (HS7.out.mono HL5.out.size))
      have HIW : Hid (∀ u, Below u7.heap.size u7 u → WtIs u pw xb) := fun u hb => (((((HIw.out.below HSw3.out).below HSw4.out).below HS5.out).below HS7.out).below hb)
      have HRS : Hid (∀ u, Below u7.heap.size u7 u → RwIs u qs pw xb) := fun u hb => (((HRs.out.call HS5.out).call HS7.out).call hb)
      have HV : Hid (∀ u, Below u7.heap.size u7 u → NoW u (.pointer none) ∨ ∃ p ms, (.pointer none : Value) = .pointer (some ⟨p, 0, none⟩) ∧ WtIs u p ms) := fun u hb => by exact .inl (.inl rfl)
      go_loopw [55] (fun iv wr => ∃ k : Nat, k ≤ 2 ∧ iv = .int .i64 (k : Int) ∧ Hid (Below u7.heap.size u7 wr)) (fun iv _ => 2 - (intOf iv).toNat)
      case atStart => exact ⟨0, Nat.zero_le _, rfl, Lib.hid (Below.refl _ _)⟩
      case round =>
        obtain ⟨k, hk, rfl, HR⟩ := hrel
        by_cases hlt : k < 2
        · obtain ⟨x, hcx, hno⟩ : ∃ x, wr.cell? ⟨P0 + 1, k, none⟩ = some x ∧ NoW wr x := by
            match k, hlt with
            | 0, _ => exact ⟨_, (HE.out wr HR.out).1, .inl rfl⟩
            | 1, _ => exact ⟨_, (HE.out wr HR.out).2, .inr ⟨P0, rfl, HZ.out wr HR.out⟩⟩
          have hmg := wMerged_not x wr hno.made
          have D1 := Lib.hid (wMark_not x 0 1 wr (hno.made 0))
          have D2 := Lib.hid hmg
          have D3 := Lib.hid (fun n => wAt_not x 0 (wr.drewN n) (hno.made n))
          have D4 := Lib.hid (wHorizon_any x 0 1 wr (by decide) (by decide) hmg)
          have D5 := Lib.hid (fun n => wMarks_not x (wr.drewN n) (hno.made n))
          have D6 := Lib.hid (fun n => wLate_not x 0 5 (wr.drewN n) (hno.made n))
          have D7 := Lib.hid (wDone_any x 0 wr hmg)
          have D8 := Lib.hid (fun n => wClone_not x (wr.drewN n) (hno.made n))
          have D9 := Lib.hid (wSame_not x (.pointer none) wr hno.made)
          have D10 := Lib.hid (same_vx (HV.out wr HR.out) hno)
          rw [horI_01] at D4
          rw [far_0] at D7
          have hkz : (0 : Int) ≤ (k : Int) := by omega
          have hk2 : (k : Int) < 2 := by omega
          have e1 : IntKind.i64.wrap ((k : Int) + 1) = (k : Int) + 1 := IntWalk.i64_in _ (by omega)
          clear hno hmg
          go_wp2_with (first
            | (go_at_call 14; (with_reducible refine D1.out.mono ?_); rintro e w8 ⟨rfl, rfl⟩)
            | (go_at_call 18; (with_reducible refine (QC.one D2.out).mono ?_); rintro e w8 ⟨rfl, n1, rfl⟩)
            | (go_at_call 22; (with_reducible refine (D3.out _).mono ?_); rintro e w8 ⟨rfl, rfl⟩)
            | (go_at_call 19; (with_reducible refine (QC.nth D4.out _).mono ?_); rintro e w8 ⟨rfl, n1, rfl⟩)
            | (go_at_call 17; (with_reducible refine (D5.out _).mono ?_); rintro e w8 ⟨rfl, rfl⟩)
            | (go_at_call 20; (with_reducible refine (D6.out _).mono ?_); rintro e w8 ⟨rfl, rfl⟩)
            | (go_at_call 21; (with_reducible refine (QC.nth D7.out _).mono ?_); rintro e w8 ⟨rfl, n1, rfl⟩)
            | (go_at_call 12; (with_reducible refine (D8.out _).mono ?_); rintro e w8 ⟨rfl, rfl⟩)
            | (go_at_call 13; (with_reducible refine (QC.nth D9.out _).mono ?_); rintro e w8 ⟨rfl, n1, rfl⟩)
            | (go_at_call 13; (with_reducible refine (QC.nth D10.out _).mono ?_); rintro e w8 ⟨rfl, n1, rfl⟩))
          go_roundw
          case rel => exact ⟨k + 1, by omega, by go_num, Lib.hid (Below.drewN' HR.out _)⟩
          case measure => simp [intOf]; omega
        · have D1 := Lib.hid (wSame_not (.pointer none) (.pointer (some ⟨pw, 0, none⟩)) wr (NoW.made (.inl rfl)))
          go_wp2_with (go_at_call 13; (with_reducible refine (QC.one D1.out).mono ?_); rintro e w8 ⟨rfl, n1, rfl⟩)
          go_ret
          exact ⟨rfl, Below.drewN' (HL7.out.trans (HR.out.mono HL7.out.size)) _⟩
  | true =>
    cases hob : okF xb with
    | false =>
      have HLW : Hid (Below W.heap.size W W) := Lib.hid (Below.refl _ _)
      go_enter Try.func6, Try.ntmps6
      have HG := Lib.hid (wFrom_any _ _ xa W (HA.out _ HLW.out) (Nat.le_refl _))
      rw [hoa] at HG
      go_wp2_with fail
      (with_reducible refine HG.out.mono ?_)
      rintro e w1 ⟨(⟨_, rfl, hi⟩ | ⟨h, _⟩), hb⟩
      case inr => cases h
      have HLw1 := Lib.hid (HLW.out.trans (hb.mono HLW.out.size))
      have HIv := Lib.hid hi
      have HSw1 := Lib.hid hb
      clear hi hb HG
      obtain ⟨pv, hpv⟩ : ∃ p, p = W.heap.size := ⟨_, rfl⟩
      rw [← hpv] at HIv ⊢
      clear hpv
      have HG := Lib.hid (wFrom_any _ _ xb w1 (HBB.out _ HLw1.out) (Nat.le_refl _))
      rw [hob] at HG
      go_wp2_with fail
      (with_reducible refine HG.out.mono ?_)
      rintro e w2 ⟨(⟨h, _⟩ | ⟨_, rfl⟩), hb⟩
      case inl => cases h
      have HLw2 := Lib.hid (HLw1.out.trans (hb.mono HLw1.out.size))
      have HSw2 := Lib.hid hb
      clear hb HG
      have HG := Lib.hid (r12From_any _ _ xa w2 (HA.out _ HLw2.out) (Nat.le_refl _))
      rw [hoa] at HG
      go_wp2_with fail
      (with_reducible refine HG.out.mono ?_)
      rintro e w3 ⟨(⟨_, qr, rfl, hi, _⟩ | ⟨h, _⟩), hb⟩
      case inr => cases h
      have HLw3 := Lib.hid (HLw2.out.trans (hb.mono HLw2.out.size))
      have HSw3 := Lib.hid hb
      have HRr := Lib.hid (hi pv (by have := HIv.out.lt; have := HSw2.out.size; omega))
      clear hi hb HG
      have HG := Lib.hid (r12From_any _ _ xb w3 (HBB.out _ HLw3.out) (Nat.le_refl _))
      rw [hob] at HG
      go_wp2_with fail
      (with_reducible refine HG.out.mono ?_)
      rintro e w4 ⟨(⟨h, _⟩ | ⟨_, rfl⟩), hb⟩
      case inl => cases h
      have HLw4 := Lib.hid (HLw3.out.trans (hb.mono HLw3.out.size))
      have HSw4 := Lib.hid hb
      clear hb HG
      go_wp2_with (go_at_call 11; (with_reducible refine (begun12_any _).mono ?_); rintro e w5 ⟨rfl, hb⟩; have HS5 := Lib.hid hb; clear hb)
      obtain ⟨P0, hP0⟩ : ∃ P0, P0 = w5.heap.size := ⟨_, rfl⟩
      obtain ⟨u7, hu7⟩ : ∃ u7, u7 = (w5.alloc (.cells #[.int .i64 0, .int .i64 0, .int .i64 0, .int .i64 0, .int .i64 0, .int .i64 0, .int .i64 0, .int .i64 0, .int .i64 0, .int .i64 0, .int .i64 0, .int .i64 0, .int .i64 0] 50)).alloc (.cells #[.pointer none, .pointer (some ⟨w5.heap.size, 0, none⟩)] 24) := ⟨_, rfl⟩
      have HS7 : Hid (Below w5.heap.size w5 u7) := by rw [hu7]; exact Lib.hid (((Below.refl _ _).alloc (Nat.le_refl _) _).alloc (by simp) _)
      have HZ : Hid (∀ u, Below u7.heap.size u7 u → u.cell? ⟨P0, 0, none⟩ = some (.int .i64 ((0 : Nat) : Int))) := fun u hb => by
        have h1 : u7.heap[P0]? = some (.cells #[.int .i64 0, .int .i64 0, .int .i64 0, .int .i64 0, .int .i64 0, .int .i64 0, .int .i64 0, .int .i64 0, .int .i64 0, .int .i64 0, .int .i64 0, .int .i64 0, .int .i64 0] 50 (0, 0)) := by rw [hu7, hP0]; exact heap_alloc_keeps (heap_alloc_new w5 _) _
        rw [World.cell?_of_block (a := ⟨P0, 0, none⟩) (hb.block P0 (lt_of_block h1))]
        simp [World.cell?, h1]
      have HE : Hid (∀ u, Below u7.heap.size u7 u → u.cell? ⟨P0 + 1, 0, none⟩ = some (.pointer none) ∧ u.cell? ⟨P0 + 1, 1, none⟩ = some (.pointer (some ⟨P0, 0, none⟩))) := fun u hb => by
        have h1 : u7.heap[P0 + 1]? = some (.cells #[.pointer none, .pointer (some ⟨P0, 0, none⟩)] 24 (0, 0)) := by rw [hu7, hP0]; exact heap_alloc_at (by simp) rfl
        refine ⟨?_, ?_⟩
        · rw [World.cell?_of_block (a := ⟨P0 + 1, 0, none⟩) (hb.block (P0 + 1) (lt_of_block h1))]; simp [World.cell?, h1]
        · rw [World.cell?_of_block (a := ⟨P0 + 1, 1, none⟩) (hb.block (P0 + 1) (lt_of_block h1))]; simp [World.cell?, h1]
      rw [← hu7, ← hP0]
      clear hu7 hP0
      have HL5 := Lib.hid (HLw4.out.trans (HS5.out.mono HLw4.out.size))
      have HL7 := Lib.hid (HL5.out.trans (HS7.out.mono HL5.out.size))
      have HIV : Hid (∀ u, Below u7.heap.size u7 u → WtIs u pv xa) := fun u hb => ((((((HIv.out.below HSw2.out).below HSw3.out).below HSw4.out).below HS5.out).below HS7.out).below hb)
      have HRR : Hid (∀ u, Below u7.heap.size u7 u → RwIs u qr pv xa) := fun u hb => ((((HRr.out.call HSw4.out).call HS5.out).call HS7.out).call hb)
      have HV : Hid (∀ u, Below u7.heap.size u7 u → NoW u (.pointer (some ⟨pv, 0, none⟩)) ∨ ∃ p ms, (.pointer (some ⟨pv, 0, none⟩) : Value) = .pointer (some ⟨p, 0, none⟩) ∧ WtIs u p ms) := fun u hb => by exact .inr ⟨pv, xa, rfl, HIV.out u hb⟩
      go_loopw [55] (fun iv wr => ∃ k : Nat, k ≤ 2 ∧ iv = .int .i64 (k : Int) ∧ Hid (Below u7.heap.size u7 wr)) (fun iv _ => 2 - (intOf iv).toNat)
      case atStart => exact ⟨0, Nat.zero_le _, rfl, Lib.hid (Below.refl _ _)⟩
      case round =>
        obtain ⟨k, hk, rfl, HR⟩ := hrel
        by_cases hlt : k < 2
        · obtain ⟨x, hcx, hno⟩ : ∃ x, wr.cell? ⟨P0 + 1, k, none⟩ = some x ∧ NoW wr x := by
            match k, hlt with
            | 0, _ => exact ⟨_, (HE.out wr HR.out).1, .inl rfl⟩
            | 1, _ => exact ⟨_, (HE.out wr HR.out).2, .inr ⟨P0, rfl, HZ.out wr HR.out⟩⟩
          have hmg := wMerged_not x wr hno.made
          have D1 := Lib.hid (wMark_not x 0 1 wr (hno.made 0))
          have D2 := Lib.hid hmg
          have D3 := Lib.hid (fun n => wAt_not x 0 (wr.drewN n) (hno.made n))
          have D4 := Lib.hid (wHorizon_any x 0 1 wr (by decide) (by decide) hmg)
          have D5 := Lib.hid (fun n => wMarks_not x (wr.drewN n) (hno.made n))
          have D6 := Lib.hid (fun n => wLate_not x 0 5 (wr.drewN n) (hno.made n))
          have D7 := Lib.hid (wDone_any x 0 wr hmg)
          have D8 := Lib.hid (fun n => wClone_not x (wr.drewN n) (hno.made n))
          have D9 := Lib.hid (wSame_not x (.pointer (some ⟨pv, 0, none⟩)) wr hno.made)
          have D10 := Lib.hid (same_vx (HV.out wr HR.out) hno)
          rw [horI_01] at D4
          rw [far_0] at D7
          have hkz : (0 : Int) ≤ (k : Int) := by omega
          have hk2 : (k : Int) < 2 := by omega
          have e1 : IntKind.i64.wrap ((k : Int) + 1) = (k : Int) + 1 := IntWalk.i64_in _ (by omega)
          clear hno hmg
          go_wp2_with (first
            | (go_at_call 14; (with_reducible refine D1.out.mono ?_); rintro e w8 ⟨rfl, rfl⟩)
            | (go_at_call 18; (with_reducible refine (QC.one D2.out).mono ?_); rintro e w8 ⟨rfl, n1, rfl⟩)
            | (go_at_call 22; (with_reducible refine (D3.out _).mono ?_); rintro e w8 ⟨rfl, rfl⟩)
            | (go_at_call 19; (with_reducible refine (QC.nth D4.out _).mono ?_); rintro e w8 ⟨rfl, n1, rfl⟩)
            | (go_at_call 17; (with_reducible refine (D5.out _).mono ?_); rintro e w8 ⟨rfl, rfl⟩)
            | (go_at_call 20; (with_reducible refine (D6.out _).mono ?_); rintro e w8 ⟨rfl, rfl⟩)
            | (go_at_call 21; (with_reducible refine (QC.nth D7.out _).mono ?_); rintro e w8 ⟨rfl, n1, rfl⟩)
            | (go_at_call 12; (with_reducible refine (D8.out _).mono ?_); rintro e w8 ⟨rfl, rfl⟩)
            | (go_at_call 13; (with_reducible refine (QC.nth D9.out _).mono ?_); rintro e w8 ⟨rfl, n1, rfl⟩)
            | (go_at_call 13; (with_reducible refine (QC.nth D10.out _).mono ?_); rintro e w8 ⟨rfl, n1, rfl⟩))
          go_roundw
          case rel => exact ⟨k + 1, by omega, by go_num, Lib.hid (Below.drewN' HR.out _)⟩
          case measure => simp [intOf]; omega
        · have D1 := Lib.hid (wSame_not2 pv xa (.pointer none) wr (HIV.out wr HR.out) (NoW.made (.inl rfl)))
          go_wp2_with (go_at_call 13; (with_reducible refine (QC.one D1.out).mono ?_); rintro e w8 ⟨rfl, n1, rfl⟩)
          go_ret
          exact ⟨rfl, Below.drewN' (HL7.out.trans (HR.out.mono HL7.out.size)) _⟩
    | true =>
      have HLW : Hid (Below W.heap.size W W) := Lib.hid (Below.refl _ _)
      go_enter Try.func6, Try.ntmps6
      have HG := Lib.hid (wFrom_any _ _ xa W (HA.out _ HLW.out) (Nat.le_refl _))
      rw [hoa] at HG
      go_wp2_with fail
      (with_reducible refine HG.out.mono ?_)
      rintro e w1 ⟨(⟨_, rfl, hi⟩ | ⟨h, _⟩), hb⟩
      case inr => cases h
      have HLw1 := Lib.hid (HLW.out.trans (hb.mono HLW.out.size))
      have HIv := Lib.hid hi
      have HSw1 := Lib.hid hb
      clear hi hb HG
      obtain ⟨pv, hpv⟩ : ∃ p, p = W.heap.size := ⟨_, rfl⟩
      rw [← hpv] at HIv ⊢
      clear hpv
      have HG := Lib.hid (wFrom_any _ _ xb w1 (HBB.out _ HLw1.out) (Nat.le_refl _))
      rw [hob] at HG
      go_wp2_with fail
      (with_reducible refine HG.out.mono ?_)
      rintro e w2 ⟨(⟨_, rfl, hi⟩ | ⟨h, _⟩), hb⟩
      case inr => cases h
      have HLw2 := Lib.hid (HLw1.out.trans (hb.mono HLw1.out.size))
      have HIw := Lib.hid hi
      have HSw2 := Lib.hid hb
      clear hi hb HG
      obtain ⟨pw, hpw⟩ : ∃ p, p = w1.heap.size := ⟨_, rfl⟩
      rw [← hpw] at HIw ⊢
      clear hpw
      have HG := Lib.hid (r12From_any _ _ xa w2 (HA.out _ HLw2.out) (Nat.le_refl _))
      rw [hoa] at HG
      go_wp2_with fail
      (with_reducible refine HG.out.mono ?_)
      rintro e w3 ⟨(⟨_, qr, rfl, hi, _⟩ | ⟨h, _⟩), hb⟩
      case inr => cases h
      have HLw3 := Lib.hid (HLw2.out.trans (hb.mono HLw2.out.size))
      have HSw3 := Lib.hid hb
      have HRr := Lib.hid (hi pv (by have := HIv.out.lt; have := HSw2.out.size; omega))
      clear hi hb HG
      have HG := Lib.hid (r12From_any _ _ xb w3 (HBB.out _ HLw3.out) (Nat.le_refl _))
      rw [hob] at HG
      go_wp2_with fail
      (with_reducible refine HG.out.mono ?_)
      rintro e w4 ⟨(⟨_, qs, rfl, hi, _⟩ | ⟨h, _⟩), hb⟩
      case inr => cases h
      have HLw4 := Lib.hid (HLw3.out.trans (hb.mono HLw3.out.size))
      have HSw4 := Lib.hid hb
      have HRs := Lib.hid (hi pw (by have := HIw.out.lt; have := HSw3.out.size; omega))
      clear hi hb HG
      go_wp2_with (go_at_call 11; (with_reducible refine (begun12_any _).mono ?_); rintro e w5 ⟨rfl, hb⟩; have HS5 := Lib.hid hb; clear hb)
      obtain ⟨P0, hP0⟩ : ∃ P0, P0 = w5.heap.size := ⟨_, rfl⟩
      obtain ⟨u7, hu7⟩ : ∃ u7, u7 = (w5.alloc (.cells #[.int .i64 0, .int .i64 0, .int .i64 0, .int .i64 0, .int .i64 0, .int .i64 0, .int .i64 0, .int .i64 0, .int .i64 0, .int .i64 0, .int .i64 0, .int .i64 0, .int .i64 0] 50)).alloc (.cells #[.pointer none, .pointer (some ⟨w5.heap.size, 0, none⟩)] 24) := ⟨_, rfl⟩
      have HS7 : Hid (Below w5.heap.size w5 u7) := by rw [hu7]; exact Lib.hid (((Below.refl _ _).alloc (Nat.le_refl _) _).alloc (by simp) _)
      have HZ : Hid (∀ u, Below u7.heap.size u7 u → u.cell? ⟨P0, 0, none⟩ = some (.int .i64 ((0 : Nat) : Int))) := fun u hb => by
        have h1 : u7.heap[P0]? = some (.cells #[.int .i64 0, .int .i64 0, .int .i64 0, .int .i64 0, .int .i64 0, .int .i64 0, .int .i64 0, .int .i64 0, .int .i64 0, .int .i64 0, .int .i64 0, .int .i64 0, .int .i64 0] 50 (0, 0)) := by rw [hu7, hP0]; exact heap_alloc_keeps (heap_alloc_new w5 _) _
        rw [World.cell?_of_block (a := ⟨P0, 0, none⟩) (hb.block P0 (lt_of_block h1))]
        simp [World.cell?, h1]
      have HE : Hid (∀ u, Below u7.heap.size u7 u → u.cell? ⟨P0 + 1, 0, none⟩ = some (.pointer none) ∧ u.cell? ⟨P0 + 1, 1, none⟩ = some (.pointer (some ⟨P0, 0, none⟩))) := fun u hb => by
        have h1 : u7.heap[P0 + 1]? = some (.cells #[.pointer none, .pointer (some ⟨P0, 0, none⟩)] 24 (0, 0)) := by rw [hu7, hP0]; exact heap_alloc_at (by simp) rfl
        refine ⟨?_, ?_⟩
        · rw [World.cell?_of_block (a := ⟨P0 + 1, 0, none⟩) (hb.block (P0 + 1) (lt_of_block h1))]; simp [World.cell?, h1]
        · rw [World.cell?_of_block (a := ⟨P0 + 1, 1, none⟩) (hb.block (P0 + 1) (lt_of_block h1))]; simp [World.cell?, h1]
      rw [← hu7, ← hP0]
      clear hu7 hP0
      have HL5 := Lib.hid (HLw4.out.trans (HS5.out.mono HLw4.out.size))
      have HL7 := Lib.hid (HL5.out.trans (HS7.out.mono HL5.out.size))
      have HIV : Hid (∀ u, Below u7.heap.size u7 u → WtIs u pv xa) := fun u hb => ((((((HIv.out.below HSw2.out).below HSw3.out).below HSw4.out).below HS5.out).below HS7.out).below hb)
      have HRR : Hid (∀ u, Below u7.heap.size u7 u → RwIs u qr pv xa) := fun u hb => ((((HRr.out.call HSw4.out).call HS5.out).call HS7.out).call hb)
      have HIW : Hid (∀ u, Below u7.heap.size u7 u → WtIs u pw xb) := fun u hb => (((((HIw.out.below HSw3.out).below HSw4.out).below HS5.out).below HS7.out).below hb)
      have HRS : Hid (∀ u, Below u7.heap.size u7 u → RwIs u qs pw xb) := fun u hb => (((HRs.out.call HS5.out).call HS7.out).call hb)
      have HV : Hid (∀ u, Below u7.heap.size u7 u → NoW u (.pointer (some ⟨pv, 0, none⟩)) ∨ ∃ p ms, (.pointer (some ⟨pv, 0, none⟩) : Value) = .pointer (some ⟨p, 0, none⟩) ∧ WtIs u p ms) := fun u hb => by exact .inr ⟨pv, xa, rfl, HIV.out u hb⟩
      go_loopw [55] (fun iv wr => ∃ k : Nat, k ≤ 2 ∧ iv = .int .i64 (k : Int) ∧ Hid (Below u7.heap.size u7 wr)) (fun iv _ => 2 - (intOf iv).toNat)
      case atStart => exact ⟨0, Nat.zero_le _, rfl, Lib.hid (Below.refl _ _)⟩
      case round =>
        obtain ⟨k, hk, rfl, HR⟩ := hrel
        by_cases hlt : k < 2
        · obtain ⟨x, hcx, hno⟩ : ∃ x, wr.cell? ⟨P0 + 1, k, none⟩ = some x ∧ NoW wr x := by
            match k, hlt with
            | 0, _ => exact ⟨_, (HE.out wr HR.out).1, .inl rfl⟩
            | 1, _ => exact ⟨_, (HE.out wr HR.out).2, .inr ⟨P0, rfl, HZ.out wr HR.out⟩⟩
          have hmg := wMerged_not x wr hno.made
          have D1 := Lib.hid (wMark_not x 0 1 wr (hno.made 0))
          have D2 := Lib.hid hmg
          have D3 := Lib.hid (fun n => wAt_not x 0 (wr.drewN n) (hno.made n))
          have D4 := Lib.hid (wHorizon_any x 0 1 wr (by decide) (by decide) hmg)
          have D5 := Lib.hid (fun n => wMarks_not x (wr.drewN n) (hno.made n))
          have D6 := Lib.hid (fun n => wLate_not x 0 5 (wr.drewN n) (hno.made n))
          have D7 := Lib.hid (wDone_any x 0 wr hmg)
          have D8 := Lib.hid (fun n => wClone_not x (wr.drewN n) (hno.made n))
          have D9 := Lib.hid (wSame_not x (.pointer (some ⟨pv, 0, none⟩)) wr hno.made)
          have D10 := Lib.hid (same_vx (HV.out wr HR.out) hno)
          rw [horI_01] at D4
          rw [far_0] at D7
          have hkz : (0 : Int) ≤ (k : Int) := by omega
          have hk2 : (k : Int) < 2 := by omega
          have e1 : IntKind.i64.wrap ((k : Int) + 1) = (k : Int) + 1 := IntWalk.i64_in _ (by omega)
          clear hno hmg
          go_wp2_with (first
            | (go_at_call 14; (with_reducible refine D1.out.mono ?_); rintro e w8 ⟨rfl, rfl⟩)
            | (go_at_call 18; (with_reducible refine (QC.one D2.out).mono ?_); rintro e w8 ⟨rfl, n1, rfl⟩)
            | (go_at_call 22; (with_reducible refine (D3.out _).mono ?_); rintro e w8 ⟨rfl, rfl⟩)
            | (go_at_call 19; (with_reducible refine (QC.nth D4.out _).mono ?_); rintro e w8 ⟨rfl, n1, rfl⟩)
            | (go_at_call 17; (with_reducible refine (D5.out _).mono ?_); rintro e w8 ⟨rfl, rfl⟩)
            | (go_at_call 20; (with_reducible refine (D6.out _).mono ?_); rintro e w8 ⟨rfl, rfl⟩)
            | (go_at_call 21; (with_reducible refine (QC.nth D7.out _).mono ?_); rintro e w8 ⟨rfl, n1, rfl⟩)
            | (go_at_call 12; (with_reducible refine (D8.out _).mono ?_); rintro e w8 ⟨rfl, rfl⟩)
            | (go_at_call 13; (with_reducible refine (QC.nth D9.out _).mono ?_); rintro e w8 ⟨rfl, n1, rfl⟩)
            | (go_at_call 13; (with_reducible refine (QC.nth D10.out _).mono ?_); rintro e w8 ⟨rfl, n1, rfl⟩))
          go_roundw
          case rel => exact ⟨k + 1, by omega, by go_num, Lib.hid (Below.drewN' HR.out _)⟩
          case measure => simp [intOf]; omega
        · have D1 := Lib.hid (wMarks_any pv xa wr (HIV.out wr HR.out))
          obtain ⟨C, hC⟩ : ∃ C, C = wr.heap.size := ⟨_, rfl⟩
          have HC := Lib.hid hC
          rw [← hC, ← HML.out] at D1
          clear hC
          go_wp2_with fail
          (with_reducible refine D1.out.mono ?_)
          rintro e w8 ⟨g, c, rfl, ho, hb⟩
          have HO := Lib.hid ho; have HB8 := Lib.hid hb
          clear ho hb D1
          go_wp2_with fail
          obtain ⟨V, hV⟩ : ∃ V, V = wr := ⟨_, rfl⟩
          have HRV : Hid (Below u7.heap.size u7 V) := by rw [hV]; exact HR
          rw [← hV] at HB8 HC
          clear hV HR
          go_loopw [124] (fun iv wr => ∃ (k : Nat) (l : List Int), k ≤ M ∧ l.length = M ∧ iv = .int .i64 (k : Int) ∧ Hid (wr.ownsRow C 2 1 (.slice (some ⟨g, 0, none⟩) M c) M (rowI l)) ∧ Hid (Below C V wr)) (fun iv _ => M - (intOf iv).toNat)
          case atStart => exact ⟨0, _, Nat.zero_le _, HML.out.symm, rfl, HO, HB8⟩
          case round =>
            obtain ⟨k2, l, hk2, hl, rfl, HO2, HB2⟩ := hrel
            by_cases hlt2 : k2 < M
            · have c1 := HO2.out.cellAt k2 (by omega)
              rw [rowI_at (by omega)] at c1
              have f1 := HO2.out.frozenAt k2
              have hst := Lib.hid (fun y => HO2.out.stored k2 (.int .i64 y))
              have hgC : Hid (C ≤ g) := by
                rcases HO2.out.2 with ⟨h', _⟩ | ⟨g', cap', cur, h', hb, _⟩
                · cases h'
                · simp only [Value.slice.injEq, Option.some.injEq, Addr.mk.injEq, and_true, true_and] at h'
                  rw [h'.1]; exact hb
              generalize l[k2]! = y at c1
              have hkz : (0 : Int) ≤ (k2 : Int) := by omega
              have hkM : (k2 : Int) < (M : Int) := by omega
              have HLL := Lib.hid hl
              have e1 : IntKind.i64.wrap ((k2 : Int) + 1) = (k2 : Int) + 1 := IntWalk.i64_in _ (by have := (HIV.out V HRV.out).k12; have := HML.out; omega)
              clear hl
              go_wp2
              go_roundw
              case rel => exact ⟨k2 + 1, l.set k2 (wrap64 (y + 1)), by omega, by rw [List.length_set]; exact HLL.out, by go_num, Lib.hid (by have := (hst.out (wrap64 (y + 1))).1; rw [rowI_set] at this; exact this), Lib.hid (HB2.out.setCell (p := ⟨g, k2, none⟩) hgC.out _)⟩
              case measure => simp [intOf]; omega
            · obtain ⟨X, hX⟩ : ∃ X, X = wr := ⟨_, rfl⟩
              have HBV : Hid (Below u7.heap.size u7 wr) := HRV.out.trans (HB2.out.mono (by have := HRV.out.size; have := HC.out; omega))
              have HI1 := HIV.out wr HBV.out
              have HI2 := HIW.out wr HBV.out
              have D1 := Lib.hid (wSame_any pv pw xa xb wr HI1 HI2)
              have D2 := Lib.hid (r12Same_any qr pv qs pw xa xb wr (HRR.out wr HBV.out) (HRS.out wr HBV.out))
              have D3 := Lib.hid (wSame_any pv pv xa xa wr HI1 HI1)
              rw [show decide (xa = xa) = true from decide_eq_true rfl] at D3
              have D4 := Lib.hid (fun n => wMarks_any pv xa (wr.drewN n) (HI1.drewN n))
              have HK12 := Lib.hid HI1.k12; have HK1 := Lib.hid HI1.k0
              have HLZ := Lib.hid (HL7.out.trans (HBV.out.mono HL7.out.size))
              obtain ⟨aa, acc, h1, -, -, h4⟩ := (HA.out W (Below.refl _ _)).row
              obtain ⟨b, o, rfl, -, -⟩ := h4 (by have := HK1.out; omega)
              simp only [Value.slice.injEq] at h1
              obtain ⟨rfl, -, -⟩ := h1
              have HEQ : Hid (∀ u g1 c1, Below W.heap.size W u → RowAt u g1 xa → QC 24 #[.slice (some ⟨g1, 0, none⟩) M c1, .slice (some ⟨b, o, none⟩) M ac] (.bool true) u) := fun u g1 c1 hb hr => by
                obtain ⟨a2, c2, h1, _, _, h4⟩ := (HA.out u hb).row
                obtain ⟨b2, o2, rfl, _, hcell⟩ := h4 (by have := HK1.out; omega)
                simp only [Value.slice.injEq, Option.some.injEq, Addr.mk.injEq, and_true] at h1
                obtain ⟨⟨rfl, rfl⟩, _, _⟩ := h1
                rw [HML.out]
                exact EqI64_any g1 0 c1 b o ac xa u (by have := HK12.out; omega) (fun j hj => by rw [Nat.zero_add]; exact hr.at' j hj) hcell
              generalize decide (xa = xb) = rz at D1 D2
              have hrz : (rz == rz) = true := by simp
              have HRO : Hid (∀ (u u' : World) (g1 c1 : Nat), u'.ownsRow u.heap.size 2 1 (.slice (some ⟨g1, 0, none⟩) xa.length c1) xa.length (rowI xa) → RowAt u' g1 xa) := fun u u' g1 c1 ho => (RowAt.of_own (C := u.heap.size) (cap := c1) ho).1
              rw [← HML.out] at D4 HRO
              clear HI1 HI2 hX
              go_wp2_with (first
                | (go_at_call 13; (with_reducible refine (QC.one D1.out).mono ?_); rintro e w9 ⟨rfl, n1, rfl⟩)
                | (go_at_call 23; (with_reducible refine (QC.nth D2.out _).mono ?_); rintro e w9 ⟨rfl, n2, rfl⟩)
                | (go_at_call 13; (with_reducible refine (QC.nth D3.out _).mono ?_); rintro e w9 ⟨rfl, n3, rfl⟩)
                | (go_at_call 17; (with_reducible refine (D4.out _).mono ?_); rintro e w10 ⟨g1, c1, rfl, hown, hb⟩; have HR1 := Lib.hid (HRO.out _ _ _ _ hown); have HLX := Lib.hid ((Below.drewN' HLZ.out _).trans (hb.mono (by have := HLZ.out.size; exact this))); clear hown hb)
                | (go_at_call 24; (with_reducible refine (QC.one (HEQ.out _ _ _ HLX.out HR1.out)).mono ?_); rintro e w11 ⟨rfl, n4, rfl⟩))
              go_ret
              exact ⟨rfl, Below.drewN' HLX.out _⟩
end Go.Proofs.Ytclbfmjmamcjjaa
