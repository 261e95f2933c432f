/- Joined: Cn1, Cs1, Wm0, Ws0. -/
import Derived.Test.YtcnecokamckfaaaGreatDoorK8
import Derived.Test.YtcnecokamckfaaaGreatDoorShelf7
import Derived.Shelf.SlMaps.Clone
import Derived.Test.YtcnecokamckfaaaGreatDoorK9
import Derived.Maps.RangeWalk
import Derived.Test.YtcnecokamckfaaaGreatDoorJ3
import Derived.Test.YtcnecokamckfaaaGreatDoorJ4
import Derived.Test.YtcnecokamckfaaaGreatDoorJ2
import Derived.Test.YtcnecokamckfaaaGreatDoorK7
import Derived.BigQuiet
import Derived.Deep.RegionHeld3
set_option linter.unusedVariables false
set_option linter.unusedSimpArgs false
/- Contract: Clone of a set. -/
namespace Go.Proofs.YtcnecokamckfaaaGreatDoor
open Go Go.RowKit Go.Maps Go.Sort Go.WideMaps Go.Shelf

/-- A set, where a block laid since may turn too. -/
theorem SetAt.widen {F : Nat → Prop} {C : Nat} {w w' : World} {q b : Nat} {L : List (Value × List Bd)} (h : SetAt F C w q b L) (hb : Below w.heap.size w w') {b2 : Nat} (h1 : w.heap.size ≤ b2) (h2 : b2 < w'.heap.size) : SetAt (fun k => F k ∨ k = b2) C w' q b L := by
  have hq := h.Cq
  have hC := h.C_le
  obtain ⟨N, D, m1, m2, m3⟩ := h.map
  exact ⟨.inl h.Fb, fun hf => hf.elim h.Fq (fun e => by omega), fun k hk => hk.elim (h.Cb k) (fun e => by omega), fun k hk => hk.elim (fun hf => Nat.lt_of_lt_of_le (h.Flt k hf) hb.size) (fun e => by omega), (hb.block q h.Cq).trans h.blk, h.tab.on (hb.mono h.C_le), ⟨N, D, owns_block0 m1 (hb.block b m1.lt), m2, m3⟩,
    fun x hx => ⟨fun u hu => (h.each x hx).1 u ((Chg.of_below hb).trans hu (fun j hj => hj.imp id (fun e => by omega))), (h.each x hx).2⟩, h.many⟩

set_option maxRecDepth 100000 in
set_option maxHeartbeats 1600000 in
theorem mSetClone_any (F : Nat → Prop) (C q b : Nat) (L : List (Value × List Bd)) (w : World) (h : SetAt F C w q b L) :
    Calls Tryz.prog 11 #[.pointer (some ⟨q, 0, none⟩)] w fun e w' => ∃ q2 b2, e = .returned (.pointer (some ⟨q2, 0, none⟩)) ∧ w.heap.size ≤ q2 ∧ w.heap.size ≤ b2 ∧ SetAt (fun k => F k ∨ k = b2) C w' q b L ∧ SetAt (fun k => F k ∨ k = b2) C w' q2 b2 L ∧ Below w.heap.size w w' := by
  have HMD := Lib.hid (mSetMade_any q b w h.cell)
  obtain ⟨N, D, hD, hN, hL⟩ := h.map
  have hcon := AnyW.maps_Clone_owns Tryz.lMClone 9 heldE b N D w hD
  change Calls Tryz.prog 35 _ _ _ at hcon
  have HC := Lib.hid hcon
  have HS := Lib.hid h
  have c0 := h.cell
  have HN := Lib.hid hN; have HL := Lib.hid hL
  clear h hD hcon hN hL
  go_enter Tryz.func11, Tryz.ntmps11
  go_wp2_with (first
    | (go_at_call 34; (with_reducible refine (HMD.out).mono ?_); rintro e w1 ⟨rfl, rfl⟩)
    | (go_at_call 35; (with_reducible refine (HC.out).mono ?_); rintro e w2 ⟨rfl, h1, -, hb⟩; have H1 := Lib.hid h1; have HB := Lib.hid hb; clear h1 hb))
  go_ret
  have hlt := H1.out.lt
  have hb2 : Below w.heap.size w (w2.alloc (.cells #[.map (some w.heap.size)] 62)) := HB.out.alloc HB.out.size _
  have hw := HS.out.widen hb2 (b2 := w.heap.size) (Nat.le_refl _) (by simp; omega)
  have hqw := HS.out.Cq
  refine ⟨w2.heap.size, w.heap.size, rfl, HB.out.size, Nat.le_refl _, hw, ?_, hb2⟩
  exact ⟨.inr rfl, fun hf => hf.elim (fun hf => by have := HS.out.Flt _ hf; have := HB.out.size; omega) (fun e => by omega), hw.Cb, hw.Flt, heap_alloc_new _ _, hw.tab, ⟨N, D, H1.out.alloc _, HN.out, HL.out⟩, hw.each, hw.many⟩
end Go.Proofs.YtcnecokamckfaaaGreatDoor

/- Contract: Same of two sets. -/
namespace Go.Proofs.YtcnecokamckfaaaGreatDoor
open Go Go.RowKit Go.Maps Go.Sort Go.WideMaps Go.Shelf

/-- Whether two sets have the same, by their keys. -/
def sameL (L M : List (Value × List Bd)) : Bool := decide (L.length = M.length) && L.all fun x => hasL M x.2

set_option maxRecDepth 100000 in
set_option maxHeartbeats 3200000 in
theorem mSetSame_any (F F2 : Nat → Prop) (C C2 q b q2 b2 : Nat) (L M : List (Value × List Bd)) (w : World) (h : SetAt F C w q b L) (h2 : SetAt F2 C2 w q2 b2 M) :
    Calls Tryz.prog 12 #[.pointer (some ⟨q, 0, none⟩), .pointer (some ⟨q2, 0, none⟩)] w fun e w' => e = .returned (.bool (sameL L M)) ∧ Below w.heap.size w w' := by
  have HN1 := Lib.hid (fun u (hu : Below w.heap.size w u) => mSetLen_any F C q b L u (h.call hu))
  have HN2 := Lib.hid (fun u (hu : Below w.heap.size w u) => mSetLen_any F2 C2 q2 b2 M u (h2.call hu))
  have HP1 := Lib.hid (fun u (hu : Below w.heap.size w u) => mSetParts_any q b u (h.call hu).cell)
  have HP2 := Lib.hid (fun u (hu : Below w.heap.size w u) => mSetParts_any q2 b2 u (h2.call hu).cell)
  obtain ⟨N, D, hD, _, hL⟩ := h.map
  obtain ⟨N2, D2, hD2, _, hL2⟩ := h2.map
  have HLK : Hid (∀ u (x : List UInt8), Below w.heap.size w u → keyOf Tryz.prog 9 (encStr x) = some (.string x) → ∃ a n c, (Instr.lookup 60 (.map (some b2)) (encStr x) true).run Tryz.prog u = .ok (.tuple #[.agg #[.slice a n c], .bool (decide (x ∈ M.map fun z => keyL z.2))]) u) := Lib.hid fun u x hu hx => by
    obtain ⟨v, ps, h1, h2⟩ := (owns_block0 hD2 (hu.block b2 hD2.lt)).look_ok lawS10 Tryz.underlying60 (zeroP10 u) (heldE_mk none 0 0) hx
    obtain ⟨a, n, c, rfl, _⟩ := heldE_inv h2
    rw [hL2.has] at h1
    exact ⟨a, n, c, h1⟩
  have hb0 : Below w.heap.size w w := Below.refl _ _
  have HB0 := Lib.hid hb0
  by_cases hle : L.length = M.length
  case neg =>
    have hr : sameL L M = false := by unfold sameL; rw [decide_eq_false hle]; rfl
    have hne : ((L.length : Int) != (M.length : Int)) = true := by simp; omega
    have hne2 : ((L.length : Int) == (M.length : Int)) = false := by simp; omega
    rw [hr]
    clear h h2 hD hD2 hL hL2 hb0
    go_enter Tryz.func12, Tryz.ntmps12
    go_wp2_with (first
      | (go_at_call 17; (with_reducible refine (HN1.out _ HB0.out).mono ?_); rintro e w1 ⟨rfl, rfl⟩)
      | (go_at_call 17; (with_reducible refine (HN2.out _ HB0.out).mono ?_); rintro e w1 ⟨rfl, rfl⟩))
    go_ret
    exact ⟨rfl, HB0.out⟩
  case pos =>
    have hr : sameL L M = L.all fun x => hasL M x.2 := by unfold sameL; rw [decide_eq_true hle]; rfl
    have HALL : Hid ((∀ x, x ∈ (L.map fun z => keyL z.2) → x ∈ M.map fun z => keyL z.2) → sameL L M = true) := Lib.hid fun ha => by
      rw [hr, List.all_eq_true]
      exact fun x hx => decide_eq_true (ha _ (List.mem_map.2 ⟨x, hx, rfl⟩))
    have HNOT : Hid (∀ x, x ∈ (L.map fun z => keyL z.2) → x ∉ (M.map fun z => keyL z.2) → sameL L M = false) := Lib.hid fun x hx hn => by
      rw [hr]
      obtain ⟨z, hz, rfl⟩ := List.mem_map.1 hx
      cases ha : L.all fun x => hasL M x.2 with
      | false => rfl
      | true => exact absurd (of_decide_eq_true (List.all_eq_true.1 ha z hz)) hn
    generalize sameL L M = r at HALL HNOT ⊢
    have hne : ((L.length : Int) != (M.length : Int)) = false := by simp; omega
    have hne2 : ((L.length : Int) == (M.length : Int)) = true := by simp; omega
    have HHAS := Lib.hid hL.has
    clear h h2 hD2 hL hL2 hb0 hr
    go_enter Tryz.func12, Tryz.ntmps12
    go_wp2_with (first
      | (go_at_call 17; (with_reducible refine (HN1.out _ HB0.out).mono ?_); rintro e w1 ⟨rfl, rfl⟩)
      | (go_at_call 17; (with_reducible refine (HN2.out _ HB0.out).mono ?_); rintro e w1 ⟨rfl, rfl⟩)
      | (go_at_call 33; (with_reducible refine (HP1.out _ HB0.out).mono ?_); rintro e w1 ⟨rfl, rfl⟩)
      | (at_range; refine wpList_range_own _ rfl _ 60 rfl 9 38 lawS10 Tryz.underlying60 _ b N _ rfl hD ?_; intro w0 hrg0 hg0 hs0)
      | go_in)
    go_frame
    go_loopw [5, 6, 7] (fun _ _ _ wr => ∃ (left : Lit → Bool) (cnt : Nat) (K : List (List UInt8)), wr.ranges Tryz.prog 9 heldE b w.heap.size N D left cnt ∧ Hid (Collected D left K) ∧ Hid (∀ x, x ∈ K → x ∈ M.map fun z => keyL z.2) ∧ Hid (Below w.heap.size w wr) ∧ Hid (w.heap.size < wr.heap.size))
      (fun _ _ _ wr => wr.rangeLeft b w.heap.size)
    case atStart =>
      exact ⟨_, _, [], hrg0, Lib.hid (Collected.start D), Lib.hid (by simp), Lib.hid ((Below.refl _ _).grown hg0 (Nat.le_refl _) (fun b hb => by cases hb)), Lib.hid (by rw [hs0]; exact Nat.lt_succ_self _)⟩
    case round =>
      obtain ⟨left, cnt, K, hrg, HC, HN, HX, HR⟩ := hrel
      go_wp2_with (first
        | (at_next; refine wpList_next_ranges _ rfl _ rfl 9 lawS10 heldE encStr (fun c : Sl => .agg #[slV c]) (fun key kl hk => by obtain ⟨x, hx, _⟩ := Maps.keyOf_str Tryz.underlying9 hk; exact ⟨x, hx⟩) (fun v y hv => by obtain ⟨c, rfl, _⟩ := heldE_sl hv; exact ⟨c, rfl⟩) b w.heap.size N _ _ _ rfl hrg ?_ ?_)
        | go_in)
      · intro hc0 hl0
        go_wp2
        go_ret
        refine ⟨?_, HX.out⟩
        rw [HALL.out fun x hx => HN.out x ((HC.out.2 x).2 ⟨by rw [HHAS.out]; exact decide_eq_true hx, hl0 _⟩)]; rfl
      · intro x c kl yd yp w2 cnt2 hkey hlk hv hat hrg2 hlt hg2 hs2 hen
        obtain ⟨x', ex, rfl, _⟩ := Maps.keyOf_str Tryz.underlying9 hkey
        obtain rfl : x = x' := encStr_inj ex
        have HX2 := Lib.hid (HX.out.grown hg2 HX.out.size (fun b hb => by cases hb; exact Nat.le_refl _))
        have HST := Lib.hid (HC.out.step hlk hat)
        have HXS : Hid (x ∈ L.map fun z => keyL z.2) := Lib.hid (by
          have h1 := (HST.out.2 x).1 (by simp)
          rw [HHAS.out] at h1
          exact of_decide_eq_true h1.1)
        have HLT := Lib.hid hlt
        have HR2 := Lib.hid (show w.heap.size < w2.heap.size by rw [hs2]; exact HR.out)
        obtain ⟨a1, n1, k1, hlo⟩ := HLK.out w2 x HX2.out hkey
        have HP3 := Lib.hid (HP2.out w2 HX2.out)
        clear hs2 hlk hat hlt ex hv hg2
        by_cases hx : x ∈ M.map fun z => keyL z.2
        · have hd : decide (x ∈ M.map fun z => keyL z.2) = true := decide_eq_true hx
          rw [hd] at hlo
          have HNX := Lib.hid hx
          clear hd hx
          go_wp2_with (first
            | (go_at_call 33; (with_reducible refine (HP3.out).mono ?_); rintro e w3 ⟨rfl, rfl⟩)
            | go_in)
          have hrg3 := hrg2.alloc (.cells #[.slice a1 n1 k1] 38)
          go_roundw
          case rel => exact ⟨_, cnt2, K ++ [x], hrg3, HST, Lib.hid (fun y hy => (List.mem_append.1 hy).elim (fun h => HN.out y h) (fun h => by rw [List.mem_singleton.1 h]; exact HNX.out)), Lib.hid (HX2.out.alloc HX2.out.size _), Lib.hid (by simp; have := HR2.out; omega)⟩
          case measure => rw [hrg3.left_eq, hrg.left_eq]; exact HLT.out
        · have hd : decide (x ∈ M.map fun z => keyL z.2) = false := decide_eq_false hx
          rw [hd] at hlo
          have HRR := Lib.hid (HNOT.out x HXS.out hx)
          clear hd hx
          go_wp2_with (first
            | (go_at_call 33; (with_reducible refine (HP3.out).mono ?_); rintro e w3 ⟨rfl, rfl⟩)
            | go_in)
          go_ret
          exact ⟨by rw [HRR.out]; rfl, HX2.out.alloc HX2.out.size _⟩
end Go.Proofs.YtcnecokamckfaaaGreatDoor

/- Both sets, the program's and the document's: the same questions have the same answers. What stands while both are put to. -/
namespace Go.Proofs.YtcnecokamckfaaaGreatDoor
open Go Go.RowKit Go.Sort

theorem has_eq {L : List (Value × List Bd)} {ks : List (List Bd)} (h : ks.Perm (L.map Prod.snd)) (bs : List Bd) : hasL L bs = hasR ks bs := by
  rw [hasR_key]
  unfold hasL
  have h1 := (h.map keyL).mem_iff (a := keyL bs)
  rw [List.map_map] at h1
  exact decide_eq_decide.2 h1.symm
theorem add_eq {L : List (Value × List Bd)} {ks : List (List Bd)} (h : ks.Perm (L.map Prod.snd)) (bs : List Bd) : addB L bs = (decide (ckP bs = 0) && !hasR ks bs) := by
  unfold addB; rw [has_eq h]
theorem same_eq {L M : List (Value × List Bd)} {ks ms : List (List Bd)} (h : ks.Perm (L.map Prod.snd)) (h2 : ms.Perm (M.map Prod.snd)) : sameL L M = sameR ks ms := by
  have e1 := h.length_eq; have e2 := h2.length_eq
  rw [List.length_map] at e1 e2
  unfold sameL sameR
  rw [e1, e2]
  congr 1
  rw [Bool.eq_iff_iff, List.all_eq_true, List.all_eq_true]
  constructor
  · intro g x hx
    obtain ⟨y, hy, e⟩ := List.mem_map.1 (h.mem_iff.1 hx)
    rw [← e, ← has_eq h2]; exact g y hy
  · intro g x hx
    rw [has_eq h2]
    exact g _ (h.mem_iff.2 (List.mem_map.2 ⟨x, hx, rfl⟩))
theorem same_self {L : List (Value × List Bd)} : sameL L L = true := by
  unfold sameL
  simp only [decide_true, Bool.true_and, List.all_eq_true]
  intro x hx
  unfold hasL
  exact decide_eq_true (List.mem_map.2 ⟨x, hx, rfl⟩)
theorem SetAt.chg {F G : Nat → Prop} {C : Nat} {w w' : World} {q b : Nat} {L : List (Value × List Bd)} (h : SetAt F C w q b L) (hc : Chg G w w') (hG : ∀ k, G k → F k ∧ k ≠ b) : SetAt F C w' q b L := by
  have hF : Chg F w w' := (Chg.refl F w).trans hc (fun j hj => .inl (hG j hj).1)
  obtain ⟨N, D, m1, m2, m3⟩ := h.map
  exact ⟨h.Fb, h.Fq, h.Cb, fun k hk => Nat.lt_of_lt_of_le (h.Flt k hk) hc.size, (hF.block q h.Cq h.Fq).trans h.blk, h.tab.on (hc.below h.C_le (fun k hk => h.Cb k (hG k hk).1)), ⟨N, D, owns_block0 m1 (hc.block b m1.lt (fun hg => (hG b hg).2 rfl)), m2, m3⟩,
    fun x hx => ⟨(h.each x hx).1.chg hF, (h.each x hx).2⟩, h.many⟩
theorem RsM.chg {F G : Nat → Prop} {w w' : World} {q : Nat} {ks : List (List Bd)} {vs : List Value} (h : RsM F w q ks vs) (hc : Chg G w w') (hG : ∀ k, G k → F k ∧ k ≠ q) : RsM F w' q ks vs := by
  have hF : Chg F w w' := (Chg.refl F w).trans hc (fun j hj => .inl (hG j hj).1)
  obtain ⟨ao, cap, h1, h2, h3, h4, h5⟩ := h.row
  refine ⟨h.Fq, fun k hk => Nat.lt_of_lt_of_le (h.Flt k hk) hc.size, ⟨ao, cap, (hc.block q (h.Flt q h.Fq) (fun hg => (hG q hg).2 rfl)).trans h1, h2, h3, h4, fun h0 => ?_⟩, h.vsl, fun p hp => ⟨(h.each p hp).1.chg hF, (h.each p hp).2⟩, h.ky, h.many⟩
  obtain ⟨b, o, e, hFb, hlt, hcell⟩ := h5 h0
  exact ⟨b, o, e, hFb, Nat.lt_of_lt_of_le hlt hc.size, fun j hj => (World.cell?_of_block (a := ⟨b, o + j, none⟩) (hF.block b hlt hFb)).trans (hcell j hj)⟩
/-- Where blocks laid since may turn too. -/
theorem RsM.widen {F F' : Nat → Prop} {w w' : World} {q : Nat} {ks : List (List Bd)} {vs : List Value} (h : RsM F w q ks vs) (hb : Below w.heap.size w w') (h1 : ∀ k, F k → F' k) (h2 : ∀ k, F' k → F k ∨ w.heap.size ≤ k) (h3 : ∀ k, F' k → k < w'.heap.size) : RsM F' w' q ks vs := by
  obtain ⟨ao, cap, e1, e2, e3, e4, e5⟩ := h.row
  refine ⟨h1 _ h.Fq, h3, ⟨ao, cap, (hb.block q (h.Flt q h.Fq)).trans e1, e2, e3, e4, fun h0 => ?_⟩, h.vsl, fun p hp => ⟨fun u hu => (h.each p hp).1 u ((Chg.of_below hb).trans hu (fun j hj => h2 j hj)), (h.each p hp).2⟩, h.ky, h.many⟩
  obtain ⟨b, o, e, hFb, hlt, hcell⟩ := e5 h0
  exact ⟨b, o, e, fun hf => (h2 b hf).elim hFb (fun hh => by omega), Nat.lt_of_lt_of_le hlt hb.size, fun j hj => (hb.cell (p := ⟨b, o + j, none⟩) hlt).trans (hcell j hj)⟩
/-- Both sets, and a copy of the program's. -/
structure S10 (F : Nat → Prop) (C P q b q2 b2 r : Nat) (L L0 : List (Value × List Bd)) (ks : List (List Bd)) (vs : List Value) (ra : Option Addr) (rc : Nat) (w0 w : World) : Prop where
  base : Below P w0 w
  s : SetAt F C w q b L
  c : SetAt F C w q2 b2 L0
  d : RsM F w r ks vs
  row : w.heap[r]? = some (.cells #[.slice ra ks.length rc] 33 (0, 0))
  lo : ∀ k, F k → P ≤ k
  sz : P ≤ w.heap.size
  is : ks.Perm (L.map Prod.snd)
  rise : RiseL ks
section
variable {F : Nat → Prop} {C P q b q2 b2 r : Nat} {L L0 : List (Value × List Bd)} {ks : List (List Bd)} {vs : List Value} {ra : Option Addr} {rc : Nat} {w0 w w' : World}
theorem S10.call (h : S10 F C P q b q2 b2 r L L0 ks vs ra rc w0 w) (hb : Below w.heap.size w w') : S10 F C P q b q2 b2 r L L0 ks vs ra rc w0 w' :=
  ⟨h.base.trans (hb.mono h.sz), h.s.call hb, h.c.call hb, h.d.call hb, (hb.block r (lt_of_block h.row)).trans h.row, h.lo, Nat.le_trans h.sz hb.size, h.is, h.rise⟩
theorem S10.lp (h : S10 F C P q b q2 b2 r L L0 ks vs ra rc w0 w) : LpV w w.heap.size (.slice ra ks.length rc) ks := by
  obtain ⟨v, h1, h2⟩ := h.d.lp
  rw [h.row] at h1
  cases h1; exact h2
theorem S10.cell (h : S10 F C P q b q2 b2 r L L0 ks vs ra rc w0 w) : w.cell? ⟨r, 0, none⟩ = some (.slice ra ks.length rc) := cells_one0 h.row
theorem S10.len (h : S10 F C P q b q2 b2 r L L0 ks vs ra rc w0 w) : L.length = ks.length := by have := h.is.length_eq; rw [List.length_map] at this; exact this.symm
/-- Behind one that is put to both. -/
theorem S10.both (h : S10 F C P q b q2 b2 r L L0 ks vs ra rc w0 w) {w1 w2 : World} {bs : List Bd} {v : Value} {vs' : List Value} (h1 : SetAt F C w1 q b (if addB L bs = true then L ++ [(v, bs)] else L)) (hc1 : Chg (fun k => k = b) w w1)
    (h2 : RsM F w2 r (addD ks bs) vs') (hc2 : Chg (fun k => k = r) w1 w2) (n1 : b ≠ b2) (n2 : r ≠ b) (n3 : r ≠ b2) : ∃ ra' rc', S10 F C P q b q2 b2 r (if addB L bs = true then L ++ [(v, bs)] else L) L0 (addD ks bs) vs' ra' rc' w0 w2 := by
  obtain ⟨ra', rc', e, _⟩ := h2.row
  refine ⟨ra', rc', ?_, h1.chg hc2 (fun k hk => hk ▸ ⟨h.d.Fq, n2⟩), (h.c.chg hc1 (fun k hk => hk ▸ ⟨h.s.Fb, n1⟩)).chg hc2 (fun k hk => hk ▸ ⟨h.d.Fq, n3⟩), h2, e, h.lo, Nat.le_trans h.sz (Nat.le_trans hc1.size hc2.size), ?_, addD_rise h.rise⟩
  · exact (h.base.trans (hc1.below h.sz (fun k hk => hk ▸ h.lo b h.s.Fb))).trans (hc2.below (Nat.le_trans h.sz hc1.size) (fun k hk => hk ▸ h.lo r h.d.Fq))
  · rw [add_snd]; exact addD_perm h.is bs
/-- What is asked of All: each thing's slice stays where what may not turn stays. -/
theorem SetAt.keeps (h : SetAt F C w q b L) : ∀ x ∈ L, ∀ u, Kpt (fun k => ¬ F k) w.heap.size w u → BsV u u.heap.size x.1 x.2 := fun x hx u hu => (h.each x hx).1 u ⟨hu.os, hu.tape, hu.output, hu.size, fun k hk hf => hu.block k hk hf⟩
theorem SetAt.free (h : SetAt F C w q b L) : ∀ k, w.heap.size ≤ k → ¬ F k := fun k hk hf => by have := h.Flt k hf; omega
end
end Go.Proofs.YtcnecokamckfaaaGreatDoor

/- The walk of MatchSets. -/
namespace Go.Proofs.YtcnecokamckfaaaGreatDoor
open Go Go.RowKit Go.Shelf Go.Maps Go.WideMaps Go.Sort
attribute [local go_sem] Oper.semAt_some

section
variable {F : Nat → Prop} {C P q b q2 b2 r : Nat} {L L0 : List (Value × List Bd)} {ks : List (List Bd)} {vs : List Value} {ra : Option Addr} {rc : Nat} {w0 w : World}
theorem told_like {F : Nat → Prop} {L : List (Value × List Bd)} {ks : List (List Bd)} {v : Value} {n₀ Bc : Nat} {zs : List Pe} (hi : InO L zs) (hA : PAllAt (fun k => ¬ F k) w n₀ Bc zs) (hl : LpV w w.heap.size v ks) (his : ks.Perm (L.map Prod.snd)) (hr : RiseL ks) :
    Calls Tryz.prog 9 #[.func (.func 57) #[] #[.pointer (some ⟨Bc, 0, none⟩)], v] w fun e w' => e = .returned (.bool true) ∧ Below w.heap.size w w' := by
  have h := told10_any _ n₀ Bc zs v ks w hA hl
  rw [decide_eq_true (hi.doc hr his)] at h
  exact h
theorem S10.all (h : S10 F C P q b q2 b2 r L L0 ks vs ra rc w0 w) : Calls Tryz.prog 10 #[.pointer (some ⟨q, 0, none⟩)] w fun e w' => ∃ Bc n₀ zs, e = .returned (.func (.func 57) #[] #[.pointer (some ⟨Bc, 0, none⟩)]) ∧ InO L zs ∧ PAllAt (fun k => ¬ F k) w' n₀ Bc zs ∧ Below w.heap.size w w' :=
  (mSetAll_any _ F C q b L w h.s h.s.free h.s.keeps).mono fun e w' ⟨Bc, n₀, zs, h1, h2, h3, _, h4⟩ => ⟨Bc, n₀, zs, h1, h2, h3, h4⟩
theorem S10.allc (h : S10 F C P q b q2 b2 r L L0 ks vs ra rc w0 w) : Calls Tryz.prog 10 #[.pointer (some ⟨q2, 0, none⟩)] w fun e w' => ∃ Bc n₀ zs, e = .returned (.func (.func 57) #[] #[.pointer (some ⟨Bc, 0, none⟩)]) ∧ InO L0 zs ∧ PAllAt (fun k => ¬ F k) w' n₀ Bc zs ∧ Below w.heap.size w w' :=
  (mSetAll_any _ F C q2 b2 L0 w h.c h.c.free h.c.keeps).mono fun e w' ⟨Bc, n₀, zs, h1, h2, h3, _, h4⟩ => ⟨Bc, n₀, zs, h1, h2, h3, h4⟩
theorem S10.told (h : S10 F C P q b q2 b2 r L L0 ks vs ra rc w0 w) {n₀ Bc : Nat} {zs : List Pe} (hi : InO L zs) (hA : PAllAt (fun k => ¬ F k) w n₀ Bc zs) :
    Calls Tryz.prog 9 #[.func (.func 57) #[] #[.pointer (some ⟨Bc, 0, none⟩)], .slice ra ks.length rc] w fun e w' => e = .returned (.bool true) ∧ Below w.heap.size w w' := told_like hi hA h.lp h.is h.rise
theorem S10.cloned (h : S10 F C P q b q b r L L ks vs ra rc w0 w) {q2 b2 : Nat} {w' : World} (hb2 : w.heap.size ≤ b2) (hs : SetAt (fun k => F k ∨ k = b2) C w' q b L) (hc : SetAt (fun k => F k ∨ k = b2) C w' q2 b2 L) (hb : Below w.heap.size w w') :
    S10 (fun k => F k ∨ k = b2) C P q b q2 b2 r L L ks vs ra rc w0 w' :=
  ⟨h.base.trans (hb.mono h.sz), hs, hc, h.d.widen hb (fun k hk => .inl hk) (fun k hk => hk.imp id (fun e => by omega)) hs.Flt, (hb.block r (lt_of_block h.row)).trans h.row, fun k hk => hk.elim (h.lo k) (fun e => by have := h.sz; omega), Nat.le_trans h.sz hb.size, h.is, h.rise⟩
theorem S10.self (h : S10 F C P q b q2 b2 r L L ks vs ra rc w0 w) : Calls Tryz.prog 12 #[.pointer (some ⟨q, 0, none⟩), .pointer (some ⟨q2, 0, none⟩)] w fun e w' => e = .returned (.bool true) ∧ Below w.heap.size w w' := by
  have g := mSetSame_any F F C C q b q2 b2 L L w h.s h.c
  rw [same_self] at g; exact g
theorem S10.has (h : S10 F C P q b q2 b2 r L L0 ks vs ra rc w0 w) {ao : Option Addr} {n cap : Nat} {bs : List Bd} (hp : BsV w w.heap.size (.slice ao n cap) bs) (hk : KyB bs) :
    Calls Tryz.prog 13 #[.pointer (some ⟨q, 0, none⟩), .agg #[.slice ao n cap]] w fun e w' => e = .returned (.bool (hasR ks bs)) ∧ Below w.heap.size w w' := by
  have g := mSetHas_any F C q b L w.heap.size ao n cap bs w h.s hp (Nat.le_refl _) hk
  rw [has_eq h.is] at g; exact g
theorem S10.rhas (h : S10 F C P q b q2 b2 r L L0 ks vs ra rc w0 w) {ao : Option Addr} {n cap : Nat} {bs : List Bd} (hp : BsV w w.heap.size (.slice ao n cap) bs) :
    Calls Tryz.prog 14 #[.pointer (some ⟨r, 0, none⟩), .agg #[.slice ao n cap]] w fun e w' => e = .returned (.bool (hasR ks bs)) ∧ Below w.heap.size w w' := r10SetHas_any r _ ks ao n cap bs w h.row h.lp hp
theorem S10.sadd (h : S10 F C P q b q2 b2 r L L0 ks vs ra rc w0 w) {ao : Option Addr} {n cap : Nat} {bs : List Bd} (hp : BsV w w.heap.size (.slice ao n cap) bs) (hk : KyB bs) (hm : L.length < 5864062014805) :
    Calls Tryz.prog 15 #[.pointer (some ⟨q, 0, none⟩), .agg #[.slice ao n cap]] w fun e w' => e = .returned (.bool (addB L bs)) ∧ (∃ v, SetAt F C w' q b (if addB L bs = true then L ++ [(v, bs)] else L)) ∧ Chg (fun k => k = b) w w' :=
  mSetAdd_any F C q b L w.heap.size ao n cap bs w h.s hp (Nat.le_refl _) (fun _ => hk) hm
theorem S10.radd (h : S10 F C P q b q2 b2 r L L0 ks vs ra rc w0 w) {w1 : World} (hc : Chg (fun k => k = b) w w1) (hrb : r ≠ b) {ao : Option Addr} {n cap : Nat} {bs : List Bd} (hp : BsV w1 w1.heap.size (.slice ao n cap) bs) (hk : KyB bs) (hm : L.length < 5864062014805) :
    Calls Tryz.prog 16 #[.pointer (some ⟨r, 0, none⟩), .agg #[.slice ao n cap]] w1 fun e w' => e = .returned (.bool (addB L bs)) ∧ (∃ vs', RsM F w' r (addD ks bs) vs') ∧ Chg (fun k => k = r) w1 w' := by
  rw [add_eq h.is]
  exact r10SetAdd_any F r ks vs ao n cap bs w1 (h.d.chg hc (fun k hk => hk ▸ ⟨h.s.Fb, hrb.symm⟩)) hp (fun _ => hk) (by rw [← h.len]; exact hm)
theorem S10.slen (h : S10 F C P q b q2 b2 r L L0 ks vs ra rc w0 w) : Calls Tryz.prog 17 #[.pointer (some ⟨q, 0, none⟩)] w fun e w' => e = .returned (.int .i64 (ks.length : Int)) ∧ w = w' := by
  have g := mSetLen_any F C q b L w h.s
  rw [h.len] at g; exact g
theorem S10.chg_base (h : S10 F C P q b q2 b2 r L L0 ks vs ra rc w0 w) {w1 : World} (hc : Chg (fun k => k = b) w w1) : Below P w0 w1 := h.base.trans (hc.below h.sz (fun k hk => hk ▸ h.lo b h.s.Fb))
/-- The document's set of what the copy has, behind all that was put. -/
structure W10 (r9 : Nat) (ks : List (List Bd)) (ra9 : Option Addr) (rc9 : Nat) (w : World) : Prop where
  row : w.heap[r9]? = some (.cells #[.slice ra9 ks.length rc9] 33 (0, 0))
  lp : LpV w w.heap.size (.slice ra9 ks.length rc9) ks
theorem W10.of {F : Nat → Prop} {r9 : Nat} {ks : List (List Bd)} {vs : List Value} {w : World} (h : RsM F w r9 ks vs) : ∃ ra9 rc9, W10 r9 ks ra9 rc9 w := by
  obtain ⟨a, c, e, _⟩ := h.row
  obtain ⟨v, h1, h2⟩ := h.lp
  rw [e] at h1
  cases h1
  exact ⟨a, c, e, h2⟩
theorem W10.call {r9 : Nat} {ks : List (List Bd)} {ra9 : Option Addr} {rc9 : Nat} {w w' : World} (h : W10 r9 ks ra9 rc9 w) (hb : Below w.heap.size w w') : W10 r9 ks ra9 rc9 w' := ⟨(hb.block r9 (lt_of_block h.row)).trans h.row, (h.lp.below hb).mono hb.size⟩
theorem S10.same1 (h : S10 F C P q b q2 b2 r L L0 ks vs ra rc w0 w) {ks0 : List (List Bd)} (h0 : ks0.Perm (L0.map Prod.snd)) : Calls Tryz.prog 12 #[.pointer (some ⟨q, 0, none⟩), .pointer (some ⟨q2, 0, none⟩)] w fun e w' => e = .returned (.bool (sameR ks ks0)) ∧ Below w.heap.size w w' := by
  have g := mSetSame_any F F C C q b q2 b2 L L0 w h.s h.c
  rw [same_eq h.is h0] at g; exact g
theorem S10.same2 (h : S10 F C P q b q2 b2 r L L0 ks vs ra rc w0 w) {ks0 : List (List Bd)} (h0 : ks0.Perm (L0.map Prod.snd)) : Calls Tryz.prog 12 #[.pointer (some ⟨q2, 0, none⟩), .pointer (some ⟨q, 0, none⟩)] w fun e w' => e = .returned (.bool (sameR ks0 ks)) ∧ Below w.heap.size w w' := by
  have g := mSetSame_any F F C C q2 b2 q b L0 L w h.c h.s
  rw [same_eq h0 h.is] at g; exact g
theorem S10.rsame1 (h : S10 F C P q b q2 b2 r L L0 ks vs ra rc w0 w) {ks0 : List (List Bd)} {r9 : Nat} {ra9 : Option Addr} {rc9 : Nat} (h9 : W10 r9 ks0 ra9 rc9 w) : Calls Tryz.prog 18 #[.pointer (some ⟨r, 0, none⟩), .pointer (some ⟨r9, 0, none⟩)] w fun e w' => e = .returned (.bool (sameR ks ks0)) ∧ Below w.heap.size w w' :=
  r10SameSet_any r r9 _ _ ks ks0 w h.row h.lp h9.row h9.lp
theorem S10.rsame2 (h : S10 F C P q b q2 b2 r L L0 ks vs ra rc w0 w) {ks0 : List (List Bd)} {r9 : Nat} {ra9 : Option Addr} {rc9 : Nat} (h9 : W10 r9 ks0 ra9 rc9 w) : Calls Tryz.prog 18 #[.pointer (some ⟨r9, 0, none⟩), .pointer (some ⟨r, 0, none⟩)] w fun e w' => e = .returned (.bool (sameR ks0 ks)) ∧ Below w.heap.size w w' :=
  r10SameSet_any r9 r _ _ ks0 ks w h9.row h9.lp h.row h.lp
end

set_option maxRecDepth 100000 in
set_option maxHeartbeats 16000000 in
theorem sets_walk (v : Value) (ls : List (List Bd)) (v2 : Value) (ms : List (List Bd)) (C : Nat) (w : World)
    (hl : LpV w w.heap.size v ls) (hm : LpV w w.heap.size v2 ms) (hky : ∀ bs ∈ ms, KyB bs) (hsum : ls.length + ms.length < 5864062014805) (hC : C ≤ w.heap.size) (htab : Lib.TabBelow Tryz.prog C w "internal/strconv.uint64pow10" .u64 Lib.pow10Tab) :
    Calls Tryz.prog 3 #[v, v2] w fun e w' => e = .returned (.bool true) ∧ Below w.heap.size w w' := by
  have HNEW := Lib.hid (mNewSet_any (fun _ => False) C w.heap.size v ls w hl (Nat.le_refl _) hC (fun k hk => hk.elim) htab)
  have HRNEW : Hid (∀ (G : Nat → Prop) u, Below w.heap.size w u → (∀ k, G k → k < u.heap.size) → Calls Tryz.prog 7 #[v] u fun e w' => ∃ q vs, e = .returned (.pointer (some ⟨q, 0, none⟩)) ∧ u.heap.size ≤ q ∧ RsM (fun k => k = q ∨ G k) w' q (setD ls) vs ∧ Below u.heap.size u w') := Lib.hid fun G u hu hG => r10NewSet_any G w.heap.size v ls u (hl.below hu) hu.size hG
  have HPD := Lib.hid (setD_perm ls); have HRD := Lib.hid (setD_rise ls); have HLN := Lib.hid (setD_len ls)
  obtain ⟨N, hN⟩ : ∃ N, N = ms.length := ⟨_, rfl⟩
  have hlen := hm.len
  obtain ⟨ao, cap, rfl, hcap, hcap2, hrow⟩ := hm.row
  rw [← hN] at hcap hlen ⊢
  have HROW : Hid (∀ k, k < N → ∃ bb o aa nn c, ao = some ⟨bb, o, none⟩ ∧ (∀ u, Below w.heap.size w u → u.cell? ⟨bb, o + k, none⟩ = some (.slice aa nn c)) ∧ KyB ms[k]! ∧ ∀ u, Below w.heap.size w u → BsV u u.heap.size (.slice aa nn c) ms[k]!) := Lib.hid fun k hk => by
    obtain ⟨bb, o, e, hb, hc⟩ := hrow (by omega)
    obtain ⟨aa, nn, c, h1, h2⟩ := hc k (by omega)
    exact ⟨bb, o, aa, nn, c, e, fun u hu => (hu.cell (p := ⟨bb, o + k, none⟩) hb).trans h1, hky _ (by rw [getElem!_pos ms k (by omega)]; exact List.getElem_mem _), fun u hu => (h2.below hu (Nat.le_refl _)).mono hu.size⟩
  have HSUM : Hid (ls.length + N < 5864062014805) := Lib.hid (by omega)
  have H63 : Hid (N ≤ 5864062014805) := hlen
  have HKL := Lib.hid (setK_len ls)
  clear hl hm hky hsum hC htab hN hrow hlen hcap hcap2
  generalize setD ls = ks at HRNEW HPD HRD HLN
  go_enter Tryz.func3, Tryz.ntmps3
  go_wp2_with (first
    | (go_at_call 6; (with_reducible refine (HNEW.out).mono ?_); rintro e w1 ⟨q, b, L, rfl, hq, hb, hs, hL, hw1⟩; have HQ := Lib.hid hq; have HB := Lib.hid hb; have HS1 := Lib.hid hs; have HLK := Lib.hid hL; have HW1 := Lib.hid hw1; clear hq hb hs hL hw1)
    | (go_at_call 7; (with_reducible refine (HRNEW.out (fun k => k = b ∨ False) w1 HW1.out (HS1.out.Flt)).mono ?_); rintro e w2 ⟨r, vs, rfl, hr, hd, hw2⟩; have HR := Lib.hid hr; have HD := Lib.hid hd; have HW2 := Lib.hid hw2; clear hr hd hw2))
  obtain ⟨F, hF⟩ : ∃ F : Nat → Prop, F = fun k => (k = b ∨ False) ∨ k = r := ⟨_, rfl⟩
  obtain ⟨ra, rc, hrow, _⟩ := HD.out.row
  have hrl : r < w2.heap.size := lt_of_block hrow
  have HS : Hid (S10 F C w.heap.size q b q b r L L ks vs ra rc w w2) := by
    have hs2 := HS1.out.widen HW2.out HR.out hrl
    have hd2 := HD.out.widen (F' := F) (Below.refl _ _) (fun k hk => by rw [hF]; exact hk.elim .inr .inl) (fun k hk => by rw [hF] at hk; exact .inl (hk.elim .inr .inl)) (fun k hk => by rw [hF] at hk; exact HD.out.Flt k (hk.elim .inr .inl))
    rw [← hF] at hs2
    refine Lib.hid ⟨HW1.out.trans (HW2.out.mono HW1.out.size), hs2, hs2, hd2, hrow, fun k hk => ?_, Nat.le_trans HW1.out.size HW2.out.size, ?_, HRD.out⟩
    · rw [hF] at hk
      rcases hk with (rfl | hk) | rfl
      · exact HB.out
      · exact hk.elim
      · exact Nat.le_trans HW1.out.size HR.out
    · rw [HLK.out]; exact HPD.out
  have hrb : r ≠ b := by have := HS1.out.Flt b (.inl rfl); have := HR.out; omega
  have hbr : b < w2.heap.size := Nat.lt_of_lt_of_le (HS1.out.Flt b (.inl rfl)) HW2.out.size
  have HRB : Hid (r ≠ b) := hrb
  clear hF hrow hrl hrb hbr
  have t0 := HS.out.cell
  have HS := Lib.hid (HS.out.call (Below.refl _ _).drew)
  go_region_held3 (fun w' => w'.cell? ⟨r, 0, none⟩ = some (.slice ra ks.length rc))
    (first | (with_reducible exact t0) | go_keep)
    (first
      | (go_at_call 8; (with_reducible refine (begun10_any _).mono ?_); rintro e u1 ⟨rfl, hb⟩; have HS := Lib.hid (HS.out.call hb); have t0 := HS.out.cell; clear hb)
      | (go_at_call 10; (with_reducible refine (HS.out.all).mono ?_); rintro e u1 ⟨Bc, n₀, zs, rfl, hi, ha, hb⟩; have HI := Lib.hid hi; have HA := Lib.hid ha; have HS := Lib.hid (HS.out.call hb); have t0 := HS.out.cell; clear hi ha hb)
      | (go_at_call 9; (with_reducible refine (HS.out.told HI.out HA.out).mono ?_); rintro e u1 ⟨rfl, hb⟩; have HS := Lib.hid (HS.out.call hb); have t0 := HS.out.cell; clear hb HI HA))
  have HKL2 : Hid (L.length ≤ ls.length) := Lib.hid (by have := congrArg List.length HLK.out; rw [List.length_map] at this; have := HKL.out; omega)
  clear t0
  go_wp2_with (first
    | (go_at_call 11; (with_reducible refine (mSetClone_any _ C q b L _ HS.out.s).mono ?_); rintro e w3 ⟨q2, b2, rfl, hq2, hb2, hsa, hsc, hw3⟩; have HB2 : Hid (b ≠ b2 ∧ r ≠ b2) := Lib.hid ⟨(by have := HS.out.s.Flt b HS.out.s.Fb; omega), (by have := HS.out.d.Flt r HS.out.d.Fq; omega)⟩; have HS := Lib.hid (HS.out.cloned hb2 hsa hsc hw3); clear hq2 hb2 hsa hsc hw3)
    | (go_at_call 12; (with_reducible refine (HS.out.self).mono ?_); rintro e w4 ⟨rfl, hb⟩; have HS := Lib.hid (HS.out.call hb); clear hb))
  generalize (fun k => F k ∨ k = b2) = F2 at HS
  have HPD2 : Hid (ks.Perm (L.map Prod.snd)) := Lib.hid HS.out.is
  go_loopw [43] (fun iv wr => ∃ (k : Nat) (Lk : List (Value × List Bd)) (kk : List (List Bd)) (vk : List Value) (rak : Option Addr) (rck : Nat), k ≤ N ∧ iv = .int .i64 (k : Int) ∧ Hid (S10 F2 C w.heap.size q b q2 b2 r Lk L kk vk rak rck w wr) ∧ Hid (Lk.length ≤ ls.length + k)) (fun iv _ => N - (intOf iv).toNat)
  case atStart => exact ⟨0, L, ks, vs, ra, rc, Nat.zero_le _, rfl, HS, HKL2⟩
  case round =>
    obtain ⟨k, Lk, kk, vk, rak, rck, hkN, rfl, HSk, HLk⟩ := hrel
    by_cases hlt : k < N
    · obtain ⟨bb, o, aa, nn, c, rfl, hcell, hky, hbs⟩ := HROW.out k hlt
      have HKY := Lib.hid hky; have HBS := Lib.hid hbs
      have hki : decide ((k : Int) < (N : Int)) = true := by simpa using hlt
      have hkz : (0 : Int) ≤ (k : Int) := by omega
      have e1 : IntKind.i64.wrap ((k : Int) + 1) = (k : Int) + 1 := IntWalk.i64_in _ (by have := H63.out; omega)
      have a0 := hcell wr HSk.out.base
      have HLT : Hid (Lk.length < 5864062014805) := Lib.hid (by have := HLk.out; have := HSUM.out; omega)
      generalize ms[k]! = x at HKY HBS hky hbs
      clear hky hbs hcell
      go_wp2_with fail
      obtain ⟨B, hB⟩ : ∃ B, B = wr.heap.size := ⟨_, rfl⟩
      obtain ⟨W5, hW5⟩ : ∃ W5, W5 = wr.alloc (.cells #[.slice aa nn c] 38) := ⟨_, rfl⟩
      rw [← hW5, ← hB]
      have HS : Hid (S10 F2 C w.heap.size q b q2 b2 r Lk L kk vk rak rck w W5) := Lib.hid (by rw [hW5]; exact HSk.out.call ((Below.refl _ _).alloc (Nat.le_refl _) _))
      have HX5 : Hid (W5.heap[B]? = some (.cells #[.slice aa nn c] 38 (0, 0))) := Lib.hid (by rw [hW5, hB]; exact heap_alloc_new _ _)
      have HBN : Hid (B ≠ b ∧ B ≠ r) := Lib.hid ⟨(by have := HSk.out.s.Flt b HSk.out.s.Fb; omega), (by have := HSk.out.d.Flt r HSk.out.d.Fq; omega)⟩
      have g1 : (hasR kk x != hasR kk x) = false := by simp
      have g2 : (addB Lk x != addB Lk x) = false := by simp
      have g3 : (((addD kk x).length : Int) != ((addD kk x).length : Int)) = false := by simp
      have t1 := cells_one0 HX5.out
      clear hB hW5 a0 HS1 HSk HRNEW HNEW
      have HS := Lib.hid (HS.out.call (Below.refl _ _).drew)
      have HX5 : Hid (W5.drew.heap[B]? = some (.cells #[.slice aa nn c] 38 (0, 0))) := HX5
      have t1 := cells_one0 HX5.out
      refine wp_region_held_drew (S := (fun w' => w'.cell? ⟨B, 0, none⟩ = some (.slice aa nn c))) (by kernel_rfl) t1 (fun _ => ?_)
      refine takeR (i := 0) (v := ?_) rfl (by as_aux_lemma => kernel_rfl) (by as_aux_lemma => kernel_rfl) (by as_aux_lemma => kernel_rfl) (fun _ _ _ h => h) (by rfl) ?_ (by assumption) ?_
      rotate_left
      · (intro w hSw; (try dsimp only at hSw); go_simp <;> with_reducible rfl)
      try simp only [Act.put, List.setIfInBounds_toArray, List.set_cons_zero, List.set_cons_succ]
      refine takeR (i := 1) (v := ?_) rfl (by as_aux_lemma => kernel_rfl) (by as_aux_lemma => kernel_rfl) (by as_aux_lemma => kernel_rfl) (fun _ _ _ h => h) (by rfl) ?_ (by assumption) ?_
      rotate_left
      · (intro w hSw; (try dsimp only at hSw); go_simp <;> with_reducible rfl)
      try simp only [Act.put, List.setIfInBounds_toArray, List.set_cons_zero, List.set_cons_succ]
      refine takeR (i := 3) (v := ?_) rfl (by as_aux_lemma => kernel_rfl) (by as_aux_lemma => kernel_rfl) (by as_aux_lemma => kernel_rfl) (fun _ _ _ h => h) (by rfl) ?_ (by assumption) ?_
      rotate_left
      · (intro w hSw; (try dsimp only at hSw); go_simp <;> with_reducible rfl)
      try simp only [Act.put, List.setIfInBounds_toArray, List.set_cons_zero, List.set_cons_succ]
      refine takeR (i := 4) (v := ?_) rfl (by as_aux_lemma => kernel_rfl) (by as_aux_lemma => kernel_rfl) (by as_aux_lemma => kernel_rfl) (fun _ _ _ h => h) (by rfl) ?_ (by assumption) ?_
      rotate_left
      · (intro w hSw; (try dsimp only at hSw); go_simp <;> with_reducible rfl)
      try simp only [Act.put, List.setIfInBounds_toArray, List.set_cons_zero, List.set_cons_succ]
      refine oneR (i := 2) rfl (by as_aux_lemma => kernel_rfl) (fun K hK => ?_)
      go_simp
      (with_reducible refine (HS.out.has (HBS.out _ HS.out.base) HKY.out).mono ?_)
      rintro e u1 ⟨rfl, hb⟩
      have HS := Lib.hid (HS.out.call hb)
      have HX5 := Lib.hid ((hb.block B (lt_of_block HX5.out)).trans HX5.out)
      clear t1
      have t1 := cells_one0 HX5.out
      clear hb
      refine hK.out _ _ t1 (fun _ => ?_)
      clear hK K
      try simp only [Act.put, List.setIfInBounds_toArray, List.set_cons_zero, List.set_cons_succ]
      refine oneR (i := 5) rfl (by as_aux_lemma => kernel_rfl) (fun K hK => ?_)
      go_simp
      (with_reducible refine (HS.out.rhas (HBS.out _ HS.out.base)).mono ?_)
      rintro e u2 ⟨rfl, hb⟩
      have HS := Lib.hid (HS.out.call hb)
      have HX5 := Lib.hid ((hb.block B (lt_of_block HX5.out)).trans HX5.out)
      clear t1
      have t1 := cells_one0 HX5.out
      clear hb
      refine hK.out _ _ t1 (fun _ => ?_)
      clear hK K
      try simp only [Act.put, List.setIfInBounds_toArray, List.set_cons_zero, List.set_cons_succ]
      refine takeR (i := 6) (v := ?_) rfl (by as_aux_lemma => kernel_rfl) (by as_aux_lemma => kernel_rfl) (by as_aux_lemma => kernel_rfl) (fun _ _ _ h => h) (by rfl) ?_ (by assumption) ?_
      rotate_left
      · (intro w hSw; (try dsimp only at hSw); go_simp <;> with_reducible rfl)
      try simp only [Act.put, List.setIfInBounds_toArray, List.set_cons_zero, List.set_cons_succ]
      refine takeR (i := 7) (v := ?_) rfl (by as_aux_lemma => kernel_rfl) (by as_aux_lemma => kernel_rfl) (by as_aux_lemma => kernel_rfl) (fun _ _ _ h => h) (by rfl) ?_ (by assumption) ?_
      rotate_left
      · (intro w hSw; (try dsimp only at hSw); go_simp <;> with_reducible rfl)
      try simp only [Act.put, List.setIfInBounds_toArray, List.set_cons_zero, List.set_cons_succ]
      refine takeR (i := 8) (v := ?_) rfl (by as_aux_lemma => kernel_rfl) (by as_aux_lemma => kernel_rfl) (by as_aux_lemma => kernel_rfl) (fun _ _ _ h => h) (by rfl) ?_ (by assumption) ?_
      rotate_left
      · (intro w hSw; (try dsimp only at hSw); go_simp <;> with_reducible rfl)
      try simp only [Act.put, List.setIfInBounds_toArray, List.set_cons_zero, List.set_cons_succ]
      refine takeR (i := 9) (v := ?_) rfl (by as_aux_lemma => kernel_rfl) (by as_aux_lemma => kernel_rfl) (by as_aux_lemma => kernel_rfl) (fun _ _ _ h => h) (by rfl) ?_ (by assumption) ?_
      rotate_left
      · (intro w hSw; (try dsimp only at hSw); go_simp <;> with_reducible rfl)
      try simp only [Act.put, List.setIfInBounds_toArray, List.set_cons_zero, List.set_cons_succ]
      refine takeR (i := 11) (v := ?_) rfl (by as_aux_lemma => kernel_rfl) (by as_aux_lemma => kernel_rfl) (by as_aux_lemma => kernel_rfl) (fun _ _ _ h => h) (by rfl) ?_ (by assumption) ?_
      rotate_left
      · (intro w hSw; (try dsimp only at hSw); go_simp <;> with_reducible rfl)
      try simp only [Act.put, List.setIfInBounds_toArray, List.set_cons_zero, List.set_cons_succ]
      refine takeR (i := 12) (v := ?_) rfl (by as_aux_lemma => kernel_rfl) (by as_aux_lemma => kernel_rfl) (by as_aux_lemma => kernel_rfl) (fun _ _ _ h => h) (by rfl) ?_ (by assumption) ?_
      rotate_left
      · (intro w hSw; (try dsimp only at hSw); go_simp <;> with_reducible rfl)
      try simp only [Act.put, List.setIfInBounds_toArray, List.set_cons_zero, List.set_cons_succ]
      refine oneR (i := 10) rfl (by as_aux_lemma => kernel_rfl) (fun K hK => ?_)
      go_simp
      (with_reducible refine (HS.out.sadd (HBS.out _ HS.out.base) HKY.out HLT.out).mono ?_)
      rintro e u3 ⟨rfl, ⟨vn, hsn⟩, hch⟩
      have HSN := Lib.hid hsn
      have HCH := Lib.hid hch
      have HX5 := Lib.hid ((hch.block B (lt_of_block HX5.out) HBN.out.1).trans HX5.out)
      clear t1
      have t1 := cells_one0 HX5.out
      clear hsn hch
      refine hK.out _ _ t1 (fun _ => ?_)
      clear hK K
      try simp only [Act.put, List.setIfInBounds_toArray, List.set_cons_zero, List.set_cons_succ]
      refine oneR (i := 13) rfl (by as_aux_lemma => kernel_rfl) (fun K hK => ?_)
      go_simp
      (with_reducible refine (HS.out.radd HCH.out HRB.out (HBS.out _ (HS.out.chg_base HCH.out)) HKY.out HLT.out).mono ?_)
      rintro e u4 ⟨rfl, ⟨vs', hd⟩, hch2⟩
      obtain ⟨ra', rc', hs⟩ := HS.out.both HSN.out HCH.out hd hch2 HB2.out.1 HRB.out HB2.out.2
      have HS := Lib.hid hs
      have t2 := HS.out.cell
      have HX5 := Lib.hid ((hch2.block B (lt_of_block HX5.out) HBN.out.2).trans HX5.out)
      clear t1
      have t1 := cells_one0 HX5.out
      clear hd hch2 hs
      refine hK.out _ _ t1 (fun _ => ?_)
      clear hK K
      try simp only [Act.put, List.setIfInBounds_toArray, List.set_cons_zero, List.set_cons_succ]
      refine takeR (i := 14) (v := ?_) rfl (by as_aux_lemma => kernel_rfl) (by as_aux_lemma => kernel_rfl) (by as_aux_lemma => kernel_rfl) (fun _ _ _ h => h) (by rfl) ?_ (by assumption) ?_
      rotate_left
      · (intro w hSw; (try dsimp only at hSw); go_simp <;> with_reducible rfl)
      try simp only [Act.put, List.setIfInBounds_toArray, List.set_cons_zero, List.set_cons_succ]
      refine takeR (i := 15) (v := ?_) rfl (by as_aux_lemma => kernel_rfl) (by as_aux_lemma => kernel_rfl) (by as_aux_lemma => kernel_rfl) (fun _ _ _ h => h) (by rfl) ?_ (by assumption) ?_
      rotate_left
      · (intro w hSw; (try dsimp only at hSw); go_simp <;> with_reducible rfl)
      try simp only [Act.put, List.setIfInBounds_toArray, List.set_cons_zero, List.set_cons_succ]
      refine takeR (i := 16) (v := ?_) rfl (by as_aux_lemma => kernel_rfl) (by as_aux_lemma => kernel_rfl) (by as_aux_lemma => kernel_rfl) (fun _ _ _ h => h) (by rfl) ?_ (by assumption) ?_
      rotate_left
      · (intro w hSw; (try dsimp only at hSw); go_simp <;> with_reducible rfl)
      try simp only [Act.put, List.setIfInBounds_toArray, List.set_cons_zero, List.set_cons_succ]
      refine takeR (i := 17) (v := ?_) rfl (by as_aux_lemma => kernel_rfl) (by as_aux_lemma => kernel_rfl) (by as_aux_lemma => kernel_rfl) (fun _ _ _ h => h) (by rfl) ?_ (by assumption) ?_
      rotate_left
      · (intro w hSw; (try dsimp only at hSw); go_simp <;> with_reducible rfl)
      try simp only [Act.put, List.setIfInBounds_toArray, List.set_cons_zero, List.set_cons_succ]
      refine takeR (i := 19) (v := ?_) rfl (by as_aux_lemma => kernel_rfl) (by as_aux_lemma => kernel_rfl) (by as_aux_lemma => kernel_rfl) (fun _ _ _ h => h) (by rfl) ?_ (by assumption) ?_
      rotate_left
      · (intro w hSw; (try dsimp only at hSw); go_simp <;> with_reducible rfl)
      try simp only [Act.put, List.setIfInBounds_toArray, List.set_cons_zero, List.set_cons_succ]
      refine takeR (i := 20) (v := ?_) rfl (by as_aux_lemma => kernel_rfl) (by as_aux_lemma => kernel_rfl) (by as_aux_lemma => kernel_rfl) (fun _ _ _ h => h) (by rfl) ?_ (by assumption) ?_
      rotate_left
      · (intro w hSw; (try dsimp only at hSw); go_simp <;> with_reducible rfl)
      try simp only [Act.put, List.setIfInBounds_toArray, List.set_cons_zero, List.set_cons_succ]
      refine takeR (i := 21) (v := ?_) rfl (by as_aux_lemma => kernel_rfl) (by as_aux_lemma => kernel_rfl) (by as_aux_lemma => kernel_rfl) (fun _ _ _ h => h) (by rfl) ?_ (by assumption) ?_
      rotate_left
      · (intro w hSw; (try dsimp only at hSw); go_simp <;> with_reducible rfl)
      try simp only [Act.put, List.setIfInBounds_toArray, List.set_cons_zero, List.set_cons_succ]
      refine twoR (i := 18) (j := 22) rfl rfl (by as_aux_lemma => kernel_rfl) (fun K hK => ?_) (fun K hK => ?_)
      · go_simp
        (with_reducible refine (HS.out.slen).mono ?_)
        rintro e u5 ⟨rfl, rfl⟩
        refine hK.out _ _ t1 (fun _ => ?_)
        clear hK K
        try simp only [Act.put, List.setIfInBounds_toArray, List.set_cons_zero, List.set_cons_succ]
        refine oneR (i := 22) rfl (by as_aux_lemma => kernel_rfl) (fun K hK => ?_)
        go_simp
        refine hK.out _ _ t1 (fun _ => ?_)
        clear hK K
        try simp only [Act.put, List.setIfInBounds_toArray, List.set_cons_zero, List.set_cons_succ]
        refine takeR (i := 23) (v := ?_) rfl (by as_aux_lemma => kernel_rfl) (by as_aux_lemma => kernel_rfl) (by as_aux_lemma => kernel_rfl) (fun _ _ _ h => h) (by rfl) ?_ (by assumption) ?_
        rotate_left
        · (intro w hSw; (try dsimp only at hSw); go_simp <;> with_reducible rfl)
        try simp only [Act.put, List.setIfInBounds_toArray, List.set_cons_zero, List.set_cons_succ]
        refine takeR (i := 24) (v := ?_) rfl (by as_aux_lemma => kernel_rfl) (by as_aux_lemma => kernel_rfl) (by as_aux_lemma => kernel_rfl) (fun _ _ _ h => h) (by rfl) ?_ (by assumption) ?_
        rotate_left
        · (intro w hSw; (try dsimp only at hSw); go_simp <;> with_reducible rfl)
        try simp only [Act.put, List.setIfInBounds_toArray, List.set_cons_zero, List.set_cons_succ]
        refine takeR (i := 25) (v := ?_) rfl (by as_aux_lemma => kernel_rfl) (by as_aux_lemma => kernel_rfl) (by as_aux_lemma => kernel_rfl) (fun _ _ _ h => h) (by rfl) ?_ (by assumption) ?_
        rotate_left
        · (intro w hSw; (try dsimp only at hSw); go_simp <;> with_reducible rfl)
        try simp only [Act.put, List.setIfInBounds_toArray, List.set_cons_zero, List.set_cons_succ]
        refine wpAnyH_done (by kernel_rfl) ?_ _
        go_wp2
        refine ⟨⟨k + 1, _, _, _, _, _, by omega, by go_num, HS, ?_⟩, by simp [intOf]; omega⟩
        have h1 := HLk.out
        refine Lib.hid ?_
        split
        · rw [List.length_append, List.length_singleton]; omega
        · omega
      · go_simp
        refine hK.out _ _ t1 (fun _ => ?_)
        clear hK K
        try simp only [Act.put, List.setIfInBounds_toArray, List.set_cons_zero, List.set_cons_succ]
        refine takeR (i := 23) (v := ?_) rfl (by as_aux_lemma => kernel_rfl) (by as_aux_lemma => kernel_rfl) (by as_aux_lemma => kernel_rfl) (fun _ _ _ h => h) (by rfl) ?_ (by assumption) ?_
        rotate_left
        · (intro w hSw; (try dsimp only at hSw); go_simp <;> with_reducible rfl)
        try simp only [Act.put, List.setIfInBounds_toArray, List.set_cons_zero, List.set_cons_succ]
        refine oneR (i := 18) rfl (by as_aux_lemma => kernel_rfl) (fun K hK => ?_)
        go_simp
        (with_reducible refine (HS.out.slen).mono ?_)
        rintro e u5 ⟨rfl, rfl⟩
        refine hK.out _ _ t1 (fun _ => ?_)
        clear hK K
        try simp only [Act.put, List.setIfInBounds_toArray, List.set_cons_zero, List.set_cons_succ]
        refine takeR (i := 24) (v := ?_) rfl (by as_aux_lemma => kernel_rfl) (by as_aux_lemma => kernel_rfl) (by as_aux_lemma => kernel_rfl) (fun _ _ _ h => h) (by rfl) ?_ (by assumption) ?_
        rotate_left
        · (intro w hSw; (try dsimp only at hSw); go_simp <;> with_reducible rfl)
        try simp only [Act.put, List.setIfInBounds_toArray, List.set_cons_zero, List.set_cons_succ]
        refine takeR (i := 25) (v := ?_) rfl (by as_aux_lemma => kernel_rfl) (by as_aux_lemma => kernel_rfl) (by as_aux_lemma => kernel_rfl) (fun _ _ _ h => h) (by rfl) ?_ (by assumption) ?_
        rotate_left
        · (intro w hSw; (try dsimp only at hSw); go_simp <;> with_reducible rfl)
        try simp only [Act.put, List.setIfInBounds_toArray, List.set_cons_zero, List.set_cons_succ]
        refine wpAnyH_done (by kernel_rfl) ?_ _
        go_wp2
        refine ⟨⟨k + 1, _, _, _, _, _, by omega, by go_num, HS, ?_⟩, by simp [intOf]; omega⟩
        have h1 := HLk.out
        refine Lib.hid ?_
        split
        · rw [List.length_append, List.length_singleton]; omega
        · omega
    · have hki : decide ((k : Int) < (N : Int)) = false := by simp; omega
      clear HNEW HS1
      have HFS := Lib.hid HSk.out.s.Flt
      go_wp2_with (go_at_call 7; (with_reducible refine (HRNEW.out F2 wr HSk.out.base HFS.out).mono ?_); rintro e w9 ⟨r9, vs9, rfl, hr, hd, hw⟩; have HD := Lib.hid hd; have HS := Lib.hid (HSk.out.call hw); clear hr hd hw)
      obtain ⟨ra9, rc9, h9⟩ := W10.of HD.out
      have H9 := Lib.hid (h9.call (Below.refl _ _).drew)
      have HS := Lib.hid (HS.out.call (Below.refl _ _).drew)
      have t1 := HS.out.cell
      have t2 := cells_one0 H9.out.row
      have g1 : (sameR kk ks == sameR kk ks) = true := by simp
      have g2 : (sameR ks kk == sameR ks kk) = true := by simp
      clear h9 HD HSk HRNEW HROW HFS
      go_region_held3 (fun w' => w'.cell? ⟨r, 0, none⟩ = some (.slice rak kk.length rck) ∧ w'.cell? ⟨r9, 0, none⟩ = some (.slice ra9 ks.length rc9))
        (first | (with_reducible exact ⟨t1, t2⟩) | go_keep)
        (first
          | (go_at_call 10; (with_reducible refine (HS.out.all).mono ?_); rintro e u1 ⟨Bc, n₀, zs, rfl, hi, ha, hb⟩; have HI := Lib.hid hi; have HA := Lib.hid ha; have HS := Lib.hid (HS.out.call hb); have H9 := Lib.hid (H9.out.call hb); have t1 := HS.out.cell; have t2 := cells_one0 H9.out.row; clear hi ha hb)
          | (go_at_call 10; (with_reducible refine (HS.out.allc).mono ?_); rintro e u1 ⟨Bd, n₁, zt, rfl, hi, ha, hb⟩; have HI2 := Lib.hid hi; have HA2 := Lib.hid ha; have HS := Lib.hid (HS.out.call hb); have H9 := Lib.hid (H9.out.call hb); have t1 := HS.out.cell; have t2 := cells_one0 H9.out.row; clear hi ha hb)
          | (go_at_call 9; (with_reducible refine (HS.out.told HI.out HA.out).mono ?_); rintro e u1 ⟨rfl, hb⟩; have HS := Lib.hid (HS.out.call hb); have H9 := Lib.hid (H9.out.call hb); have t1 := HS.out.cell; have t2 := cells_one0 H9.out.row; clear hb)
          | (go_at_call 9; (with_reducible refine (told_like HI2.out HA2.out H9.out.lp HPD2.out HRD.out).mono ?_); rintro e u1 ⟨rfl, hb⟩; have HS := Lib.hid (HS.out.call hb); have H9 := Lib.hid (H9.out.call hb); have t1 := HS.out.cell; have t2 := cells_one0 H9.out.row; clear hb)
          | (go_at_call 12; (with_reducible refine (HS.out.same1 HPD2.out).mono ?_); rintro e u1 ⟨rfl, hb⟩; have HS := Lib.hid (HS.out.call hb); have H9 := Lib.hid (H9.out.call hb); have t1 := HS.out.cell; have t2 := cells_one0 H9.out.row; clear hb)
          | (go_at_call 12; (with_reducible refine (HS.out.same2 HPD2.out).mono ?_); rintro e u1 ⟨rfl, hb⟩; have HS := Lib.hid (HS.out.call hb); have H9 := Lib.hid (H9.out.call hb); have t1 := HS.out.cell; have t2 := cells_one0 H9.out.row; clear hb)
          | (go_at_call 18; (with_reducible refine (HS.out.rsame1 H9.out).mono ?_); rintro e u1 ⟨rfl, hb⟩; have HS := Lib.hid (HS.out.call hb); have H9 := Lib.hid (H9.out.call hb); have t1 := HS.out.cell; have t2 := cells_one0 H9.out.row; clear hb)
          | (go_at_call 18; (with_reducible refine (HS.out.rsame2 H9.out).mono ?_); rintro e u1 ⟨rfl, hb⟩; have HS := Lib.hid (HS.out.call hb); have H9 := Lib.hid (H9.out.call hb); have t1 := HS.out.cell; have t2 := cells_one0 H9.out.row; clear hb))
      all_goals go_wp2
      all_goals go_ret
      all_goals exact ⟨by simp, HS.out.base⟩
end Go.Proofs.YtcnecokamckfaaaGreatDoor
