/- Sets of names: either, common, meet, rising. -/
import Derived.Test.YtnfjodkpapmfkaaNa7
namespace Go.Proofs.Ytnfjodkpapmfkaa
open Go Go.RowKit Go.Maps Go.Sort Go.WideMaps

theorem StD.zero {w : World} {S : List Nm} {n : Nat} (h : StD w none S n) : n = 0 := by
  rcases h with ⟨_, _, rfl⟩ | ⟨b, D, hb, _⟩
  · rfl
  · cases hb
/-- Which of two is gone through, and which is asked. -/
theorem sized_ways (a b : Option Nat) (S T : List Nm) (w : World) (hS : StV w a S) (hT : StV w b T) :
    (∃ n, StD w a S n ∧ (b = none → n = 0) ∧ Calls Try.prog 104 #[.map a, .map b] w fun e w' => e = .returned (.tuple #[.map a, .map b]) ∧ w = w') ∨
    (∃ n, StD w b T n ∧ (a = none → n = 0) ∧ Calls Try.prog 104 #[.map a, .map b] w fun e w' => e = .returned (.tuple #[.map b, .map a]) ∧ w = w') := by
  obtain ⟨n, hn, _⟩ := hS.open_
  obtain ⟨m, hm, _⟩ := hT.open_
  have h := cSized_any a b n m w hn.len hm.len
  by_cases hlt : m < n
  · rw [if_pos hlt] at h
    refine .inr ⟨m, hm, fun he => ?_, h⟩
    subst he
    have := hn.zero
    omega
  · rw [if_neg hlt] at h
    refine .inl ⟨n, hn, fun he => ?_, h⟩
    subst he
    have := hm.zero
    omega
theorem cEither_any (a b : Option Nat) (S T : List Nm) (w : World) (hS : StV w a S) (hT : StV w b T) (hne : ∀ x, a = some x → b ≠ some x) (hl : S.length + T.length < maxLen) :
    Calls Try.prog 71 #[.map a, .map b] w fun e w' => ∃ m, e = .returned (.map m) ∧ (m = a ∨ m = b) ∧ (∃ C, StV w' m C ∧ (∀ x, x ∈ C ↔ x ∈ S ∨ x ∈ T) ∧ C.length ≤ S.length + T.length) ∧ Chg (fun j => a = some j ∨ b = some j) w w' := by
  rcases sized_ways a b S T w hS hT with ⟨n, hn, hz, hc⟩ | ⟨n, hn, hz, hc⟩
  · refine (cEither_core (.map a) (.map b) a b S T n w hn hT hne hz hl hc).mono ?_
    rintro e w' ⟨rfl, hU, hC⟩
    exact ⟨b, rfl, .inr rfl, hU, ⟨hC.os, hC.tape, hC.output, hC.size, fun k hk hf => hC.block k hk (fun h => hf (.inr h))⟩⟩
  · refine (cEither_core (.map a) (.map b) b a T S n w hn hS (fun x hx hy => hne x hy hx) hz (by omega) hc).mono ?_
    rintro e w' ⟨rfl, ⟨C, h1, h2, h3⟩, hC⟩
    exact ⟨a, rfl, .inl rfl, ⟨C, h1, fun x => by rw [h2 x, or_comm], by omega⟩, ⟨hC.os, hC.tape, hC.output, hC.size, fun k hk hf => hC.block k hk (fun h => hf (.inl h))⟩⟩
theorem ranges_blk {w w' : World} {P : Program} {k : TypeId} {R : Value → Option (DataW Unit × List MemPlace)} {b r n : Nat} {D : DataW Unit} {left : Lit → Bool} {cnt : Nat} (h : w.ranges P k R b r n D left cnt) (hb : w'.heap[b]? = w.heap[b]?) (hr : w'.heap[r]? = w.heap[r]?) : w'.ranges P k R b r n D left cnt := by
  obtain ⟨es, clock, since, seen, c0, h1, h2, h3, h4, h5, rest⟩ := h
  exact ⟨es, clock, since, seen, c0, hb.trans h1, h2, h3, h4, hr.trans h5, rest⟩
theorem owns_blk {w w' : World} {P : Program} {k : TypeId} {R : Value → Option (DataW Unit × List MemPlace)} {b n : Nat} {D : DataW Unit} (h : w.ownsMap P k R b n D) (hb : w'.heap[b]? = w.heap[b]?) : w'.ownsMap P k R b n D := by
  obtain ⟨es, clock, h1, rest⟩ := h
  exact ⟨es, clock, hb.trans h1, rest⟩
theorem meets_comm (S T : List Nm) : meets S T = meets T S := by
  rw [Bool.eq_iff_iff, meets_iff, meets_iff]
  exact ⟨fun ⟨x, a, b⟩ => ⟨x, b, a⟩, fun ⟨x, a, b⟩ => ⟨x, b, a⟩⟩
set_option maxRecDepth 100000 in
set_option maxHeartbeats 2000000 in
theorem cMeet_core (a b : Value) (ms mg : Option Nat) (S T : List Nm) (n : Nat) (w : World) (hs : StD w ms S n) (hg : StV w mg T) (hz : mg = none → n = 0)
    (HS : Calls Try.prog 104 #[a, b] w fun e w' => e = .returned (.tuple #[.map ms, .map mg]) ∧ w = w') :
    Calls Try.prog 108 #[a, b] w fun e w' => e = .returned (.bool (meets S T)) ∧ Below w.heap.size w w' := by
  have HZ := Lib.hid HS
  clear HS
  rcases hs with ⟨rfl, rfl, rfl⟩ | ⟨b1, D1, rfl, hown1, hD1, hsz⟩
  · have hrg := run_range_nilMap (P := Try.prog) w 76 9 98 Try.underlying76
    have hnx : ∀ ty, (Instr.next (.pointer (some ⟨w.heap.size, 0, none⟩)) false ty).run Try.prog (w.alloc (.mapIter none 0 #[] 0)) = _ := fun ty => run_next_nilMap w ty 0 0 #[]
    have HM : Hid (meets [] T = false) := Lib.hid rfl
    clear hz hg
    go_enter Try.func108, Try.ntmps108
    go_wp2_with (first | (go_at_call 104; (with_reducible refine HZ.out.mono ?_); rintro e w1 ⟨rfl, rfl⟩))
    refine wp_loop_rounds 1 ?_
    rw [rounds_succ]
    go_wp2
    go_ret
    exact ⟨by rw [HM.out]; rfl, (Below.refl _ _).alloc (Nat.le_refl _) _⟩
  · have hb1 := hown1.lt
    rcases hg with ⟨rfl, rfl⟩ | ⟨b2, D2, rfl, hown2, hD2⟩
    · have hn0 := hz rfl
      have HO := Lib.hid (show n = 0 ∧ Maps.size D1 = n from ⟨hn0, hsz⟩)
      have HM : Hid (meets S [] = false) := Lib.hid (by
        cases h : meets S [] with
        | false => rfl
        | true => obtain ⟨x, _, hx⟩ := meets_iff.1 h; cases hx)
      clear hz hn0 hsz hD1
      go_enter Try.func108, Try.ntmps108
      go_wp2_with (first
        | (go_at_call 104; (with_reducible refine HZ.out.mono ?_); rintro e w1 ⟨rfl, rfl⟩)
        | (at_range; refine wpList_range_own _ rfl _ 76 rfl 9 98 lawS Try.underlying76 _ b1 S.length _ rfl hown1 ?_; intro w0 hrg0 hg0 hs0)
        | go_in)
      go_frame
      go_loopw [7] (fun _ wr => ∃ (left : Lit → Bool) (cnt : Nat), wr.ranges Try.prog 9 (unitElem (H := Unit)) b1 w.heap.size S.length D1 left cnt ∧ Hid (cnt = 0) ∧ Hid (Below w.heap.size w wr))
        (fun _ wr => wr.rangeLeft b1 w.heap.size)
      case atStart => exact ⟨_, _, hrg0, Lib.hid (by rw [HO.out.2, HO.out.1]), Lib.hid ((Below.refl _ _).grown hg0 (Nat.le_refl _) (fun b hb => by cases hb))⟩
      case round =>
        obtain ⟨left, cnt, hrg, HC, HX⟩ := hrel
        go_wp2_with (first
          | (at_next; refine wpList_next_ranges _ rfl _ rfl 9 lawS (unitElem (H := Unit)) encStr id (fun key kl hk => by obtain ⟨x, hx, _⟩ := Maps.keyOf_str Try.underlying9 hk; exact ⟨x, hx⟩) (fun v _ _ => ⟨v, rfl⟩) b1 w.heap.size S.length _ _ _ rfl hrg ?_ ?_)
          | go_in)
        · intro hc0 hl0
          go_wp2
          go_ret
          exact ⟨by rw [HM.out]; rfl, HX.out⟩
        · intro x c kl yd yp w2 cnt2 hkey hlk hv hat hrg2 hlt hg2 hs2 hen
          exact absurd hlt (by rw [HC.out]; omega)
    · have hb2 := hown2.lt
      have HD1 := Lib.hid hD1; have HD2 := Lib.hid hD2
      have HB := Lib.hid (show b1 < w.heap.size ∧ b2 < w.heap.size from ⟨hb1, hb2⟩)
      have HOW2 := Lib.hid hown2
      clear hz hsz hD1 hD2 hb1 hb2 hown2
      go_enter Try.func108, Try.ntmps108
      go_wp2_with (first
        | (go_at_call 104; (with_reducible refine HZ.out.mono ?_); rintro e w1 ⟨rfl, rfl⟩)
        | (at_range; refine wpList_range_own _ rfl _ 76 rfl 9 98 lawS Try.underlying76 _ b1 S.length _ rfl hown1 ?_; intro w0 hrg0 hg0 hs0)
        | go_in)
      go_frame
      go_loopw [7] (fun _ wr => ∃ (left : Lit → Bool) (cnt : Nat) (C : List Nm), wr.ranges Try.prog 9 (unitElem (H := Unit)) b1 w.heap.size S.length D1 left cnt ∧ Hid (Collected D1 left C) ∧ Hid (∀ x, x ∈ C → x ∉ T) ∧ Hid (Below w.heap.size w wr) ∧ Hid (w.heap.size < wr.heap.size))
        (fun _ wr => wr.rangeLeft b1 w.heap.size)
      case atStart =>
        exact ⟨_, _, [], hrg0, Lib.hid (Collected.start D1), Lib.hid (by simp), Lib.hid ((Below.refl _ _).grown hg0 (Nat.le_refl _) (fun b hb => by cases hb)), Lib.hid (by rw [hs0]; exact Nat.lt_succ_self _)⟩
      case round =>
        obtain ⟨left, cnt, C, hrg, HC, HN, HX, HR⟩ := hrel
        go_wp2_with (first
          | (at_next; refine wpList_next_ranges _ rfl _ rfl 9 lawS (unitElem (H := Unit)) encStr id (fun key kl hk => by obtain ⟨x, hx, _⟩ := Maps.keyOf_str Try.underlying9 hk; exact ⟨x, hx⟩) (fun v _ _ => ⟨v, rfl⟩) b1 w.heap.size S.length _ _ _ rfl hrg ?_ ?_)
          | go_in)
        · intro hc0 hl0
          go_wp2
          go_ret
          refine ⟨?_, HX.out⟩
          have : meets S T = false := by
            cases h : meets S T with
            | false => rfl
            | true =>
              obtain ⟨x, hx, hy⟩ := meets_iff.1 h
              exact absurd hy (HN.out x ((HC.out.2 x).2 ⟨by rw [HD1.out]; exact decide_eq_true hx, hl0 _⟩))
          rw [this]; rfl
        · intro x c kl yd yp w2 cnt2 hkey hlk hv hat hrg2 hlt hg2 hs2 hen
          obtain ⟨x', ex, rfl, _⟩ := Maps.keyOf_str Try.underlying9 hkey
          obtain rfl : x = x' := encStr_inj ex
          have HX2 := Lib.hid (HX.out.grown hg2 HX.out.size (fun b hb => by cases hb; exact Nat.le_refl _))
          have hown2 := owns_blk HOW2.out (HX2.out.block b2 HB.out.2)
          have HST := Lib.hid (HC.out.step hlk hat)
          have HXS : Hid (x ∈ S) := Lib.hid (by
            have h1 := (HST.out.2 x).1 (by simp)
            rw [HD1.out] at h1
            exact of_decide_eq_true h1.1)
          have HLT := Lib.hid hlt
          have HR2 := Lib.hid (show w.heap.size < w2.heap.size by rw [hs2]; exact HR.out)
          have hhas := HD2.out x
          clear hs2 hlk hat hlt ex hv hg2
          by_cases hx : x ∈ T
          · have hh : Maps.has D2 (.string x) = true := by rw [hhas]; exact decide_eq_true hx
            have HM : Hid (meets S T = true) := Lib.hid (meets_iff.2 ⟨x, HXS.out, hx⟩)
            clear hhas hx
            go_wp2_with (first
              | (at_lookup; refine wpList_lookup_own_unit _ rfl _ _ 76 rfl 9 98 lawS Try.underlying76 (zeroU _) b2 T.length D2 rfl hown2 _ _ rfl hkey ?_; rw [hh])
              | go_in)
            go_ret
            exact ⟨by rw [HM.out]; rfl, HX2.out.alloc HX2.out.size _⟩
          · have hh : Maps.has D2 (.string x) = false := by rw [hhas]; exact decide_eq_false hx
            have HNX := Lib.hid hx
            clear hhas hx
            go_wp2_with (first
              | (at_lookup; refine wpList_lookup_own_unit _ rfl _ _ 76 rfl 9 98 lawS Try.underlying76 (zeroU _) b2 T.length D2 rfl hown2 _ _ rfl hkey ?_; rw [hh])
              | go_in)
            have hrg3 := hrg2.alloc (.cells #[] 98)
            go_roundw
            case rel =>
              exact ⟨_, cnt2, C ++ [x], hrg3, HST, Lib.hid (fun y hy => (List.mem_append.1 hy).elim (fun h => HN.out y h) (fun h => by rw [List.mem_singleton.1 h]; exact HNX.out)), Lib.hid (HX2.out.alloc HX2.out.size _), Lib.hid (by simp; have := HR2.out; omega)⟩
            case measure => rw [hrg3.left_eq, hrg.left_eq]; exact HLT.out
theorem cMeet_any (a b : Option Nat) (S T : List Nm) (w : World) (hS : StV w a S) (hT : StV w b T) :
    Calls Try.prog 108 #[.map a, .map b] w fun e w' => e = .returned (.bool (meets S T)) ∧ Below w.heap.size w w' := by
  rcases sized_ways a b S T w hS hT with ⟨n, hn, hz, hc⟩ | ⟨n, hn, hz, hc⟩
  · exact cMeet_core (.map a) (.map b) a b S T n w hn hT hz hc
  · rw [meets_comm]
    exact cMeet_core (.map a) (.map b) b a T S n w hn hS hz hc
/-- What common leaves: a set of its own, in new memory. -/
def Com (w : World) (S T : List Nm) (e : Ending) (w' : World) : Prop :=
  ∃ m C, e = .returned (.map m) ∧ StV w' m C ∧ (∀ x, x ∈ C ↔ x ∈ S ∧ x ∈ T) ∧ C.length ≤ S.length ∧ Below w.heap.size w w' ∧ ∀ b, m = some b → w.heap.size < b
theorem v0x_ba {x : Nm} (h : x ≠ []) : v0x (ba x) = [x] := by
  unfold v0x
  rw [nb_ba, if_neg]
  intro hs
  exact h (by rw [← nb_ba x, size_em.1 hs]; rfl)
set_option maxRecDepth 100000 in
set_option maxHeartbeats 2000000 in
theorem cCommon_core (a b : Value) (ms mg : Option Nat) (S T : List Nm) (n : Nat) (w : World) (hs : StD w ms S n) (hg : StV w mg T) (hz : mg = none → n = 0) (h0 : [] ∉ S) (hl : S.length < maxLen) (hx0 : ∀ x ∈ S, x.length ≤ maxLen)
    (HS : Calls Try.prog 104 #[a, b] w fun e w' => e = .returned (.tuple #[.map ms, .map mg]) ∧ w = w') :
    Calls Try.prog 70 #[a, b] w (Com w S T) := by
  have HZ := Lib.hid HS
  clear HS
  rcases hs with ⟨rfl, rfl, rfl⟩ | ⟨b1, D1, rfl, hown1, hD1, hsz⟩
  · have hrg := run_range_nilMap (P := Try.prog) w 76 9 98 Try.underlying76
    have hnx : ∀ ty, (Instr.next (.pointer (some ⟨w.heap.size, 0, none⟩)) false ty).run Try.prog (w.alloc (.mapIter none 0 #[] 0)) = _ := fun ty => run_next_nilMap w ty 0 0 #[]
    clear hz hg h0 hl hx0
    go_enter Try.func70, Try.ntmps70
    go_wp2_with (first | (go_at_call 104; (with_reducible refine HZ.out.mono ?_); rintro e w1 ⟨rfl, rfl⟩))
    refine wp_loop_rounds 1 ?_
    rw [rounds_succ]
    go_wp2
    go_ret
    exact ⟨none, [], rfl, StV.nil _, fun x => by simp, Nat.le_refl _, (Below.refl _ _).alloc (Nat.le_refl _) _, fun b hb => by cases hb⟩
  · have hb1 := hown1.lt
    have HSZ := Lib.hid hown1.size_le
    rcases hg with ⟨rfl, rfl⟩ | ⟨b2, D2, rfl, hown2, hD2⟩
    · have hn0 := hz rfl
      have HO := Lib.hid (show n = 0 ∧ Maps.size D1 = n from ⟨hn0, hsz⟩)
      clear hz hn0 hsz hD1 h0 hl hx0
      go_enter Try.func70, Try.ntmps70
      go_wp2_with (first
        | (go_at_call 104; (with_reducible refine HZ.out.mono ?_); rintro e w1 ⟨rfl, rfl⟩)
        | (at_range; refine wpList_range_own _ rfl _ 76 rfl 9 98 lawS Try.underlying76 _ b1 S.length _ rfl hown1 ?_; intro w0 hrg0 hg0 hs0)
        | go_in)
      go_frame
      go_loopw [7, 8] (fun bv _ wr => ∃ (left : Lit → Bool) (cnt : Nat), bv = .map none ∧ wr.ranges Try.prog 9 (unitElem (H := Unit)) b1 w.heap.size S.length D1 left cnt ∧ Hid (cnt = 0) ∧ Hid (Below w.heap.size w wr))
        (fun _ _ wr => wr.rangeLeft b1 w.heap.size)
      case atStart => exact ⟨_, _, rfl, hrg0, Lib.hid (by rw [HO.out.2, HO.out.1]), Lib.hid ((Below.refl _ _).grown hg0 (Nat.le_refl _) (fun b hb => by cases hb))⟩
      case round =>
        obtain ⟨left, cnt, rfl, hrg, HC, HX⟩ := hrel
        go_wp2_with (first
          | (at_next; refine wpList_next_ranges _ rfl _ rfl 9 lawS (unitElem (H := Unit)) encStr id (fun key kl hk => by obtain ⟨x, hx, _⟩ := Maps.keyOf_str Try.underlying9 hk; exact ⟨x, hx⟩) (fun v _ _ => ⟨v, rfl⟩) b1 w.heap.size S.length _ _ _ rfl hrg ?_ ?_)
          | go_in)
        · intro hc0 hl0
          go_wp2
          go_ret
          exact ⟨none, [], rfl, StV.nil _, fun x => by simp, Nat.zero_le _, HX.out, fun b hb => by cases hb⟩
        · intro x c kl yd yp w2 cnt2 hkey hlk hv hat hrg2 hlt hg2 hs2 hen
          exact absurd hlt (by rw [HC.out]; omega)
    · have hb2 := hown2.lt
      have HD1 := Lib.hid hD1; have HD2 := Lib.hid hD2; have H0 := Lib.hid h0; have HL := Lib.hid hl; have HX0 := Lib.hid hx0
      have HB := Lib.hid (show b1 < w.heap.size ∧ b2 < w.heap.size from ⟨hb1, hb2⟩)
      have HOW2 := Lib.hid hown2
      clear hz hsz hD1 hD2 hb1 hb2 hown2 h0 hl hx0
      go_enter Try.func70, Try.ntmps70
      go_wp2_with (first
        | (go_at_call 104; (with_reducible refine HZ.out.mono ?_); rintro e w1 ⟨rfl, rfl⟩)
        | (at_range; refine wpList_range_own _ rfl _ 76 rfl 9 98 lawS Try.underlying76 _ b1 S.length _ rfl hown1 ?_; intro w0 hrg0 hg0 hs0)
        | go_in)
      go_frame
      go_loopw [7, 8] (fun bv _ wr => ∃ (left : Lit → Bool) (cnt : Nat) (K C : List Nm) (mo : Option Nat), bv = .map mo ∧ wr.ranges Try.prog 9 (unitElem (H := Unit)) b1 w.heap.size S.length D1 left cnt ∧ Hid (Collected D1 left K) ∧ Hid (∀ x, x ∈ C ↔ x ∈ K ∧ x ∈ T) ∧ Hid (StV wr mo C) ∧ Hid (C.length + cnt ≤ S.length) ∧ Hid (Below w.heap.size w wr) ∧ Hid (w.heap.size < wr.heap.size) ∧ Hid (∀ b, mo = some b → w.heap.size < b))
        (fun _ _ wr => wr.rangeLeft b1 w.heap.size)
      case atStart =>
        exact ⟨_, _, [], [], none, rfl, hrg0, Lib.hid (Collected.start D1), Lib.hid (by simp), Lib.hid (StV.nil _), Lib.hid (by rw [List.length_nil, Nat.zero_add]; exact HSZ.out), Lib.hid ((Below.refl _ _).grown hg0 (Nat.le_refl _) (fun b hb => by cases hb)), Lib.hid (by rw [hs0]; exact Nat.lt_succ_self _), Lib.hid (fun b hb => by cases hb)⟩
      case round =>
        obtain ⟨left, cnt, K, C, mo, rfl, hrg, HC, HM, HV, HN, HX, HR, HQ⟩ := hrel
        go_wp2_with (first
          | (at_next; refine wpList_next_ranges _ rfl _ rfl 9 lawS (unitElem (H := Unit)) encStr id (fun key kl hk => by obtain ⟨x, hx, _⟩ := Maps.keyOf_str Try.underlying9 hk; exact ⟨x, hx⟩) (fun v _ _ => ⟨v, rfl⟩) b1 w.heap.size S.length _ _ _ rfl hrg ?_ ?_)
          | go_in)
        · intro hc0 hl0
          go_wp2
          go_ret
          refine ⟨mo, C, rfl, HV.out, fun x => ?_, by have := HN.out; omega, HX.out, HQ.out⟩
          rw [HM.out x, HC.out.2 x, HD1.out x, hl0]
          simp
        · intro x c kl yd yp w2 cnt2 hkey hlk hv hat hrg2 hlt hg2 hs2 hen
          obtain ⟨x', ex, rfl, hxl⟩ := Maps.keyOf_str Try.underlying9 hkey
          obtain rfl : x = x' := encStr_inj ex
          have HX2 := Lib.hid (HX.out.grown hg2 HX.out.size (fun b hb => by cases hb; exact Nat.le_refl _))
          have hown2 := owns_blk HOW2.out (HX2.out.block b2 HB.out.2)
          have HST := Lib.hid (HC.out.step hlk hat)
          have HXS : Hid (x ∈ S) := Lib.hid (by
            have h1 := (HST.out.2 x).1 (by simp)
            rw [HD1.out] at h1
            exact of_decide_eq_true h1.1)
          have HLT := Lib.hid hlt
          have HR2 := Lib.hid (show w.heap.size < w2.heap.size by rw [hs2]; exact HR.out)
          have HV2 := Lib.hid (HV.out.block (fun b hb => hg2.block b (HV.out.lt b hb) (fun e => by have := HQ.out b hb; cases e; omega)))
          have hhas := HD2.out x
          clear hs2 hlk hat hlt ex hv hg2 hxl
          by_cases hx : x ∈ T
          · have hh : Maps.has D2 (.string x) = true := by rw [hhas]; exact decide_eq_true hx
            have HXT := Lib.hid hx
            have HW := Lib.hid (cWith_any mo C (ba x) (w2.alloc (.cells #[] 98)) (HV2.out.below ((Below.refl _ _).alloc (Nat.le_refl _) _)) (by rw [show (ba x).size = x.length by simp [ba, ByteArray.size]]; exact HX0.out x HXS.out) (by have := HN.out; have := HL.out; omega))
            rw [v0x_ba (fun e => H0.out (by rw [← e]; exact HXS.out))] at HW
            rw [← encStr_ba] at HW
            clear hhas hx
            go_wp2_with (first
              | (at_lookup; refine wpList_lookup_own_unit _ rfl _ _ 76 rfl 9 98 lawS Try.underlying76 (zeroU _) b2 T.length D2 rfl hown2 _ _ rfl hkey ?_; rw [hh])
              | (go_at_call 67; (with_reducible refine HW.out.mono ?_); rintro e w4 ⟨m4, rfl, hv4, hc4, hm4⟩; have HV4 := Lib.hid hv4; have HC4 := Lib.hid hc4; have HM4 := Lib.hid hm4; clear hv4 hc4 hm4)
              | go_in)
            have hz3 : (w2.alloc (.cells #[] 98)).heap.size = w2.heap.size + 1 := by simp
            have hrg3 := ranges_blk (hrg2.alloc (.cells #[] 98)) (HC4.out.block b1 (by have := HB.out; have := HR2.out; omega) (fun e => by have := HQ.out _ e; have := HB.out; omega)) (HC4.out.block _ (by have := HR2.out; omega) (fun e => by have := HQ.out _ e; omega))
            have HB4 := Lib.hid ((HX2.out.alloc HX2.out.size (.cells #[] 98)).trans (HC4.out.below (by rw [hz3]; have := HR2.out; omega) (fun k hk => by have := HQ.out _ hk; omega)))
            go_roundw
            case rel =>
              refine ⟨_, cnt2, K ++ [x], C ++ [x], m4, rfl, hrg3, HST, Lib.hid (fun y => ?_), HV4, Lib.hid (by rw [List.length_append, List.length_singleton]; have := HN.out; have := HLT.out; omega), HB4, Lib.hid (by have := HC4.out.size; rw [hz3] at this; have := HR2.out; omega), Lib.hid (fun b hb => ?_)⟩
              · rw [List.mem_append, List.mem_append, HM.out y, List.mem_singleton]
                constructor
                · rintro (⟨h1, h2⟩ | rfl)
                  · exact ⟨.inl h1, h2⟩
                  · exact ⟨.inr rfl, HXT.out⟩
                · rintro ⟨h1 | rfl, h2⟩
                  · exact .inl ⟨h1, h2⟩
                  · exact .inr rfl
              · rcases HM4.out with rfl | ⟨_, h⟩
                · exact HQ.out b hb
                · have := h b hb; rw [hz3] at this; have := HR2.out; omega
            case measure => rw [hrg3.left_eq, hrg.left_eq]; exact HLT.out
          · have hh : Maps.has D2 (.string x) = false := by rw [hhas]; exact decide_eq_false hx
            have HNX := Lib.hid hx
            clear hhas hx
            go_wp2_with (first
              | (at_lookup; refine wpList_lookup_own_unit _ rfl _ _ 76 rfl 9 98 lawS Try.underlying76 (zeroU _) b2 T.length D2 rfl hown2 _ _ rfl hkey ?_; rw [hh])
              | go_in)
            have hrg3 := hrg2.alloc (.cells #[] 98)
            go_roundw
            case rel =>
              refine ⟨_, cnt2, K ++ [x], C, mo, rfl, hrg3, HST, Lib.hid (fun y => ?_), Lib.hid (HV2.out.below ((Below.refl _ _).alloc (Nat.le_refl _) _)), Lib.hid (by have := HN.out; have := HLT.out; omega), Lib.hid (HX2.out.alloc HX2.out.size _), Lib.hid (by simp; have := HR2.out; omega), HQ⟩
              rw [HM.out y, List.mem_append, List.mem_singleton]
              constructor
              · rintro ⟨h1, h2⟩
                exact ⟨.inl h1, h2⟩
              · rintro ⟨h1 | rfl, h2⟩
                · exact ⟨h1, h2⟩
                · exact absurd h2 HNX.out
            case measure => rw [hrg3.left_eq, hrg.left_eq]; exact HLT.out
theorem cCommon_any (a b : Option Nat) (S T : List Nm) (w : World) (hS : StV w a S) (hT : StV w b T) (h0 : [] ∉ S) (h1 : [] ∉ T) (hl : S.length < maxLen) (hl' : T.length < maxLen) (hx : ∀ x ∈ S, x.length ≤ maxLen) (hx' : ∀ x ∈ T, x.length ≤ maxLen) :
    Calls Try.prog 70 #[.map a, .map b] w fun e w' => ∃ m C, e = .returned (.map m) ∧ StV w' m C ∧ (∀ x, x ∈ C ↔ x ∈ S ∧ x ∈ T) ∧ C.length ≤ S.length + T.length ∧ Below w.heap.size w w' ∧ ∀ b, m = some b → w.heap.size < b := by
  rcases sized_ways a b S T w hS hT with ⟨n, hn, hz, hc⟩ | ⟨n, hn, hz, hc⟩
  · refine (cCommon_core (.map a) (.map b) a b S T n w hn hT hz h0 hl hx hc).mono ?_
    rintro e w' ⟨m, C, rfl, g1, g2, g3, g4, g5⟩
    exact ⟨m, C, rfl, g1, g2, by omega, g4, g5⟩
  · refine (cCommon_core (.map a) (.map b) b a T S n w hn hS hz h1 hl' hx' hc).mono ?_
    rintro e w' ⟨m, C, rfl, g1, g2, g3, g4, g5⟩
    exact ⟨m, C, rfl, g1, fun x => by rw [g2 x, and_comm], by omega, g4, g5⟩
theorem Keep.of_chg {F G : Nat → Prop} {a b : World} (h : Chg F a b) (hG : ∀ x, G x → x < a.heap.size ∧ ¬ F x) : Keep G a b := fun x hx => h.block x (hG x hx).1 (hG x hx).2
/-- Sorting gives a rising list, if no name stands twice. -/
theorem rising_sort {ss : List Nm} (hn : ss.Nodup) : Rising (ss.mergeSort fun x y => decide (x ≤ y)) := by
  have hp := List.mergeSort_perm ss (fun x y => decide (x ≤ y))
  have h1 : (ss.mergeSort fun x y => decide (x ≤ y)).Pairwise (fun a b => decide (a ≤ b) = true) :=
    List.pairwise_mergeSort (le := fun x y => decide (x ≤ y)) (fun a b c h1 h2 => by simp only [decide_eq_true_eq] at *; exact List.le_trans h1 h2) (fun a b => by simp only [Bool.or_eq_true, decide_eq_true_eq]; exact List.le_total a b) ss
  have h2 : (ss.mergeSort fun x y => decide (x ≤ y)).Nodup := hp.nodup_iff.2 hn
  have h3 := h1.and h2
  refine h3.imp ?_
  rintro a b ⟨hab, hne⟩
  simp only [decide_eq_true_eq] at hab
  exact Classical.byContradiction fun h => hne (List.le_antisymm hab (List.not_lt.1 h))
theorem mem_strKeys {w : World} {b n : Nat} {D : DataW Unit} (h : w.ownsMap Try.prog 9 (unitElem (H := Unit)) b n D) {ss : List Nm} (hp : ss.Perm (strKeys D)) : ss.Nodup ∧ ∀ x, x ∈ ss ↔ Maps.has D (.string x) = true := by
  obtain ⟨es, rfl, hpw, hk⟩ := h.entries lawS
  have hko : ∀ p ∈ es, ∃ x : Nm, p.1 = .string x := by
    obtain ⟨es', he, hks⟩ := h.keysOf
    cases he
    intro p hp
    obtain ⟨v, hv⟩ := hks p hp
    obtain ⟨x, _, hx, _⟩ := Maps.keyOf_str Try.underlying9 hv
    exact ⟨x, hx⟩
  have hnd : (strKeys (.map es)).Nodup := by
    show (es.map fun p => strOf p.1).Nodup
    refine List.pairwise_map.2 (hpw.imp_of_mem fun {p q} hp' hq' hne e => hne ?_)
    obtain ⟨a, ha⟩ := hko p hp'
    obtain ⟨b, hb⟩ := hko q hq'
    rw [ha, hb] at e ⊢
    exact congrArg _ e
  refine ⟨hp.nodup_iff.2 hnd, fun x => ?_⟩
  rw [hp.mem_iff, Maps.has_eq, List.any_eq_true]
  show x ∈ es.map (fun p => strOf p.1) ↔ _
  rw [List.mem_map]
  constructor
  · rintro ⟨p, hp', rfl⟩
    obtain ⟨a, ha⟩ := hko p hp'
    exact ⟨p, hp', by rw [ha]; simp [Lit.sameKey, strOf]⟩
  · rintro ⟨p, hp', hs⟩
    obtain ⟨a, ha⟩ := hko p hp'
    rw [ha] at hs
    exact ⟨p, hp', by rw [ha]; simpa [Lit.sameKey, strOf] using hs⟩
set_option maxHeartbeats 1000000 in
theorem cRising_any (m : Option Nat) (S : List Nm) (w : World) (hS : StV w m S) (hl : S.length ≤ 8796093022207) :
    Calls Try.prog 68 #[.map m] w fun e w' => ∃ v L, e = .returned v ∧ SsV w' (fun b => w.heap.size ≤ b) v L ∧ Rising L ∧ (∀ x, x ∈ L ↔ x ∈ S) ∧ Below w.heap.size w w' := by
  refine (callsIn_wide (n := 6)).1 ?_
  have hfK : Fence.wide.fn 103 := trivial
  have hfS : Fence.wide.fn 102 := trivial
  rcases hS with ⟨rfl, rfl⟩ | ⟨b, D, rfl, hown, hD⟩
  · refine callsIn_of_wp Try.func68 rfl trivial ?_ rfl
    simp only [Try.ntmps68, List.size_toArray, List.length_cons, List.length_nil, Nat.reduceAdd, Nat.reduceSub, Array.replicate_succ, Array.replicate_zero, List.push_toArray, List.append_toArray, List.nil_append, List.cons_append]
    gi_wp2_with (first
      | (gi_at_call 103; refine (Try.maps_Keys_103 _ _).mono ?_; rintro e w' ⟨rfl, rfl⟩)
      | (gi_at_call 102; refine (Try.slices_Sorted_keys_nil_102_103 w).mono ?_; rintro e w' ⟨v, ss, rfl, hS, hrow, hnil, hb⟩))
    go_ret
    refine ⟨.slice none 0 0, [], by rw [hnil.2 hS]; rfl, SsV.nil _ _, Rising.nil, fun x => Iff.rfl, ((Below.refl _ w).alloc (Nat.le_refl _) _).trans (hb.mono (by simp))⟩
  · have hsz := hown.size_le
    have hmax : Maps.size D ≤ maxLen := by unfold maxLen; omega
    have hbytes : Maps.size D * 16 ≤ 140737488355328 := by omega
    refine callsIn_of_wp Try.func68 rfl trivial ?_ rfl
    simp only [Try.ntmps68, List.size_toArray, List.length_cons, List.length_nil, Nat.reduceAdd, Nat.reduceSub, Array.replicate_succ, Array.replicate_zero, List.push_toArray, List.append_toArray, List.nil_append, List.cons_append]
    gi_wp2_with (first
      | (gi_at_call 103; refine (Try.maps_Keys_103 _ _).mono ?_; rintro e w' ⟨rfl, rfl⟩)
      | (gi_at_call 102; refine (Try.slices_Sorted_keys_102_103 b S.length D _ w hown hmax hbytes).mono ?_; rintro e w' ⟨v, ss, rfl, hS, hrow, hnil, hb⟩))
    go_ret
    obtain ⟨hnd, hmem⟩ := mem_strKeys hown hS
    refine ⟨v, ss.mergeSort (fun x y => decide (x ≤ y)), rfl, (SsV.of_own (by rw [List.length_mergeSort]; exact hrow)).mono (fun x hx => by simp at hx; omega), rising_sort hnd, fun x => ?_, ((Below.refl _ w).alloc (Nat.le_refl _) _).trans (hb.mono (by simp))⟩
    rw [(List.mergeSort_perm ss _).mem_iff, hmem x, hD x]
    simp
end Go.Proofs.Ytnfjodkpapmfkaa
