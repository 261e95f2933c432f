/- Joined: Acr, Ev, Bm0, Natm, Srcm, Small, Put, Nat, Out, Src, Snat, Refm, Snew. -/
import Derived.Test.YtpbloplbpkedcaaJra
import Derived.Laws.AppendOwnNone
import Derived.Deep.RegionHeld3
import Derived.Lib.BitFns
import Derived.Test.YtpbloplbpkedcaaRows
import Derived.WalkKit
import Derived.Outline
import Derived.BigRegion
import Derived.Test.YtpbloplbpkedcaaShelf
import Derived.Deep.QuietTactic
import Derived.BigQuiet
/- Contract of CheckAttrs, the document's own. -/
namespace Go.Proofs.Ytpbloplbpkedcaa
open Go Go.RowKit

set_option maxRecDepth 100000 in
set_option maxHeartbeats 3200000 in
theorem r3CheckAttrs_any (B : Nat) (ao : Option Addr) (n cap : Nat) (xs : List At) (w : World) (h : Av w B (.slice ao n cap) xs) (hB : B ≤ w.heap.size) :
    Calls Try.prog 126 #[.slice ao n cap] w fun e w' => e = .returned (.int .i64 (ckAll xs)) ∧ Below w.heap.size w w' := by
  obtain ⟨hn, hn63⟩ := h.num
  have HH := Lib.hid h; have HN := Lib.hid hn; have HWD := Lib.hid h.wide
  by_cases h8 : 8 < n
  · rw [show ckAll xs = 3 by unfold ckAll; rw [if_pos (by omega)]]
    clear h hn
    go_enter Try.func126, Try.ntmps126
    go_wp2
    go_ret
    exact ⟨rfl, Below.refl _ _⟩
  · rw [show ckAll xs = ckGo xs 0 by unfold ckAll; rw [if_neg (by omega)]]
    clear h hn
    go_enter Try.func126, Try.ntmps126
    go_wp2_with fail
    go_loopw [3] (fun i wr => ∃ k : Nat, k ≤ n ∧ i = .int .i64 k ∧ Hid (ckGo xs 0 = ckGo xs k) ∧ Below w.heap.size w wr) (fun i _ => n - (intOf i).toNat)
    case atStart => exact ⟨0, Nat.zero_le _, rfl, rfl, Below.refl _ _⟩
    case round =>
      obtain ⟨k, hk, rfl, HK, hb⟩ := hrel
      have HB := Lib.hid hb; clear hb
      by_cases hlt : k < n
      · obtain ⟨b, o, rfl, hbB, hnx, hnc, hcap, hc⟩ := HH.out.at (by omega)
        have hkx : k < xs.length := by rw [← hnx]; exact hlt
        have hkz : (0 : Int) ≤ (k : Int) := by omega
        obtain ⟨x0, hx0⟩ : ∃ x, x = xs[k]! := ⟨_, rfl⟩
        have hcr : ∀ q, q < w.heap.size → ∀ j, wr.cell? ⟨q, j, none⟩ = w.cell? ⟨q, j, none⟩ := fun q hq j => HB.out.cell (p := ⟨q, j, none⟩) hq
        obtain ⟨a0, a1, a2, a3⟩ := four_cells (w := wr) (b := b) (a := o + k * 4) (x := x0) (fun i u hu => (hcr b (by omega) _).trans (hc k hkx i u (by rw [← hx0]; exact hu)))
        have hwd := HWD.out x0 (by rw [hx0, getElem!_pos xs k hkx]; exact List.getElem_mem _)
        have C1 := fun w => r3Name_any x0.name w hwd.1
        have C2 := fun w => r3Check_any x0.k x0.n x0.s w hwd.2
        have hbw : b < wr.heap.size := by have := HB.out.size; omega
        have HX := Lib.hid hx0; have HC := Lib.hid hc; have HKX := Lib.hid hkx
        clear hx0 hc hcr hnx hkx hwd
        cases hnm : nameB x0.name.data.toList with
        | false =>
          have HR : Hid (ckGo xs k = 31) := ckGo_name HKX.out (by rw [← HX.out]; exact hnm)
          rw [hnm] at C1
          have HC1 := Lib.hid C1
          clear hnm C1 C2
          go_wp2_with (go_at_call 97; (with_reducible refine (HC1.out _).mono ?_); rintro e w' ⟨rfl, rfl⟩)
          go_ret
          exact ⟨by rw [HK.out, HR.out]; rfl, HB.out⟩
        | true =>
          rw [hnm] at C1
          cases hcv : ckB x0.k x0.n x0.s.data.toList with
          | false =>
            have HR : Hid (ckGo xs k = 30) := ckGo_val HKX.out (by rw [← HX.out]; exact hnm) (by rw [← HX.out]; exact hcv)
            rw [ckI_no hcv] at C2
            have HC1 := Lib.hid C1; have HC2 := Lib.hid C2
            clear hnm hcv C1 C2
            go_wp2_with (first | (go_at_call 97; (with_reducible refine (HC1.out _).mono ?_); rintro e w' ⟨rfl, rfl⟩) | (go_at_call 160; (with_reducible refine (HC2.out _).mono ?_); rintro e w2 ⟨rfl, hb2⟩; have HB2 := Lib.hid hb2; clear hb2))
            go_ret
            exact ⟨by rw [HK.out, HR.out]; rfl, HB.out.trans (HB2.out.mono HB.out.size)⟩
          | true =>
            rw [ckI_ok hcv] at C2
            have HC1 := Lib.hid C1; have HC2 := Lib.hid C2
            by_cases hk0 : k = 0
            · subst hk0
              have HR : Hid (ckGo xs 0 = ckGo xs 1) := ckGo_go HKX.out (by rw [← HX.out]; exact hnm) (by rw [← HX.out]; exact hcv) (by omega)
              simp only [Nat.zero_mul, Nat.add_zero] at a0 a1 a2 a3
              clear hnm hcv C1 C2
              go_wp2_with (first | (go_at_call 97; (with_reducible refine (HC1.out _).mono ?_); rintro e w' ⟨rfl, rfl⟩) | (go_at_call 160; (with_reducible refine (HC2.out _).mono ?_); rintro e w2 ⟨rfl, hb2⟩; have HB2 := Lib.hid hb2; obtain ⟨hc2, hf2⟩ := bcell hb2; have hz2 : w.heap.size ≤ w2.heap.size := (by have := HB.out.size; have := hb2.size; omega); clear hb2))
              go_quiet (fail)
              go_wp2
              go_roundw
              case rel => exact ⟨1, by omega, rfl, HR.out, Below.drewN' (HB.out.trans (HB2.out.mono HB.out.size)) _⟩
              case measure => simp [intOf]; omega
            · obtain ⟨p, rfl⟩ : ∃ p, k = p + 1 := ⟨k - 1, by omega⟩
              obtain ⟨y, hy⟩ : ∃ y, y = xs[p]! := ⟨_, rfl⟩
              have hcr : ∀ q, q < w.heap.size → ∀ j, wr.cell? ⟨q, j, none⟩ = w.cell? ⟨q, j, none⟩ := fun q hq j => HB.out.cell (p := ⟨q, j, none⟩) hq
              have p0 : wr.cell? ⟨b, o + p * 4, none⟩ = some (.string y.name) := (hcr b (by omega) _).trans (HC.out p (by have := HKX.out; omega) 0 _ (by rw [← hy]; rfl))
              clear hcr
              have hle := leq_at (a := x0.name) (b := y.name) rfl
              by_cases hlec : Lib.compareBytes x0.name.data.toList y.name.data.toList ≤ 0
              · have HR : Hid (ckGo xs (p + 1) = 32) := ckGo_ord HKX.out (by rw [← HX.out]; exact hnm) (by rw [← HX.out]; exact hcv) ⟨by omega, by rw [← HX.out]; simp only [Nat.add_sub_cancel]; rw [← hy]; exact hlec⟩
                have hr := cb_range x0.name.data.toList y.name.data.toList
                obtain ⟨hl1, hl2⟩ := hle
                generalize Lib.compareBytes x0.name.data.toList y.name.data.toList = c at hl1 hl2 hlec hr
                have hc3 : c = -1 ∨ c = 0 := by omega
                clear hnm hcv C1 C2 hy hlec hr hk0
                rcases hc3 with rfl | rfl
                all_goals
                  simp only [show decide ((-1 : Int) < 0) = true from rfl, show decide ((0 : Int) < 0) = false from rfl, show decide ((-1 : Int) = 0) = false from rfl] at hl1 hl2
                  go_wp2_with (first | (go_at_call 97; (with_reducible refine (HC1.out _).mono ?_); rintro e w' ⟨rfl, rfl⟩) | (go_at_call 160; (with_reducible refine (HC2.out _).mono ?_); rintro e w2 ⟨rfl, hb2⟩; have HB2 := Lib.hid hb2; obtain ⟨hc2, hf2⟩ := bcell hb2; have hz2 : w.heap.size ≤ w2.heap.size := (by have := HB.out.size; have := hb2.size; omega); clear hb2))
                  go_quiet (fail)
                  go_wp2
                  go_ret
                  exact ⟨by rw [HK.out, HR.out]; rfl, Below.drewN' (HB.out.trans (HB2.out.mono HB.out.size)) _⟩
              · have HR : Hid (ckGo xs (p + 1) = ckGo xs (p + 1 + 1)) := ckGo_go HKX.out (by rw [← HX.out]; exact hnm) (by rw [← HX.out]; exact hcv) (fun hh => hlec (by have := hh.2; rw [← HX.out] at this; simp only [Nat.add_sub_cancel] at this; rw [← hy] at this; exact this))
                obtain ⟨hl1, hl2⟩ := hle
                rw [decide_eq_false (by omega)] at hl1 hl2
                clear hnm hcv C1 C2 hy hlec hk0
                go_wp2_with (first | (go_at_call 97; (with_reducible refine (HC1.out _).mono ?_); rintro e w' ⟨rfl, rfl⟩) | (go_at_call 160; (with_reducible refine (HC2.out _).mono ?_); rintro e w2 ⟨rfl, hb2⟩; have HB2 := Lib.hid hb2; obtain ⟨hc2, hf2⟩ := bcell hb2; have hz2 : w.heap.size ≤ w2.heap.size := (by have := HB.out.size; have := hb2.size; omega); clear hb2))
                go_quiet (fail)
                go_wp2
                go_roundw
                case rel => exact ⟨p + 1 + 1, by omega, by go_num, HK.out.trans HR.out, Below.drewN' (HB.out.trans (HB2.out.mono HB.out.size)) _⟩
                case measure => simp [intOf]; omega
      · have HR : Hid (ckGo xs k = 0) := ckGo_end (by rw [← HN.out]; exact hlt)
        go_wp2
        go_ret
        exact ⟨by rw [HK.out, HR.out]; rfl, HB.out⟩
end Go.Proofs.Ytpbloplbpkedcaa

/- Events: which may be, which are the same, how names stand: the program's calls and the document's. -/
namespace Go.Proofs.Ytpbloplbpkedcaa
open Go Go.RowKit

/-- An event: its source, number, time, type, attributes. -/
structure Ev where
  src : Int
  seq : Int
  time : Int
  ty : ByteArray
  ats : List At
  deriving DecidableEq, Inhabited
/-- An event as a value, its attributes a slice v. -/
def evV (e : Ev) (v : Value) : Value := .agg #[.int .i64 e.src, .int .i64 e.seq, .int .i64 e.time, .string e.ty, v]
def evSrcB (n : Int) : Bool := decide (0 ≤ n) && decide (n < 16)
def evTmB (n : Int) : Bool := decide (0 ≤ n) && decide (n ≤ 1099511627776)
def evB (e : Ev) : Bool := evSrcB e.src && evTmB e.seq && evTmB e.time && nameB e.ty.data.toList
/-- What is wrong with an event. -/
def ckE (e : Ev) : Int := if evB e then ckAll e.ats else 40
theorem ckE_no {e : Ev} (h : evB e = false) : ckE e = 40 := by unfold ckE; rw [h]; rfl
theorem ckE_ok {e : Ev} (h : evB e = true) : ckE e = ckAll e.ats := by unfold ckE; rw [h]; rfl

theorem eIsSource_any (n : Int) (w : World) : Calls Try.prog 107 #[.int .i64 n] w fun e w' => e = .returned (.bool (evSrcB n)) ∧ w = w' := by
  by_cases h0 : 0 ≤ n
  · by_cases h1 : n < 16
    · rw [show evSrcB n = true by simp [evSrcB, h0, h1]]
      go_enter Try.func107, Try.ntmps107
      go_wp2
      go_ret
      exact ⟨rfl, rfl⟩
    · rw [show evSrcB n = false by simp [evSrcB, h1]]
      go_enter Try.func107, Try.ntmps107
      go_wp2
      go_ret
      exact ⟨rfl, rfl⟩
  · rw [show evSrcB n = false by simp [evSrcB, h0]]
    go_enter Try.func107, Try.ntmps107
    go_wp2
    go_ret
    exact ⟨rfl, rfl⟩
theorem eIsCount_any (n : Int) (w : World) : Calls Try.prog 108 #[.int .i64 n] w fun e w' => e = .returned (.bool (evTmB n)) ∧ w = w' := by
  by_cases h0 : 0 ≤ n
  · by_cases h1 : n ≤ 1099511627776
    · rw [show evTmB n = true by simp [evTmB, h0, h1]]
      go_enter Try.func108, Try.ntmps108
      go_wp2
      go_ret
      exact ⟨rfl, rfl⟩
    · rw [show evTmB n = false by simp [evTmB, h1]]
      go_enter Try.func108, Try.ntmps108
      go_wp2
      go_ret
      exact ⟨rfl, rfl⟩
  · rw [show evTmB n = false by simp [evTmB, h0]]
    go_enter Try.func108, Try.ntmps108
    go_wp2
    go_ret
    exact ⟨rfl, rfl⟩
theorem r4time_any (n : Int) (w : World) : Calls Try.prog 125 #[.int .i64 n] w fun e w' => e = .returned (.bool (evTmB n)) ∧ w = w' := by
  by_cases h0 : 0 ≤ n
  · by_cases h1 : n ≤ 1099511627776
    · rw [show evTmB n = true by simp [evTmB, h0, h1]]
      go_enter Try.func125, Try.ntmps125
      go_wp2
      go_ret
      exact ⟨rfl, rfl⟩
    · rw [show evTmB n = false by simp [evTmB, h1]]
      go_enter Try.func125, Try.ntmps125
      go_wp2
      go_ret
      exact ⟨rfl, rfl⟩
  · rw [show evTmB n = false by simp [evTmB, h0]]
    go_enter Try.func125, Try.ntmps125
    go_wp2
    go_ret
    exact ⟨rfl, rfl⟩

set_option maxRecDepth 100000 in
set_option maxHeartbeats 1600000 in
theorem eCheck_any (ev : Ev) (B : Nat) (ao : Option Addr) (n cap : Nat) (w : World) (h : Av w B (.slice ao n cap) ev.ats) (hB : B ≤ w.heap.size) (hty : ev.ty.size ≤ maxLen) :
    Calls Try.prog 70 #[evV ev (.slice ao n cap)] w fun e w' => e = .returned (.int .i64 (ckE ev)) ∧ Below w.heap.size w w' := by
  obtain ⟨s, q, t, ty, ats⟩ := ev
  simp only at h hty
  unfold evV
  simp only
  have CN := fun w => vName_any ty w hty
  have HB0 : Hid (Below w.heap.size w (w.alloc (.cells #[.int .i64 s, .int .i64 q, .int .i64 t, .string ty, .slice ao n cap] 36))) := (Below.refl _ _).alloc (Nat.le_refl _) _
  have CA := vCheckAttrs_any B ao n cap ats _ (h.below HB0.out hB) (Nat.le_trans hB HB0.out.size)
  have HCA := Lib.hid CA
  clear CA h hB hty
  cases b1 : evSrcB s with
  | false =>
    rw [ckE_no (by simp [evB, b1])]
    have HCN := Lib.hid CN
    clear CN
    go_enter Try.func70, Try.ntmps70
    go_wp2_with (go_at_call 107; refine (eIsSource_any _ _).mono ?_; rintro e w' ⟨rfl, rfl⟩)
    go_ret
    exact ⟨rfl, HB0.out⟩
  | true =>
    cases b2 : evTmB q with
    | false =>
      rw [ckE_no (by simp [evB, b1, b2])]
      have HCN := Lib.hid CN
      clear CN
      go_enter Try.func70, Try.ntmps70
      go_wp2_with (first | (go_at_call 107; refine (eIsSource_any _ _).mono ?_; rintro e w' ⟨rfl, rfl⟩) | (go_at_call 108; refine (eIsCount_any _ _).mono ?_; rintro e w' ⟨rfl, rfl⟩))
      go_ret
      exact ⟨rfl, HB0.out⟩
    | true =>
      cases b3 : evTmB t with
      | false =>
        rw [ckE_no (by simp [evB, b1, b2, b3])]
        have HCN := Lib.hid CN
        clear CN
        go_enter Try.func70, Try.ntmps70
        go_wp2_with (first | (go_at_call 107; refine (eIsSource_any _ _).mono ?_; rintro e w' ⟨rfl, rfl⟩) | (go_at_call 108; refine (eIsCount_any _ _).mono ?_; rintro e w' ⟨rfl, rfl⟩))
        go_ret
        exact ⟨rfl, HB0.out⟩
      | true =>
        cases b4 : nameB ty.data.toList with
        | false =>
          rw [ckE_no (by simp [evB, b1, b2, b3, b4])]
          rw [b4] at CN
          have HCN := Lib.hid CN
          clear CN b4
          go_enter Try.func70, Try.ntmps70
          go_wp2_with (first | (go_at_call 107; refine (eIsSource_any _ _).mono ?_; rintro e w' ⟨rfl, rfl⟩) | (go_at_call 108; refine (eIsCount_any _ _).mono ?_; rintro e w' ⟨rfl, rfl⟩) | (go_at_call 104; (with_reducible refine (HCN.out _).mono ?_); rintro e w' ⟨rfl, rfl⟩))
          go_ret
          exact ⟨rfl, HB0.out⟩
        | true =>
          rw [ckE_ok (by simp [evB, b1, b2, b3, b4])]
          rw [b4] at CN
          have HCN := Lib.hid CN
          clear CN b4
          go_enter Try.func70, Try.ntmps70
          go_wp2_with (first | (go_at_call 107; refine (eIsSource_any _ _).mono ?_; rintro e w' ⟨rfl, rfl⟩) | (go_at_call 108; refine (eIsCount_any _ _).mono ?_; rintro e w' ⟨rfl, rfl⟩) | (go_at_call 104; (with_reducible refine (HCN.out _).mono ?_); rintro e w' ⟨rfl, rfl⟩) | (go_at_call 109; (with_reducible refine (HCA.out).mono ?_); rintro e w1 ⟨rfl, hb⟩; have HB1 := Lib.hid hb; clear hb))
          go_ret
          exact ⟨rfl, HB0.out.trans (HB1.out.mono HB0.out.size)⟩

set_option maxRecDepth 100000 in
set_option maxHeartbeats 1600000 in
theorem r4Check_any (ev : Ev) (B : Nat) (ao : Option Addr) (n cap : Nat) (w : World) (h : Av w B (.slice ao n cap) ev.ats) (hB : B ≤ w.heap.size) (hty : ev.ty.size ≤ maxLen) :
    Calls Try.prog 98 #[evV ev (.slice ao n cap)] w fun e w' => e = .returned (.int .i64 (ckE ev)) ∧ Below w.heap.size w w' := by
  obtain ⟨s, q, t, ty, ats⟩ := ev
  simp only at h hty
  unfold evV
  simp only
  have CN := fun w => r3Name_any ty w hty
  have HB0 : Hid (Below w.heap.size w (w.alloc (.cells #[.int .i64 s, .int .i64 q, .int .i64 t, .string ty, .slice ao n cap] 36))) := (Below.refl _ _).alloc (Nat.le_refl _) _
  have CA := r3CheckAttrs_any B ao n cap ats _ (h.below HB0.out hB) (Nat.le_trans hB HB0.out.size)
  have HCA := Lib.hid CA
  clear CA h hB hty
  by_cases b0 : 0 ≤ s
  case neg =>
    rw [ckE_no (by simp [evB, evSrcB, b0])]
    have HCN := Lib.hid CN
    clear CN
    go_enter Try.func98, Try.ntmps98
    go_wp2
    go_ret
    exact ⟨rfl, HB0.out⟩
  by_cases b1 : s < 16
  case neg =>
    rw [ckE_no (by simp [evB, evSrcB, b1])]
    have HCN := Lib.hid CN
    clear CN
    go_enter Try.func98, Try.ntmps98
    go_wp2
    go_ret
    exact ⟨rfl, HB0.out⟩
  have b01 : evSrcB s = true := by simp [evSrcB, b0, b1]
  cases b2 : evTmB q with
  | false =>
    rw [ckE_no (by simp [evB, b2])]
    have HCN := Lib.hid CN
    clear CN
    go_enter Try.func98, Try.ntmps98
    go_wp2_with (go_at_call 125; refine (r4time_any _ _).mono ?_; rintro e w' ⟨rfl, rfl⟩)
    go_ret
    exact ⟨rfl, HB0.out⟩
  | true =>
    cases b3 : evTmB t with
    | false =>
      rw [ckE_no (by simp [evB, b3])]
      have HCN := Lib.hid CN
      clear CN
      go_enter Try.func98, Try.ntmps98
      go_wp2_with (go_at_call 125; refine (r4time_any _ _).mono ?_; rintro e w' ⟨rfl, rfl⟩)
      go_ret
      exact ⟨rfl, HB0.out⟩
    | true =>
      cases b4 : nameB ty.data.toList with
      | false =>
        rw [ckE_no (by simp [evB, b4])]
        rw [b4] at CN
        have HCN := Lib.hid CN
        clear CN b4
        go_enter Try.func98, Try.ntmps98
        go_wp2_with (first | (go_at_call 125; refine (r4time_any _ _).mono ?_; rintro e w' ⟨rfl, rfl⟩) | (go_at_call 97; (with_reducible refine (HCN.out _).mono ?_); rintro e w' ⟨rfl, rfl⟩))
        go_ret
        exact ⟨rfl, HB0.out⟩
      | true =>
        rw [ckE_ok (by simp [evB, b01, b2, b3, b4])]
        rw [b4] at CN
        have HCN := Lib.hid CN
        clear CN b4
        go_enter Try.func98, Try.ntmps98
        go_wp2_with (first | (go_at_call 125; refine (r4time_any _ _).mono ?_; rintro e w' ⟨rfl, rfl⟩) | (go_at_call 97; (with_reducible refine (HCN.out _).mono ?_); rintro e w' ⟨rfl, rfl⟩) | (go_at_call 126; (with_reducible refine (HCA.out).mono ?_); rintro e w1 ⟨rfl, hb⟩; have HB1 := Lib.hid hb; clear hb))
        go_ret
        exact ⟨rfl, HB0.out.trans (HB1.out.mono HB0.out.size)⟩

/-- Whether two events are the same. -/
def sameE (a b : Ev) : Bool := decide (a.src = b.src) && decide (a.seq = b.seq) && decide (a.time = b.time) && (a.ty.toList == b.ty.toList) && sameA a.ats b.ats
theorem sameE_iff {a b : Ev} : sameE a b = true ↔ a = b := by
  obtain ⟨s, q, t, ty, ats⟩ := a
  obtain ⟨s', q', t', ty', ats'⟩ := b
  simp only [sameE, sameA, Bool.and_eq_true, decide_eq_true_eq, beq_iff_eq, Ev.mk.injEq]
  exact ⟨fun ⟨⟨⟨⟨a, b⟩, c⟩, d⟩, e⟩ => ⟨a, b, c, ba_ext2 d, e⟩, fun ⟨a, b, c, d, e⟩ => ⟨⟨⟨⟨a, b⟩, c⟩, by rw [d]⟩, e⟩⟩
theorem sameE_refl (a : Ev) : sameE a a = true := sameE_iff.2 rfl

theorem idEq_run (s1 q1 s2 q2 : Int) (w : World) :
    (binOp .eql 33 (.agg #[.int .i64 s1, .int .i64 q1]) (.agg #[.int .i64 s2, .int .i64 q2])).run Try.prog w = .ok (.bool (decide (s1 = s2) && decide (q1 = q2))) w := by
  have a2 := Try.isAgg2; have z2 := Try.sizeOf2; have u2 := Try.underlying2
  have a3 := Try.isAgg3; have z3 := Try.sizeOf3; have u3 := Try.underlying3
  have hS : Try.prog.underlying 33 = some (.struct (Try.prog.fieldsOf 33)) := by kernel_rfl
  have hp : Try.prog.stoodInHeld 33 = false := by kernel_rfl
  rw [run_eql_struct, show (10000 : Nat) = 9999 + 1 from rfl, run_equalIn_agg w 9999 33 _ _ hS hp]
  simp only [Program.fieldsOf, Try.underlying33]
  go_simp
  by_cases h1 : s1 = s2 <;> by_cases h2 : q1 = q2 <;> simp [h1, h2]
theorem idGuard (op : BinOp) (x y : Operand) (s1 q1 s2 q2 : Int) (w : World) :
    (eqGuard op 33 x y (.agg #[.int .i64 s1, .int .i64 q1]) (.agg #[.int .i64 s2, .int .i64 q2])).run Try.prog w = .ok () w := run_eqGuard_agg w op _ x y _ _ (by kernel_rfl)
end Go.Proofs.Ytpbloplbpkedcaa
namespace Go.Proofs.Ytpbloplbpkedcaa
open Go Go.RowKit

set_option maxRecDepth 100000 in
set_option maxHeartbeats 1600000 in
theorem r4Same_any (a b : Ev) (B B2 : Nat) (ao : Option Addr) (n cap : Nat) (ao2 : Option Addr) (n2 cap2 : Nat) (w : World) (h1 : Av w B (.slice ao n cap) a.ats) (h2 : Av w B2 (.slice ao2 n2 cap2) b.ats) (hB : B ≤ w.heap.size) (hB2 : B2 ≤ w.heap.size) :
    Calls Try.prog 60 #[evV a (.slice ao n cap), evV b (.slice ao2 n2 cap2)] w fun e w' => e = .returned (.bool (sameE a b)) ∧ Below w.heap.size w w' := by
  obtain ⟨s, q, t, ty, ats⟩ := a
  obtain ⟨s', q', t', ty', ats'⟩ := b
  simp only at h1 h2
  unfold evV
  simp only
  have HB0 : Hid (Below w.heap.size w ((w.alloc (.cells #[.int .i64 s, .int .i64 q, .int .i64 t, .string ty, .slice ao n cap] 36)).alloc (.cells #[.int .i64 s', .int .i64 q', .int .i64 t', .string ty', .slice ao2 n2 cap2] 36))) := ((Below.refl _ _).alloc (Nat.le_refl _) _).alloc (by simp) _
  have CA := r3SameAttrs_any B B2 ao n cap ats ao2 n2 cap2 ats' _ (h1.below HB0.out hB) (h2.below HB0.out hB2)
  have HCA := Lib.hid CA
  clear CA h1 h2 hB hB2
  have e1 := idEq_run s q s' q'
  have g1 := fun op x y => idGuard op x y s q s' q'
  cases b1 : (decide (s = s') && decide (q = q')) with
  | false =>
    rw [b1] at e1
    rw [show sameE _ _ = false by simp only [sameE, b1, Bool.false_and]]
    clear b1
    go_enter Try.func60, Try.ntmps60
    go_wp2
    go_ret
    exact ⟨rfl, HB0.out⟩
  | true =>
    rw [b1] at e1
    rcases Decidable.em (t = t') with ht | ht
    case inr =>
      have et : (t == t') = false := by simp [ht]
      rw [show sameE _ _ = false by simp [sameE, ht]]
      clear b1
      go_enter Try.func60, Try.ntmps60
      go_wp2
      go_ret
      exact ⟨rfl, HB0.out⟩
    subst ht
    cases b3 : (ty.toList == ty'.toList) with
    | false =>
      rw [show sameE _ _ = false by simp only [sameE, b3, Bool.and_false, Bool.false_and]]
      clear b1
      go_enter Try.func60, Try.ntmps60
      go_wp2
      go_ret
      exact ⟨rfl, HB0.out⟩
    | true =>
      rw [show sameE _ _ = sameA ats ats' by simp only [sameE, b1, b3, decide_true, Bool.true_and]]
      clear b1
      go_enter Try.func60, Try.ntmps60
      go_wp2_with (go_at_call 92; (with_reducible refine (HCA.out).mono ?_); rintro e w1 ⟨rfl, hb⟩; have HB1 := Lib.hid hb; clear hb)
      go_ret
      exact ⟨rfl, HB0.out.trans (HB1.out.mono HB0.out.size)⟩

/-- How the names of two events stand. -/
def cmpID (s q s' q' : Int) : Int := if cmpI s s' = 0 then cmpI q q' else cmpI s s'
def orI (a b : Int) : Int := if a = 0 then b else a
end Go.Proofs.Ytpbloplbpkedcaa

/- Partial matches as lists of bounds: which may be, how two are put together. No program in this text. -/
namespace Go.Proofs.Ytpbloplbpkedcaa
open Go Go.RowKit

/-- A bound: a variable and its event. -/
structure Bd where
  var : ByteArray
  ev : Ev
  deriving DecidableEq, Inhabited
def cbV (a b : Bd) : Int := Lib.compareBytes a.var.data.toList b.var.data.toList
def idE (a b : Bd) : Bool := decide (a.ev.src = b.ev.src) && decide (a.ev.seq = b.ev.seq)
def nmB (n : Nat) (x : Bd) : Bool := nameB x.var.data.toList || (decide (x.var.data.toList = []) && decide (n = 1))
def risB (l : List Bd) (k : Nat) : Bool := !(decide (0 < k) && decide (cbV l[k]! l[k - 1]! ≤ 0))
def frsB (l : List Bd) (k : Nat) : Bool := !((l.take k).any fun o => idE o l[k]!)
/-- Whether a bound may stand where it does, whatever else its event is. -/
def stB (l : List Bd) (k : Nat) : Bool := nmB l.length l[k]! && (risB l k && frsB l k)
def ckAt (l : List Bd) (k : Nat) : Int := if stB l k = true then ckE l[k]!.ev else 100
def ckFr (l : List Bd) (k : Nat) : Int :=
  if k < l.length then if ckAt l k = 0 then ckFr l (k + 1) else ckAt l k else 0
termination_by l.length - k
/-- What is wrong with a partial match. -/
def ckP (l : List Bd) : Int := if 12 < l.length then 100 else ckFr l 0
theorem ckFr_end {l : List Bd} {k : Nat} (h : ¬ k < l.length) : ckFr l k = 0 := by rw [ckFr, if_neg h]
theorem ckFr_go {l : List Bd} {k : Nat} (h : k < l.length) (h1 : ckAt l k = 0) : ckFr l k = ckFr l (k + 1) := by rw [ckFr, if_pos h, if_pos h1]
theorem ckFr_bad {l : List Bd} {k : Nat} (h : k < l.length) (h1 : ckAt l k ≠ 0) : ckFr l k = ckAt l k := by rw [ckFr, if_pos h, if_neg h1]
theorem ckAt_st {l : List Bd} {k : Nat} (h : stB l k = false) : ckAt l k = 100 := by unfold ckAt; rw [h]; rfl
theorem ckAt_ev {l : List Bd} {k : Nat} (h : stB l k = true) : ckAt l k = ckE l[k]!.ev := by unfold ckAt; rw [if_pos h]
theorem ckFr_st {l : List Bd} {k : Nat} (h : k < l.length) (h1 : stB l k = false) : ckFr l k = 100 := by
  have := ckAt_st h1
  rw [ckFr_bad h (by rw [this]; decide), this]
theorem ckFr_zero (l : List Bd) (k : Nat) : ckFr l k = 0 ↔ ∀ j, k ≤ j → j < l.length → ckAt l j = 0 := by
  generalize hm : l.length - k = m
  induction m generalizing k with
  | zero => rw [ckFr_end (by omega)]; exact ⟨fun _ j h1 h2 => by omega, fun _ => rfl⟩
  | succ m ih =>
    have hk : k < l.length := by omega
    by_cases h : ckAt l k = 0
    · rw [ckFr_go hk h, ih (k + 1) (by omega)]
      refine ⟨fun hh j h1 h2 => ?_, fun hh j h1 h2 => hh j (by omega) h2⟩
      by_cases e : j = k
      · rw [e]; exact h
      · exact hh j (by omega) h2
    · rw [ckFr_bad hk h]
      exact ⟨fun hh => absurd hh h, fun hh => hh k (Nat.le_refl _) hk⟩

theorem cbV_swap (a b : Bd) : cbV b a = -cbV a b := cb_swap _ _
theorem cbV_trans {a b c : Bd} (h1 : cbV a b < 0) (h2 : cbV b c < 0) : cbV a c < 0 := (cb_trans _ _ _ (Int.le_of_lt h1) (Int.le_of_lt h2)).2 (.inl h1)
theorem idE_swap (a b : Bd) : idE b a = idE a b := by
  unfold idE
  rw [show decide (b.ev.src = a.ev.src) = decide (a.ev.src = b.ev.src) by rw [decide_eq_decide]; exact ⟨Eq.symm, Eq.symm⟩, show decide (b.ev.seq = a.ev.seq) = decide (a.ev.seq = b.ev.seq) by rw [decide_eq_decide]; exact ⟨Eq.symm, Eq.symm⟩]
/-- What partial matches are that may be. -/
structure Okl (l : List Bd) : Prop where
  len : l.length ≤ 12
  nm : ∀ x ∈ l, nmB l.length x = true
  ris : l.Pairwise fun a b => cbV a b < 0
  frs : l.Pairwise fun a b => idE a b = false
  ev : ∀ x ∈ l, ckE x.ev = 0
theorem stB_iff (l : List Bd) (k : Nat) : stB l k = true ↔ nmB l.length l[k]! = true ∧ (0 < k → 0 < cbV l[k]! l[k - 1]!) ∧ ∀ o ∈ l.take k, idE o l[k]! = false := by
  unfold stB risB frsB
  rw [Bool.and_eq_true, Bool.and_eq_true]
  refine and_congr Iff.rfl (and_congr ?_ ?_)
  · rw [Bool.not_eq_true', Bool.and_eq_false_iff, decide_eq_false_iff_not, decide_eq_false_iff_not]
    constructor
    · rintro (h | h) hk
      · exact absurd hk h
      · omega
    · intro h
      by_cases hk : 0 < k
      · exact .inr (by have := h hk; omega)
      · exact .inl hk
  · rw [Bool.not_eq_true', List.any_eq_false]
    exact ⟨fun h o ho => by simpa using h o ho, fun h o ho => by rw [h o ho]; exact Bool.false_ne_true⟩
theorem ckP_iff (l : List Bd) : ckP l = 0 ↔ Okl l := by
  unfold ckP
  by_cases hl : 12 < l.length
  · rw [if_pos hl]
    exact ⟨(fun h => by cases h), fun h => absurd h.len (by omega)⟩
  rw [if_neg hl, ckFr_zero]
  have key : ∀ j, ckAt l j = 0 ↔ stB l j = true ∧ ckE l[j]!.ev = 0 := fun j => by
    unfold ckAt
    cases h : stB l j
    · simp
    · simp
  constructor
  · intro h
    have h' := fun j (hj : j < l.length) => (key j).1 (h j (Nat.zero_le _) hj)
    have hs := fun j (hj : j < l.length) => (stB_iff l j).1 (h' j hj).1
    refine ⟨by omega, fun x hx => ?_, ?_, ?_, fun x hx => ?_⟩
    · obtain ⟨i, hi, rfl⟩ := List.mem_iff_getElem.1 hx
      have := (hs i hi).1
      rwa [getElem!_pos l i hi] at this
    · rw [List.pairwise_iff_getElem]
      intro i j hi hj hij
      induction j with
      | zero => omega
      | succ j ih =>
        have h1 := (hs (j + 1) hj).2.1 (by omega)
        rw [getElem!_pos l (j + 1) hj, Nat.add_sub_cancel, getElem!_pos l j (by omega)] at h1
        have h2 : cbV l[j] l[j + 1] < 0 := by have := cbV_swap l[j] l[j + 1]; omega
        by_cases e : i = j
        · subst e; exact h2
        · exact cbV_trans (ih (by omega) (by omega)) h2
    · rw [List.pairwise_iff_getElem]
      intro i j hi hj hij
      have := (hs j hj).2.2 l[i] (by rw [List.mem_take_iff_getElem]; exact ⟨i, by omega, rfl⟩)
      rwa [getElem!_pos l j hj] at this
    · obtain ⟨i, hi, rfl⟩ := List.mem_iff_getElem.1 hx
      have := (h' i hi).2
      rwa [getElem!_pos l i hi] at this
  · intro h j _ hj
    refine (key j).2 ⟨(stB_iff l j).2 ⟨?_, fun hk => ?_, fun o ho => ?_⟩, ?_⟩
    · rw [getElem!_pos l j hj]; exact h.nm _ (List.getElem_mem _)
    · have := (List.pairwise_iff_getElem.1 h.ris) (j - 1) j (by omega) hj (by omega)
      rw [getElem!_pos l j hj, getElem!_pos l (j - 1) (by omega)]
      have h2 := cbV_swap l[j - 1] l[j]; omega
    · obtain ⟨i, hi, rfl⟩ := List.mem_take_iff_getElem.1 ho
      have := (List.pairwise_iff_getElem.1 h.frs) i j (by omega) hj (by omega)
      rwa [getElem!_pos l j hj]
    · rw [getElem!_pos l j hj]; exact h.ev _ (List.getElem_mem _)

/-- Two put together: all of both, rising by the variables. -/
def MrgR (a b m : List Bd) : Prop := m.Perm (a ++ b) ∧ m.Pairwise fun x y => cbV x y ≤ 0
def leV (x y : Bd) : Bool := decide (cbV x y ≤ 0)
def mrg (a b : List Bd) : List Bd := (a ++ b).mergeSort leV
theorem mrg_is (a b : List Bd) : MrgR a b (mrg a b) := by
  refine ⟨List.mergeSort_perm _ _, ?_⟩
  have h := List.pairwise_mergeSort (le := leV) (fun x y z h1 h2 => by
    unfold leV at *
    rw [decide_eq_true_eq] at *
    exact (cb_trans _ _ _ h1 h2).1) (fun x y => by
    unfold leV
    have := cbV_swap x y
    rw [Bool.or_eq_true, decide_eq_true_eq, decide_eq_true_eq]; omega) (a ++ b)
  exact h.imp fun h => by unfold leV at h; rwa [decide_eq_true_eq] at h
theorem ris_of {m m' : List Bd} (hp : m.Perm m') (h : m.Pairwise fun x y => cbV x y < 0) (h' : m'.Pairwise fun x y => cbV x y ≤ 0) : m'.Pairwise fun x y => cbV x y < 0 := by
  have hne : m.Pairwise fun x y => cbV x y ≠ 0 := h.imp fun h => by omega
  have hne' : m'.Pairwise fun x y => cbV x y ≠ 0 := (List.Perm.pairwise_iff (fun {x y} hxy => by have := cbV_swap x y; omega) hp).1 hne
  exact List.Pairwise.imp (fun h => by omega) (List.Pairwise.and h' hne')
theorem srt_eq {m m' : List Bd} (hp : m.Perm m') (h : m.Pairwise fun x y => cbV x y < 0) (h' : m'.Pairwise fun x y => cbV x y ≤ 0) : m = m' :=
  List.Perm.eq_of_pairwise (le := fun x y => cbV x y < 0) (fun x y _ _ h1 h2 => by have := cbV_swap x y; omega) h (ris_of hp h h') hp
theorem MrgR.eq {a b m m' : List Bd} (h : MrgR a b m) (h' : MrgR a b m') (ho : ckP m = 0) : m = m' := srt_eq (h.1.trans h'.1.symm) ((ckP_iff m).1 ho).ris h'.2
/-- What becomes of two. -/
def mergeO (a b : List Bd) : Option (List Bd) := if ckP a = 0 ∧ ckP b = 0 ∧ ckP (mrg a b) = 0 then some (mrg a b) else none
theorem mergeO_a {a b : List Bd} (h : ckP a ≠ 0) : mergeO a b = none := if_neg fun hh => h hh.1
theorem mergeO_b {a b : List Bd} (h : ckP b ≠ 0) : mergeO a b = none := if_neg fun hh => h hh.2.1
theorem mergeO_no {a b m : List Bd} (h : MrgR a b m) (hm : ckP m ≠ 0) : mergeO a b = none := if_neg fun hh => hm (by rw [← (mrg_is a b).eq h hh.2.2]; exact hh.2.2)
theorem mergeO_yes {a b m : List Bd} (h : MrgR a b m) (ha : ckP a = 0) (hb : ckP b = 0) (hm : ckP m = 0) : mergeO a b = some m := by
  have e := h.eq (mrg_is a b) hm
  unfold mergeO
  rw [← e, if_pos ⟨ha, hb, hm⟩]
theorem mergeO_some {a b m : List Bd} (h : mergeO a b = some m) : ckP a = 0 ∧ ckP b = 0 ∧ ckP m = 0 ∧ MrgR a b m := by
  unfold mergeO at h
  split at h
  · next hh =>
    obtain rfl : mrg a b = m := by simpa using h
    exact ⟨hh.1, hh.2.1, hh.2.2, mrg_is a b⟩
  · cases h
theorem MrgR.swap {a b m : List Bd} (h : MrgR a b m) : MrgR b a m := ⟨h.1.trans List.perm_append_comm, h.2⟩
theorem mergeO_comm (a b : List Bd) : mergeO a b = mergeO b a := by
  cases h : mergeO b a with
  | some m =>
    obtain ⟨h1, h2, h3, h4⟩ := mergeO_some h
    exact mergeO_yes h4.swap h2 h1 h3
  | none =>
    cases h' : mergeO a b with
    | none => rfl
    | some m =>
      obtain ⟨h1, h2, h3, h4⟩ := mergeO_some h'
      rw [mergeO_yes h4.swap h2 h1 h3] at h
      cases h
/-- A part, in order, of what may be, may be. -/
theorem Okl.part {q m r : List Bd} (h : Okl q) (hp : q.Perm (m ++ r)) (hs : m.Pairwise fun x y => cbV x y ≤ 0) : Okl m := by
  have hl : q.length = m.length + r.length := by rw [hp.length_eq, List.length_append]
  have hr : (m ++ r).Pairwise fun x y => cbV x y ≠ 0 := (List.Perm.pairwise_iff (fun {x y} hxy => by have := cbV_swap x y; omega) hp).1 (h.ris.imp fun h => by omega)
  have hf : (m ++ r).Pairwise fun x y => idE x y = false := (List.Perm.pairwise_iff (fun {x y} hxy => by rw [idE_swap]; exact hxy) hp).1 h.frs
  have hm : ∀ x ∈ m, x ∈ q := fun x hx => hp.mem_iff.2 (List.mem_append_left _ hx)
  refine ⟨by have := h.len; omega, fun x hx => ?_, ?_, (List.pairwise_append.1 hf).1, fun x hx => h.ev x (hm x hx)⟩
  · have h1 := h.nm x (hm x hx)
    have h2 : 0 < m.length := List.length_pos_of_mem hx
    unfold nmB at h1 ⊢
    rw [Bool.or_eq_true, Bool.and_eq_true, decide_eq_true_eq, decide_eq_true_eq] at *
    rcases h1 with h1 | ⟨h1, h3⟩
    · exact .inl h1
    · exact .inr ⟨h1, by omega⟩
  · exact List.Pairwise.imp (fun h => by omega) (List.Pairwise.and hs (List.pairwise_append.1 hr).1)
theorem mergeO_three {a b c p q : List Bd} (h1 : mergeO a b = some p) (h2 : mergeO p c = some q) : ∃ r, mergeO b c = some r ∧ mergeO a r = some q := by
  obtain ⟨ha, hb, hp, hm⟩ := mergeO_some h1
  obtain ⟨_, hc, hq, hn⟩ := mergeO_some h2
  have hq' := (ckP_iff q).1 hq
  have P1 : q.Perm (a ++ (b ++ c)) := hn.1.trans ((hm.1.append_right c).trans (by rw [List.append_assoc]))
  have P2 : q.Perm (mrg b c ++ a) := P1.trans (List.perm_append_comm.trans ((mrg_is b c).1.symm.append_right a))
  have hr : ckP (mrg b c) = 0 := (ckP_iff _).2 (hq'.part P2 (mrg_is b c).2)
  exact ⟨mrg b c, mergeO_yes (mrg_is b c) hb hc hr, mergeO_yes ⟨P2.trans List.perm_append_comm, hn.2⟩ ha hr hq⟩
/-- Of three, in whatever order. -/
theorem mergeO_assoc (a b c : List Bd) : ((mergeO a b).bind fun p => mergeO p c) = ((mergeO b c).bind fun r => mergeO a r) := by
  cases h : ((mergeO a b).bind fun p => mergeO p c) with
  | some q =>
    obtain ⟨p, h1, h2⟩ := Option.bind_eq_some_iff.1 h
    obtain ⟨r, h3, h4⟩ := mergeO_three h1 h2
    rw [h3]; exact h4.symm
  | none =>
    cases h' : ((mergeO b c).bind fun r => mergeO a r) with
    | none => rfl
    | some q =>
      obtain ⟨r, h1, h2⟩ := Option.bind_eq_some_iff.1 h'
      rw [mergeO_comm] at h1 h2
      obtain ⟨p, h3, h4⟩ := mergeO_three h1 h2
      rw [mergeO_comm] at h3 h4
      rw [h3] at h
      have : mergeO p c = none := h
      rw [this] at h4
      cases h4

/-! When the events are. -/
def begT : List Bd → Int
  | [] => 0
  | x :: r => r.foldl (fun m b => min m b.ev.time) x.ev.time
def endT : List Bd → Int
  | [] => 0
  | x :: r => r.foldl (fun m b => max m b.ev.time) x.ev.time
theorem begT_one (x : Bd) : begT [x] = x.ev.time := rfl
theorem endT_one (x : Bd) : endT [x] = x.ev.time := rfl
theorem begT_snoc : ∀ (l : List Bd) (x : Bd), l ≠ [] → begT (l ++ [x]) = min (begT l) x.ev.time
  | [], _, h => absurd rfl h
  | y :: r, x, _ => by show ((r ++ [x]).foldl _ _) = _; rw [List.foldl_append]; rfl
theorem endT_snoc : ∀ (l : List Bd) (x : Bd), l ≠ [] → endT (l ++ [x]) = max (endT l) x.ev.time
  | [], _, h => absurd rfl h
  | y :: r, x, _ => by show ((r ++ [x]).foldl _ _) = _; rw [List.foldl_append]; rfl
end Go.Proofs.Ytpbloplbpkedcaa

/- Plain facts on the code of a natural number: so many bits 0, then the number and one more, the highest bit first. No program here. -/
namespace Go.Proofs.Ytpbloplbpkedcaa
open Go

/-- How many bits 0 stand ahead. -/
def ahd (u : Nat) : Nat := (u + 1).log2
theorem ahd_le (u : Nat) (h : u < 2 ^ 64) : ahd u ≤ 64 := by
  unfold ahd
  have : (u + 1).log2 < 65 := (Nat.log2_lt (by omega)).2 (by omega)
  omega
theorem ahd_pow (u : Nat) : 2 ^ ahd u ≤ u + 1 := Nat.log2_self_le (by omega)
theorem ahd_lt (u : Nat) : u + 1 < 2 ^ (ahd u + 1) := Nat.lt_log2_self
theorem ahd_max : ahd 18446744073709551615 = 64 := by decide +kernel
theorem bitLenAux_log2 (f x : Nat) (hx : x ≠ 0) (h : x < 2 ^ f) : Lib.bitLenAux f x = x.log2 + 1 := by
  induction f generalizing x with
  | zero => simp at h; omega
  | succ f ih =>
    rw [Lib.bitLenAux, if_neg hx, Nat.log2_def]
    by_cases h2 : 2 ≤ x
    · rw [ih (x / 2) (by omega) (by rw [Nat.pow_succ] at h; omega), if_pos h2]; omega
    · rw [if_neg h2]
      have : x / 2 = 0 := by omega
      rw [this]
      cases f <;> simp [Lib.bitLenAux]
theorem bitLen_log2 (x : Nat) (hx : x ≠ 0) (h : x < 2 ^ 64) : Lib.bitLen x = x.log2 + 1 := bitLenAux_log2 64 x hx h

/-- The code of a natural number. -/
def natBits (u : Nat) : List Bool := List.replicate (ahd u) false ++ bitsOf (u + 1) (ahd u + 1)
theorem natBits_length (u : Nat) : (natBits u).length = 2 * ahd u + 1 := by simp [natBits, bitsOf_length]; omega
theorem bitsOf_zero_num (k : Nat) : bitsOf 0 k = List.replicate k false := by
  apply List.ext_getElem
  · simp [bitsOf]
  · intro i h1 h2; simp [bitsOf]
theorem bitsOf_mod (x k : Nat) (hk : k ≤ 64) : bitsOf (x % 2 ^ 64) k = bitsOf x k := by
  apply List.ext_getElem
  · simp [bitsOf]
  · intro i h1 h2
    simp [bitsOf] at h1
    rw [bitsOf_getElem, bitsOf_getElem, Nat.testBit_mod_two_pow]
    simp; omega
theorem testBit_top (x k : Nat) (h1 : 2 ^ k ≤ x) (h2 : x < 2 ^ (k + 1)) : x.testBit k = true := by
  rw [Nat.testBit_eq_decide_div_mod_eq]
  have : x / 2 ^ k = 1 := by
    rw [Nat.div_eq_iff (Nat.two_pow_pos k)]
    rw [Nat.pow_succ] at h2
    omega
  simp [this]
theorem natBits_parts (u : Nat) (h : u < 2 ^ 64) : natBits u = bitsOf 0 (ahd u) ++ (bitsOf 1 1 ++ bitsOf ((u + 1) % 2 ^ 64) (ahd u)) := by
  rw [natBits, bitsOf_zero_num, bitsOf_mod _ _ (ahd_le u h), bitsOf_succ, testBit_top _ _ (ahd_pow u) (ahd_lt u)]
  rfl

/-- The natural number that stands for a number. -/
def zigN (n : Int) : Nat := if 0 ≤ n then (2 * n).toNat else (2 * (-(n + 1)) + 1).toNat

/-- The code of a text. -/
def textBits (l : List UInt8) : List Bool := natBits l.length ++ l.flatMap fun c => bitsOf c.toNat 8
end Go.Proofs.Ytpbloplbpkedcaa
namespace Go.Proofs.Ytpbloplbpkedcaa
open Go

theorem ahd_mono (a b : Nat) (h : a ≤ b) : ahd a ≤ ahd b := by
  rcases Nat.lt_or_ge (ahd b) (ahd a) with hlt | hge
  · have h1 := ahd_pow a
    have h2 := ahd_lt b
    have h3 : 2 ^ (ahd b + 1) ≤ 2 ^ ahd a := Nat.pow_le_pow_right (by omega) hlt
    omega
  · exact hge
theorem natBits_low (u i : Nat) (h : i < ahd u) : (natBits u)[i]? = some false := by
  rw [natBits, List.getElem?_append_left (by simpa using h)]
  simp [h]
theorem natBits_high (u j : Nat) (h : j ≤ ahd u) : (natBits u)[ahd u + j]? = some ((u + 1).testBit (ahd u - j)) := by
  rw [natBits, List.getElem?_append_right (by simp)]
  simp only [List.length_replicate, Nat.add_sub_cancel_left]
  rw [List.getElem?_eq_getElem (by rw [bitsOf_length]; omega), bitsOf_getElem]
  congr 2
theorem apart_lt (a b : Nat) (h : ahd a < ahd b) : (natBits a)[ahd a]? ≠ (natBits b)[ahd a]? := by
  rw [natBits_low b _ h]
  have := natBits_high a 0 (Nat.zero_le _)
  rw [Nat.add_zero] at this
  rw [this, Nat.sub_zero, testBit_top _ _ (ahd_pow a) (ahd_lt a)]
  simp
theorem take_ne_of {l m : List Bool} {i k : Nat} (hi : i < k) (h : l[i]? ≠ m[i]?) : l.take k ≠ m.take k := by
  intro e
  apply h
  have h1 := congrArg (fun x => x[i]?) e
  simpa [List.getElem?_take, hi] using h1
theorem apart_any (a b k : Nat) (h : a ≠ b) (hk : k = min (2 * ahd a + 1) (2 * ahd b + 1)) : (natBits a).take k ≠ (natBits b).take k := by
  rcases Nat.lt_trichotomy (ahd a) (ahd b) with hlt | heq | hgt
  · exact take_ne_of (i := ahd a) (by omega) (apart_lt a b hlt)
  · intro e
    apply h
    have hsucc : a + 1 = b + 1 := by
      apply Nat.eq_of_testBit_eq
      intro j
      by_cases hj : j ≤ ahd a
      · have h1 := natBits_high a (ahd a - j) (by omega)
        have h2 := natBits_high b (ahd a - j) (by omega)
        have h3 := congrArg (fun x => x[ahd a + (ahd a - j)]?) e
        simp only [List.getElem?_take] at h3
        rw [if_pos (by omega), if_pos (by omega), h1, heq] at h3
        rw [heq] at h2
        rw [h2] at h3
        simp only [Option.some.injEq] at h3
        rw [heq] at hj
        rwa [show ahd b - (ahd b - j) = j by omega] at h3
      · have p1 := ahd_lt a
        have p2 := ahd_lt b
        have p3 : 2 ^ (ahd a + 1) ≤ 2 ^ j := Nat.pow_le_pow_right (by omega) (by omega)
        have p4 : 2 ^ (ahd b + 1) ≤ 2 ^ j := Nat.pow_le_pow_right (by omega) (by omega)
        rw [Nat.testBit_lt_two_pow (by omega), Nat.testBit_lt_two_pow (by omega)]
    omega
  · have := take_ne_of (k := k) (i := ahd b) (by omega) (apart_lt b a hgt)
    exact fun e => this e.symm
end Go.Proofs.Ytpbloplbpkedcaa

/- Plain facts on the bits of bytes. No program here. -/
namespace Go.Proofs.Ytpbloplbpkedcaa
open Go

/-- Bit p of bytes, the highest bit of each byte first. -/
def bitAt (bytes : List Nat) (p : Nat) : Bool := (bytes.getD (p / 8) 0).testBit (7 - p % 8)
def bitsAll (bytes : List Nat) : List Bool := (List.range (8 * bytes.length)).map (bitAt bytes)
theorem bitsAll_length (bytes : List Nat) : (bitsAll bytes).length = 8 * bytes.length := by simp [bitsAll]
theorem bitsAll_getElem (bytes : List Nat) (p : Nat) (h : p < (bitsAll bytes).length) : (bitsAll bytes)[p] = bitAt bytes p := by simp [bitsAll]

/-- The number of the n bits from a on. -/
def valAt (bytes : List Nat) (a n : Nat) : Nat := valBits (((bitsAll bytes).drop a).take n)
theorem valAt_zero (bytes : List Nat) (a : Nat) : valAt bytes a 0 = 0 := by simp [valAt, valBits]
theorem valAt_succ (bytes : List Nat) (a k : Nat) (h : a + k < 8 * bytes.length) : valAt bytes a (k + 1) = 2 * valAt bytes a k + (bitAt bytes (a + k)).toNat := by
  unfold valAt
  rw [List.take_succ_eq_append_getElem (by rw [List.length_drop, bitsAll_length]; omega), List.getElem_drop, bitsAll_getElem, valBits_snoc]
theorem valAt_lt (bytes : List Nat) (a n : Nat) : valAt bytes a n < 2 ^ n := by
  unfold valAt
  have h := valBits_lt (((bitsAll bytes).drop a).take n)
  have hl : (((bitsAll bytes).drop a).take n).length ≤ n := by simp; omega
  have := Nat.pow_le_pow_right (n := 2) (by omega) hl
  omega

theorem and_bit8 (c k : Nat) (hc : c < 256) (hk : k < 8) : bits BinOp.and IntKind.u8 ((c : Int) / 2 ^ k) 1 = ((c.testBit k).toNat : Int) := by
  have h : ∀ c : Fin 256, ∀ k : Fin 8, bits BinOp.and IntKind.u8 (((c.val : Nat) : Int) / 2 ^ k.val) 1 = ((c.val.testBit k.val).toNat : Int) := by decide +kernel
  exact h ⟨c, hc⟩ ⟨k, hk⟩
theorem or_bit64 (v : Nat) (b : Bool) (hv : v < 2 ^ 63) : bits BinOp.or IntKind.u64 ((v : Int) * 2) (b.toNat : Int) = ((2 * v + b.toNat : Nat) : Int) := by
  have hb : b.toNat < 2 ^ 1 := by cases b <;> simp
  have hb2 : b.toNat ≤ 1 := by omega
  have h := bits_or_u64_nat (v * 2) b.toNat (by omega) (by omega)
  have e := Nat.shiftLeft_add_eq_or_of_lt hb v
  rw [Nat.shiftLeft_eq, Nat.pow_one] at e
  rw [← e] at h
  rw [show ((v : Int) * 2) = ((v * 2 : Nat) : Int) by push_cast; rfl, h]
  congr 1
  omega

/-- How many bits 0 come next from bit p on, 65 at most, of those that are there. -/
def zerosAt (bytes : List Nat) (p : Nat) : Nat := ((((bitsAll bytes).drop p).take 65).takeWhile (fun b => !b)).length
theorem tw_len (l : List Bool) (k : Nat) (hk : k ≤ l.length) (h : ∀ i (hi : i < k), l[i]'(by omega) = false) (h2 : ∀ (hl : k < l.length), l[k] = true) : (l.takeWhile (fun b => !b)).length = k := by
  induction l generalizing k with
  | nil => simp at hk ⊢; omega
  | cons a l ih =>
    cases k with
    | zero =>
      have := h2 (by simp)
      simp at this
      simp [this]
    | succ k =>
      have h0 := h 0 (by omega)
      simp at h0
      simp only [h0, List.takeWhile_cons, Bool.not_false, if_true, List.length_cons]
      rw [ih k (by simpa using hk) (fun i hi => by have := h (i + 1) (by omega); simpa using this) (fun hl => by have := h2 (by simpa using hl); simpa using this)]
theorem zerosAt_eq (bytes : List Nat) (p k : Nat) (hp : p ≤ 8 * bytes.length) (hk : k ≤ min (8 * bytes.length - p) 65) (h : ∀ i, i < k → bitAt bytes (p + i) = false) (h2 : k < min (8 * bytes.length - p) 65 → bitAt bytes (p + k) = true) : zerosAt bytes p = k := by
  unfold zerosAt
  have hl : (((bitsAll bytes).drop p).take 65).length = min (8 * bytes.length - p) 65 := by simp [bitsAll_length]; omega
  refine tw_len _ k (by rw [hl]; exact hk) (fun i hi => ?_) (fun hlt => ?_)
  · rw [List.getElem_take, List.getElem_drop, bitsAll_getElem]; exact h i hi
  · rw [List.getElem_take, List.getElem_drop, bitsAll_getElem]; exact h2 (by rw [← hl]; exact hlt)
theorem valAt_one (bytes : List Nat) (a : Nat) (h : a < 8 * bytes.length) : valAt bytes a 1 = (bitAt bytes a).toNat := by
  rw [valAt_succ bytes a 0 (by omega), valAt_zero]; simp
end Go.Proofs.Ytpbloplbpkedcaa

/- Contracts of the small functions of package bits: what each returns, and that it leaves memory alone. -/
namespace Go.Proofs.Ytpbloplbpkedcaa
open Go.RowKit

theorem isMade_any (q : Nat) (w : World) (h : w.cell? ⟨q, 0, none⟩ = some (.bool true)) :
    Calls Try.prog 103 #[.pointer (some ⟨q, 0, none⟩)] w fun e w' => e = .returned (.bool true) ∧ w = w' := by
  go_enter Try.func103, Try.ntmps103
  go_wp2
  go_ret
  exact ⟨rfl, rfl⟩

theorem hasRoom_any (q : Nat) (n k : Int) (w : World) (hn : 0 ≤ n) (hn2 : n ≤ 1048576) (h : w.cell? ⟨q, 3, none⟩ = some (.int .i64 n)) :
    Calls Try.prog 127 #[.pointer (some ⟨q, 0, none⟩), .int .i64 k] w fun e w' => e = .returned (.bool (decide (k ≤ 1048576 - n))) ∧ w = w' := by
  go_enter Try.func127, Try.ntmps127
  go_wp2
  go_ret
  exact ⟨rfl, rfl⟩

theorem kLen_any (q : Nat) (n : Int) (w : World) (h0 : w.cell? ⟨q, 0, none⟩ = some (.bool true)) (h : w.cell? ⟨q, 3, none⟩ = some (.int .i64 n)) :
    Calls Try.prog 101 #[.pointer (some ⟨q, 0, none⟩)] w fun e w' => e = .returned (.int .i64 n) ∧ w = w' := by
  go_enter Try.func101, Try.ntmps101
  go_wp2_with (go_at_call 103; refine (isMade_any _ _ (by assumption)).mono ?_; rintro e w' ⟨rfl, rfl⟩)
  go_ret
  exact ⟨rfl, rfl⟩

end Go.Proofs.Ytpbloplbpkedcaa

/- What a sink is in memory, and the contract of put: it lays the low n bits of a number behind the bits that are there. -/
namespace Go.Proofs.Ytpbloplbpkedcaa
open Go Go.RowKit

theorem Try.info5 : (Try.prog.info? 5).map (fun i => (i.zero, i.size, i.bytes)) = some (some (.int .u8 0), 1, 1) := by kernel_rfl

/-- The types that a sink's memory is of: its struct, bytes. -/
def sinkT (e : Nat) : Bool := e == 5 || e == 151

/-- In w the block q is a sink that holds the bits bs; its row of bytes is owned, from block B on. -/
structure SinkIs (w : World) (B q : Nat) (bs : List Bool) : Prop where
  from_ : B ≤ q
  len : bs.length ≤ 1048576
  row : ∃ v, w.heap[q]? = some (.cells #[.bool true, v, .int .u8 ((restOf bs : Nat) : Int), .int .i64 ((bs.length : Nat) : Int)] 151 (0, 0)) ∧
    w.ownsRow B 5 1 v (bs.length / 8) ((fullOf bs).map fun x : Nat => Value.int .u8 (x : Int))

theorem SinkIs.lt {w : World} {B q : Nat} {bs : List Bool} (h : SinkIs w B q bs) : q < w.heap.size := by
  obtain ⟨v, h1, _⟩ := h.row
  exact lt_of_block h1
theorem SinkIs.made {w : World} {B q : Nat} {bs : List Bool} (h : SinkIs w B q bs) : w.cell? ⟨q, 0, none⟩ = some (.bool true) := by
  obtain ⟨v, h1, _⟩ := h.row
  exact (cell_of_four h1).1
theorem SinkIs.count {w : World} {B q : Nat} {bs : List Bool} (h : SinkIs w B q bs) : w.cell? ⟨q, 3, none⟩ = some (.int .i64 ((bs.length : Nat) : Int)) := by
  obtain ⟨v, h1, _⟩ := h.row
  exact (cell_of_four h1).2.2.2
/-- What keeps all blocks of a sink's types keeps the sink. -/
theorem SinkIs.kept {w w' : World} {B B' q : Nat} {bs : List Bool} {T : Nat → Bool} (h : SinkIs w B q bs) (hk : Kept B' T w w') (h1 : T 5 = false) (h2 : T 151 = false) : SinkIs w' B q bs := by
  obtain ⟨v, hq, ho⟩ := h.row
  exact ⟨h.from_, h.len, v, hk.typed _ _ _ _ hq h2, hk.ownsRow ho h1⟩
theorem SinkIs.below {w w' : World} {B B' q : Nat} {bs : List Bool} (h : SinkIs w B q bs) (hk : Below B' w w') (hB : w.heap.size ≤ B') : SinkIs w' B q bs := by
  obtain ⟨v, hq, ho⟩ := h.row
  refine ⟨h.from_, h.len, v, ?_, ho.1, ?_⟩
  · rw [hk.block q (by have := lt_of_block hq; omega)]; exact hq
  · rcases ho.2 with hn | ⟨g, cap, cur, rfl, hb, hgg, rest⟩
    · exact .inl hn
    · exact .inr ⟨g, cap, cur, rfl, hb, by rw [hk.block g (by have := lt_of_block hgg; omega)]; exact hgg, rest⟩

theorem SinkIs.drew {w : World} {B q : Nat} {bs : List Bool} (h : SinkIs w B q bs) : SinkIs w.drew B q bs := ⟨h.from_, h.len, h.row⟩
theorem SinkIs.drewN {w : World} {B q : Nat} {bs : List Bool} (h : SinkIs w B q bs) (n : Nat) : SinkIs (w.drewN n) B q bs := ⟨h.from_, h.len, h.row⟩
/-- One bit more, the byte not full by it. -/
theorem SinkIs.bit_ne {w : World} {B q : Nat} {bs : List Bool} (h : SinkIs w B q bs) (b : Bool) (hl : bs.length + 1 ≤ 1048576) (hm : (bs.length + 1) % 8 ≠ 0) :
    SinkIs ((w.setCell ⟨q, 2, none⟩ (.int .u8 ((2 * restOf bs + b.toNat : Nat) : Int))).setCell ⟨q, 3, none⟩ (.int .i64 ((bs.length + 1 : Nat) : Int))) B q (bs ++ [b]) := by
  obtain ⟨v, hq, ho⟩ := h.row
  have q1 := heap_setCell_same (k := 2) hq (.int .u8 ((2 * restOf bs + b.toNat : Nat) : Int))
  have q2 := heap_setCell_same (k := 3) q1 (.int .i64 ((bs.length + 1 : Nat) : Int))
  refine ⟨h.from_, by simpa using hl, v, ?_, ?_⟩
  · rw [q2, restOf_snoc_ne bs b hm]; simp
  · rw [fullOf_snoc_ne bs b hm, show (bs ++ [b]).length / 8 = bs.length / 8 by simp; omega]
    exact ownsRow_setCell_typed (ownsRow_setCell_typed ho hq (by decide) _) q1 (by decide) _

/-- One bit more, the byte full by it: its byte is laid into the row. -/
theorem SinkIs.bit_eq {w2 : World} {B q : Nat} {bs : List Bool} {v : Value} (b : Bool) (hB : B ≤ q) (hl : bs.length + 1 ≤ 1048576) (hm : (bs.length + 1) % 8 = 0) {x1 x2 : Value}
    (hq : w2.heap[q]? = some (.cells #[.bool true, x1, x2, .int .i64 ((bs.length + 1 : Nat) : Int)] 151 (0, 0)))
    (ho : w2.ownsRow B 5 1 v (bs.length / 8 + 1) ((fullOf bs).map (fun x : Nat => Value.int .u8 (x : Int)) ++ [.int .u8 ((2 * restOf bs + b.toNat : Nat) : Int)])) :
    SinkIs ((w2.setCell ⟨q, 1, none⟩ v).setCell ⟨q, 2, none⟩ (.int .u8 0)) B q (bs ++ [b]) := by
  have q1 := heap_setCell_same (k := 1) hq v
  have q2 := heap_setCell_same (k := 2) q1 (.int .u8 0)
  refine ⟨hB, by simpa using hl, v, ?_, ?_⟩
  · rw [q2, restOf_snoc_eq bs b hm]; simp
  · rw [fullOf_snoc_eq bs b hm, show (bs ++ [b]).length / 8 = bs.length / 8 + 1 by simp; omega, List.map_append]
    exact ownsRow_setCell_typed (ownsRow_setCell_typed ho hq (by decide) _) q1 (by decide) _

set_option maxRecDepth 100000 in
set_option maxHeartbeats 1000000 in
theorem kPut_any (B q : Nat) (x n : Nat) (bs : List Bool) (w : World) (hx : x < 2 ^ 64) (hn : n ≤ 64) (hs : SinkIs w B q bs) (hl : bs.length + n ≤ 1048576) :
    Calls Try.prog 128 #[.pointer (some ⟨q, 0, none⟩), .int .u64 (x : Int), .int .i64 (n : Int)] w fun e w' => e = .returned (.tuple #[]) ∧ SinkIs w' B q (bs ++ bitsOf x n) ∧ Kept B sinkT w w' := by
  obtain ⟨i0, hi, hz0, hz1, hz2⟩ := info_parts Try.info5
  have hx' : (x : Int) ≤ 18446744073709551615 := by omega
  go_enter Try.func128, Try.ntmps128
  go_wp2
  go_loopw [8] (fun i wr => ∃ k : Nat, k ≤ n ∧ i = .int .i64 k ∧ SinkIs wr B q (bs ++ (bitsOf x n).take k) ∧ Kept B sinkT w wr) (fun i _ => n - (intOf i).toNat)
  case atStart => exact ⟨0, Nat.zero_le _, rfl, by simpa using hs, Kept.refl _ _ _⟩
  case round =>
    obtain ⟨k, hk, rfl, hsr, hkr⟩ := hrel
    by_cases hlt : k < n
    · have HT := hide (bitsOf_take_succ x n k hlt)
      obtain ⟨cs, hcs⟩ : ∃ cs, cs = bs ++ (bitsOf x n).take k := ⟨_, rfl⟩
      rw [← hcs] at hsr
      have hcl : cs.length = bs.length + k := by rw [hcs]; simp [bitsOf_length]; omega
      have HC := hide hcs; clear hcs
      obtain ⟨v, hq, ho⟩ := hsr.row
      obtain ⟨h0, h1, h2, h3⟩ := cell_of_four hq
      obtain ⟨f0, f1, f2, f3⟩ := free_of_four hq
      have hr0 := restOf_lt cs
      obtain ⟨r, hr⟩ : ∃ r, r = restOf cs := ⟨_, rfl⟩
      obtain ⟨L, hL⟩ : ∃ L, L = cs.length := ⟨_, rfl⟩
      rw [← hr] at h2 hr0
      rw [← hL] at h3
      have HR := hide hr; clear hr
      have HL := hide hL
      have hL1 : L + 1 ≤ 1048576 := by omega
      clear hL hcl
      have HQ := hide hq; clear hq
      have HO := hide ho; clear ho
      obtain ⟨b, hb⟩ : ∃ b, b = x.testBit (n - 1 - k) := ⟨_, rfl⟩
      obtain ⟨R, hR⟩ : ∃ R : Int, R = ((2 * r + b.toNat : Nat) : Int) := ⟨_, rfl⟩
      have e : bits BinOp.or IntKind.u8 ((r : Int) * 2) (bits BinOp.and IntKind.u64 ((x : Int) / 2 ^ (n - 1 - k)) 1 % 256) = R := by rw [hR, bit_of _ _ hx, ← hb, or_bit _ _ hr0]
      have HB := hide hb; clear hb
      have HRR := hide hR; clear hR
      by_cases hm : (L + 1) % 8 = 0
      · have hm2 : (L + 1) % 8 ≤ 0 := by omega
        have HM := hide hm; clear hm
        have hown1 : ((wr.setCell ⟨q, 2, none⟩ (.int .u8 R)).setCell ⟨q, 3, none⟩ (.int .i64 ((L : Int) + 1))).ownsRow B 5 1 v (cs.length / 8) ((fullOf cs).map fun x : Nat => Value.int .u8 (x : Int)) :=
          ownsRow_setCell_typed (ownsRow_setCell_typed HO.out HQ.out (by decide) _) (heap_setCell_same (k := 2) HQ.out _) (by decide) _
        have HO1 := hide hown1; clear hown1
        have hq1 : ((wr.setCell ⟨q, 2, none⟩ (.int .u8 R)).setCell ⟨q, 3, none⟩ (.int .i64 ((L : Int) + 1))).heap[q]? = some (.cells #[.bool true, v, .int .u8 R, .int .i64 ((L : Int) + 1)] 151 (0, 0)) := by
          rw [heap_setCell_same (heap_setCell_same HQ.out _) _]; simp
        have hA : (((wr.setCell ⟨q, 2, none⟩ (.int .u8 R)).setCell ⟨q, 3, none⟩ (.int .i64 ((L : Int) + 1))).alloc (.cells #[.int .u8 R] 5)).cell? ⟨q, 1, none⟩ = some v := (cell_of_four (heap_alloc_keeps hq1 _)).2.1
        have HQ1 := hide hq1; clear hq1
        have hBq : B ≤ wr.heap.size := by have := hsr.lt; have := hsr.from_; omega
        go_wp2
        go_region
        go_wp2
        go_region_law (refine step_append_own rfl (.tmp 45) (.tmp 50) 53 rfl B 5 i0 (.int .u8 0) 1 1 Try.underlying53 hi hz0 hz1 hz2 rfl (by decide) v (cs.length / 8) _ (by simp [Act.eval]) (HO1.out.alloc _) ⟨wr.heap.size, 0, none⟩ 1 1 [.int .u8 R] (by simp [Act.eval]) rfl (by intro j u hj; match j, hj with | 0, hj => simp at hj; subst hj; simp only [Addr.add]; exact cell_alloc_one _ _ (by simp) _ _) (by intro u hu; simp at hu; subst hu; rfl) (by have := HL.out; unfold maxLen; omega) (by have := HL.out; omega) (by simp; omega) ?_; intro v' w' hown' hgrow'; obtain ⟨g, cap', rfl⟩ := own_shape hown'; have HQ2 := hide (grow_keeps (heap_alloc_keeps HQ1.out _) (HO1.out.alloc _) (by decide) hgrow' rfl); obtain ⟨c0, c1, c2, c3⟩ := cell_of_four HQ2.out; obtain ⟨g0, g1, g2, g3⟩ := free_of_four HQ2.out; have HO2 := hide hown'; have HG2 := hide hgrow'; clear hown' hgrow')
        all_goals go_wp2
        all_goals go_roundw
        all_goals try (case' measure => simp [intOf]; omega)
        all_goals
          have hb1 := SinkIs.bit_eq (bs := cs) (w2 := w') (v := .slice (some ⟨g, 0, none⟩) (cs.length / 8 + 1) cap') (x1 := v) (x2 := .int .u8 R) b hsr.from_ (by have := HL.out; omega) (by rw [← HL.out]; exact HM.out)
            (by rw [← HL.out, Int.natCast_add]; exact HQ2.out) (by rw [← HR.out, ← HRR.out]; exact HO2.out)
          have K1 := ((hkr.setCell (p := ⟨q, 2, none⟩) hsr.from_ HQ.out rfl (.int .u8 R)).setCell (p := ⟨q, 3, none⟩) hsr.from_ (heap_setCell_same HQ.out _) rfl (.int .i64 ((L : Int) + 1))).alloc (by simp; omega) (.cells #[.int .u8 R] 5)
          have K3 := (K1.drewN 2).grown (ownsRow_drewN (HO1.out.alloc _) 2) rfl HG2.out (by simp; omega) (Nat.le_refl _)
          have K4 := (K3.setCell (p := ⟨q, 1, none⟩) hsr.from_ HQ2.out rfl (.slice (some ⟨g, 0, none⟩) (cs.length / 8 + 1) cap')).setCell (p := ⟨q, 2, none⟩) hsr.from_ (heap_setCell_same HQ2.out _) rfl (.int .u8 0)
          refine ⟨k + 1, by omega, by go_num, ?_, K4⟩
          rw [HT.out, ← HB.out, ← List.append_assoc, ← HC.out]
          exact hb1
      · have hm2 : 1 ≤ (L + 1) % 8 := by omega
        have HM := hide hm; clear hm
        go_wp2
        go_region
        go_wp2
        go_roundw
        case rel =>
          have hb1 := hsr.bit_ne b (by have := HL.out; omega) (by rw [← HL.out]; exact HM.out)
          rw [← HR.out, ← HRR.out, ← HL.out] at hb1
          have K1 := (hkr.setCell (p := ⟨q, 2, none⟩) hsr.from_ HQ.out rfl (.int .u8 R)).setCell (p := ⟨q, 3, none⟩) hsr.from_ (heap_setCell_same HQ.out _) rfl (.int .i64 ((L : Int) + 1))
          refine ⟨k + 1, by omega, by go_num, ?_, K1.drew⟩
          rw [HT.out, ← HB.out, ← List.append_assoc, ← HC.out]
          exact hb1.drew
        case measure => simp [intOf]; omega
    · go_wp2
      go_end0
      obtain rfl : k = n := by omega
      rw [List.take_of_length_le (by simp [bitsOf_length])] at hsr
      exact ⟨rfl, hsr, hkr⟩
end Go.Proofs.Ytpbloplbpkedcaa

/- Contracts: how many bits a natural number has; a sink takes its code. -/
namespace Go.Proofs.Ytpbloplbpkedcaa
open Go Go.RowKit

set_option maxRecDepth 100000 in
theorem ahead_any (u : Nat) (hu : u < 2 ^ 64) (w : World) :
    Calls Try.prog 180 #[.int .u64 (u : Int)] w fun e w' => e = .returned (.int .i64 ((ahd u : Nat) : Int)) ∧ w = w' := by
  by_cases hm : u = 18446744073709551615
  · subst hm
    go_enter Try.func180, Try.ntmps180
    go_wp2
    go_ret
    exact ⟨by rw [ahd_max]; rfl, rfl⟩
  · have hl := bitLen_log2 (u + 1) (by omega) (by omega)
    have hlt : (u : Int) + 1 ≤ 18446744073709551615 := by omega
    have hle : (Lib.bitLen (u + 1)) ≤ 64 := by rw [hl]; have := (Nat.log2_lt (n := u + 1) (k := 64) (by omega)).2 (by omega); omega
    have h1 : 1 ≤ Lib.bitLen (u + 1) := by rw [hl]; omega
    have hm' : ((u : Int) == 18446744073709551615) = false := by simp; omega
    obtain ⟨L, hL⟩ : ∃ L, L = Lib.bitLen (u + 1) := ⟨_, rfl⟩
    have C : ∀ w : World, Calls Try.prog 145 #[.int .u64 ((u : Int) + 1)] w fun e w' => e = .returned (.int .i64 (L : Int)) ∧ w = w' := by
      intro w
      refine (Try.bits_Len64 _ w (by omega) (by omega)).mono fun e w' ⟨he, hw⟩ => ?_
      rw [he, hw, hL]
      exact ⟨rfl, rfl⟩
    have HE : Hid (L = (u + 1).log2 + 1) := by rw [hL, hl]; rfl
    rw [← hL] at hle h1
    clear hL hl hm
    have hu' := hide hu; clear hu
    have hw : IntKind.u64.wrap ((u : Int) + 1) = (u : Int) + 1 := by rw [IntKind.wrap_u64]; omega
    have hlt' := hide hlt; clear hlt
    go_enter Try.func180, Try.ntmps180
    go_wp2_with fail
    refine (C _).mono ?_
    rintro e w' ⟨rfl, rfl⟩
    go_wp2
    go_ret
    refine ⟨?_, rfl⟩
    have := HE.out
    rw [show ((ahd u : Nat) : Int) = (L : Int) - 1 by unfold ahd; omega]
    rfl

theorem Size_any (u : Nat) (hu : u < 2 ^ 64) (w : World) :
    Calls Try.prog 161 #[.int .u64 (u : Int)] w fun e w' => e = .returned (.int .i64 (2 * (ahd u : Int) + 1)) ∧ w = w' := by
  have h := ahd_le u hu
  go_enter Try.func161, Try.ntmps161
  go_wp2_with (go_at_call 180; refine (ahead_any _ hu _).mono ?_; rintro e w' ⟨rfl, rfl⟩)
  go_ret
  exact ⟨rfl, rfl⟩

set_option maxRecDepth 100000 in
theorem kPutNat_any (B q : Nat) (u : Nat) (bs : List Bool) (w : World) (hu : u < 2 ^ 64) (hs : SinkIs w B q bs) (hl : bs.length + (2 * ahd u + 1) ≤ 1048576) :
    Calls Try.prog 162 #[.pointer (some ⟨q, 0, none⟩), .int .u64 (u : Int)] w fun e w' => e = .returned (.tuple #[]) ∧ SinkIs w' B q (bs ++ natBits u) ∧ Kept B sinkT w w' := by
  have h := ahd_le u hu
  have hw64 : IntKind.u64.wrap ((u : Int) + 1) = (((u + 1) % 2 ^ 64 : Nat) : Int) := by
    rw [IntKind.wrap_u64]; omega
  have HP := hide (natBits_parts u hu)
  have h0 : (0 : Nat) < 2 ^ 64 := by decide
  have h1 : (1 : Nat) < 2 ^ 64 := by decide
  have h2 : (u + 1) % 2 ^ 64 < 2 ^ 64 := Nat.mod_lt _ (by decide)
  go_enter Try.func162, Try.ntmps162
  go_wp2_with (go_at_call 180; refine (ahead_any _ hu _).mono ?_; rintro e w' ⟨rfl, rfl⟩)
  refine (kPut_any B q 0 (ahd u) bs _ h0 h hs (by omega)).mono ?_
  rintro e w1 ⟨rfl, hs1, hk1⟩
  go_wp2_with fail
  refine (kPut_any B q 1 1 _ _ h1 (by decide) hs1 (by simp [bitsOf_length]; omega)).mono ?_
  rintro e w2 ⟨rfl, hs2, hk2⟩
  go_wp2_with fail
  rw [show ((u : Int) + 1) % 18446744073709551616 = (((u + 1) % 2 ^ 64 : Nat) : Int) by omega]
  refine (kPut_any B q ((u + 1) % 2 ^ 64) (ahd u) _ _ h2 h hs2 (by simp [bitsOf_length]; omega)).mono ?_
  rintro e w3 ⟨rfl, hs3, hk3⟩
  go_wp2
  go_end0
  refine ⟨rfl, ?_, (hk1.trans hk2).trans hk3⟩
  rw [HP.out, ← List.append_assoc, ← List.append_assoc]
  exact hs3
set_option maxRecDepth 100000 in
theorem kNat_fits (B q : Nat) (u : Nat) (bs : List Bool) (w : World) (hu : u < 2 ^ 64) (hs : SinkIs w B q bs) (hl : bs.length + (2 * ahd u + 1) ≤ 1048576) :
    Calls Try.prog 181 #[.pointer (some ⟨q, 0, none⟩), .int .u64 (u : Int)] w fun e w' => e = .returned (.int .i64 0) ∧ SinkIs w' B q (bs ++ natBits u) ∧ Kept B sinkT w w' := by
  have h := ahd_le u hu
  have hd : decide (2 * (ahd u : Int) + 1 ≤ 1048576 - ((bs.length : Nat) : Int)) = true := by simp; omega
  have hsl := hs.len
  go_enter Try.func181, Try.ntmps181
  go_wp2_with fail
  refine (isMade_any q _ hs.made).mono ?_
  rintro e w' ⟨rfl, rfl⟩
  go_wp2_with fail
  refine (Size_any u hu _).mono ?_
  rintro e w' ⟨rfl, rfl⟩
  go_wp2_with fail
  refine (hasRoom_any q _ _ _ (by omega) (by omega) hs.count).mono ?_
  rw [hd]
  rintro e w' ⟨rfl, rfl⟩
  go_wp2_with fail
  refine (kPutNat_any B q u bs _ hu hs hl).mono ?_
  rintro e w' ⟨rfl, hs', hk'⟩
  go_wp2
  go_ret
  exact ⟨rfl, hs', hk'⟩

set_option maxRecDepth 100000 in
theorem kNat_long (B q : Nat) (u : Nat) (bs : List Bool) (w : World) (hu : u < 2 ^ 64) (hs : SinkIs w B q bs) (hl : 1048576 < bs.length + (2 * ahd u + 1)) :
    Calls Try.prog 181 #[.pointer (some ⟨q, 0, none⟩), .int .u64 (u : Int)] w fun e w' => e = .returned (.int .i64 3) ∧ w = w' := by
  have h := ahd_le u hu
  have hd : decide (2 * (ahd u : Int) + 1 ≤ 1048576 - ((bs.length : Nat) : Int)) = false := by simp; omega
  have hsl := hs.len
  go_enter Try.func181, Try.ntmps181
  go_wp2_with fail
  refine (isMade_any q _ hs.made).mono ?_
  rintro e w' ⟨rfl, rfl⟩
  go_wp2_with fail
  refine (Size_any u hu _).mono ?_
  rintro e w' ⟨rfl, rfl⟩
  go_wp2_with fail
  refine (hasRoom_any q _ _ _ (by omega) (by omega) hs.count).mono ?_
  rw [hd]
  rintro e w' ⟨rfl, rfl⟩
  go_wp2
  go_ret
  exact ⟨rfl, rfl⟩

/-- A new sink: no bits. -/
theorem newSink_any (w : World) :
    Calls Try.prog 66 #[] w fun e w' => e = .returned (.pointer (some ⟨w.heap.size, 0, none⟩)) ∧ SinkIs w' w.heap.size w.heap.size [] ∧ Kept w.heap.size sinkT w w' := by
  go_enter Try.func66, Try.ntmps66
  go_wp2
  go_ret
  refine ⟨rfl, ⟨Nat.le_refl _, by simp, .slice none 0 0, heap_alloc_new _ _, World.ownsRow_nil _ _ _ _⟩, (Kept.refl _ _ _).alloc (Nat.le_refl _) _⟩
end Go.Proofs.Ytpbloplbpkedcaa

/- Contract: what a sink hands out: its bits, eight a byte, in memory of the call's own. -/
namespace Go.Proofs.Ytpbloplbpkedcaa
open Go Go.RowKit

/-- The bits, eight a byte, the last byte filled up with bits 0. -/
def packed (bs : List Bool) : List Nat := fullOf bs ++ if bs.length % 8 = 0 then [] else [restOf bs * 2 ^ (8 - bs.length % 8)]

def byteVs (l : List Nat) : List Value := l.map fun x : Nat => Value.int .u8 (x : Int)
theorem byteVs_length (l : List Nat) : (byteVs l).length = l.length := by simp [byteVs]
theorem byteVs_one (l : List Nat) : ∀ u ∈ byteVs l, u.oneCell' = true := by
  intro u hu; simp [byteVs] at hu; obtain ⟨x, _, rfl⟩ := hu; rfl
theorem byteVs_append (l m : List Nat) : byteVs (l ++ m) = byteVs l ++ byteVs m := by simp [byteVs]

theorem packed_length_le (bs : List Bool) : (packed bs).length ≤ bs.length / 8 + 1 := by
  unfold packed; rw [List.length_append, fullOf_length]; split <;> simp

theorem shl_rest (r k : Nat) (hr : r < 2 ^ k) (hk : 0 < k) (hk8 : k < 8) : IntKind.u8.wrap ((r : Int) * 2 ^ (8 - k)) = ((r * 2 ^ (8 - k) : Nat) : Int) := by
  have h : r * 2 ^ (8 - k) < 2 ^ k * 2 ^ (8 - k) := Nat.mul_lt_mul_of_pos_right hr (Nat.two_pow_pos _)
  rw [← Nat.pow_add, show k + (8 - k) = 8 by omega] at h
  rw [IntKind.wrap_u8]
  have e : ((r : Int) * 2 ^ (8 - k)) = ((r * 2 ^ (8 - k) : Nat) : Int) := by push_cast; rfl
  rw [e]; omega
theorem restOf_lt2 (bs : List Bool) : restOf bs < 2 ^ (bs.length % 8) := by
  unfold restOf
  have h := valBits_lt (bs.drop (8 * (bs.length / 8)))
  have hl : (bs.drop (8 * (bs.length / 8))).length = bs.length % 8 := by rw [List.length_drop]; omega
  rwa [hl] at h

/-- The cells of an owned row, read in a world that has grown by another one. -/
theorem own_cells_in {w w1 : World} {B n e g cap : Nat} {xs : List Value} (hg : w.grownBy w1 none) (ho : w.ownsRow B e 1 (.slice (some ⟨g, 0, none⟩) n cap) n xs) :
    ∀ j u, xs[j]? = some u → w1.cell? ((⟨g, 0, none⟩ : Addr).add j) = some u := fun j u hj => hg.cell (ho.cells (g := g) rfl j u hj) (by simp)

set_option maxRecDepth 100000 in
set_option maxHeartbeats 1000000 in
theorem kOut_any (B q : Nat) (bs : List Bool) (w : World) (hs : SinkIs w B q bs) :
    Calls Try.prog 68 #[.pointer (some ⟨q, 0, none⟩)] w fun e w' => ∃ v, e = .returned v ∧ w'.ownsRow w.heap.size 5 1 v (packed bs).length (byteVs (packed bs)) ∧ Below w.heap.size w w' := by
  obtain ⟨i0, hi, hz0, hz1, hz2⟩ := info_parts Try.info5
  have hlen := hs.len
  have hmade := hs.made
  have hqs := hs.lt
  obtain ⟨v, hq, ho⟩ := hs.row
  obtain ⟨h0, h1, h2, h3⟩ := cell_of_four hq
  obtain ⟨r, hr⟩ : ∃ r, r = restOf bs := ⟨_, rfl⟩
  obtain ⟨L, hL⟩ : ∃ L, L = bs.length := ⟨_, rfl⟩
  rw [← hr] at h2
  rw [← hL] at h3 hlen
  have hr2 : r < 2 ^ (L % 8) := by rw [hr, hL]; exact restOf_lt2 bs
  have HR := hide hr; clear hr
  have HL := hide hL; clear hL
  have HQ := hide hq; clear hq
  have HO := hide ho; clear ho
  have hr128 : r < 128 := by rw [HR.out]; exact restOf_lt bs
  go_enter Try.func68, Try.ntmps68
  go_wp2_with fail
  refine (isMade_any q _ hmade).mono ?_
  rintro e w' ⟨rfl, rfl⟩
  -- the row that the sink owns: nil, or at the head of a block
  rcases HO.out.2 with ⟨hv, hn0⟩ | ⟨g, cap, cur, hv, hg, hgg, hgn, hcapm, hcsz, htake⟩
  · subst hv
    have hf0 : fullOf bs = [] := List.length_eq_zero_iff.1 (by rw [fullOf_length]; exact hn0)
    have HF := hide hf0; clear hf0
    have HN := hide hn0; clear hn0
    by_cases hk : L % 8 = 0
    · have hk1 : L % 8 ≤ 0 := by omega
      have HK := hide hk; clear hk
      go_wp2_with (at_make; refine wpList_make_own _ rfl _ _ 53 rfl w.heap.size 5 i0 (.int .u8 0) 1 Try.underlying53 hi hz0 hz1 .i64 .i64 _ 1 rfl rfl (by first | rfl | omega) (by rw [hz2]; omega) (by unfold maxLen; omega) (Nat.le_refl _) ?_; intro w1 hown1 hgrow1; have HG1 := hide hgrow1; have HO1 := hide hown1; clear hgrow1 hown1; have HQ1 := hide ((HG1.out.block q hqs (by simp)).trans HQ.out); obtain ⟨d0, d1, d2, d3⟩ := cell_of_four HQ1.out;  rw [← HR.out] at d2; rw [← HL.out] at d3; have HB1 := hide ((Below.refl w.heap.size w).grown HG1.out (Nat.le_refl _) (fun k h => by cases h)))
      go_ret
      refine ⟨_, rfl, ?_, HB1.out⟩
      have hp : packed bs = [] := by unfold packed; rw [← HL.out, if_pos HK.out, HF.out]; rfl
      rw [hp]; exact HO1.out
    · have hk1 : 1 ≤ L % 8 := by omega
      have HK := hide hk; clear hk
      have hkb : L % 8 < 8 := Nat.mod_lt _ (by decide)
      obtain ⟨R, hR⟩ : ∃ R : Int, R = ((r * 2 ^ (8 - L % 8) : Nat) : Int) := ⟨_, rfl⟩
      have es : (r : Int) * 2 ^ (8 - L % 8) % 256 = R := by
        have := shl_rest r (L % 8) hr2 (by omega) hkb
        rw [IntKind.wrap_u8] at this
        rw [hR]; exact this
      have HRR := hide hR; clear hR
      have HR2 := hide hr2; clear hr2
      go_wp2_with (first | (at_make; refine wpList_make_own _ rfl _ _ 53 rfl w.heap.size 5 i0 (.int .u8 0) 1 Try.underlying53 hi hz0 hz1 .i64 .i64 _ 1 rfl rfl (by first | rfl | omega) (by rw [hz2]; omega) (by unfold maxLen; omega) (Nat.le_refl _) ?_; intro w1 hown1 hgrow1; have HG1 := hide hgrow1; have HO1 := hide hown1; clear hgrow1 hown1; have HQ1 := hide ((HG1.out.block q hqs (by simp)).trans HQ.out); obtain ⟨d0, d1, d2, d3⟩ := cell_of_four HQ1.out;  rw [← HR.out] at d2; rw [← HL.out] at d3; have HB1 := hide ((Below.refl w.heap.size w).grown HG1.out (Nat.le_refl _) (fun k h => by cases h))) | (at_builtin; refine wpList_append_own _ rfl (.tmp 28) (.tmp 36) 53 rfl w.heap.size 5 i0 (.int .u8 0) 1 1 Try.underlying53 hi hz0 hz1 hz2 rfl (by decide) _ 0 [] rfl (HO1.out.alloc _) ⟨w1.heap.size, 0, none⟩ 1 1 [.int .u8 R] rfl rfl (by intro j u hj; match j, hj with | 0, hj => simp at hj; subst hj; simp only [Addr.add]; exact cell_alloc_one _ _ rfl _ _) (by intro u hu; simp at hu; subst hu; rfl) (by unfold maxLen; omega) (by omega) (by have := HB1.out.size; simp; omega) ?_; intro v3 w3 hown3 hgrow3 hnil3; clear hnil3; have HO3 := hide hown3; have HG3 := hide hgrow3; clear hown3 hgrow3; have HB3 := hide ((HB1.out.alloc HB1.out.size _).grown HG3.out (by have := HB1.out.size; simp; omega) (fun k h => (HO1.out.lt k h).1))))
      go_ret
      refine ⟨_, rfl, ?_, HB3.out⟩
      have hp : packed bs = fullOf bs ++ [r * 2 ^ (8 - L % 8)] := by unfold packed; rw [← HL.out, if_neg HK.out, HR.out]
      have hh := HO3.out
      rw [HRR.out] at hh
      rw [hp, byteVs_append]
      rw [HF.out]; exact hh

  · subst hv
    have hL8 : bs.length / 8 = L / 8 := by rw [HL.out]
    rw [hL8] at h1
    have HX := hide hL8
    clear hL8 hgn hcapm hcsz htake hgg hg
    by_cases hk : L % 8 = 0
    · have hk1 : L % 8 ≤ 0 := by omega
      have HK := hide hk; clear hk
      go_wp2_with (first | (at_make; refine wpList_make_own _ rfl _ _ 53 rfl w.heap.size 5 i0 (.int .u8 0) 1 Try.underlying53 hi hz0 hz1 .i64 .i64 _ (L / 8 + 1) rfl rfl (by first | rfl | omega) (by rw [hz2]; omega) (by unfold maxLen; omega) (Nat.le_refl _) ?_; intro w1 hown1 hgrow1; have HG1 := hide hgrow1; have HO1 := hide hown1; clear hgrow1 hown1; have HQ1 := hide ((HG1.out.block q hqs (by simp)).trans HQ.out); obtain ⟨d0, d1, d2, d3⟩ := cell_of_four HQ1.out; rw [HX.out] at d1; rw [← HR.out] at d2; rw [← HL.out] at d3; have HB1 := hide ((Below.refl w.heap.size w).grown HG1.out (Nat.le_refl _) (fun k h => by cases h))) | (at_builtin; refine wpList_append_own _ rfl (.tmp 15) (.tmp 19) 53 rfl w.heap.size 5 i0 (.int .u8 0) 1 1 Try.underlying53 hi hz0 hz1 hz2 rfl (by decide) _ 0 [] rfl HO1.out ⟨g, 0, none⟩ (L / 8) cap (byteVs (fullOf bs)) rfl (by rw [byteVs_length, fullOf_length, Nat.mul_one, HX.out]) (own_cells_in HG1.out HO.out) (byteVs_one _) (by unfold maxLen; omega) (by omega) (by have := HB1.out.size; omega) ?_; intro v2 w2 hown2 hgrow2 hnil2; clear hnil2; have HO2 := hide hown2; have HG2 := hide hgrow2; clear hown2 hgrow2; have HQ2 := hide (grow_keeps HQ1.out HO1.out (by decide) HG2.out rfl); obtain ⟨e0, e1, e2, e3⟩ := cell_of_four HQ2.out; rw [HX.out] at e1; rw [← HR.out] at e2; rw [← HL.out] at e3; have HB2 := hide (HB1.out.grown HG2.out HB1.out.size (fun k h => (HO1.out.lt k h).1))))
      go_ret
      refine ⟨_, rfl, ?_, HB2.out⟩
      have hp : packed bs = fullOf bs := by unfold packed; rw [← HL.out, if_pos HK.out, List.append_nil]
      have hh := HO2.out
      rw [hp, fullOf_length, HX.out]
      simpa using hh
    · have hk1 : 1 ≤ L % 8 := by omega
      have HK := hide hk; clear hk
      have hkb : L % 8 < 8 := Nat.mod_lt _ (by decide)
      obtain ⟨R, hR⟩ : ∃ R : Int, R = ((r * 2 ^ (8 - L % 8) : Nat) : Int) := ⟨_, rfl⟩
      have es : (r : Int) * 2 ^ (8 - L % 8) % 256 = R := by
        have := shl_rest r (L % 8) hr2 (by omega) hkb
        rw [IntKind.wrap_u8] at this
        rw [hR]; exact this
      have HRR := hide hR; clear hR
      have HR2 := hide hr2; clear hr2
      go_wp2_with (first | (at_make; refine wpList_make_own _ rfl _ _ 53 rfl w.heap.size 5 i0 (.int .u8 0) 1 Try.underlying53 hi hz0 hz1 .i64 .i64 _ (L / 8 + 1) rfl rfl (by first | rfl | omega) (by rw [hz2]; omega) (by unfold maxLen; omega) (Nat.le_refl _) ?_; intro w1 hown1 hgrow1; have HG1 := hide hgrow1; have HO1 := hide hown1; clear hgrow1 hown1; have HQ1 := hide ((HG1.out.block q hqs (by simp)).trans HQ.out); obtain ⟨d0, d1, d2, d3⟩ := cell_of_four HQ1.out; rw [HX.out] at d1; rw [← HR.out] at d2; rw [← HL.out] at d3; have HB1 := hide ((Below.refl w.heap.size w).grown HG1.out (Nat.le_refl _) (fun k h => by cases h))) | (at_builtin; refine wpList_append_own _ rfl (.tmp 15) (.tmp 19) 53 rfl w.heap.size 5 i0 (.int .u8 0) 1 1 Try.underlying53 hi hz0 hz1 hz2 rfl (by decide) _ 0 [] rfl HO1.out ⟨g, 0, none⟩ (L / 8) cap (byteVs (fullOf bs)) rfl (by rw [byteVs_length, fullOf_length, Nat.mul_one, HX.out]) (own_cells_in HG1.out HO.out) (byteVs_one _) (by unfold maxLen; omega) (by omega) (by have := HB1.out.size; omega) ?_; intro v2 w2 hown2 hgrow2 hnil2; clear hnil2; have HO2 := hide hown2; have HG2 := hide hgrow2; clear hown2 hgrow2; have HQ2 := hide (grow_keeps HQ1.out HO1.out (by decide) HG2.out rfl); obtain ⟨e0, e1, e2, e3⟩ := cell_of_four HQ2.out; rw [HX.out] at e1; rw [← HR.out] at e2; rw [← HL.out] at e3; have HB2 := hide (HB1.out.grown HG2.out HB1.out.size (fun k h => (HO1.out.lt k h).1))) | (at_builtin; refine wpList_append_own _ rfl (.tmp 28) (.tmp 36) 53 rfl w.heap.size 5 i0 (.int .u8 0) 1 1 Try.underlying53 hi hz0 hz1 hz2 rfl (by decide) _ (0 + L / 8) ([] ++ byteVs (fullOf bs)) rfl (HO2.out.alloc _) ⟨w2.heap.size, 0, none⟩ 1 1 [.int .u8 R] rfl rfl (by intro j u hj; match j, hj with | 0, hj => simp at hj; subst hj; simp only [Addr.add]; exact cell_alloc_one _ _ rfl _ _) (by intro u hu; simp at hu; subst hu; rfl) (by unfold maxLen; omega) (by omega) (by have := HB2.out.size; simp; omega) ?_; intro v3 w3 hown3 hgrow3 hnil3; clear hnil3; have HO3 := hide hown3; have HG3 := hide hgrow3; clear hown3 hgrow3; have HB3 := hide ((HB2.out.alloc HB2.out.size _).grown HG3.out (by have := HB2.out.size; simp; omega) (fun k h => (HO2.out.lt k h).1))))
      go_ret
      refine ⟨_, rfl, ?_, HB3.out⟩
      have hp : packed bs = fullOf bs ++ [r * 2 ^ (8 - L % 8)] := by unfold packed; rw [← HL.out, if_neg HK.out, HR.out]
      have hh := HO3.out
      rw [HRR.out] at hh
      rw [hp, byteVs_append]
      rw [List.length_append, fullOf_length, HX.out]; simpa [byteVs] using hh
end Go.Proofs.Ytpbloplbpkedcaa

/- What a source is in memory, and the contracts of peek, Left, zeros, End. -/
namespace Go.Proofs.Ytpbloplbpkedcaa
open Go Go.RowKit

def srcT (e : Nat) : Bool := e == 101
/-- What a call of a source keeps: all but its own block. -/
structure KeptS (B q : Nat) (w w' : World) : Prop where
  kept : Kept B srcT w w'
  only : ∀ k, k < w.heap.size → k ≠ q → w'.heap[k]? = w.heap[k]?
theorem KeptS.refl (B q : Nat) (w : World) : KeptS B q w w := ⟨Kept.refl _ _ _, fun _ _ _ => rfl⟩
theorem KeptS.trans {B q : Nat} {a b c : World} (h : KeptS B q a b) (k : KeptS B q b c) : KeptS B q a c :=
  ⟨h.kept.trans k.kept, fun i hi hq => (k.only i (Nat.lt_of_lt_of_le hi h.kept.below.size) hq).trans (h.only i hi hq)⟩
theorem KeptS.mono {B q B' : Nat} {T' : Nat → Bool} {w w' : World} (h : KeptS B q w w') (hB : B' ≤ B) (hT : ∀ e, T' e = false → srcT e = false) : Kept B' T' w w' := h.kept.mono hB hT
theorem KeptS.below {B q : Nat} {w w' : World} (h : KeptS B q w w') : Below B w w' := h.kept.below
theorem KeptS.typed {B q : Nat} {w w' : World} (h : KeptS B q w w') (k : Nat) (cs : Array Value) (e : Nat) (fr : Nat × Nat) (h1 : w.heap[k]? = some (.cells cs e fr)) (h2 : srcT e = false) : w'.heap[k]? = some (.cells cs e fr) := h.kept.typed k cs e fr h1 h2
theorem KeptS.ownsRow {B q : Nat} {w w' : World} (h : KeptS B q w w') {B0 e size n : Nat} {v : Value} {xs : List Value} (hown : w.ownsRow B0 e size v n xs) (ht : srcT e = false) : w'.ownsRow B0 e size v n xs := h.kept.ownsRow hown ht
theorem KeptS.drew {B q : Nat} {a w : World} (h : KeptS B q a w) : KeptS B q a w.drew := ⟨h.kept.drew, fun k h1 h2 => h.only k h1 h2⟩
theorem KeptS.drewN {B q : Nat} {a w : World} (h : KeptS B q a w) (n : Nat) : KeptS B q a (w.drewN n) := ⟨h.kept.drewN n, fun k h1 h2 => h.only k h1 h2⟩
theorem KeptS.alloc {B q : Nat} {a w : World} (h : KeptS B q a w) (hB : B ≤ w.heap.size) (o : Obj) : KeptS B q a (w.alloc o) :=
  ⟨h.kept.alloc hB o, fun k h1 h2 => by rw [Below.heap_alloc _ _ _ (Nat.lt_of_lt_of_le h1 h.kept.below.size)]; exact h.only k h1 h2⟩
theorem KeptS.setCell {B q : Nat} {a w : World} (h : KeptS B q a w) {p : Addr} (hp : B ≤ p.block) {cs0 : Array Value} {e0 : Nat} {fr0 : Nat × Nat}
    (hb : w.heap[p.block]? = some (.cells cs0 e0 fr0)) (hT : srcT e0 = true) (u : Value) (hq : p.block = q := by rfl) : KeptS B q a (w.setCell p u) :=
  ⟨h.kept.setCell hp hb hT u, fun k h1 h2 => by rw [Below.heap_setCell _ _ _ _ (by rw [hq]; exact h2)]; exact h.only k h1 h2⟩
theorem KeptS.setCell_fresh {B q : Nat} {a w : World} (h : KeptS B q a w) {p : Addr} (hp : B ≤ p.block) (h1 : a.heap.size ≤ p.block) (u : Value) : KeptS B q a (w.setCell p u) :=
  ⟨⟨h.kept.below.setCell hp u, fun k cs e fr hk ht => by
    have hh := h.kept.typed k cs e fr hk ht
    have hne : k ≠ p.block := by have := lt_of_block hk; omega
    rw [Below.heap_setCell _ _ _ _ hne]; exact hh⟩, fun k h2 h3 => by rw [Below.heap_setCell _ _ _ _ (by omega)]; exact h.only k h2 h3⟩

/-- In w the block q is a source of the bytes, which stands at bit p; its copy of the bytes is a row from block B on. -/
structure SrcIs (w : World) (B q : Nat) (bytes : List Nat) (p : Nat) : Prop where
  from_ : B ≤ q
  len : bytes.length ≤ 140737488355328
  at_ : p ≤ 8 * bytes.length
  small : ∀ c ∈ bytes, c < 256
  row : ∃ v, w.heap[q]? = some (.cells #[.bool true, v, .int .i64 (p : Int)] 101 (0, 0)) ∧ w.ownsRow B 5 1 v bytes.length (byteVs bytes)

theorem cell_of_three {w : World} {q : Nat} {c0 c1 c2 : Value} {t : Nat} (h : w.heap[q]? = some (.cells #[c0, c1, c2] t (0, 0))) :
    w.cell? ⟨q, 0, none⟩ = some c0 ∧ w.cell? ⟨q, 1, none⟩ = some c1 ∧ w.cell? ⟨q, 2, none⟩ = some c2 := by
  refine ⟨?_, ?_, ?_⟩ <;> simp [World.cell?, h]
theorem free_of_three {w : World} {q : Nat} {c0 c1 c2 : Value} {t : Nat} (h : w.heap[q]? = some (.cells #[c0, c1, c2] t (0, 0))) :
    w.frozen? ⟨q, 0, none⟩ = false ∧ w.frozen? ⟨q, 1, none⟩ = false ∧ w.frozen? ⟨q, 2, none⟩ = false := by
  refine ⟨?_, ?_, ?_⟩ <;> simp [World.frozen?, h]

theorem add_off (g j : Nat) : (⟨g, 0, none⟩ : Addr).add j = ⟨g, j, none⟩ := by unfold Addr.add; split <;> simp_all

theorem SrcIs.made {w : World} {B q : Nat} {bytes : List Nat} {p : Nat} (h : SrcIs w B q bytes p) : w.cell? ⟨q, 0, none⟩ = some (.bool true) := by
  obtain ⟨v, h1, _⟩ := h.row
  exact (cell_of_three h1).1
theorem SrcIs.pos {w : World} {B q : Nat} {bytes : List Nat} {p : Nat} (h : SrcIs w B q bytes p) : w.cell? ⟨q, 2, none⟩ = some (.int .i64 (p : Int)) := by
  obtain ⟨v, h1, _⟩ := h.row
  exact (cell_of_three h1).2.2
theorem SrcIs.lt {w : World} {B q : Nat} {bytes : List Nat} {p : Nat} (h : SrcIs w B q bytes p) : q < w.heap.size := by
  obtain ⟨v, h1, _⟩ := h.row
  exact lt_of_block h1
theorem SrcIs.drew {w : World} {B q : Nat} {bytes : List Nat} {p : Nat} (h : SrcIs w B q bytes p) : SrcIs w.drew B q bytes p := ⟨h.from_, h.len, h.at_, h.small, h.row⟩
theorem SrcIs.drewN {w : World} {B q : Nat} {bytes : List Nat} {p : Nat} (h : SrcIs w B q bytes p) (n : Nat) : SrcIs (w.drewN n) B q bytes p := ⟨h.from_, h.len, h.at_, h.small, h.row⟩
/-- The value of the field b, the bytes' own cells. -/
theorem SrcIs.slice {w : World} {B q : Nat} {bytes : List Nat} {p : Nat} (h : SrcIs w B q bytes p) :
    ∃ ao cap, w.cell? ⟨q, 1, none⟩ = some (.slice ao bytes.length cap) ∧ (∀ g, ao = some g → ∀ j, j < bytes.length → w.cell? (g.add j) = some (.int .u8 ((bytes.getD j 0 : Nat) : Int))) ∧ (ao = none → bytes.length = 0) ∧ (∀ g, ao = some g → g.off = 0 ∧ g.spot = none) := by
  obtain ⟨v, h1, ho⟩ := h.row
  rcases ho.2 with ⟨hv, hn0⟩ | ⟨g, cap, cur, hv, hg, hgg, hgn, hcapm, hcsz, htake⟩
  · refine ⟨none, 0, ?_, ?_, fun _ => hn0, ?_⟩
    · rw [(cell_of_three h1).2.1, hv, hn0]
    · intro g hg; cases hg
    · intro g hg; cases hg
  · refine ⟨some ⟨g, 0, none⟩, cap, ?_, ?_, ?_, ?_⟩
    · rw [(cell_of_three h1).2.1, hv]
    · intro g' hg' j hj
      simp only [Option.some.injEq] at hg'
      subst hg'
      subst hv
      refine ho.cells (g := g) rfl j _ ?_
      simp [byteVs, hj]
    · intro h; cases h
    · intro g' hg'; simp only [Option.some.injEq] at hg'; subst hg'; exact ⟨rfl, rfl⟩

theorem sIsMade_any (q : Nat) (w : World) (h : w.cell? ⟨q, 0, none⟩ = some (.bool true)) :
    Calls Try.prog 61 #[.pointer (some ⟨q, 0, none⟩)] w fun e w' => e = .returned (.bool true) ∧ w = w' := by
  go_enter Try.func61, Try.ntmps61
  go_wp2
  go_ret
  exact ⟨rfl, rfl⟩

theorem sLeft_any (B q : Nat) (bytes : List Nat) (p : Nat) (w : World) (hs : SrcIs w B q bytes p) :
    Calls Try.prog 29 #[.pointer (some ⟨q, 0, none⟩)] w fun e w' => e = .returned (.int .i64 ((8 * bytes.length - p : Nat) : Int)) ∧ ∃ n, w' = w.drewN n := by
  obtain ⟨ao, cap, h1, _, _, _⟩ := hs.slice
  have h0 := hs.made
  have h2 := hs.pos
  have hp := hs.at_
  have hl := hs.len
  obtain ⟨N, hN⟩ : ∃ N, N = bytes.length := ⟨_, rfl⟩
  rw [← hN] at h1 hp hl
  have HN := hide hN; clear hN
  go_enter Try.func29, Try.ntmps29
  go_wp2_with fail
  refine (sIsMade_any q _ h0).mono ?_
  rintro e w' ⟨rfl, rfl⟩
  go_wp2_with fail
  go_quiet (fail)
  go_wp2
  go_ret
  refine ⟨?_, _, rfl⟩
  rw [← HN.out]
  show Ending.returned (.int .i64 (8 * (N : Int) - p)) = _
  rw [show 8 * (N : Int) - p = ((8 * N - p : Nat) : Int) by omega]

set_option maxRecDepth 100000 in
set_option maxHeartbeats 400000 in
theorem sPeek_any (B q : Nat) (bytes : List Nat) (p a n : Nat) (w : World) (hs : SrcIs w B q bytes p) (hn : n ≤ 64) (ha : a + n ≤ 8 * bytes.length) :
    Calls Try.prog 85 #[.pointer (some ⟨q, 0, none⟩), .int .i64 (a : Int), .int .i64 (n : Int)] w fun e w' => e = .returned (.int .u64 ((valAt bytes a n : Nat) : Int)) ∧ w = w' := by
  obtain ⟨ao, cap, h1, hc, hnone, hoff⟩ := hs.slice
  have hl := hs.len
  obtain ⟨N, hN⟩ : ∃ N, N = bytes.length := ⟨_, rfl⟩
  rw [← hN] at h1 ha hl
  have HC := hide hc; clear hc
  have HNone := hide hnone; clear hnone
  have HOff := hide hoff; clear hoff
  have HN := hide hN; clear hN
  have HS := hide hs.small
  clear hs
  go_enter Try.func85, Try.ntmps85
  go_wp2
  go_loop [7, 11] (fun u i => ∃ k : Nat, k ≤ n ∧ i = .int .i64 k ∧ u = .int .u64 ((valAt bytes a k : Nat) : Int)) (fun _ i => n - (intOf i).toNat)
  case atStart => exact ⟨0, Nat.zero_le _, rfl, by rw [valAt_zero]; rfl⟩
  case round =>
    obtain ⟨k, hk, rfl, rfl⟩ := hrel
    by_cases hlt : k < n
    · have hgo : ∃ g : Nat, ao = some ⟨g, 0, none⟩ := by
        cases ao with
        | none => have h1 := HNone.out rfl; have h2 := HN.out; omega
        | some g => obtain ⟨h1, h2⟩ := HOff.out g rfl; obtain ⟨g1, g2, g3⟩ := g; simp at h1 h2; subst h1; subst h2; exact ⟨g1, rfl⟩
      obtain ⟨g, rfl⟩ := hgo
      have hidx : (a + k) / 8 < N := by omega
      obtain ⟨c, hcc⟩ : ∃ c, c = bytes.getD ((a + k) / 8) 0 := ⟨_, rfl⟩
      have hcell : w.cell? ⟨g, (a + k) / 8, none⟩ = some (.int .u8 (c : Int)) := by
        have := HC.out _ rfl ((a + k) / 8) (by rw [← HN.out]; exact hidx)
        rw [hcc]
        rw [add_off] at this
        exact this
      have hc256 : c < 256 := by
        have hidx' : (a + k) / 8 < bytes.length := by rw [← HN.out]; exact hidx
        rw [hcc, List.getD, List.getElem?_eq_getElem hidx']
        exact HS.out _ (List.getElem_mem _)
      obtain ⟨V, hV⟩ : ∃ V, V = valAt bytes a k := ⟨_, rfl⟩
      have hVlt : V < 2 ^ 63 := by
        have := valAt_lt bytes a k
        have := Nat.pow_le_pow_right (n := 2) (by omega) (show k ≤ 63 by omega)
        omega
      have hsucc := valAt_succ bytes a k (by rw [← HN.out]; omega)
      rw [← hV] at hsucc
      obtain ⟨b, hb⟩ : ∃ b, b = bitAt bytes (a + k) := ⟨_, rfl⟩
      rw [← hb] at hsucc
      have e1 : bits BinOp.and IntKind.u8 ((c : Int) / 2 ^ (7 - (a + k) % 8)) 1 = (b.toNat : Int) := by
        rw [and_bit8 c _ hc256 (by omega), hb, hcc]; rfl
      rw [← hV]
      have hV' : (V : Int) ≤ 9223372036854775807 := by omega
      have HV := hide hV; clear hV
      have HB := hide hb; clear hb
      have HCC := hide hcc; clear hcc
      have HSu := hide hsucc; clear hsucc
      obtain ⟨b', hb'⟩ : ∃ b' : Nat, b' = b.toNat := ⟨_, rfl⟩
      have e2 := or_bit64 V b hVlt
      obtain ⟨V2, hV2⟩ : ∃ V2 : Nat, V2 = 2 * V + b.toNat := ⟨_, rfl⟩
      rw [← hV2, ← hb'] at e2
      rw [← hb'] at e1
      have hb2 : b' ≤ 1 := by rw [hb']; cases b <;> simp
      have HV2 := hide hV2; clear hV2 hb' hVlt
      go_wp2
      go_round
      case rel => exact ⟨k + 1, by omega, by go_num, by rw [HSu.out, HV2.out]⟩
      case measure => simp [intOf]; omega
    · go_wp2
      go_ret
      obtain rfl : k = n := by omega
      exact ⟨rfl, rfl⟩


set_option maxRecDepth 100000 in
set_option maxHeartbeats 400000 in
theorem sZeros_any (B q : Nat) (bytes : List Nat) (p : Nat) (w : World) (hs : SrcIs w B q bytes p) :
    Calls Try.prog 174 #[.pointer (some ⟨q, 0, none⟩)] w fun e w' => e = .returned (.int .i64 ((zerosAt bytes p : Nat) : Int)) ∧ ∃ n, w' = w.drewN n := by
  have hp := hs.at_
  have hl := hs.len
  have h2 := hs.pos
  obtain ⟨M, hM⟩ : ∃ M, M = min (8 * bytes.length - p) 65 := ⟨_, rfl⟩
  have eM : min ((8 * bytes.length - p : Nat) : Int) 65 = (M : Int) := by omega
  have hM65 : M ≤ 65 := by omega
  have hMp : p + M ≤ 8 * bytes.length := by omega
  have HM := hide hM; clear hM
  go_enter Try.func174, Try.ntmps174
  go_wp2_with fail
  refine (sLeft_any B q bytes p _ hs).mono ?_
  rintro e w' ⟨rfl, nn, rfl⟩
  go_wp2_with fail
  go_loop [9] (fun i => ∃ k : Nat, k ≤ M ∧ i = .int .i64 k ∧ ∀ i, i < k → bitAt bytes (p + i) = false) (fun i => M - (intOf i).toNat)
  case atStart => exact ⟨0, Nat.zero_le _, rfl, by intro i hi; omega⟩
  case round =>
    obtain ⟨k, hk, rfl, hz⟩ := hrel
    have HZ := hide hz; clear hz
    by_cases hlt : k < M
    · have hv := valAt_one bytes (p + k) (by omega)
      have C : ∀ w0, SrcIs w0 B q bytes p → Calls Try.prog 85 #[.pointer (some ⟨q, 0, none⟩), .int .i64 ((p : Int) + (k : Int)), .int .i64 1] w0 fun e w' => e = .returned (.int .u64 (((bitAt bytes (p + k)).toNat : Nat) : Int)) ∧ w0 = w' := by
        intro w0 hs0
        have := sPeek_any B q bytes p (p + k) 1 w0 hs0 (by omega) (by omega)
        rw [hv] at this
        exact this
      have hsN := hs.drewN nn
      cases hb : bitAt bytes (p + k) with
      | true =>
        rw [hb] at C
        have HB := hide hb; clear hb
        go_wp2_with fail
        refine (C _ hsN).mono ?_
        rintro e w' ⟨rfl, rfl⟩
        go_wp2
        go_ret
        have hz := HM.out
        refine ⟨?_, _, rfl⟩
        rw [zerosAt_eq bytes p k hp (by omega) HZ.out (fun _ => HB.out)]
        rfl
      | false =>
        rw [hb] at C
        have HB := hide hb; clear hb
        go_wp2_with fail
        refine (C _ hsN).mono ?_
        rintro e w' ⟨rfl, rfl⟩
        go_wp2
        go_round
        case rel =>
          refine ⟨k + 1, by omega, by go_num, fun i hi => ?_⟩
          by_cases hik : i = k
          · rw [hik]; exact HB.out
          · exact HZ.out i (by omega)
        case measure => simp [intOf]; omega
    · go_wp2
      go_ret
      have hz := HM.out
      refine ⟨?_, _, rfl⟩
      obtain rfl : k = M := by omega
      rw [zerosAt_eq bytes p k hp (by omega) HZ.out (fun h => by omega)]
      rfl

/-- The same, the world behind the call left a variable. -/
theorem sLeft_k (B q : Nat) (bytes : List Nat) (p : Nat) (w : World) (hs : SrcIs w B q bytes p) :
    Calls Try.prog 29 #[.pointer (some ⟨q, 0, none⟩)] w fun e w' => e = .returned (.int .i64 ((8 * bytes.length - p : Nat) : Int)) ∧ SrcIs w' B q bytes p ∧ KeptS B q w w' :=
  (sLeft_any B q bytes p w hs).mono fun e w' ⟨he, n, hw⟩ => by rw [hw]; exact ⟨he, hs.drewN n, (KeptS.refl _ _ _).drewN n⟩
theorem sZeros_k (B q : Nat) (bytes : List Nat) (p : Nat) (w : World) (hs : SrcIs w B q bytes p) :
    Calls Try.prog 174 #[.pointer (some ⟨q, 0, none⟩)] w fun e w' => e = .returned (.int .i64 ((zerosAt bytes p : Nat) : Int)) ∧ SrcIs w' B q bytes p ∧ KeptS B q w w' :=
  (sZeros_any B q bytes p w hs).mono fun e w' ⟨he, n, hw⟩ => by rw [hw]; exact ⟨he, hs.drewN n, (KeptS.refl _ _ _).drewN n⟩
end Go.Proofs.Ytpbloplbpkedcaa

/- Contract: a source tells the next natural number, or what is wrong first. -/
namespace Go.Proofs.Ytpbloplbpkedcaa
open Go Go.RowKit

def natErr (bytes : List Nat) (p : Nat) : Nat :=
  if 64 < zerosAt bytes p then 11
  else if 8 * bytes.length - p < 2 * zerosAt bytes p + 1 then 10
  else if zerosAt bytes p = 64 ∧ valAt bytes (p + zerosAt bytes p + 1) (zerosAt bytes p) ≠ 0 then 11
  else 0
def natVal (bytes : List Nat) (p : Nat) : Nat := if natErr bytes p = 0 then 2 ^ zerosAt bytes p + valAt bytes (p + zerosAt bytes p + 1) (zerosAt bytes p) - 1 else 0
def natNext (bytes : List Nat) (p : Nat) : Nat := if natErr bytes p = 0 then p + 2 * zerosAt bytes p + 1 else p

/-- The block of a source behind a store into its place. -/
theorem SrcIs.moved {w : World} {B q : Nat} {bytes : List Nat} {p : Nat} (h : SrcIs w B q bytes p) (p' : Nat) (hp : p' ≤ 8 * bytes.length) : SrcIs (w.setCell ⟨q, 2, none⟩ (.int .i64 (p' : Int))) B q bytes p' := by
  obtain ⟨v, h1, ho⟩ := h.row
  refine ⟨h.from_, h.len, hp, h.small, v, ?_, ownsRow_setCell_typed ho h1 (by decide) _⟩
  rw [heap_setCell_same h1]; simp
theorem SrcIs.keeps {w : World} {B q : Nat} {bytes : List Nat} {p : Nat} (h : SrcIs w B q bytes p) (u : Value) : KeptS B q w (w.setCell ⟨q, 2, none⟩ u) := by
  obtain ⟨v, h1, ho⟩ := h.row
  exact (KeptS.refl _ _ _).setCell (p := ⟨q, 2, none⟩) h.from_ h1 rfl u
theorem SrcIs.free {w : World} {B q : Nat} {bytes : List Nat} {p : Nat} (h : SrcIs w B q bytes p) : w.frozen? ⟨q, 2, none⟩ = false := by
  obtain ⟨v, h1, _⟩ := h.row
  exact (free_of_three h1).2.2

theorem natErr_num (bytes : List Nat) (p : Nat) : natErr bytes p = 0 ∨ natErr bytes p = 10 ∨ natErr bytes p = 11 := by
  unfold natErr
  by_cases h1 : 64 < zerosAt bytes p
  · rw [if_pos h1]; omega
  rw [if_neg h1]
  by_cases h2 : 8 * bytes.length - p < 2 * zerosAt bytes p + 1
  · rw [if_pos h2]; omega
  rw [if_neg h2]
  by_cases h3 : zerosAt bytes p = 64 ∧ valAt bytes (p + zerosAt bytes p + 1) (zerosAt bytes p) ≠ 0
  · rw [if_pos h3]; omega
  · rw [if_neg h3]; omega

set_option maxRecDepth 100000 in
set_option maxHeartbeats 400000 in
theorem sNat_any (B q : Nat) (bytes : List Nat) (p : Nat) (w : World) (hs : SrcIs w B q bytes p) :
    Calls Try.prog 157 #[.pointer (some ⟨q, 0, none⟩)] w fun e w' => e = .returned (.tuple #[.int .u64 ((natVal bytes p : Nat) : Int), .int .i64 ((natErr bytes p : Nat) : Int)]) ∧ SrcIs w' B q bytes (natNext bytes p) ∧ KeptS B q w w' := by
  have hp := hs.at_
  have hl := hs.len
  obtain ⟨k, hk⟩ : ∃ k, k = zerosAt bytes p := ⟨_, rfl⟩
  have C := sZeros_k B q bytes p w hs
  rw [← hk] at C
  have HK := hide hk; clear hk
  go_enter Try.func157, Try.ntmps157
  go_wp2_with fail
  refine (sIsMade_any q _ hs.made).mono ?_
  rintro e w' ⟨rfl, rfl⟩
  go_wp2_with fail
  refine C.mono ?_
  rintro e w1 ⟨rfl, hs1, k1⟩
  by_cases h64 : 64 < k
  · go_wp2_with fail
    go_ret2
    have he : natErr bytes p = 11 := by unfold natErr; rw [← HK.out, if_pos h64]
    rw [natVal, natNext, he]
    exact ⟨rfl, hs1, k1⟩
  obtain ⟨Lf, hLf⟩ : ∃ Lf, Lf = 8 * bytes.length - p := ⟨_, rfl⟩
  have C2 := sLeft_k B q bytes p w1 hs1
  rw [← hLf] at C2
  have HL := hide hLf; clear hLf
  have hLb : Lf ≤ 1125899906842624000 := by have := HL.out; omega
  go_wp2_with fail
  refine C2.mono ?_
  rintro e w2 ⟨rfl, hs2, k2⟩
  have hpos := hs2.pos
  have hfree := hs2.free
  by_cases hfew : Lf < 2 * k + 1
  · go_wp2_with fail
    go_ret2
    have he : natErr bytes p = 10 := by unfold natErr; rw [← HK.out, if_neg h64, if_pos (by have := HL.out; omega)]
    rw [natVal, natNext, he]
    exact ⟨rfl, hs2, k1.trans k2⟩
  obtain ⟨V, hV⟩ : ∃ V, V = valAt bytes (p + k + 1) k := ⟨_, rfl⟩
  have hVlt : V < 2 ^ k := by rw [hV]; exact valAt_lt _ _ _
  have C3 := sPeek_any B q bytes p (p + k + 1) k w2 hs2 (by omega) (by have := HL.out; omega)
  rw [← hV] at C3
  have C4 : Calls Try.prog 85 #[.pointer (some ⟨q, 0, none⟩), .int .i64 ((p : Int) + (k : Int) + 1), .int .i64 (k : Int)] w2 fun e w' => e = .returned (.int .u64 ((V : Nat) : Int)) ∧ w2 = w' := C3
  have HV := hide hV; clear hV
  clear C C2 C3
  have hp2 : p ≤ 1125899906842624000 := by omega
  have HP := hide hp; clear hp
  have he0 : natErr bytes p = if k = 64 ∧ V ≠ 0 then 11 else 0 := by unfold natErr; rw [← HK.out, ← HV.out, if_neg h64, if_neg (by have := HL.out; omega)]
  have HE := hide he0; clear he0
  by_cases hk64 : k = 64
  · subst hk64
    by_cases hV0 : V = 0
    · have hVb : ((V : Int) != 0) = false := by simp; omega
      have hV0' := hide hV0; clear hV0
      go_wp2_with fail
      refine C4.mono ?_
      rintro e w' ⟨rfl, rfl⟩
      clear C4
      go_wp2
      go_ret2
      have he : natErr bytes p = 0 := HE.out.trans (if_neg (fun h => h.2 hV0'.out))
      have hm := hs2.moved (p + (2 * 64 + 1)) (by have := HL.out; have := HP.out; omega)
      rw [natVal, natNext, he, if_pos rfl, if_pos rfl, ← HK.out, ← HV.out, hV0'.out]
      refine ⟨?_, ?_, ?_⟩
      · show Ending.returned (.tuple #[.int .u64 (IntKind.u64.wrap (IntKind.u64.wrap (IntKind.u64.wrap 18446744073709551616 + ((0 : Nat) : Int)) - 1)), .int .i64 0]) = _
        have e : IntKind.u64.wrap (IntKind.u64.wrap (IntKind.u64.wrap 18446744073709551616 + ((0 : Nat) : Int)) - 1) = ((2 ^ 64 + 0 - 1 : Nat) : Int) := by decide +kernel
        rw [e]; rfl
      · exact hm
      · exact (k1.trans k2).trans (hs2.keeps _)
    · have hVb : ((V : Int) != 0) = true := by simp; omega
      have hV0' := hide hV0; clear hV0
      go_wp2_with fail
      refine C4.mono ?_
      rintro e w' ⟨rfl, rfl⟩
      clear C4
      go_wp2
      go_ret2
      have he : natErr bytes p = 11 := HE.out.trans (if_pos ⟨by trivial, hV0'.out⟩)
      rw [natVal, natNext, he]
      exact ⟨rfl, hs2, k1.trans k2⟩
  · have hk63 : k ≤ 63 := by omega
    have hkb : ((k : Int) == 64) = false := by simp; omega
    have hk64' := hide hk64; clear hk64
    go_wp2_with fail
    refine C4.mono ?_
    rintro e w' ⟨rfl, rfl⟩
    clear C4
    go_wp2
    go_ret2
    have he := HE.out
    rw [if_neg (by rintro ⟨h, _⟩; exact hk64'.out h)] at he
    have hm := hs2.moved (p + (2 * k + 1)) (by have := HL.out; have := HP.out; omega)
    rw [natVal, natNext, he, if_pos rfl, if_pos rfl, ← HK.out, ← HV.out]
    refine ⟨?_, ?_, ?_⟩
    · show Ending.returned (.tuple #[.int .u64 (IntKind.u64.wrap (IntKind.u64.wrap (IntKind.u64.wrap (2 ^ k) + (V : Int)) - 1)), .int .i64 0]) = _
      have h2k : (2 : Nat) ^ k ≤ 2 ^ 63 := Nat.pow_le_pow_right (by omega) hk63
      have h1k : 0 < (2 : Nat) ^ k := Nat.two_pow_pos k
      have hck : ((2 : Int) ^ k) = ((2 ^ k : Nat) : Int) := by push_cast; rfl
      have e : IntKind.u64.wrap (IntKind.u64.wrap (IntKind.u64.wrap (2 ^ k) + (V : Int)) - 1) = ((2 ^ k + V - 1 : Nat) : Int) := by
        rw [hck]; simp only [IntKind.wrap_u64]; omega
      rw [e]; rfl
    · exact hm
    · exact (k1.trans k2).trans (hs2.keeps _)
end Go.Proofs.Ytpbloplbpkedcaa

/- Plain facts: what bits that are left say, as functions of the list of these bits. No program here. -/
namespace Go.Proofs.Ytpbloplbpkedcaa
open Go

def zerosL (l : List Bool) : Nat := ((l.take 65).takeWhile (fun b => !b)).length
def natErrL (l : List Bool) : Nat :=
  if 64 < zerosL l then 11
  else if l.length < 2 * zerosL l + 1 then 10
  else if zerosL l = 64 ∧ valBits ((l.drop (zerosL l + 1)).take (zerosL l)) ≠ 0 then 11
  else 0
def natValL (l : List Bool) : Nat := if natErrL l = 0 then 2 ^ zerosL l + valBits ((l.drop (zerosL l + 1)).take (zerosL l)) - 1 else 0
def natRestL (l : List Bool) : List Bool := if natErrL l = 0 then l.drop (2 * zerosL l + 1) else l

/-- The bits that are left behind bit p. -/
def leftL (bytes : List Nat) (p : Nat) : List Bool := (bitsAll bytes).drop p
theorem leftL_length (bytes : List Nat) (p : Nat) : (leftL bytes p).length = 8 * bytes.length - p := by simp [leftL, bitsAll_length]
theorem valAt_left (bytes : List Nat) (p a n : Nat) : valAt bytes (p + a) n = valBits (((leftL bytes p).drop a).take n) := by
  simp [valAt, leftL, List.drop_drop]
theorem zerosAt_left (bytes : List Nat) (p : Nat) : zerosAt bytes p = zerosL (leftL bytes p) := rfl
theorem natErr_left (bytes : List Nat) (p : Nat) : natErr bytes p = natErrL (leftL bytes p) := by
  unfold natErr natErrL
  rw [zerosAt_left, leftL_length, Nat.add_assoc, valAt_left]
theorem natVal_left (bytes : List Nat) (p : Nat) : natVal bytes p = natValL (leftL bytes p) := by
  unfold natVal natValL
  rw [natErr_left, zerosAt_left, Nat.add_assoc, valAt_left]
theorem natRest_left (bytes : List Nat) (p : Nat) : leftL bytes (natNext bytes p) = natRestL (leftL bytes p) := by
  unfold natNext natRestL
  rw [natErr_left, zerosAt_left]
  split
  · simp [leftL, List.drop_drop, Nat.add_assoc]
  · rfl
theorem natVal_lt (bytes : List Nat) (p : Nat) : natVal bytes p < 2 ^ 64 := by
  unfold natVal
  by_cases h : natErr bytes p = 0
  · rw [if_pos h]
    unfold natErr at h
    have hv := valAt_lt bytes (p + zerosAt bytes p + 1) (zerosAt bytes p)
    by_cases h1 : 64 < zerosAt bytes p
    · rw [if_pos h1] at h; cases h
    rw [if_neg h1] at h
    by_cases h2 : 8 * bytes.length - p < 2 * zerosAt bytes p + 1
    · rw [if_pos h2] at h; cases h
    rw [if_neg h2] at h
    by_cases h3 : zerosAt bytes p = 64 ∧ valAt bytes (p + zerosAt bytes p + 1) (zerosAt bytes p) ≠ 0
    · rw [if_pos h3] at h; cases h
    by_cases h4 : zerosAt bytes p = 64
    · have h5 : valAt bytes (p + zerosAt bytes p + 1) (zerosAt bytes p) = 0 := by
        by_cases h6 : valAt bytes (p + zerosAt bytes p + 1) (zerosAt bytes p) = 0
        · exact h6
        · exact absurd ⟨h4, h6⟩ h3
      rw [h5, h4]; decide
    · have h7 : 2 ^ zerosAt bytes p ≤ 2 ^ 63 := Nat.pow_le_pow_right (by omega) (by omega)
      omega
  · rw [if_neg h]; decide

/-- What a text says: how many bytes, then these; what is wrong; what is left. -/
def chunk (l : List Bool) (i : Nat) : Nat := valBits ((l.drop (8 * i)).take 8)
theorem chunk_lt (l : List Bool) (i : Nat) : chunk l i < 256 := by
  unfold chunk
  have h := valBits_lt ((l.drop (8 * i)).take 8)
  have hl : ((l.drop (8 * i)).take 8).length ≤ 8 := by simp; omega
  have := Nat.pow_le_pow_right (n := 2) (by omega) hl
  omega
def textErrL (l : List Bool) : Nat := if natErrL l ≠ 0 then natErrL l else if (natRestL l).length / 8 < natValL l then 10 else 0
def textBytesL (l : List Bool) : List Nat := if textErrL l = 0 then (List.range (natValL l)).map (chunk (natRestL l)) else []
def textRestL (l : List Bool) : List Bool := if textErrL l = 0 then (natRestL l).drop (8 * natValL l) else l

def endErrL (l : List Bool) : Nat := if 8 ≤ l.length then 12 else if l.any id then 12 else 0
theorem valBits_zero (l : List Bool) : valBits l = 0 ↔ l.any id = false := by
  refine snocInd (P := fun l => valBits l = 0 ↔ l.any id = false) (by simp [valBits]) (fun l b ih => ?_) l
  rw [valBits_snoc, List.any_append, Bool.or_eq_false_iff, ← ih]
  cases b <;> simp <;> omega
theorem endErr_left (bytes : List Nat) (p : Nat) (_hp : p ≤ 8 * bytes.length) : (if 8 ≤ 8 * bytes.length - p then 12 else if valAt bytes p (8 * bytes.length - p) ≠ 0 then 12 else 0) = endErrL (leftL bytes p) := by
  unfold endErrL
  rw [leftL_length]
  have h : valAt bytes p (8 * bytes.length - p) = valBits (leftL bytes p) := by
    have := valAt_left bytes p 0 (8 * bytes.length - p)
    rw [Nat.add_zero, List.drop_zero, List.take_of_length_le (by rw [leftL_length]; omega)] at this
    exact this
  rw [h]
  by_cases h8 : 8 ≤ 8 * bytes.length - p
  · rw [if_pos h8, if_pos h8]
  · rw [if_neg h8, if_neg h8]
    cases hv : (leftL bytes p).any id with
    | true =>
      have h2 : valBits (leftL bytes p) ≠ 0 := by
        intro h3
        rw [valBits_zero] at h3
        rw [h3] at hv
        cases hv
      rw [if_pos h2, if_pos rfl]
    | false =>
      have h2 := (valBits_zero _).2 hv
      rw [if_neg (by omega), if_neg (by simp)]

/-- The bits of bytes, byte by byte. -/
theorem bitsAll_snoc (bytes : List Nat) (c : Nat) : bitsAll (bytes ++ [c]) = bitsAll bytes ++ bitsOf c 8 := by
  apply List.ext_getElem
  · simp [bitsAll_length, bitsOf_length]; omega
  · intro i h1 h2
    rw [bitsAll_getElem]
    rw [bitsAll_length] at h1
    simp at h1
    by_cases hi : i < 8 * bytes.length
    · rw [List.getElem_append_left (by rw [bitsAll_length]; exact hi), bitsAll_getElem]
      unfold bitAt
      have : i / 8 < bytes.length := by omega
      simp [List.getD, List.getElem?_append_left this, this]
    · rw [List.getElem_append_right (by rw [bitsAll_length]; omega), bitsOf_getElem]
      unfold bitAt
      have : i / 8 = bytes.length := by omega
      rw [bitsAll_length, this]
      simp only [List.getD, List.getElem?_append_right (Nat.le_refl _), Nat.sub_self, List.getElem?_cons_zero, Option.getD_some]
      congr 1
      omega
end Go.Proofs.Ytpbloplbpkedcaa

/- Contracts: a new source; what End says. -/
namespace Go.Proofs.Ytpbloplbpkedcaa
open Go Go.RowKit

theorem SrcIs.size {w : World} {B q : Nat} {bytes : List Nat} {p : Nat} (h : SrcIs w B q bytes p) : B ≤ q := h.from_

theorem byteVs_ints (bytes : List Nat) : (bytes.map fun x : Nat => (x : Int)).map (Value.int .u8) = byteVs bytes := by simp [byteVs]

set_option maxRecDepth 100000 in
theorem newSource_some (a : Addr) (cap : Nat) (bytes : List Nat) (w : World) (hbig : bytes.length ≤ 140737488355328) (hsm : ∀ c ∈ bytes, c < 256)
    (hc : ∀ j, j < bytes.length → w.cell? (a.add j) = some (.int .u8 ((bytes.getD j 0 : Nat) : Int))) :
    Calls Try.prog 22 #[.slice (some a) bytes.length cap] w fun e w' => ∃ q, e = .returned (.pointer (some ⟨q, 0, none⟩)) ∧ SrcIs w' w.heap.size q bytes 0 ∧ Below w.heap.size w w' := by
  have C := Try.bytes_Clone_at a bytes.length cap (bytes.map fun x : Nat => (x : Int)) w (by simp) hbig (fun i hi => by rw [hc i hi]; simp [List.getD, hi])
  rw [byteVs_ints] at C
  have HB := hide hbig
  have HS := hide hsm
  clear hc hbig hsm
  go_enter Try.func22, Try.ntmps22
  go_wp2_with fail
  refine C.mono ?_
  clear C
  rintro e w1 ⟨v, rfl, hown, hnil, hbel⟩
  obtain ⟨g, cp, rfl⟩ : ∃ g cp, v = .slice (some ⟨g, 0, none⟩) bytes.length cp := by
    rcases hown.2 with ⟨h, _⟩ | ⟨g, cp, cur, hv, _⟩
    · exact absurd h hnil
    · exact ⟨g, cp, hv⟩
  have HO := hide hown; have HBl := hide hbel; clear hown hbel hnil
  go_wp2
  go_ret
  refine ⟨_, rfl, ⟨HBl.out.size, HB.out, Nat.zero_le _, HS.out, _, heap_alloc_new _ _, HO.out.alloc _⟩, HBl.out.alloc HBl.out.size _⟩

set_option maxRecDepth 100000 in
theorem newSource_none (cap : Nat) (w : World) :
    Calls Try.prog 22 #[.slice none 0 cap] w fun e w' => ∃ q, e = .returned (.pointer (some ⟨q, 0, none⟩)) ∧ SrcIs w' w.heap.size q [] 0 ∧ Below w.heap.size w w' := by
  have C := Try.bytes_Clone_nil 0 cap w
  go_enter Try.func22, Try.ntmps22
  go_wp2_with fail
  refine C.mono ?_
  clear C
  rintro e w1 ⟨rfl, rfl⟩
  go_wp2
  go_ret
  exact ⟨_, rfl, ⟨Nat.le_refl _, by simp, Nat.zero_le _, by simp, _, heap_alloc_new _ _, World.ownsRow_nil _ _ _ _⟩, (Below.refl _ _).alloc (Nat.le_refl _) _⟩

/-- A slice of bytes, nil or not, whose cells are the bytes. -/
def BytesAt (w : World) (ao : Option Addr) (bytes : List Nat) : Prop := (ao = none → bytes.length = 0) ∧ ∀ a, ao = some a → ∀ j, j < bytes.length → w.cell? (a.add j) = some (.int .u8 ((bytes.getD j 0 : Nat) : Int))

theorem newSource_any (ao : Option Addr) (cap : Nat) (bytes : List Nat) (w : World) (hbig : bytes.length ≤ 140737488355328) (hsm : ∀ c ∈ bytes, c < 256) (h : BytesAt w ao bytes) :
    Calls Try.prog 22 #[.slice ao bytes.length cap] w fun e w' => ∃ q, e = .returned (.pointer (some ⟨q, 0, none⟩)) ∧ SrcIs w' w.heap.size q bytes 0 ∧ Below w.heap.size w w' := by
  cases ao with
  | none =>
    obtain rfl : bytes = [] := List.length_eq_zero_iff.1 (h.1 rfl)
    exact newSource_none cap w
  | some a => exact newSource_some a cap bytes w hbig hsm (h.2 a rfl)

def endErr (bytes : List Nat) (p : Nat) : Nat := if 8 ≤ 8 * bytes.length - p then 12 else if valAt bytes p (8 * bytes.length - p) ≠ 0 then 12 else 0

set_option maxRecDepth 100000 in
theorem sEnd_any (B q : Nat) (bytes : List Nat) (p : Nat) (w : World) (hs : SrcIs w B q bytes p) :
    Calls Try.prog 52 #[.pointer (some ⟨q, 0, none⟩)] w fun e w' => e = .returned (.int .i64 ((endErr bytes p : Nat) : Int)) ∧ SrcIs w' B q bytes p ∧ KeptS B q w w' := by
  have hp := hs.at_
  obtain ⟨Lf, hLf⟩ : ∃ Lf, Lf = 8 * bytes.length - p := ⟨_, rfl⟩
  have C2 := sLeft_k B q bytes p w hs
  rw [← hLf] at C2
  have HL := hide hLf; clear hLf
  go_enter Try.func52, Try.ntmps52
  go_wp2_with fail
  refine (sIsMade_any q _ hs.made).mono ?_
  rintro e w' ⟨rfl, rfl⟩
  go_wp2_with fail
  refine C2.mono ?_
  rintro e w2 ⟨rfl, hs2, k2⟩
  have hpos := hs2.pos
  by_cases h8 : 8 ≤ Lf
  · go_wp2_with fail
    go_ret
    have he : endErr bytes p = 12 := by unfold endErr; rw [← HL.out, if_pos h8]
    rw [he]
    exact ⟨rfl, hs2, k2⟩
  · obtain ⟨V, hV⟩ : ∃ V, V = valAt bytes p Lf := ⟨_, rfl⟩
    have C3 := sPeek_any B q bytes p p Lf w2 hs2 (by omega) (by have := HL.out; omega)
    rw [← hV] at C3
    have he : endErr bytes p = if V ≠ 0 then 12 else 0 := by unfold endErr; rw [← HL.out, if_neg h8, ← hV]
    have HV := hide hV; clear hV
    have HE := hide he; clear he
    by_cases hV0 : V = 0
    · have hVb : ((V : Int) != 0) = false := by simp; omega
      have hV0' := hide hV0; clear hV0
      go_wp2_with fail
      refine C3.mono ?_
      rintro e w' ⟨rfl, rfl⟩
      go_wp2
      go_ret
      have he : endErr bytes p = 0 := HE.out.trans (if_neg (fun h => h hV0'.out))
      rw [he]
      exact ⟨rfl, hs2, k2⟩
    · have hVb : ((V : Int) != 0) = true := by simp; omega
      have hV0' := hide hV0; clear hV0
      go_wp2_with fail
      refine C3.mono ?_
      rintro e w' ⟨rfl, rfl⟩
      go_wp2
      go_ret
      have he : endErr bytes p = 12 := HE.out.trans (if_pos hV0'.out)
      rw [he]
      exact ⟨rfl, hs2, k2⟩
end Go.Proofs.Ytpbloplbpkedcaa
