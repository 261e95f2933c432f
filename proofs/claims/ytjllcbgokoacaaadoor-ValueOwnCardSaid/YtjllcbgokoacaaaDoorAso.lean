/- Contracts: the sort of up to eight attributes by their names, and Attrs of the program. -/
import Derived.Test.YtjllcbgokoacaaaDoorAcl
import Derived.Lib.OwnBridge
namespace Go.Proofs.YtjllcbgokoacaaaDoor
open Go Go.RowKit Go.Lib Go.Sort

/-- The comparison of two attributes: two blocks are laid. -/
theorem cmp_any (x y : At) (W : World) : Calls Tryd.prog 39 #[.agg #[.string x.name, .int .i64 x.k, .int .i64 x.n, .string x.s], .agg #[.string y.name, .int .i64 y.k, .int .i64 y.n, .string y.s]] W fun e w' => e = .returned (.int .i64 (cfA x y)) ∧ ∃ q os', w' = grow (W.drewN q) os' := by
  have C := fun w => sCompare_any x.name y.name w
  change ∀ w, Calls _ _ _ w fun e w' => e = .returned (.int .i64 (cfA x y)) ∧ w = w' at C
  generalize cfA x y = r at C ⊢
  have HC := Lib.hid C
  clear C
  go_enter Tryd.func39, Tryd.ntmps39
  go_wp2_with (go_at_call 40; (with_reducible refine (HC.out _).mono ?_); rintro e w' ⟨rfl, rfl⟩)
  go_ret
  exact ⟨rfl, 0, _, by rw [alloc_eq_grow, alloc_eq_grow, grow_grow]; rfl⟩
theorem cmp_lays (blk off size : Nat) (w : World) : CmpLays Tryd.prog 39 #[] enc4 4 cfA blk off size w :=
  fun _ _ _ _ x y => cmp_any x y _

/-- A row of attributes of the call's own, from block base on, none of it frozen. -/
def Hv (w : World) (base : Nat) (v : Value) (xs : List At) : Prop :=
  ∃ ao cap, v = .slice ao xs.length cap ∧ xs.length ≤ cap ∧ cap ≤ 9223372036854775807 ∧ (0 < xs.length → ∃ g, ao = some ⟨g, 0, none⟩ ∧ base ≤ g ∧ g < w.heap.size ∧ HoldsK enc4 4 w g 0 xs.toArray)
theorem flat_toArray (xs : List At) (t : Nat) (h : t < xs.length * 4) : (flatK enc4 4 xs.toArray)[t]! = (xs.flatMap enc4)[t]! := by
  rw [get_flatK enc4 4 xs.toArray t (by simpa using h)]
  have h1 : t / 4 < xs.length := by omega
  have hlt : t % 4 < (enc4 xs[t / 4]!).length := by rw [enc4_len]; omega
  have h2 := flat_at xs (t / 4) (t % 4) h1 _ (List.getElem?_eq_getElem hlt)
  rw [show t / 4 * 4 + t % 4 = t by omega] at h2
  have e : xs.toArray[t / 4]! = xs[t / 4]! := by simp
  rw [e, getElem!_pos (enc4 xs[t / 4]!) _ hlt]
  have h3 : t < (xs.flatMap enc4).length := by rw [flat4_len]; exact h
  rw [List.getElem?_eq_getElem h3, Option.some.injEq] at h2
  rw [getElem!_pos (xs.flatMap enc4) t h3, h2]
theorem Hv.of_own {w : World} {B : Nat} {v : Value} {xs : List At} (h : w.ownsRow B 43 4 v xs.length (xs.flatMap enc4)) : Hv w B v xs := by
  rcases h.2 with ⟨hv, hn0⟩ | ⟨g, cap, cur, hv, hg, hgg, hgn, hcapm, hcsz, htake⟩
  · exact ⟨none, 0, by rw [hv, hn0], by omega, by omega, fun hn => by omega⟩
  · have hc : xs.length ≤ cap ∧ cap ≤ 9223372036854775807 := by
      refine ⟨?_, ?_⟩ <;> first | assumption | (unfold maxLen at *; omega)
    refine ⟨some ⟨g, 0, none⟩, cap, hv, hc.1, hc.2, fun _ => ⟨g, rfl, hg, lt_of_block hgg, fun t ht => ?_⟩⟩
    subst hv
    have ht2 : t < xs.length * 4 := by simpa using ht
    have h3 : t < (xs.flatMap enc4).length := by rw [flat4_len]; exact ht2
    rw [flat_toArray xs t ht2, getElem!_pos (xs.flatMap enc4) t h3, Nat.zero_add]
    exact ⟨by rw [h.cellAt t ht2, List.getElem?_eq_getElem h3]; rfl, h.frozenAt t⟩
theorem Hv.av {w : World} {base : Nat} {v : Value} {xs : List At} (h : Hv w base v xs) (hw : ∀ x ∈ xs, x.name.size ≤ maxLen ∧ x.s.size ≤ maxLen) (hl : xs.length * 48 ≤ 140737488355328) : Av w w.heap.size v xs := by
  obtain ⟨ao, cap, h1, h2, h3, h4⟩ := h
  refine ⟨hw, hl, ao, cap, h1, h2, h3, fun hn => ?_⟩
  obtain ⟨g, e, _, hg, hH⟩ := h4 hn
  refine ⟨g, 0, e, hg, fun j hj i u hu => ?_⟩
  have := HoldsK.cells hH enc4_len (i := j) (by simpa using hj) i u (by simpa using hu)
  rw [Addr.add_lit] at this
  exact this
theorem Hv.call {w w' : World} {base : Nat} {v : Value} {xs : List At} (h : Hv w base v xs) (hb : Below w.heap.size w w') : Hv w' base v xs := by
  obtain ⟨ao, cap, h1, h2, h3, h4⟩ := h
  refine ⟨ao, cap, h1, h2, h3, fun hn => ?_⟩
  obtain ⟨g, e, h5, hg, hH⟩ := h4 hn
  refine ⟨g, e, h5, Nat.lt_of_lt_of_le hg hb.size, fun t ht => ?_⟩
  have := hH t ht
  exact ⟨(hb.cell (p := ⟨g, _, none⟩) hg).trans this.1, (hb.frozen (p := ⟨g, _, none⟩) hg).trans this.2⟩
theorem below_grown {B : Nat} {a w : World} (h : Below B a w) (hB : B ≤ w.heap.size) (os : Array Obj) : Below B a (grow w os) := by
  refine h.trans ⟨rfl, rfl, rfl, by simp [grow], fun k hk => ?_⟩
  show (w.heap ++ os)[k]? = _
  rw [Array.getElem?_append_left (by omega)]

set_option maxRecDepth 100000 in
set_option maxHeartbeats 1600000 in
theorem stable_any (base : Nat) (v : Value) (xs : List At) (w : World) (h : Hv w base v xs) (hB : base ≤ w.heap.size) (h8 : xs.length ≤ 8) :
    Calls Tryd.prog 53 #[v, .int .i64 xs.length, .func (.func 39) #[] #[]] w fun e w' => e = .returned (.tuple #[]) ∧ Hv w' base v (sortL xs) ∧ Below base w w' ∧ w.heap.size ≤ w'.heap.size := by
  obtain ⟨ao, cap, rfl, hcap, hcap2, hH⟩ := h
  have eg : ∀ args w, (callFunc 39 args).run Tryd.prog w = .ok (.enter 39 args) w := enters_of Tryd.func39 (by kernel_rfl) rfl
  have C : Calls Tryd.prog 61 #[.slice ao xs.length cap, .int .i64 0, .int .i64 xs.length, .func (.func 39) #[] #[]] w fun e w' => e = .returned (.tuple #[]) ∧ Hv w' base (.slice ao xs.length cap) (sortL xs) ∧ Below base w w' ∧ w.heap.size ≤ w'.heap.size := by
    rcases Nat.eq_zero_or_pos xs.length with h0 | h0
    · obtain rfl := List.length_eq_zero_iff.1 h0
      clear hH eg
      go_enter Tryd.func61, Tryd.ntmps61
      go_wp2_with fail
      refine wp_loop_rounds 1 ?_
      rw [rounds_succ]
      go_wp2
      go_end0
      exact ⟨rfl, ⟨ao, cap, rfl, by simp [sortL], hcap2, fun hn => by simp [sortL] at hn⟩, Below.refl _ _, Nat.le_refl _⟩
    · obtain ⟨g, rfl, hbg, hg, hHK⟩ := hH h0
      have hcon := AnyQ.insertionSortCmpFunc Tryd.lIns 4 Tryd.isAgg43 Tryd.sizeOf43 enc4 enc4_len enc4_one cfA 39 #[] g 0 cap 0 xs.length xs.toArray w eg (cmp_lays g 0 _ w) hHK hg (Nat.zero_le _) (by simp) (by simp; omega)
      change Calls Tryd.prog 61 _ _ _ at hcon
      have hsz : xs.toArray.size = xs.length := by simp
      rw [hsz, insertion_eq] at hcon
      refine hcon.mono fun e w' ⟨he, q, os, hw⟩ => ⟨he, ?_, ?_, ?_⟩
      · refine ⟨_, cap, by rw [sortL_len], by rw [sortL_len]; exact hcap, hcap2, fun _ => ⟨g, rfl, hbg, ?_, ?_⟩⟩
        · rw [hw]; exact Nat.lt_of_lt_of_le hg (size_sortWorldK_c enc4 4 w g 0 q _ os)
        · rw [hw]; exact holdsK_sortWorldK_c enc4 4 w g 0 xs.toArray _ q os hHK hg (by simp [sortL_len])
      · rw [hw]
        refine below_grown (Lib.below_putRow (Below.refl _ _) hbg) ?_ os
        show base ≤ (putRow id _ _ _ _).heap.size
        have := size_sortWorldK_c enc4 4 w g 0 q (sortL xs).toArray #[]
        simp only [sortWorldK, grow] at this
        simp at this
        exact Nat.le_trans hB this
      · rw [hw]; exact size_sortWorldK_c enc4 4 w g 0 q _ os
  have HC := Lib.hid C
  have hx8 : (xs.length : Int) ≤ 8 := by omega
  clear C hH eg hB
  generalize hn : xs.length = n at HC hx8 hcap h8 ⊢
  clear hn
  go_enter Tryd.func53, Tryd.ntmps53
  go_wp2_with fail
  refine wp_loop_rounds 1 ?_
  rw [rounds_succ]
  go_wp2_with (go_at_call 61; (with_reducible refine (HC.out).mono ?_); rintro e w1 ⟨rfl, hv, hb, hs⟩; have HV := Lib.hid hv; have HB := Lib.hid hb; have HS := Lib.hid hs; clear hv hb hs)
  refine wp_loop_rounds 1 ?_
  rw [rounds_succ]
  go_wp2
  go_end0
  exact ⟨rfl, HV.out, HB.out, HS.out⟩

theorem sortStable_any (base : Nat) (v : Value) (xs : List At) (w : World) (h : Hv w base v xs) (hB : base ≤ w.heap.size) (h8 : xs.length ≤ 8) :
    Calls Tryd.prog 38 #[v, .func (.func 39) #[] #[]] w fun e w' => e = .returned (.tuple #[]) ∧ Hv w' base v (sortL xs) ∧ Below base w w' ∧ w.heap.size ≤ w'.heap.size := by
  have C := stable_any base v xs w h hB h8
  obtain ⟨ao, cap, rfl, hcap, hcap2, hH⟩ := h
  have HC := Lib.hid C
  have hx8 : (xs.length : Int) ≤ 8 := by omega
  clear C hH hB
  generalize hn : xs.length = n at HC hx8 hcap h8 ⊢
  clear hn
  go_enter Tryd.func38, Tryd.ntmps38
  go_wp2_with (go_at_call 53; (with_reducible refine (HC.out).mono ?_); rintro e w1 ⟨rfl, hv, hb, hs⟩; have HV := Lib.hid hv; have HB := Lib.hid hb; have HS := Lib.hid hs; clear hv hb hs)
  go_end0
  exact ⟨rfl, HV.out, HB.out, HS.out⟩

/-- What is wrong with attributes, sorted. -/
def atErr (xs : List At) : Int := if 8 < xs.length then 3 else ckGo (sortL xs) 0
theorem ckAll_sort {xs : List At} (h : ¬ 8 < xs.length) : ckAll (sortL xs) = atErr xs := by
  simp [ckAll, atErr, sortL_len, h]

/-- What Attrs answers, and what memory holds then. -/
def AttrsPost (w : World) (xs : List At) (er : Int) (e : Ending) (w' : World) : Prop :=
  ∃ v', e = .returned (.tuple #[v', .int .i64 er]) ∧ Below w.heap.size w w' ∧ (er = 0 → Hv w' w.heap.size v' (sortL xs)) ∧ (er ≠ 0 → v' = .slice none 0 0)

set_option maxRecDepth 100000 in
set_option maxHeartbeats 1600000 in
theorem vAttrs_any (B : Nat) (ao : Option Addr) (n cap : Nat) (xs : List At) (w : World) (h : Av w B (.slice ao n cap) xs) :
    Calls Tryd.prog 11 #[.slice ao n cap] w (AttrsPost w xs (atErr xs)) := by
  obtain ⟨hn, hn63⟩ := h.num
  have hz := decide_eq_decide.1 (rfl : decide (n = n) = decide (n = n))
  by_cases h8 : 8 < n
  · have he : atErr xs = 3 := by unfold atErr; rw [if_pos (by omega)]
    rw [he]
    clear h hn hz he
    go_enter Tryd.func11, Tryd.ntmps11
    go_wp2
    go_ret2
    exact ⟨_, rfl, Below.refl _ _, fun hh => absurd hh (by decide), fun _ => rfl⟩
  · have HN := Lib.hid hn
    have HE := Lib.hid (ckAll_sort (xs := xs) (by omega))
    have hrg : 0 ≤ atErr xs ∧ atErr xs ≤ 32 := by unfold atErr; rw [if_neg (by omega)]; exact ckGo_range _ _
    have HW : Hid (∀ x ∈ sortL xs, x.name.size ≤ maxLen ∧ x.s.size ≤ maxLen) := fun x hx => h.wide x (sortL_mem xs x hx)
    have HL : Hid ((sortL xs).length * 48 ≤ 140737488355328) := by have := h.len; show (sortL xs).length * 48 ≤ _; rw [sortL_len]; exact this
    have C1 := cloneAt_any B ao n cap xs w h
    have HC1 := Lib.hid C1
    obtain ⟨er, her⟩ : ∃ er, er = atErr xs := ⟨_, rfl⟩
    rw [← her] at hrg ⊢
    have HER := Lib.hid her
    clear h hn C1 her hz
    go_enter Tryd.func11, Tryd.ntmps11
    go_wp2_with (go_at_call 32; (with_reducible refine (HC1.out).mono ?_); rintro e w1 ⟨v1, rfl, ho1, hb1⟩; have HV1 := Lib.hid (Hv.of_own ho1); have HB1 := Lib.hid hb1; clear ho1 hb1)
    go_wp2_with (go_at_call 38; (with_reducible refine (sortStable_any w.heap.size v1 xs w1 HV1.out HB1.out.size (by have := HN.out; omega)).mono ?_); rintro e w2 ⟨rfl, hv2, hb2, hs2⟩; have HV2 := Lib.hid hv2; have HB2 := Lib.hid (HB1.out.trans hb2); clear hv2 hb2 hs2)
    have hav := HV2.out.av HW.out HL.out
    obtain ⟨ao2, cap2, rfl⟩ := hav.shape
    have C3 := vCheckAttrs_any w2.heap.size ao2 (sortL xs).length cap2 (sortL xs) w2 hav (Nat.le_refl _)
    rw [HE.out, ← HER.out] at C3
    have HC3 := Lib.hid C3
    clear hav C3
    by_cases h0 : er = 0
    · subst h0
      go_wp2_with (go_at_call 18; (with_reducible refine (HC3.out).mono ?_); rintro e w3 ⟨rfl, hb3⟩; have HB3 := Lib.hid hb3; clear hb3)
      go_ret2
      exact ⟨_, rfl, HB2.out.trans (HB3.out.mono HB2.out.size), fun _ => HV2.out.call HB3.out, fun hh => absurd rfl hh⟩
    · have hb0 : (er == 0) = false := by simpa using h0
      have H0 := Lib.hid h0
      clear h0
      go_wp2_with (go_at_call 18; (with_reducible refine (HC3.out).mono ?_); rintro e w3 ⟨rfl, hb3⟩; have HB3 := Lib.hid hb3; clear hb3)
      go_ret2
      exact ⟨_, rfl, HB2.out.trans (HB3.out.mono HB2.out.size), fun hh => absurd hh H0.out, fun _ => rfl⟩
end Go.Proofs.YtjllcbgokoacaaaDoor
