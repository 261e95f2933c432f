/- Contracts: Terms, Deep, ends, isSmall of the program. -/
import Derived.Test.YtnfjodkpapmfkaaEa7
import Derived.Test.YtnfjodkpapmfkaaChg6
namespace Go.Proofs.Ytnfjodkpapmfkaa
open Go Go.RowKit

/-- A box P that holds v; of what was in w0 nothing else has turned. -/
structure IB (P : Nat) (w0 : World) (v : Value) (t : TypeId) (u : World) : Prop where
  chg : Chg (fun x => x = P) w0 u
  box : u.heap[P]? = some (.cells #[v] t (0, 0))
theorem IB.keep {P : Nat} {w0 : World} {v : Value} {t : TypeId} {u : World} (h : IB P w0 v t u) {G : Nat → Prop} (hG : ∀ x, G x → x < w0.heap.size ∧ x ≠ P) : Keep G w0 u :=
  fun x hx => h.chg.block x (hG x hx).1 (hG x hx).2
theorem IB.drew {P : Nat} {w0 : World} {v : Value} {t : TypeId} {u : World} (h : IB P w0 v t u) (n : Nat) : IB P w0 v t (u.drewN n) :=
  ⟨⟨h.chg.os, h.chg.tape, h.chg.output, h.chg.size, h.chg.block⟩, h.box⟩
theorem IB.set {P : Nat} {w0 : World} {v v' : Value} {t : TypeId} {u : World} (h : IB P w0 v t u) : IB P w0 v' t (u.setCell ⟨P, 0, none⟩ v') :=
  ⟨h.chg.setCell (p := ⟨P, 0, none⟩) rfl v', one_setCell h.box⟩
theorem IB.below {P : Nat} {w0 : World} {v : Value} {t : TypeId} {u u' : World} (h : IB P w0 v t u) (hb : Below u.heap.size u u') : IB P w0 v t u' :=
  ⟨h.chg.trans (Chg.of_below hb) (fun j hj => .inl hj), (hb.block P (Array.getElem?_eq_some_iff.1 h.box).1).trans h.box⟩
theorem IB.start {P : Nat} {w w0 : World} {v : Value} {t : TypeId} (hq : w.heap[P]? = some (.cells #[v] t (0, 0))) (hb : Below w.heap.size w w0) : IB P w0 v t w0 :=
  ⟨Chg.refl _ _, (hb.block P (Array.getElem?_eq_some_iff.1 hq).1).trans hq⟩
theorem wrap_add1 (n : Nat) : wrap64 (wrap64 (n : Int) + 1) = wrap64 ((n + 1 : Nat) : Int) := by unfold wrap64; omega
theorem wrap_small {n : Nat} (h : n ≤ 1048576) : wrap64 (n : Int) = n := by unfold wrap64; omega

def gT (s : Nat) (_ : Nt) (k : Fo) (_ : Nat) : Nat × Bool := (if k.len = 0 then s + 1 else s, true)
theorem walkG_gT : ∀ (f : Fo) (lv s : Nat), walkG gT f lv s = (s + termsF f, true)
  | .nil, _, _ => rfl
  | .cons d k n, lv, s => by
    rw [walkG_cons]
    have e : walkN gT d k lv s = (s + termsN k, true) := by
      unfold walkN gT
      simp only [if_true]
      show walkG gT k (lv + 1) _ = _
      rw [walkG_gT k]
      unfold termsN
      rw [Fo.isNil_len]
      by_cases h : k.len = 0
      · simp only [h, decide_true, if_true]
        cases k with
        | nil => rfl
        | cons _ _ _ => simp [Fo.len] at h
      · simp [h]
    rw [e]
    simp only [if_true]
    rw [walkG_gT n, termsF_cons]
    simp only [Nat.add_assoc]
theorem walkN_gT (d : Nt) (k : Fo) (lv s : Nat) : walkN gT d k lv s = (s + termsN k, true) := by
  have := walkG_gT (.cons d k .nil) lv s
  rw [walkG_cons] at this
  by_cases h : (walkN gT d k lv s).2 = true
  · rw [if_pos h] at this
    have e : walkN gT d k lv s = ((walkN gT d k lv s).1, true) := Prod.ext rfl h
    rw [e]
    have h2 : walkG gT .nil lv (walkN gT d k lv s).1 = ((walkN gT d k lv s).1, true) := rfl
    rw [h2] at this
    rw [this]; rfl
  · rw [if_neg h] at this
    rw [this] at h
    exact absurd rfl h
def gD (s : Nat) (_ : Nt) (_ : Fo) (lv : Nat) : Nat × Bool := (max s lv, true)
theorem walkG_gD : ∀ (f : Fo) (lv s : Nat), 1 ≤ lv → walkG gD f lv s = (if f.isNil then s else max s (lv + deepF f - 1), true)
  | .nil, _, _, _ => rfl
  | .cons d k n, lv, s, hl => by
    rw [walkG_cons]
    have e : walkN gD d k lv s = (max s (lv + deepF k), true) := by
      unfold walkN gD
      simp only [if_true]
      show walkG gD k (lv + 1) _ = _
      rw [walkG_gD k _ _ (by omega)]
      cases k with
      | nil => simp [Fo.isNil, deepF]
      | cons _ _ _ => simp only [Fo.isNil, Bool.false_eq_true, if_false, Prod.mk.injEq, and_true]; omega
    rw [e]
    simp only [if_true]
    rw [walkG_gD n _ _ hl]
    cases n with
    | nil => simp only [Fo.isNil, if_true, Bool.false_eq_true, if_false, deepF, Prod.mk.injEq, and_true]; omega
    | cons _ _ _ => simp only [Fo.isNil, Bool.false_eq_true, if_false, deepF, Prod.mk.injEq, and_true]; omega
theorem walkN_gD (d : Nt) (k : Fo) : walkN gD d k 1 0 = (deepF k + 1, true) := by
  unfold walkN gD
  simp only [if_true]
  show walkG gD k (1 + 1) _ = _
  rw [walkG_gD k _ _ (by omega)]
  cases k with
  | nil => simp [Fo.isNil, deepF]
  | cons _ _ _ => simp only [Fo.isNil, Bool.false_eq_true, if_false, Prod.mk.injEq, and_true]; omega
def gE (s : Unit) (_ : Nt) (_ : Fo) (_ : Nat) : Unit × Bool := (s, true)
theorem walkG_gE : ∀ (f : Fo) (lv : Nat) (s : Unit), walkG gE f lv s = ((), true)
  | .nil, _, _ => rfl
  | .cons d k n, lv, s => by
    rw [walkG_cons]
    have e : walkN gE d k lv s = ((), true) := by
      unfold walkN gE
      simp only [if_true]
      exact walkG_gE k _ _
    rw [e]
    exact walkG_gE n _ _
theorem walkN_gE (d : Nt) (k : Fo) (lv : Nat) (s : Unit) : walkN gE d k lv s = ((), true) := by
  unfold walkN gE
  simp only [if_true]
  exact walkG_gE k _ _
def gS (s : Nat) (_ : Nt) (k : Fo) (lv : Nat) : Nat × Bool := (if k.len = 0 then s + 1 else s, decide (lv ≤ 8) && decide (wrap64 ((if k.len = 0 then s + 1 else s : Nat) : Int) ≤ 12))
theorem walkG_gS : ∀ (f : Fo) (lv s : Nat), s + termsF f ≤ 1048576 → ((walkG gS f lv s).2 = true ↔ (f.isNil = true ∨ (lv + deepF f ≤ 9 ∧ s + termsF f ≤ 12))) ∧ ((walkG gS f lv s).2 = true → (walkG gS f lv s).1 = s + termsF f)
  | .nil, _, _, _ => ⟨by simp [walkG, Fo.isNil], fun _ => rfl⟩
  | .cons d k n, lv, s, hs => by
    have hN : ((walkN gS d k lv s).2 = true ↔ (lv + deepF k + 1 ≤ 9 ∧ s + termsN k ≤ 12)) ∧ ((walkN gS d k lv s).2 = true → (walkN gS d k lv s).1 = s + termsN k) := by
      have hs1 : s + termsN k ≤ 1048576 := by rw [termsF_cons] at hs; omega
      have hp := termsN_pos k
      unfold walkN
      cases k with
      | nil =>
        have e : gS s d .nil lv = (s + 1, decide (lv ≤ 8) && decide (wrap64 ((s + 1 : Nat) : Int) ≤ 12)) := rfl
        have ht : termsN .nil = 1 := rfl
        rw [ht] at hs1
        rw [e, wrap_small hs1, ht]
        by_cases h : lv ≤ 8 ∧ s + 1 ≤ 12
        · have h2 : ((s + 1 : Nat) : Int) ≤ 12 := by omega
          simp only [decide_eq_true h.1, decide_eq_true h2, Bool.and_self, if_true, walkG, deepF]
          exact ⟨⟨fun _ => ⟨by omega, h.2⟩, fun _ => trivial⟩, fun _ => trivial⟩
        · have h2 : (decide (lv ≤ 8) && decide (((s + 1 : Nat) : Int) ≤ 12)) = false := by
            rw [Bool.and_eq_false_iff, decide_eq_false_iff_not, decide_eq_false_iff_not]; omega
          simp only [h2, Bool.false_eq_true, if_false, deepF]
          exact ⟨⟨fun hh => hh.elim, fun hh => by omega⟩, fun hh => hh.elim⟩
      | cons d' k' n' =>
        have e : gS s d (.cons d' k' n') lv = (s, decide (lv ≤ 8) && decide (wrap64 (s : Int) ≤ 12)) := by simp [gS, Fo.len]
        have ht : termsN (.cons d' k' n') = termsF (.cons d' k' n') := rfl
        obtain ⟨h1, h2⟩ := walkG_gS (.cons d' k' n') (lv + 1) s (by rw [← ht]; exact hs1)
        rw [ht] at hs1 hp ⊢
        rw [e, wrap_small (by omega)]
        by_cases h : lv ≤ 8 ∧ s ≤ 12
        · have h3 : ((s : Nat) : Int) ≤ 12 := by omega
          simp only [decide_eq_true h.1, decide_eq_true h3, Bool.and_self, if_true]
          rw [h1]
          simp only [Fo.isNil, Bool.false_eq_true, false_or]
          exact ⟨⟨fun hh => ⟨by omega, hh.2⟩, fun hh => ⟨by omega, hh.2⟩⟩, fun hh => h2 (h1.2 (.inr hh))⟩
        · have h3 : (decide (lv ≤ 8) && decide (((s : Nat) : Int) ≤ 12)) = false := by
            rw [Bool.and_eq_false_iff, decide_eq_false_iff_not, decide_eq_false_iff_not]; omega
          simp only [h3, Bool.false_eq_true, if_false]
          exact ⟨⟨fun hh => hh.elim, fun hh => by omega⟩, fun hh => hh.elim⟩
    obtain ⟨n1, n2⟩ := hN
    rw [walkG_cons, termsF_cons] at *
    by_cases h : (walkN gS d k lv s).2 = true
    · rw [if_pos h, n2 h]
      obtain ⟨h1, h2⟩ := walkG_gS n lv (s + termsN k) (by omega)
      have h3 := n1.1 h
      rw [h1]
      cases n with
      | nil =>
        simp only [Fo.isNil, true_or, Bool.false_eq_true, false_or, deepF, termsF, true_iff]
        exact ⟨⟨by omega, by omega⟩, fun _ => rfl⟩
      | cons d' k' n' =>
        simp only [Fo.isNil, Bool.false_eq_true, false_or]
        refine ⟨⟨fun hh => ⟨by simp only [deepF] at *; omega, by omega⟩, fun hh => ⟨by simp only [deepF] at *; omega, by omega⟩⟩, fun hh => by rw [h2 (h1.2 (.inr hh))]; omega⟩
    · rw [if_neg h]
      simp only [Fo.isNil, Bool.false_eq_true, false_or]
      refine ⟨⟨fun hh => absurd hh h, fun hh => absurd (n1.2 ⟨by simp only [deepF] at hh; omega, by omega⟩) h⟩, fun hh => absurd hh h⟩
theorem walkN_gS (d : Nt) (k : Fo) (h : termsN k ≤ 1048576) : (walkN gS d k 1 0).2 = (decide (deepF k + 1 ≤ 8) && decide (termsN k ≤ 12)) := by
  obtain ⟨h1, h2⟩ := walkG_gS (.cons d k .nil) 1 0 (by rw [termsF_cons]; simp only [termsF]; omega)
  have ht : termsF (.cons d k .nil) = termsN k := by rw [termsF_cons]; rfl
  have hd : deepF (.cons d k .nil) = deepF k + 1 := by simp [deepF]
  rw [walkG_cons, ht, hd] at h1
  have e : (walkN gS d k 1 0).2 = true ↔ (deepF k + 1 ≤ 8 ∧ termsN k ≤ 12) := by
    by_cases hh : (walkN gS d k 1 0).2 = true
    · rw [if_pos hh] at h1
      simp only [walkG, true_iff, Fo.isNil, Bool.false_eq_true, false_or] at h1
      exact ⟨fun _ => ⟨by omega, by omega⟩, fun _ => hh⟩
    · rw [if_neg hh] at h1
      rw [h1]
      simp only [Fo.isNil, Bool.false_eq_true, false_or]
      omega
  cases hh : (walkN gS d k 1 0).2 with
  | true => have := e.1 hh; rw [decide_eq_true this.1, decide_eq_true this.2]; rfl
  | false =>
    symm
    rw [Bool.and_eq_false_iff, decide_eq_false_iff_not, decide_eq_false_iff_not]
    rw [hh] at e
    simp only [Bool.false_eq_true, false_iff] at e
    omega
def gN (_ : Int) (d : Nt) (k : Fo) (_ : Nat) : Int × Bool := (nodeE d k.len, decide (nodeE d k.len = 0))
theorem walkG_gN : ∀ (f : Fo) (lv : Nat), walkG gN f lv 0 = (nodeF f, decide (nodeF f = 0))
  | .nil, _ => rfl
  | .cons d k n, lv => by
    have e : walkN gN d k lv 0 = (nodeN d k, decide (nodeN d k = 0)) := by
      unfold walkN gN nodeN
      by_cases h : nodeE d k.len = 0
      · simp only [h, decide_true, if_true]
        rw [if_neg (by simp)]
        exact walkG_gN k (lv + 1)
      · simp only [decide_eq_false h]
        rw [if_neg (by simp), if_pos h, decide_eq_false h]
    rw [walkG_cons, e, nodeF_cons]
    by_cases h : nodeN d k = 0
    · simp only [h, decide_true, if_true]
      rw [if_neg (by simp)]
      exact walkG_gN n lv
    · simp only [decide_eq_false h]
      rw [if_neg (by simp), if_pos h, decide_eq_false h]
theorem walkN_gN (d : Nt) (k : Fo) (lv : Nat) : walkN gN d k lv 0 = (nodeN d k, decide (nodeN d k = 0)) := by
  unfold walkN gN nodeN
  by_cases h : nodeE d k.len = 0
  · simp only [h, decide_true, if_true]
    rw [if_neg (by simp)]
    exact walkG_gN k (lv + 1)
  · simp only [decide_eq_false h]
    rw [if_neg (by simp), if_pos h, decide_eq_false h]

/-- The closures of Terms, isSmall: a box that counts. -/
def IT (P : Nat) (w0 : World) (s : Nat) (u : World) : Prop := IB P w0 (.int .i64 (wrap64 (s : Int))) 3 u
theorem wrap_b (n : Int) : -9223372036854775808 ≤ wrap64 n ∧ wrap64 n ≤ 9223372036854775807 := by unfold wrap64; omega
set_option maxRecDepth 100000 in
set_option maxHeartbeats 1000000 in
theorem cTerms1_any (P : Nat) (w0 : World) (s : Nat) (w : World) (G : Nat → Prop) (d : Nt) (k : Fo) (b o : Nat) (lv : Int) (hI : IT P w0 s w) (hn : NdP w G d k b o) :
    Calls Try.prog 96 #[.pointer (some ⟨b, o, none⟩), .int .i64 lv, .pointer (some ⟨P, 0, none⟩)] w fun e w' => e = .returned (.bool true) ∧ IT P w0 (gT s d k 0).1 w' := by
  have hq := cell_of_one hI.box
  have hf := free_of_one hI.box
  have HI := Lib.hid hI
  obtain ⟨ta, tc, ka, kc, c0, c1, c2, c3, c4, _, _⟩ := hn
  clear hI c0 c1 c2 c3
  obtain ⟨x, hx⟩ : ∃ x, x = wrap64 (s : Int) := ⟨_, rfl⟩
  have hb := wrap_b (s : Int)
  rw [← hx] at hq hb
  have HX := Lib.hid hx
  clear hx
  unfold gT
  by_cases h : k.len = 0
  · rw [if_pos h]
    have h1 : ((k.len : Nat) : Int) = 0 := by omega
    have h2 : ((k.len : Int) == 0) = true := beq_iff_eq.2 h1
    rw [h] at c4
    clear h h1 h2 hb
    go_enter Try.func96, Try.ntmps96
    go_wp2
    go_ret
    refine ⟨rfl, ?_⟩
    show IB P w0 (.int .i64 (wrap64 ((s + 1 : Nat) : Int))) _ _
    rw [HX.out, wrap_add1]
    exact IB.set HI.out
  · rw [if_neg h]
    have h1 : ¬ ((k.len : Nat) : Int) = 0 := by omega
    have h2 : ((k.len : Int) == 0) = false := beq_eq_false_iff_ne.2 h1
    clear h
    go_enter Try.func96, Try.ntmps96
    go_wp2
    go_ret
    exact ⟨rfl, HI.out⟩
set_option maxRecDepth 100000 in
set_option maxHeartbeats 1000000 in
theorem cSmall1_any (P : Nat) (w0 : World) (s : Nat) (w : World) (G : Nat → Prop) (d : Nt) (k : Fo) (b o : Nat) (lv : Nat) (hlv : lv ≤ 1048576) (hI : IT P w0 s w) (hn : NdP w G d k b o) :
    Calls Try.prog 99 #[.pointer (some ⟨b, o, none⟩), .int .i64 (lv : Int), .pointer (some ⟨P, 0, none⟩)] w fun e w' => e = .returned (.bool (gS s d k lv).2) ∧ IT P w0 (gS s d k lv).1 w' := by
  have hq := cell_of_one hI.box
  have hf := free_of_one hI.box
  have HI := Lib.hid hI
  obtain ⟨ta, tc, ka, kc, c0, c1, c2, c3, c4, _, _⟩ := hn
  clear hI c0 c1 c2 c3
  have main : ∀ (x : Int), x = wrap64 ((if k.len = 0 then s + 1 else s : Nat) : Int) → ∀ u : World, IB P w0 (.int .i64 x) 3 u → (gS s d k lv).2 = (decide ((lv : Int) ≤ 8) && decide (x ≤ 12)) ∧ IT P w0 (gS s d k lv).1 u := fun x hx u hu => by
    subst hx
    refine ⟨?_, hu⟩
    unfold gS
    simp only
    congr 1
    by_cases h : lv ≤ 8
    · rw [decide_eq_true h, decide_eq_true (by omega)]
    · rw [decide_eq_false h, decide_eq_false (by omega)]
  have HM := Lib.hid main
  clear main
  obtain ⟨x, hx⟩ : ∃ x, x = wrap64 (s : Int) := ⟨_, rfl⟩
  rw [← hx] at hq
  have HX := Lib.hid hx
  clear hx
  by_cases h : k.len = 0
  · have HH := Lib.hid h
    rw [h] at c4
    have hxx : wrap64 (x + 1) = wrap64 ((if k.len = 0 then s + 1 else s : Nat) : Int) := by rw [HX.out, wrap_add1, if_pos HH.out]
    have HS := Lib.hid (HM.out _ hxx _ (IB.set (v' := .int .i64 (wrap64 (x + 1))) HI.out))
    clear h hxx
    by_cases h8 : (lv : Int) ≤ 8
    · have h8' := decide_eq_true h8
      by_cases h12 : wrap64 (x + 1) ≤ 12
      · have h12' := decide_eq_true h12
        rw [HS.out.1, h8', h12']
        go_enter Try.func99, Try.ntmps99
        go_wp2
        go_ret
        exact ⟨rfl, HS.out.2⟩
      · have h12' := decide_eq_false h12
        rw [HS.out.1, h8', h12']
        go_enter Try.func99, Try.ntmps99
        go_wp2
        go_ret
        exact ⟨rfl, HS.out.2⟩
    · have h8' := decide_eq_false h8
      rw [HS.out.1, h8']
      go_enter Try.func99, Try.ntmps99
      go_wp2
      go_ret
      exact ⟨rfl, HS.out.2⟩
  · have h1 : ¬ ((k.len : Nat) : Int) = 0 := by omega
    have h2 : ((k.len : Int) == 0) = false := beq_eq_false_iff_ne.2 h1
    have hxx : x = wrap64 ((if k.len = 0 then s + 1 else s : Nat) : Int) := by rw [HX.out, if_neg h]
    have HS := Lib.hid (HM.out _ hxx _ (by rw [HX.out]; exact HI.out))
    clear h hxx
    by_cases h8 : (lv : Int) ≤ 8
    · have h8' := decide_eq_true h8
      by_cases h12 : x ≤ 12
      · have h12' := decide_eq_true h12
        rw [HS.out.1, h8', h12']
        go_enter Try.func99, Try.ntmps99
        go_wp2
        go_ret
        exact ⟨rfl, HS.out.2⟩
      · have h12' := decide_eq_false h12
        rw [HS.out.1, h8', h12']
        go_enter Try.func99, Try.ntmps99
        go_wp2
        go_ret
        exact ⟨rfl, HS.out.2⟩
    · have h8' := decide_eq_false h8
      rw [HS.out.1, h8']
      go_enter Try.func99, Try.ntmps99
      go_wp2
      go_ret
      exact ⟨rfl, HS.out.2⟩
/-- The closure of Deep: a box that holds the greatest level. -/
def IDp (P : Nat) (w0 : World) (s : Nat) (u : World) : Prop := IB P w0 (.int .i64 (s : Int)) 3 u
theorem cEnds1_any (w0 : World) (w : World) (p q : Value) (hI : Chg (fun _ => False) w0 w) :
    Calls Try.prog 97 #[p, q] w fun e w' => e = .returned (.bool true) ∧ Chg (fun _ => False) w0 w' := by
  have HI := Lib.hid hI
  clear hI
  go_enter Try.func97, Try.ntmps97
  go_wp2
  go_ret
  exact ⟨rfl, HI.out⟩
theorem IT.zero {P : Nat} {w0 u : World} (h : IB P w0 (.int .i64 0) 3 u) : IT P w0 0 u := by
  unfold IT
  rw [wrap_small (Nat.zero_le _)]
  exact h
theorem moT (P : Nat) (w0 : World) (G : Nat → Prop) (hG : ∀ x, G x → x < w0.heap.size ∧ x ≠ P) : Mo gT 96 #[.pointer (some ⟨P, 0, none⟩)] (IT P w0) (fun _ _ => True) G w0 where
  eg := enters_of Try.func96 (by kernel_rfl) rfl
  keep := fun _ _ h => IB.keep h hG
  dr := fun _ _ n h => IB.drew h n
  qs := fun _ _ _ _ _ h => h
  call := fun s u d k b o lv _ hI _ hn _ _ _ => cTerms1_any P w0 s u G d k b o lv hI hn
theorem moS (P : Nat) (w0 : World) (G : Nat → Prop) (hG : ∀ x, G x → x < w0.heap.size ∧ x ≠ P) : Mo gS 99 #[.pointer (some ⟨P, 0, none⟩)] (IT P w0) (fun _ _ => True) G w0 where
  eg := enters_of Try.func99 (by kernel_rfl) rfl
  keep := fun _ _ h => IB.keep h hG
  dr := fun _ _ n h => IB.drew h n
  qs := fun _ _ _ _ _ h => h
  call := fun s u d k b o lv _ hI _ hn _ hlv _ => cSmall1_any P w0 s u G d k b o lv hlv hI hn
theorem moE (w0 : World) (G : Nat → Prop) (hG : ∀ x, G x → x < w0.heap.size) : Mo gE 97 #[] (fun _ u => Chg (fun _ => False) w0 u) (fun _ _ => True) G w0 where
  eg := enters_of Try.func97 (by kernel_rfl) rfl
  keep := fun _ _ h x hx => h.block x (hG x hx) (fun h => h)
  dr := fun _ _ _ h => ⟨h.os, h.tape, h.output, h.size, h.block⟩
  qs := fun _ _ _ _ _ h => h
  call := fun _ u _ _ b o lv _ hI _ _ _ _ _ => cEnds1_any w0 u (.pointer (some ⟨b, o, none⟩)) (.int .i64 (lv : Int)) hI

/-- A node handed over by value, in the box that the call makes of it. -/
theorem NdV.boxed {w : World} {d : Nt} {k : Fo} {cs : Array Value} (h : NdV w (fun x => x < w.heap.size) d k (.agg cs)) (w1 : World) (hb : Below w.heap.size w w1) (q : Nat) (hq : w1.heap[q]? = some (.cells cs 25 (0, 0))) (B : Nat) (hB : w.heap.size ≤ B) : NdP w1 (fun x => x < B) d k q 0 :=
  (NdP.of_box (G := fun x => x < w.heap.size) h (fun x hx => hb.block x hx) rfl hq).mono fun _ hx => Nat.lt_of_lt_of_le hx hB
theorem below_tail {w w1 w0 u : World} {P : Nat} {v : Value} {t : TypeId} (h1 : Below w.heap.size w w1) (h2 : Below w1.heap.size w1 w0) (h3 : IB P w0 v t u) (hP : w.heap.size ≤ P) : Below w.heap.size w u :=
  (h1.trans (h2.mono h1.size)).trans (h3.chg.below (Nat.le_trans h1.size h2.size) (fun k hk => by rw [hk]; exact hP))
set_option maxRecDepth 100000 in
set_option maxHeartbeats 1000000 in
theorem cTerms_any (d : Nt) (k : Fo) (v : Value) (w : World) (hv : NdV w (fun x => x < w.heap.size) d k v) (hsz : szD d + szF k ≤ 1048576) :
    Calls Try.prog 52 #[v] w fun e w' => e = .returned (.int .i64 (termsN k : Int)) ∧ Below w.heap.size w w' := by
  obtain ⟨ta, tc, ka, kc, rfl⟩ := hv.shape
  obtain ⟨W2, hW2⟩ : ∃ W2, W2 = (w.alloc (.cells #[.int .i64 d.kind, .string d.var, .string d.ty, .slice ta d.tests.length tc, .slice ka k.len kc] 25)).alloc (.cells #[.int .i64 0] 3) := ⟨_, rfl⟩
  have hr1 : W2.heap[w.heap.size]? = some (.cells #[.int .i64 d.kind, .string d.var, .string d.ty, .slice ta d.tests.length tc, .slice ka k.len kc] 25 (0, 0)) := by
    rw [hW2]; exact heap_alloc_keeps (heap_alloc_new _ _) _
  have hr2 : W2.heap[w.heap.size + 1]? = some (.cells #[.int .i64 0] 3 (0, 0)) := by
    have := heap_alloc_new (w.alloc (.cells #[.int .i64 d.kind, .string d.var, .string d.ty, .slice ta d.tests.length tc, .slice ka k.len kc] 25)) (.cells #[.int .i64 0] 3)
    rw [hW2]; rwa [World.size_alloc] at this
  have hb2 : Below w.heap.size w W2 := by rw [hW2]; exact ((Below.refl _ _).alloc (Nat.le_refl _) _).alloc (by simp) _
  have hz2 : W2.heap.size = w.heap.size + 2 := by rw [hW2]; simp
  have hn := hv.boxed W2 hb2 w.heap.size hr1 (w.heap.size + 1) (Nat.le_succ _)
  have HC := Lib.hid (each_any (g := gT) (gf := 96) (caps := #[.pointer (some ⟨w.heap.size + 1, 0, none⟩)]) (fun w0 => IT (w.heap.size + 1) w0) (fun _ _ => True) (fun x => x < w.heap.size + 1) d k w.heap.size 0 0 W2 (fun x hx => by omega) hn (Nat.lt_succ_self _) hsz trivial
    (fun w0 hb hs => ⟨moT (w.heap.size + 1) w0 _ (fun x hx => ⟨by omega, by omega⟩), IT.zero (IB.start hr2 hb)⟩))
  rw [walkN_gT, Nat.zero_add] at HC
  have hwr := wrap_small (n := termsN k) (by have := termsN_sz k; simp only [szD] at hsz; omega)
  have HW := Lib.hid hW2; have HB := Lib.hid hb2; have HWR := Lib.hid hwr
  clear hW2 hr1 hr2 hb2 hz2 hn hv hsz hwr
  go_enter Try.func52, Try.ntmps52
  go_wp2_with fail
  rw [← HW.out]
  go_wp2_with (go_at_call 62; (with_reducible refine HC.out.mono ?_); rintro e w2 ⟨w0, hb0, rfl, hI⟩; have hx := cell_of_one hI.box; have HF := Lib.hid (below_tail HB.out hb0 hI (Nat.le_succ _)); clear hI)
  go_ret
  exact ⟨by first | rfl | exact congrArg (fun x => Ending.returned (Value.int .i64 x)) HWR.out, HF.out⟩
set_option maxRecDepth 100000 in
set_option maxHeartbeats 1000000 in
theorem cSmall_any (d : Nt) (k : Fo) (b o : Nat) (w : World) (hn : NdP w (fun x => x < w.heap.size) d k b o) (hb : b < w.heap.size) (hsz : szD d + szF k ≤ 1048576) :
    Calls Try.prog 61 #[.pointer (some ⟨b, o, none⟩)] w fun e w' => e = .returned (.bool (decide (deepF k + 1 ≤ 8) && decide (termsN k ≤ 12))) ∧ Below w.heap.size w w' := by
  obtain ⟨W2, hW2⟩ : ∃ W2, W2 = w.alloc (.cells #[.int .i64 0] 3) := ⟨_, rfl⟩
  have hr2 : W2.heap[w.heap.size]? = some (.cells #[.int .i64 0] 3 (0, 0)) := by rw [hW2]; exact heap_alloc_new _ _
  have hb2 : Below w.heap.size w W2 := by rw [hW2]; exact (Below.refl _ _).alloc (Nat.le_refl _) _
  have hz2 : W2.heap.size = w.heap.size + 1 := by rw [hW2]; simp
  have hn2 : NdP W2 (fun x => x < w.heap.size) d k b o := hn.keep (fun x hx => hb2.block x hx) (hb2.block b hb)
  have HC := Lib.hid (each_any (g := gS) (gf := 99) (caps := #[.pointer (some ⟨w.heap.size, 0, none⟩)]) (fun w0 => IT w.heap.size w0) (fun _ _ => True) (fun x => x < w.heap.size) d k b o 0 W2 (fun x hx => by omega) hn2 hb hsz trivial
    (fun w0 hb hs => ⟨moS w.heap.size w0 _ (fun x hx => ⟨by omega, by omega⟩), IT.zero (IB.start hr2 hb)⟩))
  have ht : termsN k ≤ 1048576 := by have := termsN_sz k; simp only [szD] at hsz; omega
  rw [walkN_gS d k ht] at HC
  generalize (decide (deepF k + 1 ≤ 8) && decide (termsN k ≤ 12)) = r at HC ⊢
  have HW := Lib.hid hW2; have HB := Lib.hid hb2
  clear hW2 hr2 hb2 hz2 hn2 hn hb hsz ht
  go_enter Try.func61, Try.ntmps61
  go_wp2_with fail
  rw [← HW.out]
  go_wp2_with (go_at_call 62; (with_reducible refine HC.out.mono ?_); rintro e w2 ⟨w0, hb0, rfl, hI⟩; have HF := Lib.hid (below_tail HB.out hb0 hI (Nat.le_refl _)); clear hI)
  go_ret
  exact ⟨rfl, HF.out⟩
set_option maxRecDepth 100000 in
set_option maxHeartbeats 1000000 in
theorem cEnds_any (d : Nt) (k : Fo) (b o : Nat) (w : World) (hn : NdP w (fun x => x < w.heap.size) d k b o) (hb : b < w.heap.size) (hsz : szD d + szF k ≤ 1048576) :
    Calls Try.prog 53 #[.pointer (some ⟨b, o, none⟩)] w fun e w' => e = .returned (.bool true) ∧ Below w.heap.size w w' := by
  have HC := Lib.hid (each_any (g := gE) (gf := 97) (caps := #[]) (fun w0 _ u => Chg (fun _ => False) w0 u) (fun _ _ => True) (fun x => x < w.heap.size) d k b o () w (fun x hx => hx) hn hb hsz trivial
    (fun w0 hb hs => ⟨moE w0 _ (fun x hx => by omega), Chg.refl _ _⟩))
  rw [walkN_gE] at HC
  clear hn hb hsz
  go_enter Try.func53, Try.ntmps53
  go_wp2_with (go_at_call 62; (with_reducible refine HC.out.mono ?_); rintro e w2 ⟨w0, hb0, rfl, hI⟩; have HF := Lib.hid (hb0.trans (hI.below hb0.size (fun _ h => h.elim))); clear hI)
  go_ret
  exact ⟨rfl, HF.out⟩
end Go.Proofs.Ytnfjodkpapmfkaa
