/- Contract of each: a walk through a tree, with whatever closure is handed over. -/
import Derived.Test.YtghmaphpmnjiiaaCo7
import Derived.Shelf.AbstractIn
import Derived.Shelf.Abstract
import Derived.Lib.Hide
import Derived.Laws.EntriesVeiled
import Derived.Deep.RegionHeld3
namespace Go.Proofs.Ytghmaphpmnjiiaa
open Go Go.RowKit

theorem meas7 {k n : Nat} (h : k < n) : n - ((k : Int) + 1).toNat < n - ((k : Nat) : Int).toNat := by omega
theorem wr7 {k n : Nat} (h : k < n) (hN : n ≤ 140737488355328) : wrap64 ((k : Int) + 1) = (k : Int) + 1 := by unfold wrap64; omega
theorem wrI7 {k n : Nat} (h : k < n) (hN : n ≤ 140737488355328) : IntKind.i64.wrap ((k : Int) + 1) = (k : Int) + 1 := by
  rw [IntKind.wrap_i64]; omega
/-- How a walk goes through a row of nodes, from a state on; it ends where the closure says no. -/
def walkG {S : Type} (g : S → Nt → Fo → Nat → S × Bool) : Fo → Nat → S → S × Bool
  | .nil, _, s => (s, true)
  | .cons d k n, lv, s => if (g s d k lv).2 = true then (if (walkG g k (lv + 1) (g s d k lv).1).2 = true then walkG g n lv (walkG g k (lv + 1) (g s d k lv).1).1 else walkG g k (lv + 1) (g s d k lv).1) else g s d k lv
def walkN {S : Type} (g : S → Nt → Fo → Nat → S × Bool) (d : Nt) (k : Fo) (lv : Nat) (s : S) : S × Bool := if (g s d k lv).2 = true then walkG g k (lv + 1) (g s d k lv).1 else g s d k lv
theorem walkG_cons {S : Type} (g : S → Nt → Fo → Nat → S × Bool) (d : Nt) (k n : Fo) (lv : Nat) (s : S) :
    walkG g (.cons d k n) lv s = if (walkN g d k lv s).2 = true then walkG g n lv (walkN g d k lv s).1 else walkN g d k lv s := by
  unfold walkN
  by_cases h : (g s d k lv).2 = true
  · simp only [walkG, h, if_true]
  · simp only [walkG, h, if_false]; simp [h]

/-- How many nodes a row has, with all below. -/
def ndF : Fo → Nat
  | .nil => 0
  | .cons _ k n => 1 + ndF k + ndF n
theorem ndF_sz : ∀ f : Fo, ndF f ≤ szF f
  | .nil => Nat.le_refl _
  | .cons d k n => by have := ndF_sz k; have := ndF_sz n; simp only [ndF, szF, szD]; omega
theorem walkG_Q {S : Type} {g : S → Nt → Fo → Nat → S × Bool} {Q : S → Nat → Prop} (qs : ∀ s d k lv m, Q s (m + 1) → Q (g s d k lv).1 m) : ∀ (f : Fo) (lv : Nat) (s : S) (m : Nat), Q s (ndF f + m) → (walkG g f lv s).2 = true → Q (walkG g f lv s).1 m
  | .nil, _, s, m, h, _ => by rw [show ndF .nil + m = m from Nat.zero_add m] at h; exact h
  | .cons d k n, lv, s, m, h, ht => by
    simp only [walkG] at ht ⊢
    have h1 : Q (g s d k lv).1 (ndF k + (ndF n + m)) := qs s d k lv _ (by
      simp only [ndF] at h
      rw [show ndF k + (ndF n + m) + 1 = 1 + ndF k + ndF n + m by omega]
      exact h)
    by_cases hg : (g s d k lv).2 = true
    · simp only [hg, if_true] at ht ⊢
      by_cases hk : (walkG g k (lv + 1) (g s d k lv).1).2 = true
      · simp only [hk, if_true] at ht ⊢
        exact walkG_Q qs n lv _ m (walkG_Q qs k (lv + 1) _ _ h1 hk) ht
      · rw [if_neg hk] at ht; exact absurd ht hk
    · rw [if_neg hg] at ht; exact absurd ht hg
theorem walkN_Q {S : Type} {g : S → Nt → Fo → Nat → S × Bool} {Q : S → Nat → Prop} (qs : ∀ s d k lv m, Q s (m + 1) → Q (g s d k lv).1 m) (d : Nt) (k : Fo) (lv : Nat) (s : S) (m : Nat) (h : Q s (1 + ndF k + m)) (ht : (walkN g d k lv s).2 = true) : Q (walkN g d k lv s).1 m := by
  unfold walkN at ht ⊢
  have h1 : Q (g s d k lv).1 (ndF k + m) := qs s d k lv _ (by rw [show ndF k + m + 1 = 1 + ndF k + m by omega]; exact h)
  by_cases hg : (g s d k lv).2 = true
  · simp only [hg, if_true] at ht ⊢
    exact walkG_Q qs k _ _ _ h1 ht
  · rw [if_neg hg] at ht; exact absurd ht hg
/-- What a closure does at each node: S what it keeps, g how it turns it and whether it goes on; I how it stands in memory; Q s m that it may go on for m nodes more; the blocks of G it leaves alone. -/
structure Mo {S : Type} (g : S → Nt → Fo → Nat → S × Bool) (gf : Nat) (caps : Array Value) (I : S → World → Prop) (Q : S → Nat → Prop) (G : Nat → Prop) (w0 : World) : Prop where
  eg : ∀ args w, (callFunc gf args).run Try.prog w = .ok (.enter gf args) w
  keep : ∀ s w, I s w → Keep G w0 w
  dr : ∀ s w n, I s w → I s (w.drewN n)
  qs : ∀ s d k lv m, Q s (m + 1) → Q (g s d k lv).1 m
  call : ∀ s w d k b o (lv m : Nat), I s w → Q s (m + 1) → NdP w G d k b o → G b → lv ≤ 1048576 → szD d + szF k ≤ 1048576 →
    Calls Try.prog gf (#[.pointer (some ⟨b, o, none⟩), .int .i64 (lv : Int)] ++ caps) w fun e w' => e = .returned (.bool (g s d k lv).2) ∧ I (g s d k lv).1 w'

theorem deepF_drop : ∀ (f : Fo) (i : Nat), deepF (f.drop i) ≤ deepF f
  | f, 0 => by rw [Fo.drop_zero]; exact Nat.le_refl _
  | .nil, _ + 1 => Nat.le_refl _
  | .cons d k n, i + 1 => by have := deepF_drop n i; simp only [deepF]; show deepF (n.drop i) ≤ _; omega
theorem Mo.dr1 {S : Type} {g : S → Nt → Fo → Nat → S × Bool} {gf : Nat} {caps : Array Value} {I : S → World → Prop} {Q : S → Nat → Prop} {G : Nat → Prop} {w0 : World} (M : Mo g gf caps I Q G w0) {s : S} {w : World} (h : I s w) : I s w.drew := M.dr s w 1 h
theorem NdP.drew {w : World} {G : Nat → Prop} {d : Nt} {k : Fo} {b o : Nat} (h : NdP w G d k b o) : NdP w.drew G d k b o := h.keep (fun _ _ => rfl) rfl
set_option maxRecDepth 100000 in
set_option maxHeartbeats 2000000 in
theorem each1_any {S : Type} {g : S → Nt → Fo → Nat → S × Bool} {gf : Nat} {caps : Array Value} {I : S → World → Prop} {Q : S → Nat → Prop} {G : Nat → Prop} {w0 : World} (M : Mo g gf caps I Q G w0) (q1 q2 : Nat) (hq1 : G q1) (hq2 : G q2)
    (h1 : w0.cell? ⟨q1, 0, none⟩ = some (.func (.func gf) #[] caps)) (h2 : w0.cell? ⟨q2, 0, none⟩ = some (.func (.func 170) #[] #[.pointer (some ⟨q1, 0, none⟩), .pointer (some ⟨q2, 0, none⟩)])) (d : Nt) (k : Fo) :
    ∀ (s : S) (w : World) (b o lv m : Nat), I s w → Q s (1 + ndF k + m) → NdP w G d k b o → G b → lv + deepF k ≤ 1048576 → szD d + szF k ≤ 1048576 →
      Calls Try.prog 170 #[.pointer (some ⟨b, o, none⟩), .int .i64 (lv : Int), .pointer (some ⟨q1, 0, none⟩), .pointer (some ⟨q2, 0, none⟩)] w fun e w' => e = .returned (.bool (walkN g d k lv s).2) ∧ I (walkN g d k lv s).1 w' := by
  revert d k
  refine Fo.node_ind (p := fun d k => ∀ (s : S) (w : World) (b o lv m : Nat), I s w → Q s (1 + ndF k + m) → NdP w G d k b o → G b → lv + deepF k ≤ 1048576 → szD d + szF k ≤ 1048576 →
      Calls Try.prog 170 #[.pointer (some ⟨b, o, none⟩), .int .i64 (lv : Int), .pointer (some ⟨q1, 0, none⟩), .pointer (some ⟨q2, 0, none⟩)] w fun e w' => e = .returned (.bool (walkN g d k lv s).2) ∧ I (walkN g d k lv s).1 w') ?_
  intro d k ih s w b o lv mm hI hQ hN hb hlv hsz
  have eg := M.eg
  have hK0 := M.keep s w hI
  have HC := Lib.hid (M.call s w d k b o lv (ndF k + mm) hI (by rw [show ndF k + mm + 1 = 1 + ndF k + mm by omega]; exact hQ) hN hb (by omega) hsz)
  have HQ := Lib.hid (M.qs s d k lv (ndF k + mm) (by rw [show ndF k + mm + 1 = 1 + ndF k + mm by omega]; exact hQ))
  obtain ⟨ta, tc, ka, kc, c0, c1, c2, c3, c4, ht, hk⟩ := hN
  have p1 : w.cell? ⟨q1, 0, none⟩ = some (.func (.func gf) #[] caps) := (hK0.cell hq1).trans h1
  have c40 : w0.cell? ⟨b, o + 4, none⟩ = some (.slice ka k.len kc) := (hK0.cell hb).symm.trans c4
  have hk0 : k.isNil = false → ∃ b' o', ka = some ⟨b', o', none⟩ ∧ G b' ∧ FoAt w0 G k b' o' := fun hh => by
    obtain ⟨b', o', e, hb', hf⟩ := hk hh
    exact ⟨b', o', e, hb', FoAt.keep (fun x hx => (hK0 x hx).symm) hb' hf⟩
  have HX := Lib.hid (fun (u : World) (hu : Keep G w0 u) => (⟨(hu.cell hq2).trans h2, (hu.cell hb).trans c40⟩ : u.cell? ⟨q2, 0, none⟩ = some (.func (.func 170) #[] #[.pointer (some ⟨q1, 0, none⟩), .pointer (some ⟨q2, 0, none⟩)]) ∧ u.cell? ⟨b, o + 4, none⟩ = some (.slice ka k.len kc)))
  have HIH := Lib.hid ih; have HK := Lib.hid hk0; have HM := Lib.hid M
  have hl1 : ¬ (1048576 : Int) < (lv : Int) := by omega
  have hl2 : decide ((1048576 : Int) < (lv : Int)) = false := decide_eq_false hl1
  have hwl : IntKind.i64.wrap ((lv : Int) + 1) = (lv : Int) + 1 := by rw [IntKind.wrap_i64]; omega
  have hcast : ((lv + 1 : Nat) : Int) = (lv : Int) + 1 := by omega
  have hlen : k.len ≤ 1048576 := by have := szF_len k; omega
  have HLV := Lib.hid hlv; have HSZ := Lib.hid hsz; have HLEN := Lib.hid hlen
  clear hI hQ ih hk hk0 M hK0 c0 c1 c2 c3 ht c40 h1 h2 hlv hsz hlen
  unfold walkN
  cases hg : (g s d k lv).2 with
  | false =>
    simp only [hg] at HC
    simp only [Bool.false_eq_true, if_false, hg]
    go_enter Try.func170, Try.ntmps170
    go_wp2_with (go_at_fn gf; (with_reducible refine HC.out.mono ?_); rintro e w1 ⟨rfl, hI1⟩)
    go_ret
    exact ⟨rfl, hI1⟩
  | true =>
    simp only [hg] at HC
    simp only [if_true]
    generalize (g s d k lv).1 = s1 at HC HQ ⊢
    go_enter Try.func170, Try.ntmps170
    go_wp2_with (go_at_fn gf; (with_reducible refine HC.out.mono ?_); rintro e w1 ⟨rfl, hI1⟩; have HI1 := Lib.hid hI1; obtain ⟨x1, x2⟩ := HX.out _ (HM.out.keep _ _ hI1); clear hI1)
    clear c4 p1 eg x1 x2
    go_loopw [22] (fun iv wr => ∃ (i : Nat) (s' : S), i ≤ k.len ∧ iv = .int .i64 i ∧ I s' wr ∧ Hid (Q s' (ndF (k.drop i) + mm)) ∧ Hid (walkG g (k.drop i) (lv + 1) s' = walkG g k (lv + 1) s1)) (fun iv _ => k.len - (intOf iv).toNat)
    case atStart => exact ⟨0, s1, Nat.zero_le _, rfl, HI1.out, by rw [Fo.drop_zero]; exact HQ, by rw [Fo.drop_zero]; exact Lib.hid rfl⟩
    case round =>
      obtain ⟨i, s', hi, rfl, hI, HQ', HT⟩ := hrel
      by_cases hlt : i < k.len
      · obtain ⟨d', k', hd⟩ := Fo.drop_cons hlt
        have hlti : (i : Int) < (k.len : Int) := by omega
        obtain ⟨b', o', rfl, hb', hf⟩ := HK.out (by rw [Fo.isNil_len]; exact decide_eq_false (by omega))
        have hf' := FoAt.drop i (FoAt.keep (HM.out.keep _ _ hI) hb' hf)
        have hal := Fo.All.drop i HIH.out
        have hdp := deepF_drop k i
        have hsd := szF_drop k i
        rw [hd] at hf' hal hdp hsd
        have ht := HT.out
        rw [hd, walkG_cons] at ht
        have hq := HQ'.out
        rw [hd] at hq
        simp only [ndF] at hq
        simp only [deepF, szF] at hdp hsd
        have HC2 := Lib.hid (hal.1 s' wr.drew b' (o' + i * 5) (lv + 1) (ndF (k.drop (i + 1)) + mm) (HM.out.dr1 hI) (by rw [← Nat.add_assoc]; exact hq) hf'.cons.1.drew hb' (by have := HLV.out; omega) (by have := HSZ.out; omega))
        rw [hcast] at HC2
        obtain ⟨x1, x2⟩ := HX.out _ (HM.out.keep _ _ hI)
        have hls := wr7 hlt (by have := HLEN.out; omega)
        have HQ2 := Lib.hid (walkN_Q HM.out.qs d' k' (lv + 1) s' (ndF (k.drop (i + 1)) + mm) (by rw [← Nat.add_assoc]; exact hq))
        clear hf' hal hdp hsd hI hf hi HT hq HQ'
        cases hr : (walkN g d' k' (lv + 1) s').2 with
        | false =>
          simp only [hr] at HC2
          rw [hr] at ht
          simp only [Bool.false_eq_true, if_false] at ht
          have HT := Lib.hid ht
          clear ht
          go_wp2_with fail
          go_region_held3 (fun u => u.cell? ⟨q2, 0, none⟩ = some (.func (.func 170) #[] #[.pointer (some ⟨q1, 0, none⟩), .pointer (some ⟨q2, 0, none⟩)]) ∧ u.cell? ⟨b, o + 4, none⟩ = some (.slice (some ⟨b', o', none⟩) k.len kc)) (first | exact ⟨x1, x2⟩ | go_keep)
            (first | (go_at_call 170; (with_reducible refine HC2.out.mono ?_); rintro e w2 ⟨rfl, hI2⟩; have HI2 := Lib.hid hI2; obtain ⟨y1, y2⟩ := HX.out _ (HM.out.keep _ _ hI2); clear hI2))
          all_goals go_wp2
          all_goals go_ret
          all_goals exact ⟨show Ending.returned (Value.bool false) = _ from by rw [← HT.out, hr], by rw [← HT.out]; exact HI2.out⟩
        | true =>
          simp only [hr] at HC2
          rw [hr] at ht
          simp only [if_true] at ht
          have HT := Lib.hid ht
          clear ht
          have HQ3 := Lib.hid (HQ2.out hr)
          clear HQ2
          generalize (walkN g d' k' (lv + 1) s').1 = s2 at HC2 HT HQ3
          go_wp2_with fail
          go_region_held3 (fun u => u.cell? ⟨q2, 0, none⟩ = some (.func (.func 170) #[] #[.pointer (some ⟨q1, 0, none⟩), .pointer (some ⟨q2, 0, none⟩)]) ∧ u.cell? ⟨b, o + 4, none⟩ = some (.slice (some ⟨b', o', none⟩) k.len kc)) (first | exact ⟨x1, x2⟩ | go_keep)
            (first | (go_at_call 170; (with_reducible refine HC2.out.mono ?_); rintro e w2 ⟨rfl, hI2⟩; have HI2 := Lib.hid hI2; obtain ⟨y1, y2⟩ := HX.out _ (HM.out.keep _ _ hI2); clear hI2))
          all_goals go_wp2
          all_goals go_roundw
          all_goals first
            | exact ⟨i + 1, s2, hlt, by go_num, HI2.out, HQ3, HT⟩
            | (rw [hls]; exact meas7 hlt)
      · obtain rfl : i = k.len := by omega
        have hnl : ¬ ((k.len : Int) < (k.len : Int)) := by omega
        have ht := HT.out
        rw [Fo.drop_end (Nat.le_refl _)] at ht
        have HT := Lib.hid ht
        have HI := Lib.hid hI
        clear ht hlt hi hI
        go_wp2
        go_ret
        exact ⟨show Ending.returned (Value.bool true) = _ from by rw [← HT.out]; rfl, by rw [← HT.out]; exact HI.out⟩

set_option maxRecDepth 100000 in
set_option maxHeartbeats 2000000 in
theorem each_any {S : Type} {g : S → Nt → Fo → Nat → S × Bool} {gf : Nat} {caps : Array Value} (I : World → S → World → Prop) (Q : S → Nat → Prop) (G : Nat → Prop) (d : Nt) (k : Fo) (b o : Nat) (s : S) (w : World)
    (hG : ∀ x, G x → x < w.heap.size) (hn : NdP w G d k b o) (hb : G b) (hsz : szD d + szF k ≤ 1048576) (hQ : Q s (1 + ndF k))
    (hM : ∀ w0, Below w.heap.size w w0 → w.heap.size + 2 ≤ w0.heap.size → Mo g gf caps (I w0) Q (fun x => G x ∨ x = w.heap.size ∨ x = w.heap.size + 1) w0 ∧ I w0 s w0) :
    Calls Try.prog 156 #[.pointer (some ⟨b, o, none⟩), .func (.func gf) #[] caps] w fun e w' => ∃ w0, Below w.heap.size w w0 ∧ e = .returned (.bool (walkN g d k 1 s).2) ∧ I w0 (walkN g d k 1 s).1 w' := by
  obtain ⟨W2, hW2⟩ : ∃ W2, W2 = (w.alloc (.cells #[.func (.func gf) #[] caps] 181)).alloc (.cells #[.func (.func 170) #[] #[.pointer (some ⟨w.heap.size, 0, none⟩), .pointer (some ⟨w.heap.size + 1, 0, none⟩)]] 181) := ⟨_, rfl⟩
  have hr1 : W2.heap[w.heap.size]? = some (.cells #[.func (.func gf) #[] caps] 181 (0, 0)) := by
    rw [hW2]; exact heap_alloc_keeps (heap_alloc_new _ _) _
  have hr2 : W2.heap[w.heap.size + 1]? = some (.cells #[.func (.func 170) #[] #[.pointer (some ⟨w.heap.size, 0, none⟩), .pointer (some ⟨w.heap.size + 1, 0, none⟩)]] 181 (0, 0)) := by
    have := heap_alloc_new (w.alloc (.cells #[.func (.func gf) #[] caps] 181)) (.cells #[.func (.func 170) #[] #[.pointer (some ⟨w.heap.size, 0, none⟩), .pointer (some ⟨w.heap.size + 1, 0, none⟩)]] 181)
    rw [hW2]; rwa [World.size_alloc] at this
  have hb2 : Below w.heap.size w W2 := by
    rw [hW2]; exact ((Below.refl _ _).alloc (Nat.le_refl _) _).alloc (by simp) _
  have hz2 : w.heap.size + 2 ≤ W2.heap.size := by rw [hW2]; simp
  have x2 := cell_of_one hr2
  have x1 := cell_of_one hr1
  obtain ⟨M, hI⟩ := hM W2 hb2 hz2
  have hn2 : NdP W2 (fun x => G x ∨ x = w.heap.size ∨ x = w.heap.size + 1) d k b o :=
    (hn.keep (fun x hx => hb2.block x (hG x hx)) (hb2.block b (hG b hb))).mono (fun _ h => .inl h)
  have hdz : 1 + deepF k ≤ 1048576 := by have := deepF_sz k; simp only [szD] at hsz; omega
  have HC := Lib.hid (each1_any M w.heap.size (w.heap.size + 1) (.inr (.inl rfl)) (.inr (.inr rfl)) x1 x2 d k s W2 b o 1 0 hI hQ hn2 (.inl hb) hdz hsz)
  rw [show ((1 : Nat) : Int) = 1 from rfl] at HC
  have HB := Lib.hid hb2
  have HW2 := Lib.hid hW2
  clear hM hQ hn hb hsz hn2 hdz hI M hr1 hr2 hb2 hz2 hG hW2 x1 x2
  go_enter Try.func156, Try.ntmps156
  go_wp2_with fail
  rw [← HW2.out]
  go_wp2_with (go_at_call 170; (with_reducible refine HC.out.mono ?_); rintro e w2 ⟨rfl, hI2⟩; have HI2 := Lib.hid hI2; clear hI2)
  go_ret
  exact ⟨W2, HB.out, rfl, HI2.out⟩
end Go.Proofs.Ytghmaphpmnjiiaa
