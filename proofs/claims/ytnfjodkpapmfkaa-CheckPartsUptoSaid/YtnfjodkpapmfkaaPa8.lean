/- Each node of a pattern that may be may be: the mathematics, and parts of layer 7's statements. -/
import Derived.Test.YtnfjodkpapmfkaaSf7
namespace Go.Proofs.Ytnfjodkpapmfkaa
open Go Go.RowKit

/-- Each node of a row, and each below. -/
def Fo.Deep (p : Nt → Fo → Prop) : Fo → Prop
  | .nil => True
  | .cons d k n => p d k ∧ Fo.Deep p k ∧ Fo.Deep p n
theorem Fo.deep_of {p : Nt → Fo → Prop} (h : ∀ d k, p d k → Fo.All p k) : ∀ k, Fo.All p k → Fo.Deep p k
  | .nil, _ => trivial
  | .cons d k n, ⟨h1, h2⟩ => ⟨h1, Fo.deep_of h k (h d k h1), Fo.deep_of h n h2⟩
theorem Fo.All.imp {p q : Nt → Fo → Prop} : ∀ {f : Fo}, (∀ d k, p d k → q d k) → Fo.All p f → Fo.All q f
  | .nil, _, _ => trivial
  | .cons _ _ _, h, ⟨h1, h2⟩ => ⟨h _ _ h1, Fo.All.imp h h2⟩
theorem Fo.All.and {p q : Nt → Fo → Prop} : ∀ {f : Fo}, Fo.All p f → Fo.All q f → Fo.All (fun d k => p d k ∧ q d k) f
  | .nil, _, _ => trivial
  | .cons _ _ _, ⟨h1, h2⟩, ⟨h3, h4⟩ => ⟨⟨h1, h3⟩, Fo.All.and h2 h4⟩
theorem Fo.Deep.all {p : Nt → Fo → Prop} : ∀ {f : Fo}, Fo.Deep p f → Fo.All (fun d k => p d k ∧ Fo.Deep p k) f
  | .nil, _ => trivial
  | .cons _ _ _, ⟨h1, h2, h3⟩ => ⟨⟨h1, h2⟩, Fo.Deep.all h3⟩
theorem deep_all : ∀ (f : Fo) (m : Nat), deepF f ≤ m → Fo.All (fun _ k => deepF k + 1 ≤ m) f
  | .nil, _, _ => trivial
  | .cons d k n, m, h => by simp only [deepF] at h; exact ⟨by omega, deep_all n m (by omega)⟩
theorem terms_all : ∀ (f : Fo) (m : Nat), termsF f ≤ m → Fo.All (fun _ k => termsN k ≤ m) f
  | .nil, _, _ => trivial
  | .cons d k n, m, h => by rw [termsF_cons] at h; exact ⟨by omega, terms_all n m (by omega)⟩
theorem node_all : ∀ (f : Fo), nodeF f = 0 → Fo.All (fun d k => nodeN d k = 0) f
  | .nil, _ => trivial
  | .cons d k n, h => by
    rw [nodeF_cons] at h
    by_cases hn : nodeN d k = 0
    · rw [if_neg (by simpa using hn)] at h; exact ⟨hn, node_all n h⟩
    · rw [if_pos hn] at h; exact absurd h hn
theorem alts_all : ∀ (f : Fo) (o : Bool) (a : Nat), (o = true ∨ 1 ≤ a) → altsG f o a ≤ 64 → Fo.All (fun d k => altsN d k ≤ 64) f
  | .nil, _, _, _, _ => trivial
  | .cons d k n, o, a, h, hm => by
    rw [altsG_cons] at hm
    have hp := altsN_pos d k
    by_cases hx : (if o = true then min (a + altsN d k) 65 else min (a * altsN d k) 65) = 65
    · rw [hx, altsG_full] at hm; omega
    · refine ⟨?_, alts_all n o _ ?_ hm⟩
      · cases o with
        | true => simp only [if_true] at hx; omega
        | false =>
          simp only [Bool.false_eq_true, if_false] at hx
          have h1 : 1 ≤ a := by simpa using h
          have := Nat.le_mul_of_pos_left (altsN d k) h1
          omega
      · cases o with
        | true => exact .inl rfl
        | false =>
          right
          have h1 : 1 ≤ a := by simpa using h
          simp only [Bool.false_eq_true, if_false]
          have := Nat.mul_le_mul h1 hp
          omega
theorem bind_all : ∀ (f : Fo) (sa : Bool) (acc : List Nm), bindG f sa acc = true → Fo.All (fun d k => bindN d k = true) f
  | .nil, _, _, _ => trivial
  | .cons d k n, sa, acc, h => by
    rw [bindG_cons, Bool.and_eq_true, Bool.and_eq_true] at h
    exact ⟨h.1.1, bind_all n _ _ h.2⟩
/-- A node that may be. -/
def okN (d : Nt) (k : Fo) : Prop := shapeN d k = 0 ∧ bindN d k = true
theorem nodeE_ways (d : Nt) (n : Nat) : nodeE d n = 0 ∨ nodeE d n = 71 ∨ nodeE d n = 74 := by
  unfold nodeE
  split
  · split
    · exact .inr (.inl rfl)
    · unfold condsE; split
      · exact .inr (.inr rfl)
      · split
        · exact .inl rfl
        · exact .inr (.inr rfl)
  · split
    · split
      · exact .inl rfl
      · exact .inr (.inl rfl)
    · exact .inr (.inl rfl)
theorem shape_iff {d : Nt} {k : Fo} : shapeN d k = 0 ↔ deepF k + 1 ≤ 8 ∧ termsN k ≤ 12 ∧ nodeN d k = 0 ∧ altsN d k ≤ 64 := by
  unfold shapeN
  by_cases h1 : 8 < deepF k + 1 ∨ 12 < termsN k
  · rw [if_pos h1]; constructor
    · intro h; cases h
    · intro h; omega
  · rw [if_neg h1]
    by_cases h2 : nodeN d k = 0
    · rw [if_neg (by simpa using h2)]
      by_cases h3 : 64 < altsN d k
      · rw [if_pos h3]; constructor
        · intro h; cases h
        · intro h; omega
      · rw [if_neg h3]; exact ⟨fun _ => ⟨by omega, by omega, h2, by omega⟩, fun _ => rfl⟩
    · rw [if_pos h2]; exact ⟨fun h => absurd h h2, fun h => absurd h.2.2.1 h2⟩
theorem okN_all (d : Nt) (k : Fo) (h : okN d k) : Fo.All okN k := by
  obtain ⟨hs, hb⟩ := h
  obtain ⟨h1, h2, h3, h4⟩ := shape_iff.1 hs
  cases k with
  | nil => trivial
  | cons d' k' n' =>
    have e1 : termsF (.cons d' k' n') ≤ 12 := h2
    have e2 : nodeF (.cons d' k' n') = 0 := by
      unfold nodeN at h3
      by_cases hz : nodeE d (Fo.cons d' k' n').len = 0
      · rw [if_neg (by simpa using hz)] at h3; exact h3
      · rw [if_pos hz] at h3; exact absurd h3 hz
    have e3 : Fo.All (fun d k => altsN d k ≤ 64) (.cons d' k' n') := by
      unfold altsN at h4
      simp only [Fo.isNil, Bool.false_eq_true, if_false] at h4
      by_cases hd : d.kind = 4
      · rw [if_pos hd] at h4; exact alts_all _ true 0 (.inl rfl) h4
      · rw [if_neg hd] at h4; exact alts_all _ false 1 (.inr (Nat.le_refl _)) h4
    refine (((((deep_all _ 8 (by omega)).and (terms_all _ 12 e1)).and (node_all _ e2)).and e3).and (bind_all _ _ _ hb)).imp ?_
    rintro a b ⟨⟨⟨⟨x1, x2⟩, x3⟩, x4⟩, x5⟩
    exact ⟨shape_iff.2 ⟨x1, x2, x3, x4⟩, x5⟩
theorem okN_deep {d : Nt} {k : Fo} (h : okN d k) : Fo.Deep okN k := Fo.deep_of okN_all k (okN_all d k h)

theorem szT_sub {l m : List Cnd} (h : l.Sublist m) : szT l ≤ szT m := by
  induction h with
  | slnil => exact Nat.le_refl _
  | cons a _ ih => simp only [szT]; omega
  | cons_cons a _ ih => simp only [szT]; omega
theorem condsE_sub {l m : List Cnd} {V : List Nm} (h : l.Sublist m) (hm : condsE m V = 0) : condsE l V = 0 := by
  unfold condsE at *
  have hl := h.length_le
  split at hm
  · cases hm
  · split at hm
    · rename_i h2 h3
      rw [if_neg (by omega), if_pos (List.all_eq_true.2 fun x hx => List.all_eq_true.1 h3 x (h.subset hx))]
    · cases hm
theorem patE_zero {p : Pt} (h : patE p = 0) : okN p.d p.k ∧ ∀ l : List Cnd, l.Sublist p.wh → patE ⟨p.name, p.win, p.d, p.k, l⟩ = 0 := by
  unfold patE at h ⊢
  by_cases h1 : nameB (nb p.name) = false ∨ p.win < 1 ∨ 1099511627776 < p.win
  · rw [if_pos h1] at h; cases h
  · rw [if_neg h1] at h
    by_cases h2 : shapeN p.d p.k = 0
    · rw [if_neg (by simpa using h2)] at h
      by_cases h3 : bindN p.d p.k = false
      · rw [if_pos h3] at h; cases h
      · rw [if_neg h3] at h
        refine ⟨⟨h2, by simpa using h3⟩, fun l hl => ?_⟩
        simp only
        rw [if_neg h1, if_neg (by simpa using h2), if_neg h3]
        exact condsE_sub hl h
    · rw [if_pos h2] at h; exact absurd h h2

theorem anyF_no : ∀ K : Fo, anyF (fun _ _ => false) K = false
  | .nil => rfl
  | .cons _ _ n => by show (false || anyF _ n) = false; rw [anyF_no n]; rfl
set_option maxRecDepth 100000 in
set_option maxHeartbeats 1000000 in
theorem parts71_of (d : Nt) (k : Fo) (w : World) (v : Value) (hv : NdV w (fun x => x < w.heap.size) d k v) (hp : ∀ (w : World) (v : Value), NdV w (fun x => x < w.heap.size) d k v → Calls Try.prog 24 #[v] w fun e w' => e = .returned (.bool true) ∧ Below w.heap.size w w') :
    Calls Try.prog 75 #[v] w fun e w' => e = .returned (.bool false) ∧ Below w.heap.size w w' := by
  obtain ⟨ta, tc, ka, kc, rfl⟩ := hv.shape
  obtain ⟨W, hW⟩ : ∃ W, W = w.alloc (.cells #[.int .i64 d.kind, .string d.var, .string d.ty, .slice ta d.tests.length tc, .slice ka k.len kc] 25) := ⟨_, rfl⟩
  have hb0 : Below w.heap.size w W := by rw [hW]; exact (Below.refl _ _).alloc (Nat.le_refl _) _
  have HC := Lib.hid (hp W _ ((hv.keep (Keep.of_below hb0)).mono (fun x hx => Nat.lt_of_lt_of_le hx hb0.size)))
  have HB0 := Lib.hid hb0; have HW := Lib.hid hW
  clear hv hp hb0 hW
  go_enter Try.func75, Try.ntmps75
  go_wp2_with fail
  rw [← HW.out]
  go_wp2_with (first | (go_at_call 24; (with_reducible refine HC.out.mono ?_); rintro e u1 ⟨rfl, hb⟩; have HU1 := Lib.hid (HB0.out.trans (hb.mono HB0.out.size)); clear hb))
  go_ret
  exact ⟨rfl, HU1.out⟩
set_option maxRecDepth 100000 in
set_option maxHeartbeats 1000000 in
theorem parts7_any (d : Nt) (k : Fo) : okN d k → Fo.Deep okN k → ∀ (w : World) (v : Value), NdV w (fun x => x < w.heap.size) d k v → szD d + szF k ≤ 1048576 → Calls Try.prog 24 #[v] w fun e w' => e = .returned (.bool true) ∧ Below w.heap.size w w' := by
  revert d k
  refine Fo.node_ind (p := fun d k => okN d k → Fo.Deep okN k → ∀ (w : World) (v : Value), NdV w (fun x => x < w.heap.size) d k v → szD d + szF k ≤ 1048576 → Calls Try.prog 24 #[v] w fun e w' => e = .returned (.bool true) ∧ Below w.heap.size w w') ?_
  intro d K ih hok hde w v hv hsz
  obtain ⟨ta, tc, ka, kc, rfl⟩ := hv.shape
  obtain ⟨_, hk⟩ := hv.inj
  obtain ⟨W, hW⟩ : ∃ W, W = w.alloc (.cells #[.int .i64 d.kind, .string d.var, .string d.ty, .slice ta d.tests.length tc, .slice ka K.len kc] 25) := ⟨_, rfl⟩
  have hq := heap_alloc_new w (.cells #[.int .i64 d.kind, .string d.var, .string d.ty, .slice ta d.tests.length tc, .slice ka K.len kc] 25)
  have hb0 : Below w.heap.size w W := by rw [hW]; exact (Below.refl _ _).alloc (Nat.le_refl _) _
  rw [← hW] at hq
  have hz : W.heap.size = w.heap.size + 1 := by rw [hW]; simp
  obtain ⟨P, hP⟩ : ∃ P, P = w.heap.size := ⟨_, rfl⟩
  have hlen : K.len ≤ 1048576 := by have := szF_len K; omega
  have hkv : ∀ u, Below W.heap.size W u → NdV u (fun x => x < u.heap.size) d K (.agg #[.int .i64 d.kind, .string d.var, .string d.ty, .slice ta d.tests.length tc, .slice ka K.len kc]) := fun u hu =>
    (hv.keep (fun x hx => (hu.block x (Nat.lt_of_lt_of_le hx hb0.size)).trans (hb0.block x hx))).mono (fun x hx => Nat.lt_of_lt_of_le hx (Nat.le_trans hb0.size hu.size))
  have hall : ∀ f : Fo, szF f ≤ 1048576 → Fo.Deep okN f → Fo.All (fun d k => okN d k → Fo.Deep okN k → ∀ (w : World) (v : Value), NdV w (fun x => x < w.heap.size) d k v → szD d + szF k ≤ 1048576 → Calls Try.prog 24 #[v] w fun e w' => e = .returned (.bool true) ∧ Below w.heap.size w w') f →
      ∀ W : World, Fo.All (fun d k => ∀ (u : World) (x : Value), Below W.heap.size W u → NdV u (fun y => y < u.heap.size) d k x → Calls Try.prog 75 #[x] u fun e w' => e = .returned (.bool false) ∧ Below u.heap.size u w') f := by
    intro f
    induction f with
    | nil => exact fun _ _ _ _ => trivial
    | cons d' k' n' _ ihn =>
      intro h1 h3 h2 W
      simp only [szF] at h1
      exact ⟨fun u x _ hx => parts71_of d' k' u x hx (fun w v hv => h2.1 h3.1 h3.2.1 w v hv (by omega)), ihn (by omega) h3.2.2 h2.2 W⟩
  have HC := Lib.hid (fun (u : World) (hu : Below W.heap.size W u) => ContainsNd_any 75 (fun _ _ => false) K (.slice ka K.len kc) u ⟨ka, kc, rfl, fun hn => by
    obtain ⟨b, o, e, hb, hf⟩ := (hkv u hu).inj.2 hn
    exact ⟨b, o, e, hb, hf⟩⟩ hlen (enters_of Try.func75 (by kernel_rfl) rfl) (hall K (by omega) hde ih u))
  have hno := anyF_no K
  rw [hno] at HC
  have HSH := Lib.hid (fun (u : World) (hu : Below W.heap.size W u) => cShape_any d K _ u (hkv u hu) hsz)
  have HBI := Lib.hid (fun (u : World) (hu : Below W.heap.size W u) => cBinds_any d K _ u (hkv u hu) hsz)
  rw [hok.1] at HSH
  rw [hok.2] at HBI
  simp only [if_true] at HBI
  have HX := Lib.hid (fun (u : World) (hu : Below W.heap.size W u) => (by
    have := (hu.block P (by omega)).trans (hP ▸ hq)
    simp [World.cell?, this] : u.cell? ⟨P, 0, none⟩ = some (.int .i64 d.kind) ∧ u.cell? ⟨P, 1, none⟩ = some (.string d.var) ∧ u.cell? ⟨P, 2, none⟩ = some (.string d.ty) ∧ u.cell? ⟨P, 3, none⟩ = some (.slice ta d.tests.length tc) ∧ u.cell? ⟨P, 4, none⟩ = some (.slice ka K.len kc)))
  have HW := Lib.hid hW; have HP := Lib.hid hP
  have HE := Lib.hid (fun (u : World) (hu : Below W.heap.size W u) => hb0.trans (hu.mono hb0.size))
  have HR := Lib.hid (Below.refl W.heap.size W)
  clear hk ih hv hsz hq hb0 hz hW hP hlen hall hkv hok hde hno
  go_enter Try.func24, Try.ntmps24
  go_wp2_with fail
  rw [← HW.out, ← HP.out]
  obtain ⟨x0, x1, x2, x3, x4⟩ := HX.out _ HR.out
  go_wp2_with (first
    | (go_at_call 17; (with_reducible refine (HSH.out _ HR.out).mono ?_); rintro e u1 ⟨rfl, hb⟩; have HU1 := Lib.hid (HR.out.trans (hb.mono HR.out.size)); clear hb x0 x1 x2 x3 x4; obtain ⟨x0, x1, x2, x3, x4⟩ := HX.out _ HU1.out)
    | (go_at_call 73; (with_reducible refine (HBI.out _ HU1.out).mono ?_); rintro e u2 ⟨rfl, hb⟩; have HU2 := Lib.hid (HU1.out.trans (hb.mono HU1.out.size)); clear hb x0 x1 x2 x3 x4; obtain ⟨x0, x1, x2, x3, x4⟩ := HX.out _ HU2.out)
    | (go_at_call 44; (with_reducible refine (HC.out _ HU2.out).mono ?_); rintro e u3 ⟨rfl, hb⟩; have HU3 := Lib.hid (HU2.out.trans (hb.mono HU2.out.size)); clear hb))
  go_ret
  exact ⟨rfl, by first | exact HE.out _ HU3.out | (rw [HP.out]; exact HE.out _ HU3.out)⟩
end Go.Proofs.Ytnfjodkpapmfkaa
