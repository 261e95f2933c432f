/- Contract: Vars of the program. -/
import Derived.Test.YtnfjodkpapmfkaaNb7
namespace Go.Proofs.Ytnfjodkpapmfkaa
open Go Go.RowKit Go.Maps Go.Sort

/-- The closure of Vars: a box P that holds the set M; of what was in w0 nothing else has turned. -/
structure IV (P M : Nat) (w0 : World) (s : List Nm) (u : World) : Prop where
  ne : P ≠ M
  chg : Chg (fun x => x = P ∨ x = M) w0 u
  box : u.heap[P]? = some (.cells #[.map (some M)] 76 (0, 0))
  set : StV u (some M) s
def gV (s : List Nm) (d : Nt) (_ : Fo) (_ : Nat) : List Nm × Bool := (s ++ v0 d, true)
def QV (s : List Nm) (m : Nat) : Prop := s.length + m ≤ 1048576
theorem v0_len (d : Nt) : (v0 d).length ≤ 1 := by unfold v0; split <;> simp
theorem walkG_gV : ∀ (f : Fo) (lv : Nat) (s : List Nm), (walkG gV f lv s).2 = true ∧ ∀ x, x ∈ (walkG gV f lv s).1 ↔ x ∈ s ∨ inF x f
  | .nil, _, s => ⟨rfl, fun x => by simp [walkG, inF]⟩
  | .cons d k n, lv, s => by
    obtain ⟨h1, h2⟩ := walkG_gV k (lv + 1) (s ++ v0 d)
    have e : (walkN gV d k lv s).2 = true ∧ ∀ x, x ∈ (walkN gV d k lv s).1 ↔ x ∈ s ∨ x ∈ varsN d k := by
      unfold walkN gV
      simp only [if_true]
      refine ⟨h1, fun x => ?_⟩
      have := h2 x
      unfold gV at this
      rw [this, List.mem_append, mem_varsN, or_assoc]
    rw [walkG_cons, if_pos e.1]
    obtain ⟨h3, h4⟩ := walkG_gV n lv (walkN gV d k lv s).1
    refine ⟨h3, fun x => ?_⟩
    rw [h4 x, e.2 x, inF_cons, or_assoc]
theorem walkN_gV (d : Nt) (k : Fo) : (walkN gV d k 1 []).2 = true ∧ ∀ x, x ∈ (walkN gV d k 1 []).1 ↔ x ∈ varsN d k := by
  obtain ⟨h1, h2⟩ := walkG_gV k 2 ([] ++ v0 d)
  unfold walkN gV
  simp only [if_true]
  refine ⟨h1, fun x => ?_⟩
  have := h2 x
  unfold gV at this
  rw [this, List.nil_append, mem_varsN]
set_option maxRecDepth 100000 in
set_option maxHeartbeats 1000000 in
theorem cVars1_any (P M : Nat) (w0 : World) (s : List Nm) (w : World) (G : Nat → Prop) (d : Nt) (k : Fo) (b o : Nat) (q : Value) (hI : IV P M w0 s w) (hP : P < w0.heap.size) (hM : M < w0.heap.size) (hb : b < w0.heap.size ∧ b ≠ P ∧ b ≠ M) (hn : NdP w G d k b o) (hx : d.var.size ≤ maxLen) (hl : s.length < maxLen) :
    Calls Try.prog 66 #[.pointer (some ⟨b, o, none⟩), q, .pointer (some ⟨P, 0, none⟩)] w fun e w' => e = .returned (.bool true) ∧ IV P M w0 (s ++ v0 d) w' := by
  have p0 := cell_of_one hI.box
  obtain ⟨ta, tc, ka, kc, c0, c1, c2, c3, c4, _, _⟩ := hn
  have HI := Lib.hid hI
  have HW := Lib.hid (cWith_any (some M) s d.var w.drew (hI.set.drewN 1) hx hl)
  have HC1 := Lib.hid (fun (u : World) (hc : Chg (fun x => some M = some x) w.drew u) => (by
    have h1 : u.heap[P]? = w.heap[P]? := hc.block P (Nat.lt_of_lt_of_le hP hI.chg.size) (fun e => hI.ne (Option.some.inj e).symm)
    have h2 : u.heap[b]? = w.heap[b]? := hc.block b (Nat.lt_of_lt_of_le hb.1 hI.chg.size) (fun e => hb.2.2 (Option.some.inj e).symm)
    exact ⟨h1.trans hI.box, by simp only [World.cell?, h2]; exact c1⟩ : u.heap[P]? = some (.cells #[.map (some M)] 76 (0, 0)) ∧ u.cell? ⟨b, o + 1, none⟩ = some (.string d.var)))
  have HE := Lib.hid (fun (u : World) (hc : Chg (fun x => some M = some x) w.drew u) (hv : StV u (some M) (s ++ v0x d.var)) => (by
    have hq := (HC1.out u hc).1
    refine ⟨hI.ne, ?_, one_setCell hq, ?_⟩
    · refine Chg.setCell (p := ⟨P, 0, none⟩) (F := fun x => x = P ∨ x = M) ?_ (.inl rfl) _
      exact ⟨hc.os.trans hI.chg.os, hc.tape.trans hI.chg.tape, hc.output.trans hI.chg.output, Nat.le_trans hI.chg.size hc.size, fun j hj hf => (hc.block j (Nat.lt_of_lt_of_le hj hI.chg.size) (fun e => hf (.inr (Option.some.inj e).symm))).trans (hI.chg.block j hj hf)⟩
    · exact hv.block (fun x hx => by cases hx; exact Below.heap_setCell _ _ _ _ (fun e => hI.ne e.symm)) : IV P M w0 (s ++ v0x d.var) (u.setCell ⟨P, 0, none⟩ (.map (some M)))))
  rw [v0_x]
  have hbP := hb.2.1
  clear hI c0 c2 c3 c4 hx hl hb hP hM
  go_enter Try.func66, Try.ntmps66
  go_wp2_with fail
  go_region_held3 (fun u => u.cell? ⟨P, 0, none⟩ = some (.map (some M)) ∧ u.cell? ⟨b, o + 1, none⟩ = some (.string d.var)) (first | exact ⟨p0, c1⟩ | exact ⟨q0, q1⟩ | exact ⟨r0, r1⟩ | go_keep)
    (first | (go_at_call 67; (with_reducible refine HW.out.mono ?_); rintro e u ⟨m', rfl, hv, hc, hm⟩; obtain rfl : m' = some M := hm.elim id (fun h => absurd h.1 (by simp)); have HV := Lib.hid hv; have HCU := Lib.hid hc; have hqu := HC1.out _ hc; have q0 := cell_of_one hqu.1; have q1 := hqu.2; have f0 := free_of_one hqu.1; have r0 := cell_of_one (one_setCell (u := .map (some M)) hqu.1); have r1 := (World.cell?_setCell_other _ ⟨P, 0, none⟩ ⟨b, o + 1, none⟩ (.map (some M)) (fun e => hbP (congrArg Addr.block e).symm)).trans q1; clear hv hc hm hqu))
  all_goals go_wp2
  all_goals go_ret
  all_goals exact ⟨rfl, HE.out _ HCU.out HV.out⟩
theorem qV (s : List Nm) (d : Nt) (k : Fo) (lv m : Nat) (h : QV s (m + 1)) : QV (gV s d k lv).1 m := by
  have := v0_len d
  unfold QV gV at *
  simp only [List.length_append] at *
  omega
theorem moV (P M : Nat) (w0 : World) (G : Nat → Prop) (hP : P < w0.heap.size) (hM : M < w0.heap.size) (hG : ∀ x, G x → x < w0.heap.size ∧ x ≠ P ∧ x ≠ M) : Mo gV 66 #[.pointer (some ⟨P, 0, none⟩)] (IV P M w0) QV G w0 where
  eg := enters_of Try.func66 (by kernel_rfl) rfl
  keep := fun _ _ h x hx => h.chg.block x (hG x hx).1 (fun e => e.elim (hG x hx).2.1 (hG x hx).2.2)
  dr := fun _ _ n h => ⟨h.ne, ⟨h.chg.os, h.chg.tape, h.chg.output, h.chg.size, h.chg.block⟩, h.box, h.set.drewN n⟩
  qs := qV
  call := fun s u d k b o lv m hI hQ hn hb _ hsz => cVars1_any P M w0 s u G d k b o (.int .i64 (lv : Int)) hI hP hM (hG b hb) hn (by unfold maxLen; simp only [szD] at hsz; omega) (by unfold QV at hQ; unfold maxLen; omega)
set_option maxRecDepth 100000 in
set_option maxHeartbeats 1000000 in
theorem cVars_any (d : Nt) (k : Fo) (v : Value) (w : World) (hv : NdV w (fun x => x < w.heap.size) d k v) (hsz : szD d + szF k ≤ 1048576) :
    Calls Try.prog 18 #[v] w fun e w' => ∃ u, e = .returned u ∧ SsV w' (fun b => w.heap.size ≤ b) u (varsN d k) ∧ Below w.heap.size w w' := by
  obtain ⟨ta, tc, ka, kc, rfl⟩ := hv.shape
  have hmm := @run_makeMap Try.prog
  obtain ⟨P, hP⟩ : ∃ P, P = w.heap.size := ⟨_, rfl⟩
  obtain ⟨W1, hW1⟩ : ∃ W1, W1 = w.alloc (.cells #[.int .i64 d.kind, .string d.var, .string d.ty, .slice ta d.tests.length tc, .slice ka k.len kc] 25) := ⟨_, rfl⟩
  have hz1 : W1.heap.size = P + 1 := by rw [hW1, hP]; simp
  obtain ⟨W2, hW2⟩ : ∃ W2, W2 = W1.alloc (.map #[] 0) := ⟨_, rfl⟩
  have hz2 : W2.heap.size = P + 2 := by rw [hW2]; simp [hz1]
  obtain ⟨W3, hW3⟩ : ∃ W3, W3 = W2.alloc (.cells #[.map (some (P + 1))] 76) := ⟨_, rfl⟩
  have hz3 : W3.heap.size = P + 3 := by rw [hW3]; simp [hz2]
  have hb1 : Below w.heap.size w W1 := by rw [hW1]; exact (Below.refl _ _).alloc (Nat.le_refl _) _
  have hb3 : Below w.heap.size w W3 := by rw [hW3, hW2]; exact (hb1.alloc hb1.size _).alloc (by simp; have := hb1.size; omega) _
  have hr1 : W3.heap[P]? = some (.cells #[.int .i64 d.kind, .string d.var, .string d.ty, .slice ta d.tests.length tc, .slice ka k.len kc] 25 (0, 0)) := by
    rw [hW3, hW2, hW1, hP]; exact heap_alloc_keeps (heap_alloc_keeps (heap_alloc_new _ _) _) _
  have hown : StV W3 (some (P + 1)) [] := .inr ⟨P + 1, .map [], rfl, by
    have h := World.ownsMap_made W1 Try.prog 9 (unitElem (H := Unit))
    rw [hz1, ← hW2] at h
    rw [hW3]
    exact h.alloc _, fun x => by simp [Maps.has]⟩
  have hr3 : W3.heap[P + 2]? = some (.cells #[.map (some (P + 1))] 76 (0, 0)) := by
    have := heap_alloc_new W2 (.cells #[.map (some (P + 1))] 76)
    rw [hz2] at this
    rw [hW3]; exact this
  have hn := hv.boxed W3 hb3 P hr1 (P + 1) (by omega)
  have hQ0 : QV [] (1 + ndF k) := by unfold QV; have := ndF_sz k; simp only [szD] at hsz; simp only [List.length_nil]; omega
  have hC := each_any (g := gV) (gf := 66) (caps := #[.pointer (some ⟨P + 2, 0, none⟩)]) (fun w0 => IV (P + 2) (P + 1) w0) QV (fun x => x < P + 1) d k P 0 [] W3 (fun x hx => by omega) hn (by omega) hsz hQ0
    (fun w0 hb hs => ⟨moV (P + 2) (P + 1) w0 _ (by omega) (by omega) (fun x hx => ⟨by omega, by omega, by omega⟩), ⟨by omega, Chg.refl _ _, (hb.block _ (by omega)).trans hr3, hown.below hb⟩⟩)
  obtain ⟨g1, g2⟩ := walkN_gV d k
  have g3 := walkN_Q qV d k 1 [] 0 hQ0 g1
  rw [g1] at hC
  generalize (walkN gV d k 1 []).1 = S at hC g2 g3
  have HC := Lib.hid hC
  have HR := Lib.hid (fun (u : World) (hu : StV u (some (P + 1)) S) => cRising_any (some (P + 1)) S u hu (by unfold QV at g3; omega))
  have HF := Lib.hid (fun (w0 u : World) (hb : Below W3.heap.size W3 w0) (hI : IV (P + 2) (P + 1) w0 S u) => (hb3.trans (hb.mono hb3.size)).trans (hI.chg.below (Nat.le_trans hb3.size hb.size) (fun j hj => by omega)))
  have HL := Lib.hid (fun (L : List Nm) (h1 : Rising L) (h2 : ∀ x, x ∈ L ↔ x ∈ S) => rising_ext h1 (varsN_rising d k) (fun x => by rw [h2 x, g2 x]))
  have HP := Lib.hid hP; have HW3 := Lib.hid hW3; have HW2 := Lib.hid hW2; have HW1 := Lib.hid hW1; have HZ1 := Lib.hid hz1; have HZ2 := Lib.hid hz2
  clear hC hQ0 hn hr1 hr3 hown hb3 hb1 hz1 hz2 hz3 hW1 hW2 hW3 hP hv hsz g1 g2 g3
  go_enter Try.func18, Try.ntmps18
  go_wp2_with fail
  rw [← HP.out, show P + 1 + 1 = P + 2 from rfl, ← HW1.out, ← HW2.out, ← HW3.out]
  go_wp2_with (first
    | (go_at_call 62; (with_reducible refine HC.out.mono ?_); rintro e u ⟨w0, hb0, rfl, hI⟩; have hx := cell_of_one hI.box; have HFu := Lib.hid (HF.out _ _ hb0 hI); have HSu := Lib.hid hI.set; clear hI hb0)
    | (go_at_call 68; (with_reducible refine (HR.out _ HSu.out).mono ?_); rintro e u2 ⟨v, L, rfl, hs, h1, h2, hb⟩; have HS2 := Lib.hid hs; have HB2 := Lib.hid (HFu.out.trans (hb.mono HFu.out.size)); have HM := Lib.hid HFu.out.size; have HE := Lib.hid (HL.out L h1 h2); clear hs h1 h2 hb))
  go_ret
  exact ⟨v, rfl, by rw [← HE.out]; exact HS2.out.mono (fun x hx => Nat.le_trans HM.out hx), HB2.out⟩
end Go.Proofs.Ytnfjodkpapmfkaa
