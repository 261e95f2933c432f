/- CheckParts of eyrielaw07. -/
import Derived.Test.YtnfjodkpapmfkaaPa8
import Derived.Test.YtnfjodkpapmfkaaCn8
import Derived.Test.YtnfjodkpapmfkaaLi7
import Derived.Laws.BitsLemmas
namespace Go.Proofs.Ytnfjodkpapmfkaa
open Go Go.RowKit

/-- How things stand while conditions are left out: the second pattern's box at Q, its conditions in a row of the call's own. -/
structure Qs (W0 : World) (Q : Nat) (c0 c1 c2 c3 c4 c5 c6 : Value) (ao : Option Addr) (cap : Nat) (l : List Cnd) (u : World) : Prop where
  chg : Chg (fun x => x = Q) W0 u
  lt : Q < W0.heap.size
  box : u.heap[Q]? = some (.cells #[c0, c1, c2, c3, c4, c5, c6, .slice ao l.length cap] 27 (0, 0))
  own : u.ownsRow W0.heap.size 37 11 (.slice ao l.length cap) l.length (l.flatMap encC)
theorem Qs.alloc {W0 : World} {Q : Nat} {c0 c1 c2 c3 c4 c5 c6 : Value} {ao : Option Addr} {cap : Nat} {l : List Cnd} {u : World} (h : Qs W0 Q c0 c1 c2 c3 c4 c5 c6 ao cap l u) (o : Obj) : Qs W0 Q c0 c1 c2 c3 c4 c5 c6 ao cap l (u.alloc o) :=
  ⟨h.chg.trans (Chg.of_below ((Below.refl _ _).alloc (Nat.le_refl _) o)) (fun j hj => .inl hj), h.lt, heap_alloc_keeps h.box o, h.own.kept (World.grownBy_alloc u o none) (by cases (Value.slice ao l.length cap).ownBlock <;> simp)⟩
theorem own_lt7 {w : World} {base e size n : Nat} {v : Value} {xs : List Value} (h : w.ownsRow base e size v n xs) : ∀ k, v.ownBlock = some k → base ≤ k := fun k hk => (h.lt k hk).1
/-- One condition more. -/
theorem Qs.next {W0 : World} {Q : Nat} {c0 c1 c2 c3 c4 c5 c6 : Value} {ao : Option Addr} {cap : Nat} {l : List Cnd} {u u2 u3 : World} {c : Cnd} (h : Qs W0 Q c0 c1 c2 c3 c4 c5 c6 ao cap l u) (hb : Below u.heap.size u u2) {ao' : Option Addr} {cap' : Nat}
    (ho : u3.ownsRow W0.heap.size 37 11 (.slice ao' (l.length + 1) cap') (l.length + 1) (l.flatMap encC ++ encC c)) (hg : u2.grownBy u3 (Value.slice ao l.length cap).ownBlock) :
    Qs W0 Q c0 c1 c2 c3 c4 c5 c6 ao' cap' (l ++ [c]) (u3.setCell ⟨Q, 7, none⟩ (.slice ao' (l.length + 1) cap')) := by
  have hz := h.chg.size
  have hz2 := hb.size
  have hQ := h.lt
  have hne : some Q ≠ (Value.slice ao l.length cap).ownBlock := fun e => by have := (h.own.lt Q e.symm).1; omega
  have b2 : u3.heap[Q]? = some (.cells #[c0, c1, c2, c3, c4, c5, c6, .slice ao l.length cap] 27 (0, 0)) := (hg.block Q (by omega) hne).trans ((hb.block Q (by omega)).trans h.box)
  have hq := heap_setCell_same (k := 7) b2 (.slice ao' (l.length + 1) cap')
  have c1' : Chg (fun x => x = Q) W0 u2 := h.chg.trans (Chg.of_below hb) (fun j hj => .inl hj)
  have c2' : Chg (fun x => x = Q) W0 u3 := by
    refine ⟨hg.os.trans c1'.os, hg.tape.trans c1'.tape, hg.output.trans c1'.output, Nat.le_trans c1'.size hg.size, fun j hj hjq => ?_⟩
    rw [hg.block j (by have := c1'.size; omega) (fun e => by have := (h.own.lt j e.symm).1; omega)]
    exact c1'.block j hj hjq
  refine ⟨Chg.setCell (F := fun x => x = Q) c2' (p := ⟨Q, 7, none⟩) rfl _, hQ, ?_, ?_⟩
  · rw [hq]; simp
  · have := ownsRow_setCell_typed (a := ⟨Q, 7, none⟩) ho b2 (by decide) (.slice ao' (l.length + 1) cap')
    simpa using this
theorem Qs.chgd {W0 : World} {Q : Nat} {c0 c1 c2 c3 c4 c5 c6 : Value} {ao : Option Addr} {cap : Nat} {l : List Cnd} {u : World} (h : Qs W0 Q c0 c1 c2 c3 c4 c5 c6 ao cap l u) (G : Nat → Prop) (hG : ∀ x, G x → x < Q) : Keep G W0 u := fun x hx => h.chg.block x (by have := hG x hx; have := h.lt; omega) (by have := hG x hx; omega)
theorem CdV.of_own {w : World} {base : Nat} {ao : Option Addr} {cap : Nat} {l : List Cnd} (h : w.ownsRow base 37 11 (.slice ao l.length cap) l.length (l.flatMap encC)) : CdV w (fun x => x < w.heap.size) (.slice ao l.length cap) l := by
  refine ⟨ao, cap, rfl, fun hl => ?_⟩
  obtain ⟨ao', cap', he, hh⟩ := CdO.of_own h hl
  simp only [Value.slice.injEq, true_and] at he
  obtain ⟨rfl, rfl⟩ := he
  obtain ⟨b, cs, e, hT, _, _, hc⟩ := hh hl
  exact ⟨b, 0, e, hT.2, hc⟩
theorem cells_fresh8 (w : World) (c : Cnd) (t : TypeId) (n : Nat) (hn : n = w.heap.size) : ∀ j u, (encC c)[j]? = some u → (w.alloc (.cells (encC c).toArray t)).cell? ((⟨n, 0, none⟩ : Addr).add j) = some u := fun j u hj => by
  subst hn
  rw [add_off, Nat.zero_add]
  have := heap_alloc_new w (.cells (encC c).toArray t)
  rw [cell_of_row _ _ _ _ _ _ this]
  simpa using hj
theorem encC_one (c : Cnd) : ∀ u ∈ encC c, u.oneCell' = true := by
  have := flatC_one [c]
  simpa using this
theorem shr_is (i : Nat) (hi : i < 9223372036854775808) (out : Int) : ∃ X : Int, ∀ w : World, Sem.run Try.prog (Op.shift BinOp.shr IntKind.u16 out IntKind.i64 (bits BinOp.and IntKind.i64 (i : Int) 15)) w = .ok (.int .u16 X) w := by
  have e := bits_mask .i64 63 (by decide) (fun n h0 h1 => by rw [IntKind.wrap_i64]; omega) 4 (by decide) (i : Int) (by omega) (by omega)
  rw [show ((2 : Int) ^ 4 - 1) = 15 by decide, show ((2 : Int) ^ 4) = 16 by decide] at e
  rw [e]
  refine ⟨out.fdiv (2 ^ min ((i : Int) % 16).toNat IntKind.u16.bits), fun w => ?_⟩
  unfold Op.shift
  rw [if_neg (by omega)]
  rfl
theorem cells_of_cond {w : World} {q : Nat} {c : Cnd} {t : Nat} (h : w.heap[q]? = some (.cells (encC c).toArray t (0, 0))) :
    w.cell? ⟨q, 0, none⟩ = some (.string c.left.var) ∧ w.cell? ⟨q, 1, none⟩ = some (.string c.left.attr) ∧ w.cell? ⟨q, 2, none⟩ = some (.int .i64 c.left.vk) ∧ w.cell? ⟨q, 3, none⟩ = some (.int .i64 c.left.vn) ∧ w.cell? ⟨q, 4, none⟩ = some (.string c.left.vs) ∧ w.cell? ⟨q, 5, none⟩ = some (.int .i64 c.rel) ∧
    w.cell? ⟨q, 6, none⟩ = some (.string c.right.var) ∧ w.cell? ⟨q, 7, none⟩ = some (.string c.right.attr) ∧ w.cell? ⟨q, 8, none⟩ = some (.int .i64 c.right.vk) ∧ w.cell? ⟨q, 9, none⟩ = some (.int .i64 c.right.vn) ∧ w.cell? ⟨q, 10, none⟩ = some (.string c.right.vs) := by
  simp [World.cell?, h, encC]
theorem free_box8 {u : World} {Q : Nat} {cs : Array Value} {t : TypeId} (h : u.heap[Q]? = some (.cells cs t (0, 0))) (n : Nat) : u.frozen? ⟨Q, n, none⟩ = false := frozen_of_row u Q n cs t h
set_option maxRecDepth 100000 in
set_option maxHeartbeats 8000000 in
theorem parts7_walk (p : Pt) (out : Int) (v : Value) (w : World) (hv : PtV w (fun x => x < w.heap.size) p v) (hsz : szP p ≤ 1048576) :
    Calls Try.prog 5 #[v, .int .u16 out] w fun e w' => e = .returned (.bool true) ∧ Below w.heap.size w w' := by
  obtain ⟨name, win, d, k, wh⟩ := p
  obtain ⟨ta, tc, ka, kc, wa, wc, rfl, ht, hk, hw⟩ := hv
  simp only at ht hk hw
  obtain ⟨P, hP⟩ : ∃ P, P = w.heap.size := ⟨_, rfl⟩
  obtain ⟨W1, hW1⟩ : ∃ W1, W1 = w.alloc (.cells #[.string name, .int .i64 win, .int .i64 d.kind, .string d.var, .string d.ty, .slice ta d.tests.length tc, .slice ka k.len kc, .slice wa wh.length wc] 27) := ⟨_, rfl⟩
  have hb1 : Below w.heap.size w W1 := by rw [hW1]; exact (Below.refl _ _).alloc (Nat.le_refl _) _
  have hr1 : W1.heap[P]? = some (.cells #[.string name, .int .i64 win, .int .i64 d.kind, .string d.var, .string d.ty, .slice ta d.tests.length tc, .slice ka k.len kc, .slice wa wh.length wc] 27 (0, 0)) := by rw [hW1, hP]; exact heap_alloc_new _ _
  have hz1 : W1.heap.size = P + 1 := by rw [hW1, hP]; simp
  have hK : ∀ u, Below W1.heap.size W1 u → Keep (fun x => x < w.heap.size) w u ∧ ∀ x, x < w.heap.size → x < u.heap.size := fun u hu =>
    ⟨fun x hx => (hu.block x (Nat.lt_of_lt_of_le hx hb1.size)).trans (hb1.block x hx), fun x hx => Nat.lt_of_lt_of_le hx (Nat.le_trans hb1.size hu.size)⟩
  have hnd : ∀ u, Below W1.heap.size W1 u → NdV u (fun x => x < u.heap.size) d k (.agg #[.int .i64 d.kind, .string d.var, .string d.ty, .slice ta d.tests.length tc, .slice ka k.len kc]) := fun u hu =>
    NdV.mono ⟨_, _, rfl, ht.keep (hK u hu).1, hk.keep (hK u hu).1⟩ (hK u hu).2
  have hpt : ∀ u, Below W1.heap.size W1 u → PtV u (fun x => x < u.heap.size) ⟨name, win, d, k, wh⟩ (.agg #[.string name, .int .i64 win, .int .i64 d.kind, .string d.var, .string d.ty, .slice ta d.tests.length tc, .slice ka k.len kc, .slice wa wh.length wc]) := fun u hu =>
    ⟨ta, tc, ka, kc, wa, wc, rfl, (ht.keep (hK u hu).1).mono (hK u hu).2, by
      obtain ⟨ka', kc', he, hh⟩ := hk.keep (hK u hu).1
      refine ⟨ka', kc', he, fun hn => ?_⟩
      obtain ⟨b, o, e, hb, hf⟩ := hh hn
      exact ⟨b, o, e, (hK u hu).2 b hb, hf.mono (hK u hu).2⟩, (hw.keep (hK u hu).1).mono (hK u hu).2⟩
  have hszn : szD d + szF k ≤ 1048576 := by simp only [szP] at hsz; omega
  have HX := Lib.hid (fun (u : World) (hu : Below W1.heap.size W1 u) => cell_of_eight ((hu.block P (by omega)).trans hr1))
  have HF := Lib.hid (fun (u : World) (hu : Below W1.heap.size W1 u) => fits7_any d k _ u (hnd u hu) hszn)
  have HC := Lib.hid (fun (u : World) (hu : Below W1.heap.size W1 u) => cPattern_any ⟨name, win, d, k, wh⟩ _ u (hpt u hu) hsz)
  have HCL := Lib.hid (fun (u : World) (hu : Below W1.heap.size W1 u) => cClone_any ⟨name, win, d, k, wh⟩ _ u (hpt u hu) hsz)
  have HE := Lib.hid (fun (u : World) (hu : Below W1.heap.size W1 u) => hb1.trans (hu.mono hb1.size))
  have HND := Lib.hid (fun (u : World) (hu : Below W1.heap.size W1 u) (h : okN d k) => parts7_any d k h (okN_deep h) u _ (hnd u hu) hszn)
  have HWH := Lib.hid (fun (u : World) (hu : Below W1.heap.size W1 u) => hw.keep (hK u hu).1)
  have HW := Lib.hid hW1; have HP := Lib.hid hP; have HSZ := Lib.hid hsz; have HZ1 := Lib.hid hz1
  have B2 := Lib.hid (Below.refl W1.heap.size W1)
  clear ht hk hw hb1 hr1 hz1 hK hnd hpt hsz hszn hW1 hP
  cases hf : fitsN k with
  | false =>
    rw [hf] at HF
    clear hf
    go_enter Try.func5, Try.ntmps5
    go_wp2_with fail
    rw [← HW.out, ← HP.out]
    obtain ⟨c0, c1, c2, c3, c4, c5, c6, c7⟩ := HX.out _ B2.out
    go_wp2_with (first
      | (go_at_call 11; (with_reducible refine (HF.out _ B2.out).mono ?_); rintro e w4 ⟨rfl, hb⟩; have B2 := Lib.hid (B2.out.trans (hb.mono B2.out.size)); clear hb c0 c1 c2 c3 c4 c5 c6 c7; obtain ⟨c0, c1, c2, c3, c4, c5, c6, c7⟩ := HX.out _ B2.out)
      | (go_at_call 12; (with_reducible refine (live7_any _).mono ?_); rintro e w3 ⟨rfl, hb⟩; have B2 := Lib.hid (B2.out.trans (hb.mono B2.out.size)); clear hb c0 c1 c2 c3 c4 c5 c6 c7; obtain ⟨c0, c1, c2, c3, c4, c5, c6, c7⟩ := HX.out _ B2.out))
    all_goals go_ret
    all_goals exact ⟨rfl, HE.out _ B2.out⟩
  | true =>
    rw [hf] at HF
    clear hf
    by_cases hE : patE ⟨name, win, d, k, wh⟩ = 0
    · rw [hE] at HC
      obtain ⟨hok, hsub⟩ := patE_zero hE
      have HOK := Lib.hid hok; have HSUB := Lib.hid hsub
      clear hE hok hsub
      go_enter Try.func5, Try.ntmps5
      go_wp2_with fail
      rw [← HW.out, ← HP.out]
      obtain ⟨c0, c1, c2, c3, c4, c5, c6, c7⟩ := HX.out _ B2.out
      go_wp2_with (first
        | (go_at_call 11; (with_reducible refine (HF.out _ B2.out).mono ?_); rintro e w4 ⟨rfl, hb⟩; have B2 := Lib.hid (B2.out.trans (hb.mono B2.out.size)); clear hb c0 c1 c2 c3 c4 c5 c6 c7; obtain ⟨c0, c1, c2, c3, c4, c5, c6, c7⟩ := HX.out _ B2.out)
        | (go_at_call 23; (with_reducible refine (HC.out _ B2.out).mono ?_); rintro e w4 ⟨rfl, hb⟩; have B2 := Lib.hid (B2.out.trans (hb.mono B2.out.size)); clear hb c0 c1 c2 c3 c4 c5 c6 c7; obtain ⟨c0, c1, c2, c3, c4, c5, c6, c7⟩ := HX.out _ B2.out)
        | (go_at_call 12; (with_reducible refine (live7_any _).mono ?_); rintro e w3 ⟨rfl, hb⟩; have B2 := Lib.hid (B2.out.trans (hb.mono B2.out.size)); clear hb c0 c1 c2 c3 c4 c5 c6 c7; obtain ⟨c0, c1, c2, c3, c4, c5, c6, c7⟩ := HX.out _ B2.out)
        | (go_at_call 13; (with_reducible refine (HCL.out _ B2.out).mono ?_); rintro e w5 ⟨v5, rfl, ho, hb⟩; obtain ⟨ta2, tc2, ka2, kc2, wa2, wc2, m5, rfl, h1, h2, h3, h4⟩ := ho; have HL5 := Lib.hid (And.intro h1 h2); have HBL := Lib.hid h3; have B3 := Lib.hid B2.out; have B2 := Lib.hid (B2.out.trans (hb.mono B2.out.size)); have HB5 := Lib.hid hb; clear h1 h2 h3 h4 hb c0 c1 c2 c3 c4 c5 c6 c7; have B4 := Lib.hid (B2.out.alloc B2.out.size (.cells #[.string name, .int .i64 win, .int .i64 d.kind, .string d.var, .string d.ty, .slice ta2 d.tests.length tc2, .slice ka2 k.len kc2, .slice none 0 0] 27)); obtain ⟨c0, c1, c2, c3, c4, c5, c6, c7⟩ := HX.out _ B4.out))
      clear c0 c1 c2 c3 c4 c5 c6 c7
      have hq0 := heap_alloc_new w5 (.cells #[.string name, .int .i64 win, .int .i64 d.kind, .string d.var, .string d.ty, .slice ta2 d.tests.length tc2, .slice ka2 k.len kc2, .slice none 0 0] 27)
      have hz0 : (w5.alloc (.cells #[.string name, .int .i64 win, .int .i64 d.kind, .string d.var, .string d.ty, .slice ta2 d.tests.length tc2, .slice ka2 k.len kc2, .slice none 0 0] 27)).heap.size = w5.heap.size + 1 := by simp
      have hb0 : Below w5.heap.size w5 (w5.alloc (.cells #[.string name, .int .i64 win, .int .i64 d.kind, .string d.var, .string d.ty, .slice ta2 d.tests.length tc2, .slice ka2 k.len kc2, .slice none 0 0] 27)) := (Below.refl _ _).alloc (Nat.le_refl _) _
      generalize (w5.alloc (.cells #[.string name, .int .i64 win, .int .i64 d.kind, .string d.var, .string d.ty, .slice ta2 d.tests.length tc2, .slice ka2 k.len kc2, .slice none 0 0] 27)) = W0 at B4 hq0 hz0 hb0 ⊢
      obtain ⟨Q, hQ⟩ : ∃ Q, Q = w5.heap.size := ⟨_, rfl⟩
      rw [← hQ] at hq0 hz0 hb0 ⊢
      have HS0 : Hid (Qs W0 Q (.string name) (.int .i64 win) (.int .i64 d.kind) (.string d.var) (.string d.ty) (.slice ta2 d.tests.length tc2) (.slice ka2 k.len kc2) none 0 [] W0) := Lib.hid ⟨Chg.refl _ _, by omega, hq0, World.ownsRow_nil _ _ _ _⟩
      have HB0 := Lib.hid hb0; have HZ0 := Lib.hid hz0; have HQ := Lib.hid hQ
      clear hq0 hz0 hb0 hQ
      go_loopw [28] (fun iv wr => ∃ (i : Nat) (ao : Option Addr) (cap : Nat) (l : List Cnd), i ≤ wh.length ∧ iv = .int .i64 (i : Int) ∧ Hid (l.Sublist (wh.take i)) ∧ Hid (Qs W0 Q (.string name) (.int .i64 win) (.int .i64 d.kind) (.string d.var) (.string d.ty) (.slice ta2 d.tests.length tc2) (.slice ka2 k.len kc2) ao cap l wr)) (fun iv _ => wh.length - (intOf iv).toNat)
      case atStart => exact ⟨0, none, 0, [], Nat.zero_le _, rfl, Lib.hid (by simp), HS0⟩
      case round =>
        obtain ⟨i, ao, cap, l, hi, rfl, HSL, HS⟩ := hrel
        by_cases hlt : i < wh.length
        · have hlti : (i : Int) < (wh.length : Int) := by omega
          have hBr : Below W1.heap.size W1 wr := B4.out.trans (HS.out.chg.below B4.out.size (fun x hx => by have := HQ.out; have := B2.out.size; omega))
          obtain ⟨wa', wc', he, hh⟩ := HWH.out wr hBr
          simp only [Value.slice.injEq, true_and] at he
          obtain ⟨rfl, rfl⟩ := he
          obtain ⟨b, o, rfl, hb, hcd⟩ := hh (fun h => by rw [h] at hlt; exact absurd hlt (Nat.not_lt_zero _))
          obtain ⟨e0, e1, e2, e3, e4, e5, e6, e7, e8, e9, e10⟩ := hcd.cells hlt
          have hSL := HSL.out
          have hls := wr7 hlt (len7 (by have := szT_len wh; have := HSZ.out; simp only [szP] at this; omega))
          have hi0 : (0 : Int) ≤ (i : Int) := by omega
          have HSL2 := Lib.hid (show (l ++ [wh[i]]).Sublist (wh.take (i + 1)) from by
            rw [List.take_succ_eq_append_getElem hlt]; exact List.Sublist.append hSL (List.Sublist.refl _))
          have HSL3 := Lib.hid (show l.Sublist (wh.take (i + 1)) from hSL.trans (List.take_sublist_take_left (Nat.le_succ i)))
          have HLL : Hid (l.length ≤ i) := Lib.hid (by have := hSL.length_le; rw [List.length_take] at this; omega)
          have HLT := Lib.hid hlt
          generalize wh[i] = c at e0 e1 e2 e3 e4 e5 e6 e7 e8 e9 e10 HSL2
          have HEE := Lib.hid (e0)
          obtain ⟨X, hX⟩ := shr_is i (by have := szT_len wh; have := HSZ.out; simp only [szP] at this; omega) out
          have HS2 := Lib.hid (HS.out.alloc (.cells (encC c).toArray 37))
          have HNB := Lib.hid (heap_alloc_new wr (.cells (encC c).toArray 37))
          have hmx : l.length ≤ 1048576 := by have := HLL.out; have := szT_len wh; have := HSZ.out; simp only [szP] at this; omega
          have HMX := Lib.hid hmx
          clear hh hcd hb hSL hlt hi HSL hBr HEE hmx
          by_cases hx : bits BinOp.and IntKind.u16 X 1 = 0
          · have hx' : (bits BinOp.and IntKind.u16 X 1 == 0) = true := beq_iff_eq.2 hx
            obtain ⟨i0, hi, hz0, hz1, hz2⟩ := info_parts infoCd
            obtain ⟨f0, f1, f2, f3, f4, f5, f6, f7, f8, f9, f10⟩ := cells_of_cond HNB.out
            obtain ⟨d0, d1, d2, d3, d4, d5, d6, d7⟩ := cell_of_eight HS2.out.box
            simp only [encC] at f0 f1 f2 f3 f4 f5 f6 f7 f8 f9 f10 d0 d1 d2 d3 d4 d5 d6 d7
            clear d0 d1 d2 d3 d4 d5 d6
            go_wp2_with (at_builtin; refine wpList_append_own _ rfl (.tmp 40) (.tmp 42) 22 rfl W0.heap.size 37 i0 (.agg #[.string ⟨#[]⟩, .string ⟨#[]⟩, .int .i64 0, .int .i64 0, .string ⟨#[]⟩, .int .i64 0, .string ⟨#[]⟩, .string ⟨#[]⟩, .int .i64 0, .int .i64 0, .string ⟨#[]⟩]) 11 136 Try.underlying22 hi hz0 hz1 hz2 rfl (by decide) _ l.length _ rfl (HS2.out.alloc (.cells (encC c).toArray 37)).own ⟨wr.heap.size + 1, 0, none⟩ 1 1 (encC c) rfl rfl (cells_fresh8 _ c _ _ (by simp)) (encC_one c) (by have := HMX.out; unfold maxLen; omega) (by have := HMX.out; omega) (by have := HS2.out.chg.size; simp only [World.size_alloc] at this ⊢; omega) ?_; intro v4 w4 hown4 hgrow4 hnil4; clear hnil4; obtain ⟨g4, cap4, rfl⟩ := own_shape hown4; have HN4 := Lib.hid (HS2.out.next ((Below.refl _ _).alloc (Nat.le_refl _) (.cells (encC c).toArray 37)) hown4 hgrow4); have HF4 := Lib.hid hgrow4; have hf := frozen_of_row w4 Q 7 _ _ ((hgrow4.block Q (by have := HS2.out.lt; have := HS2.out.chg.size; simp only [World.size_alloc] at this ⊢; omega) (fun e => by have := (HS2.out.own.lt Q e.symm).1; have := HS2.out.lt; omega)).trans (HS2.out.alloc (.cells (encC c).toArray 37)).box); have hc4 := (cell_of_eight ((hgrow4.block Q (by have := HS2.out.lt; have := HS2.out.chg.size; simp only [World.size_alloc] at this ⊢; omega) (fun e => by have := (HS2.out.own.lt Q e.symm).1; have := HS2.out.lt; omega)).trans (HS2.out.alloc (.cells (encC c).toArray 37)).box)).2.2.2.2.2.2.2; clear hown4 hgrow4)
            go_roundw
            all_goals first
              | exact ⟨i + 1, _, cap4, l ++ [c], HLT.out, by go_num, HSL2, by first | exact HN4 | (rw [List.length_append]; exact HN4)⟩
              | exact meas7 HLT.out
              | (rw [hls]; exact meas7 HLT.out)
          · have hx' : (bits BinOp.and IntKind.u16 X 1 == 0) = false := beq_eq_false_iff_ne.2 hx
            clear HNB
            go_wp2_with fail
            go_roundw
            all_goals first
              | exact ⟨i + 1, ao, cap, l, HLT.out, by go_num, HSL3, HS2⟩
              | exact meas7 HLT.out
              | (rw [hls]; exact meas7 HLT.out)
        · obtain rfl : i = wh.length := by omega
          have hnl : ¬ ((wh.length : Int) < (wh.length : Int)) := by omega
          have hBr : Below W1.heap.size W1 wr := B4.out.trans (HS.out.chg.below B4.out.size (fun x hx => by have := HQ.out; have := B2.out.size; omega))
          obtain ⟨d0, d1, d2, d3, d4, d5, d6, d7⟩ := cell_of_eight HS.out.box
          have hsub : l.Sublist wh := by have := HSL.out; rwa [List.take_length] at this
          have hszq : szP ⟨name, win, d, k, l⟩ ≤ 1048576 := by have := szT_sub hsub; have := HSZ.out; simp only [szP] at this ⊢; omega
          have hkw : Keep (fun x => W1.heap.size ≤ x ∧ x < m5) w5 wr := fun x hx => by
            have h1 := HL5.out; have h2 := HQ.out; have h3 := HZ0.out
            rw [HS.out.chg.block x (by omega) (by omega), HB0.out.block x (by omega)]
          have hlo := B3.out.size
          have hbl := (HBL.out.mono (M' := fun x => W1.heap.size ≤ x ∧ x < m5) (fun x hx => ⟨Nat.le_trans hlo hx.1, hx.2⟩)).keepV hkw
          have hszr := HS.out.chg.size
          have hq : PtV wr (fun x => x < wr.heap.size) ⟨name, win, d, k, l⟩ (.agg #[.string name, .int .i64 win, .int .i64 d.kind, .string d.var, .string d.ty, .slice ta2 d.tests.length tc2, .slice ka2 k.len kc2, .slice ao l.length cap]) := by
            have h1 := HL5.out; have h2 := HQ.out; have h3 := HZ0.out
            obtain ⟨x1, x2⟩ := hbl.kdv tc2 kc2
            refine ⟨ta2, tc2, ka2, kc2, ao, cap, rfl, x1.mono (fun x hx => by omega), ⟨ka2, kc2, rfl, fun hn => ?_⟩, CdV.of_own HS.out.own⟩
            obtain ⟨b, o, e, hb, hf⟩ := x2 hn
            exact ⟨b, o, e, by omega, FoAt.mono (fun x hx => by omega) hf⟩
          have hcq := cPattern_any ⟨name, win, d, k, l⟩ _ wr hq hszq
          rw [HSUB.out l hsub] at hcq
          have HCQ := Lib.hid hcq; have HBR := Lib.hid hBr
          clear hlt hi hsub hszq hkw hlo hbl hszr hq hcq hBr
          go_wp2_with (first
            | (go_at_call 23; (with_reducible refine HCQ.out.mono ?_); rintro e w6 ⟨rfl, hb⟩; have B6 := Lib.hid (HBR.out.trans (hb.mono HBR.out.size)); clear hb d0 d1 d2 d3 d4 d5 d6 d7; obtain ⟨c0, c1, c2, c3, c4, c5, c6, c7⟩ := HX.out _ B6.out)
            | (go_at_call 24; (with_reducible refine (HND.out _ B6.out HOK.out).mono ?_); rintro e w7 ⟨rfl, hb⟩; have B7 := Lib.hid (B6.out.trans (hb.mono B6.out.size)); clear hb))
          all_goals go_ret
          all_goals exact ⟨rfl, HE.out _ B7.out⟩
    · have hE' : (patE ⟨name, win, d, k, wh⟩ == 0) = false := beq_eq_false_iff_ne.2 hE
      generalize patE ⟨name, win, d, k, wh⟩ = E at HC hE hE'
      go_enter Try.func5, Try.ntmps5
      go_wp2_with fail
      rw [← HW.out, ← HP.out]
      obtain ⟨c0, c1, c2, c3, c4, c5, c6, c7⟩ := HX.out _ B2.out
      go_wp2_with (first
        | (go_at_call 11; (with_reducible refine (HF.out _ B2.out).mono ?_); rintro e w4 ⟨rfl, hb⟩; have B2 := Lib.hid (B2.out.trans (hb.mono B2.out.size)); clear hb c0 c1 c2 c3 c4 c5 c6 c7; obtain ⟨c0, c1, c2, c3, c4, c5, c6, c7⟩ := HX.out _ B2.out)
        | (go_at_call 23; (with_reducible refine (HC.out _ B2.out).mono ?_); rintro e w4 ⟨rfl, hb⟩; have B2 := Lib.hid (B2.out.trans (hb.mono B2.out.size)); clear hb c0 c1 c2 c3 c4 c5 c6 c7; obtain ⟨c0, c1, c2, c3, c4, c5, c6, c7⟩ := HX.out _ B2.out)
        | (go_at_call 12; (with_reducible refine (live7_any _).mono ?_); rintro e w3 ⟨rfl, hb⟩; have B2 := Lib.hid (B2.out.trans (hb.mono B2.out.size)); clear hb c0 c1 c2 c3 c4 c5 c6 c7; obtain ⟨c0, c1, c2, c3, c4, c5, c6, c7⟩ := HX.out _ B2.out))
      all_goals go_ret
      all_goals exact ⟨rfl, HE.out _ B2.out⟩
end Go.Proofs.Ytnfjodkpapmfkaa
