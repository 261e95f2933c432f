/- Contracts: Take and Parse of an event. -/
import Derived.Test.YthjhbnfedelniaaErb
import Derived.Test.YthjhbnfedelniaaQm
import Derived.Test.YthjhbnfedelniaaBv
namespace Go.Proofs.Ythjhbnfedelniaa
open Go Go.RowKit

def tkT (e : Nat) : Bool := srcT e || erT e
theorem tkT_src (e : Nat) (h : tkT e = false) : srcT e = false := by unfold tkT at h; simp at h; exact h.1
theorem tkT_er (e : Nat) (h : tkT e = false) : erT e = false := by unfold tkT at h; simp at h; exact h.2
/-- In w the block q is a source, to which the bits l are left. -/
def SrcL (w : World) (B q : Nat) (bytes : List Nat) (l : List Bool) : Prop := ∃ p, SrcIs w B q bytes p ∧ leftL bytes p = l
theorem SrcL.kept {w w' : World} {B B' q : Nat} {bytes : List Nat} {l : List Bool} {T : Nat → Bool} (h : SrcL w B q bytes l) (hk : Kept B' T w w') (h1 : T 84 = false) (h2 : T 5 = false) : SrcL w' B q bytes l := by
  obtain ⟨p, h3, h4⟩ := h; exact ⟨p, h3.kept hk h1 h2, h4⟩
theorem SrcL.below {w w' : World} {B B' q : Nat} {bytes : List Nat} {l : List Bool} (h : SrcL w B q bytes l) (hb : Below B' w w') (hB : w.heap.size ≤ B') : SrcL w' B q bytes l := by
  obtain ⟨p, h3, h4⟩ := h; exact ⟨p, h3.below hb hB, h4⟩

/-- Of a source a reader is made: both hold the same bytes. -/
theorem er_of_src {w : World} {B q : Nat} {bytes : List Nat} {p : Nat} (h : SrcIs w B q bytes p) {v : Value} (h1 : w.heap[q]? = some (.cells #[.bool true, v, .int .i64 (p : Int)] 84 (0, 0))) (hB : B ≤ w.heap.size) :
    ErIs (w.alloc (.cells #[.bool true, v, .int .i64 (p : Int), .int .i64 0] 86)) B w.heap.size bytes (0, leftL bytes p) := by
  obtain ⟨v', hq, ho⟩ := h.row
  rw [h1] at hq
  simp only [Option.some.injEq, Obj.cells.injEq, and_true] at hq
  have hv : v = v' := by simpa using hq
  subst hv
  exact ⟨p, ⟨hB, h.len, h.at_, h.small, v, heap_alloc_new _ _, ho.alloc _⟩, rfl⟩
theorem ErIs.open3 {w : World} {B q : Nat} {bytes : List Nat} {s : Qs} (h : ErIs w B q bytes s) :
    ∃ (v : Value) (p : Nat), w.heap[q]? = some (.cells #[.bool true, v, .int .i64 (p : Int), .int .i64 ((s.1 : Nat) : Int)] 86 (0, 0)) ∧ w.ownsRow B 5 1 v bytes.length (byteVs bytes) ∧ p ≤ 8 * bytes.length ∧ leftL bytes p = s.2 := by
  obtain ⟨p, h1, h2⟩ := h
  obtain ⟨v, h3, h4⟩ := h1.row
  exact ⟨v, p, h3, h4, h1.at_, h2⟩
/-- The source follows its reader. -/
theorem SrcIs.follow {w : World} {B q : Nat} {bytes : List Nat} {p : Nat} (h : SrcIs w B q bytes p) {v : Value} {p' : Nat} (ho : w.ownsRow B 5 1 v bytes.length (byteVs bytes)) (hp : p' ≤ 8 * bytes.length) :
    SrcIs (((w.setCell ⟨q, 0, none⟩ (.bool true)).setCell ⟨q, 1, none⟩ v).setCell ⟨q, 2, none⟩ (.int .i64 (p' : Int))) B q bytes p' ∧ Kept B srcT w (((w.setCell ⟨q, 0, none⟩ (.bool true)).setCell ⟨q, 1, none⟩ v).setCell ⟨q, 2, none⟩ (.int .i64 (p' : Int))) := by
  obtain ⟨v', hq, _⟩ := h.row
  have a0 := heap_setCell_same (k := 0) hq (.bool true)
  have a1 := heap_setCell_same (k := 1) a0 v
  have o1 := ownsRow_setCell_typed (a := ⟨q, 0, none⟩) ho hq (by decide) (.bool true)
  have o2 := ownsRow_setCell_typed (a := ⟨q, 1, none⟩) o1 a0 (by decide) v
  have o3 := ownsRow_setCell_typed (a := ⟨q, 2, none⟩) o2 a1 (by decide) (.int .i64 (p' : Int))
  refine ⟨⟨h.from_, h.len, hp, h.small, v, ?_, o3⟩, ?_⟩
  · rw [heap_setCell_same a1]; simp
  · exact (((Kept.refl B srcT w).setCell (p := ⟨q, 0, none⟩) h.from_ hq rfl _).setCell (p := ⟨q, 1, none⟩) h.from_ a0 rfl _).setCell (p := ⟨q, 2, none⟩) h.from_ a1 rfl _

/-- Five stores into a box of an event. -/
theorem kept_five {w : World} {P : Nat} {c0 c1 c2 c3 c4 : Value} (hq : w.heap[P]? = some (.cells #[c0, c1, c2, c3, c4] 35 (0, 0))) (d0 d1 d2 d3 d4 : Value) :
    Kept 0 (fun e => e == 35) w (((((w.setCell ⟨P, 0, none⟩ d0).setCell ⟨P, 1, none⟩ d1).setCell ⟨P, 2, none⟩ d2).setCell ⟨P, 3, none⟩ d3).setCell ⟨P, 4, none⟩ d4) := by
  have a0 := heap_setCell_same (k := 0) hq d0
  have a1 := heap_setCell_same (k := 1) a0 d1
  have a2 := heap_setCell_same (k := 2) a1 d2
  have a3 := heap_setCell_same (k := 3) a2 d3
  exact ((((((Kept.refl _ _ _).setCell (p := ⟨P, 0, none⟩) (Nat.zero_le _) hq rfl d0).setCell (p := ⟨P, 1, none⟩) (Nat.zero_le _) a0 rfl d1).setCell (p := ⟨P, 2, none⟩) (Nat.zero_le _) a1 rfl d2).setCell (p := ⟨P, 3, none⟩) (Nat.zero_le _) a2 rfl d3).setCell (p := ⟨P, 4, none⟩) (Nat.zero_le _) a3 rfl d4)
theorem Kept.five_fresh {B : Nat} {T : Nat → Bool} {a w : World} (h : Kept B T a w) {P : Nat} (hB : B ≤ P) (hP : a.heap.size ≤ P) (d0 d1 d2 d3 d4 : Value) :
    Kept B T a (((((w.setCell ⟨P, 0, none⟩ d0).setCell ⟨P, 1, none⟩ d1).setCell ⟨P, 2, none⟩ d2).setCell ⟨P, 3, none⟩ d3).setCell ⟨P, 4, none⟩ d4) :=
  ((((h.setCell_fresh (p := ⟨P, 0, none⟩) hB hP d0).setCell_fresh (p := ⟨P, 1, none⟩) hB hP d1).setCell_fresh (p := ⟨P, 2, none⟩) hB hP d2).setCell_fresh (p := ⟨P, 3, none⟩) hB hP d3).setCell_fresh (p := ⟨P, 4, none⟩) hB hP d4

theorem keptT_of_below {B B' : Nat} {T : Nat → Bool} {a w w' : World} (h : Below B' w w') (_hs : a.heap.size ≤ w.heap.size) (_hB : B ≤ a.heap.size) (hB' : B' = w.heap.size := by rfl) : Kept B T w w' := by
  subst hB'
  exact ⟨h.mono (by omega), fun k cs e fr hk _ => (h.block k (lt_of_block hk)).trans hk⟩
theorem fiveZ_set {w : World} {q : Nat} {cs : Array Value} {t : Nat} (h : w.heap[q]? = some (.cells cs t (0, 0))) (i : Nat) (u : Value) : (w.setCell ⟨q, i, none⟩ u).heap[q]? = some (.cells (cs.setIfInBounds i u) t (0, 0)) := heap_setCell_same h u

set_option maxRecDepth 100000 in
set_option maxHeartbeats 3200000 in
theorem eTake_any (B q : Nat) (bytes : List Nat) (l : List Bool) (w : World) (h : SrcL w B q bytes l) (hB : B ≤ w.heap.size) :
    Calls Try.prog 26 #[.pointer (some ⟨q, 0, none⟩)] w fun e w' => ∃ v, e = .returned (.tuple #[evV (tkEv l) v, .int .i64 (tkErr l)]) ∧ w'.ownsRow w.heap.size 57 4 v (tkEv l).ats.length ((tkEv l).ats.flatMap enc4) ∧ SrcL w' B q bytes (tkRest l) ∧ Kept B tkT w w' := by
  obtain ⟨p, hs, hl⟩ := h
  obtain ⟨P, hP⟩ : ∃ P, P = w.heap.size := ⟨_, rfl⟩
  obtain ⟨W, hW⟩ : ∃ W, W = w.alloc (.cells #[.int .i64 0, .int .i64 0, .int .i64 0, .string ⟨#[]⟩, .slice none 0 0] 35) := ⟨_, rfl⟩
  have hsW : SrcIs W B q bytes p := by rw [hW]; exact hs.below ((Below.refl w.heap.size w).alloc (Nat.le_refl _) _) (Nat.le_refl _)
  have hrW : W.heap[P]? = some (.cells #[.int .i64 0, .int .i64 0, .int .i64 0, .string ⟨#[]⟩, .slice none 0 0] 35 (0, 0)) := by rw [hW, hP]; exact heap_alloc_new _ _
  have hkW : Kept B tkT w W := by rw [hW]; exact (Kept.refl _ _ _).alloc hB _
  have CB := sBits_any B q 0 bytes p W hsW (by decide)
  rw [hl] at CB
  have he0 : bitsErr 0 l.length = 0 := bitsErr_ok (n := 0) (by omega) (by omega)
  have hr0 : bitsRest l 0 = l := by unfold bitsRest; rw [he0, if_pos rfl]; rfl
  rw [he0, hr0] at CB
  have HQL := hide hs.lt
  have HCB := hide CB; have HRW := hide hrW; have HKW := hide hkW; have HB := hide hB; have HW := hide hW; have HP := hide hP
  have hlen := hs.len
  have hl2 : l.length ≤ 8 * 140737488355328 := by rw [← hl, leftL_length]; omega
  have HL := hide hl2
  rw [← hP]
  clear CB hrW hkW hB hW hP hs hsW he0 hr0 hl hlen hl2
  go_enter Try.func26, Try.ntmps26
  go_wp2_with fail
  rw [← HW.out, ← HP.out]
  refine HCB.out.mono ?_
  rintro e w1 ⟨rfl, ⟨p1, hs1, hl1⟩, k1⟩
  obtain ⟨v1, hq1, ho1⟩ := hs1.row
  obtain ⟨c0, c1, c2⟩ := cell_of_three hq1
  have HS1 := hide hs1; have HL1 := hide hl1; have HQ1 := hide hq1; have HK1 := hide (HKW.out.trans (k1.mono (Nat.le_refl _) tkT_src)); have HR1 := hide (k1.typed _ _ _ _ HRW.out (by decide))
  clear hs1 hl1 hq1 ho1 k1
  go_wp2_with fail
  have HB1 := hide (Nat.le_trans HB.out HK1.out.below.size)
  have her := er_of_src HS1.out HQ1.out HB1.out
  rw [HL1.out] at her
  have hPW : P < w1.heap.size := lt_of_block HR1.out
  have HR2 := hide (heap_alloc_keeps HR1.out (.cells #[.bool true, v1, .int .i64 (p1 : Int), .int .i64 0] 86))
  have HS2 := hide (HS1.out.below ((Below.refl w1.heap.size w1).alloc (Nat.le_refl _) (.cells #[.bool true, v1, .int .i64 (p1 : Int), .int .i64 0] 86)) (Nat.le_refl _))
  have HK2 := hide (HK1.out.alloc HB1.out (.cells #[.bool true, v1, .int .i64 (p1 : Int), .int .i64 0] 86))
  have C := reEvent_any B w1.heap.size bytes (0, l) _ her (by simp; have := HB1.out; omega)
  have hwide : 8 * (qEvent (0, l)).1.ty.size ≤ l.length ∧ (∀ x ∈ (qEvent (0, l)).1.ats, 8 * x.name.size ≤ l.length ∧ 8 * x.s.size ≤ l.length) ∧ (qEvent (0, l)).1.ats.length ≤ 8 ∧ (qEvent (0, l)).2.2.length ≤ l.length := qEvent_wide (0, l)
  have hte : tkErr l = if (qEvent (0, l)).2.1 ≠ 0 then (((qEvent (0, l)).2.1 : Nat) : Int) else ckE (qEvent (0, l)).1 := rfl
  have htv : tkEv l = if tkErr l = 0 then (qEvent (0, l)).1 else evZ := rfl
  have htr : tkRest l = if tkErr l = 0 then (qEvent (0, l)).2.2 else l := rfl
  obtain ⟨ev, hev⟩ : ∃ ev, ev = (qEvent (0, l)).1 := ⟨_, rfl⟩
  obtain ⟨s2, hs2⟩ : ∃ s2, s2 = (qEvent (0, l)).2 := ⟨_, rfl⟩
  rw [← hev, ← hs2] at C hte
  rw [← hev] at htv
  rw [← hs2] at htr
  rw [← hev, ← hs2] at hwide
  have HWD := hide hwide; have HTE := hide hte; have HTV := hide htv; have HTR := hide htr
  obtain ⟨es, eq, et, ety, eats⟩ := ev
  unfold evV at C
  simp only at C
  have HC := hide C
  obtain ⟨Q2, hQ2⟩ : ∃ Q2, Q2 = w1.heap.size := ⟨_, rfl⟩
  obtain ⟨W1, hW1⟩ : ∃ W1, W1 = w1.alloc (.cells #[.bool true, v1, .int .i64 (p1 : Int), .int .i64 0] 86) := ⟨_, rfl⟩
  rw [← hQ2] at hPW
  rw [← hW1, ← hQ2] at HC
  rw [← hW1] at HR2 HS2 HK2
  have HW1 := hide hW1; have HQ2 := hide hQ2
  have HPW := hide hPW
  clear C hte htv htr hev hs2 hwide hQ2 hW1 her hPW c0 c1 c2
  rw [← HW1.out, ← HQ2.out]
  refine HC.out.mono ?_
  rintro e w2 ⟨v2, rfl, ho2, he2, k2⟩
  obtain ⟨ao, cap, rfl⟩ := own_slice ho2
  have HO2 := hide (ho2.alloc (.cells #[.int .i64 es, .int .i64 eq, .int .i64 et, .string ety, .slice ao eats.length cap] 35))
  have HE2 := hide (he2.alloc (.cells #[.int .i64 es, .int .i64 eq, .int .i64 et, .string ety, .slice ao eats.length cap] 35))
  have HK3 := hide ((HK2.out.trans (k2.mono (Nat.le_refl _) tkT_er)).alloc (Nat.le_trans HB1.out (Nat.le_trans (by rw [HW1.out]; simp) k2.below.size)) (.cells #[.int .i64 es, .int .i64 eq, .int .i64 et, .string ety, .slice ao eats.length cap] 35))
  have HR3 := hide (heap_alloc_keeps (k2.typed _ _ _ _ HR2.out (by decide)) (.cells #[.int .i64 es, .int .i64 eq, .int .i64 et, .string ety, .slice ao eats.length cap] 35))
  have HS3 := hide ((HS2.out.kept k2 (by decide) (by decide)).below ((Below.refl w2.heap.size w2).alloc (Nat.le_refl _) (.cells #[.int .i64 es, .int .i64 eq, .int .i64 et, .string ety, .slice ao eats.length cap] 35)) (Nat.le_refl _))
  have HX3 := hide (heap_alloc_new w2 (.cells #[.int .i64 es, .int .i64 eq, .int .i64 et, .string ety, .slice ao eats.length cap] 35))
  have HZ1 := hide (Nat.le_trans (Nat.le_of_lt (lt_of_block HR2.out)) k2.below.size)
  have ce := HE2.out.err
  clear ho2 he2 k2
  obtain ⟨c0, c1, c2, c3, c4⟩ := cell_of_five HX3.out
  obtain ⟨r0, r1, r2, r3, r4⟩ := cell_of_five HR3.out
  have g0 := free_cells_of HR3.out 0; have g1 := free_cells_of HR3.out 1; have g2 := free_cells_of HR3.out 2; have g3 := free_cells_of HR3.out 3; have g4 := free_cells_of HR3.out 4
  by_cases h0 : s2.1 = 0
  · rw [h0] at ce
    have HH0 := hide h0
    clear h0
    have hwd := HWD.out
    have hav := Av.of_own HO2.out (fun x hx => by
      have := hwd.2.1 x hx
      have := HL.out
      unfold maxLen; omega) (by have := hwd.2.2.1; simp only at this ⊢; omega)
    have CK := eCheck_any ⟨es, eq, et, ety, eats⟩ _ ao eats.length cap _ hav (Nat.le_refl _) (by have := hwd.1; have := HL.out; unfold maxLen; simp only at *; omega)
    unfold evV at CK
    have hte := HTE.out
    rw [if_neg (by rw [HH0.out]; simp)] at hte
    have hreader := HE2.out.open3
    obtain ⟨cE, hcE⟩ : ∃ cE, cE = ckE ⟨es, eq, et, ety, eats⟩ := ⟨_, rfl⟩
    rw [← hcE] at CK hte
    have HCK := hide CK; have HTE2 := hide hte; have HRD := hide hreader
    clear CK hte hcE hav hwd hreader
    go_wp2_with fail
    refine HCK.out.mono ?_
    rintro e w4 ⟨rfl, hb4⟩
    have hR4 := (hb4.block P (lt_of_block HR3.out)).trans HR3.out
    have hX4 := (hb4.block w2.heap.size (lt_of_block HX3.out)).trans HX3.out
    have HS4 := hide (HS3.out.below hb4 (Nat.le_refl _))
    have HO4 := hide (ownsRow_below HO2.out hb4 (Nat.le_refl _))
    have HK4 := hide (HK3.out.trans (keptT_of_below (T := tkT) (B := B) hb4 HK3.out.below.size HB.out))
    obtain ⟨u, p2, hu, hur, hup, hul⟩ := HRD.out
    obtain ⟨au, cu, rfl⟩ := own_slice hur
    have hU4 := (hb4.block Q2 (lt_of_block hu)).trans hu
    have HUR := hide (ownsRow_below hur hb4 (Nat.le_refl _)); have HUP := hide hup; have HUL := hide hul
    clear c0 c1 c2 c3 c4 r0 r1 r2 r3 r4 g0 g1 g2 g3 g4 ce hb4 hu hur hup hul
    obtain ⟨c0, c1, c2, c3, c4⟩ := cell_of_five hX4
    obtain ⟨r0, r1, r2, r3, r4⟩ := cell_of_five hR4
    have g0 := free_cells_of hR4 0; have g1 := free_cells_of hR4 1; have g2 := free_cells_of hR4 2; have g3 := free_cells_of hR4 3; have g4 := free_cells_of hR4 4
    have HR4 := hide hR4; have HX4 := hide hX4; have HU4 := hide hU4
    by_cases hc0 : cE = 0
    · subst hc0
      obtain ⟨u0, u1, u2, u3⟩ := four_cells_of hU4
      obtain ⟨vq, hq4, hqo⟩ := HS4.out.row
      obtain ⟨q0, q1, q2⟩ := cell_of_three hq4
      have f0 := free_cells_of hq4 0; have f1 := free_cells_of hq4 1; have f2 := free_cells_of hq4 2
      clear hR4 hX4 hU4 hq4 hqo
      have n1 : ¬ q = P := by have := HQL.out; have := HP.out; omega
      have n2 : ¬ P = q := by have := HQL.out; have := HP.out; omega
      have n3 : ¬ q = w2.heap.size := by have := HQL.out; have := HZ1.out; have := HP.out; omega
      have n4 : ¬ w2.heap.size = q := by have := HQL.out; have := HZ1.out; have := HP.out; omega
      go_wp2
      have hfol := HS4.out.follow HUR.out HUP.out
      have hr5 := hfol.2.typed _ _ _ _ HR4.out (by decide)
      have ho5 := hfol.2.ownsRow HO4.out (by decide)
      have hz := cell_of_five (five_set hr5 (.int .i64 es) (.int .i64 eq) (.int .i64 et) (.string ety) (.slice ao eats.length cap))
      refine bodyPost_ret (v := .tuple #[.agg #[.int .i64 es, .int .i64 eq, .int .i64 et, .string ety, .slice ao eats.length cap], .int .i64 0]) (by simp [results, Try.results26, go_sem, hz]) rfl ?_
      have h00 := HTE2.out
      have htv := HTV.out; have htr := HTR.out
      rw [if_pos h00] at htv htr
      rw [htv, htr, h00]
      refine ⟨.slice ao eats.length cap, rfl, ?_, ⟨p2, hfol.1.kept (kept_five hr5 _ _ _ _ _) (by decide) (by decide), HUL.out⟩, ?_⟩
      · exact ownsRow_lower (own_five ho5 hr5 (by decide) _ _ _ _ _) (by rw [HP.out]; exact HK2.out.below.size)
      · exact (HK4.out.trans (hfol.2.mono (Nat.le_refl _) tkT_src)).five_fresh (by rw [HP.out]; exact HB.out) (by rw [HP.out]; exact Nat.le_refl _) _ _ _ _ _
    · have b1 : (cE != 0) = true := by simp [hc0]
      have HC0 := hide hc0
      clear hR4 hX4 hU4 hc0
      go_wp2
      have hz := cell_of_five (five_set HR4.out (.int .i64 0) (.int .i64 0) (.int .i64 0) (.string ⟨#[]⟩) (.slice none 0 0))
      refine bodyPost_ret (v := .tuple #[.agg #[.int .i64 0, .int .i64 0, .int .i64 0, .string ⟨#[]⟩, .slice none 0 0], .int .i64 cE]) (by simp [results, Try.results26, go_sem, hz]) rfl ?_
      have hne : tkErr l ≠ 0 := by rw [HTE2.out]; exact HC0.out
      rw [tkEv_no hne, tkRest_no hne, HTE2.out]
      exact ⟨.slice none 0 0, rfl, World.ownsRow_nil _ _ _ _, ⟨p1, HS4.out.kept (kept_five HR4.out _ _ _ _ _) (by decide) (by decide), HL1.out⟩, HK4.out.five_fresh (by rw [HP.out]; exact HB.out) (by rw [HP.out]; exact Nat.le_refl _) _ _ _ _ _⟩
  · have b1 : (((s2.1 : Nat) : Int) != 0) = true := by simp; omega
    have HH0 := hide h0
    obtain ⟨E, hE⟩ : ∃ E : Int, E = ((s2.1 : Nat) : Int) := ⟨_, rfl⟩
    rw [← hE] at ce b1
    have HEE := hide hE
    have hpP : ¬ Q2 = P := by have := HPW.out; omega
    have hPp : ¬ P = Q2 := by have := HPW.out; omega
    clear h0 hE
    go_wp2
    go_region
    go_wp2
    have hz := cell_of_five (five_set HR3.out (.int .i64 0) (.int .i64 0) (.int .i64 0) (.string ⟨#[]⟩) (.slice none 0 0))
    refine bodyPost_ret (v := .tuple #[.agg #[.int .i64 0, .int .i64 0, .int .i64 0, .string ⟨#[]⟩, .slice none 0 0], .int .i64 E]) (by simp [results, Try.results26, go_sem, hz]) rfl ?_
    have hne : tkErr l = E := by rw [HTE.out, if_pos HH0.out, HEE.out]
    have hne2 : tkErr l ≠ 0 := by rw [hne, HEE.out]; have := HH0.out; omega
    rw [tkEv_no hne2, tkRest_no hne2, hne]
    exact ⟨.slice none 0 0, rfl, World.ownsRow_nil _ _ _ _, ⟨p1, (HS3.out.kept (kept_five HR3.out _ _ _ _ _) (by decide) (by decide)).drew, HL1.out⟩, (HK3.out.five_fresh (by rw [HP.out]; exact HB.out) (by rw [HP.out]; exact Nat.le_refl _) _ _ _ _ _).drew⟩

end Go.Proofs.Ythjhbnfedelniaa
