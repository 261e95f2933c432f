/- Joined: Wq0, Ap0, Arb0. -/
import Derived.Test.YtpbloplbpkedcaaJrh
import Derived.Test.YtpbloplbpkedcaaJre
import Derived.SizedLaws
import Derived.ProofKit
import Derived.OpenShut
import Derived.ShutString
import Derived.Deep.Slices
import Derived.Deep.Fields
/- The walk of MatchReads. -/
namespace Go.Proofs.Ytpbloplbpkedcaa
open Go Go.RowKit

/-- How things stand within MatchReads: two boxes of partial matches, a source, the document's source. -/
structure Rq0 (w0 : World) (P X Y q1 q2 : Nat) (vx vy : Value) (xs ys : List Bd) (b : List Nat) (l1 l2 : List Bool) (w : World) : Prop where
  below : Below P w0 w
  size : P ≤ w.heap.size
  hX : P ≤ X
  hY : P ≤ Y
  ne : X ≠ Y
  bx : w.heap[X]? = some (.cells #[vx] 43 (0, 0))
  by_ : w.heap[Y]? = some (.cells #[vy] 43 (0, 0))
  ox : BsO w P vx xs
  oy : BsO w P vy ys
  src : SrcL w P q1 b l1
  ref : RefIs w P q2 l2
theorem Rq0.call {w0 : World} {P X Y q1 q2 : Nat} {vx vy : Value} {xs ys : List Bd} {b : List Nat} {l1 l2 : List Bool} {w w' : World} (h : Rq0 w0 P X Y q1 q2 vx vy xs ys b l1 l2 w) (hb : Below w.heap.size w w') : Rq0 w0 P X Y q1 q2 vx vy xs ys b l1 l2 w' :=
  ⟨h.below.trans (hb.mono h.size), Nat.le_trans h.size hb.size, h.hX, h.hY, h.ne, (hb.block X (lt_of_block h.bx)).trans h.bx, (hb.block Y (lt_of_block h.by_)).trans h.by_, h.ox.call hb, h.oy.call hb, h.src.below hb (Nat.le_refl _), h.ref.below hb (Nat.le_refl _)⟩
theorem Rq0.takeS {w0 : World} {P X Y q1 q2 : Nat} {vx vy : Value} {xs ys : List Bd} {b : List Nat} {l1 l1' l2 : List Bool} {w w' : World} {T : Nat → Bool} (h : Rq0 w0 P X Y q1 q2 vx vy xs ys b l1 l2 w) (hk : Kept P T w w') (hT : T 43 = false ∧ T 67 = false ∧ T 4 = false ∧ T 91 = false ∧ T 78 = false) (hs : SrcL w' P q1 b l1') : Rq0 w0 P X Y q1 q2 vx vy xs ys b l1' l2 w' :=
  ⟨h.below.trans hk.below, Nat.le_trans h.size hk.below.size, h.hX, h.hY, h.ne, hk.typed _ _ _ _ h.bx hT.1, hk.typed _ _ _ _ h.by_ hT.1, h.ox.keptT hk hT.2.2.2.1 hT.2.2.2.2, h.oy.keptT hk hT.2.2.2.1 hT.2.2.2.2, hs, h.ref.kept hk hT.2.1 hT.2.2.1⟩
theorem Rq0.takeR {w0 : World} {P X Y q1 q2 : Nat} {vx vy : Value} {xs ys : List Bd} {b : List Nat} {l1 l2 l2' : List Bool} {w w' : World} (h : Rq0 w0 P X Y q1 q2 vx vy xs ys b l1 l2 w) (hk : KeptR P q2 w w') (hr : RefIs w' P q2 l2') : Rq0 w0 P X Y q1 q2 vx vy xs ys b l1 l2' w' :=
  ⟨h.below.trans hk.below, Nat.le_trans h.size hk.below.size, h.hX, h.hY, h.ne, hk.typed _ _ _ _ h.bx (by decide), hk.typed _ _ _ _ h.by_ (by decide), h.ox.keptT hk.kept (by decide) (by decide), h.oy.keptT hk.kept (by decide) (by decide), h.src.kept hk.kept (by decide) (by decide), hr⟩
theorem Rq0.setX {w0 : World} {P X Y q1 q2 : Nat} {vx vy : Value} {xs ys : List Bd} {b : List Nat} {l1 l2 : List Bool} {w : World} (h : Rq0 w0 P X Y q1 q2 vx vy xs ys b l1 l2 w) (d : Value) (ds : List Bd) (hd : BsO w P d ds) : Rq0 w0 P X Y q1 q2 d vy ds ys b l1 l2 (w.setCell ⟨X, 0, none⟩ d) := by
  have hk := one_set h.bx d
  have hn : Y ≠ X := fun e => h.ne e.symm
  exact ⟨h.below.setCell (p := ⟨X, 0, none⟩) h.hX _, by simpa using h.size, h.hX, h.hY, h.ne, heap_setCell_same h.bx d, heap_setCell_far (p := ⟨X, 0, none⟩) h.by_ hn _, hd.setP h.bx d, h.oy.setP h.bx d, h.src.kept hk (by decide) (by decide), h.ref.kept hk (by decide) (by decide)⟩
theorem Rq0.setY {w0 : World} {P X Y q1 q2 : Nat} {vx vy : Value} {xs ys : List Bd} {b : List Nat} {l1 l2 : List Bool} {w : World} (h : Rq0 w0 P X Y q1 q2 vx vy xs ys b l1 l2 w) (d : Value) (ds : List Bd) (hd : BsO w P d ds) : Rq0 w0 P X Y q1 q2 vx d xs ds b l1 l2 (w.setCell ⟨Y, 0, none⟩ d) := by
  have hk := one_set h.by_ d
  have hn : X ≠ Y := h.ne
  exact ⟨h.below.setCell (p := ⟨Y, 0, none⟩) h.hY _, by simpa using h.size, h.hX, h.hY, h.ne, heap_setCell_far (p := ⟨Y, 0, none⟩) h.bx hn _, heap_setCell_same h.by_ d, h.ox.setP h.by_ d, hd.setP h.by_ d, h.src.kept hk (by decide) (by decide), h.ref.kept hk (by decide) (by decide)⟩
theorem sameQ (n : Nat) (ao : Option Addr) (cap : Nat) (ao2 : Option Addr) (cap2 : Nat) (m : List Bd) (u : World) {P P2 : Nat} (h1 : BsO u P (.slice ao n cap) m) (h2 : BsO u P2 (.slice ao2 n cap2) m) :
    Calls Try.prog 25 #[.agg #[.slice ao n cap], .agg #[.slice ao2 n cap2]] u fun e w' => e = .returned (.bool true) ∧ Below u.heap.size u w' := by
  have := r10Same_any u.heap.size u.heap.size ao n cap ao2 n cap2 m m u h1.bsv h2.bsv (Nat.le_refl _) (Nat.le_refl _)
  rwa [decide_eq_true rfl] at this

set_option maxRecDepth 100000 in
set_option maxHeartbeats 6400000 in
theorem mreads_walk (B : Nat) (v : Value) (b : List Nat) (skip : Nat) (w : World) (hb : Bv w B v b) (hB : B ≤ w.heap.size) (hbig : b.length ≤ 1048576) (hsk : skip < 256) :
    Calls Try.prog 6 #[v, .int .u8 (skip : Int)] w fun e w' => e = .returned (.bool true) ∧ Below w.heap.size w w' := by
  obtain ⟨ao, cap, rfl, _, _, _, _⟩ := hb.row
  have C1 := fun (w' : World) (h : Bv w' B (.slice ao b.length cap) b) => mParse_any ao cap b w' (by omega) hb.small h.bytesAt'
  have C2 := fun (w' : World) (h : Bv w' B (.slice ao b.length cap) b) => r10Parse_any ao cap b w' hbig hb.small h.bytesAt'
  have C3 := fun (w' : World) (h : Bv w' B (.slice ao b.length cap) b) => newSource_any ao cap b w' (by omega) hb.small h.bytesAt'
  have C4 := fun (w' : World) (h : Bv w' B (.slice ao b.length cap) b) => rNew_any ao cap b w' hbig hb.small h.bytesAt'
  have hlen : (bitsAll b).length = 8 * b.length := bitsAll_length b
  obtain ⟨l, hl⟩ : ∃ l, l = bitsAll b := ⟨_, rfl⟩
  rw [← hl] at C1 C2 C4 hlen
  generalize ppErr l = pe at C1 C2
  generalize ppL l = pl at C1 C2
  obtain ⟨N, hN⟩ : ∃ N, N = b.length := ⟨_, rfl⟩
  rw [← hN] at C1 C2 C3 C4 hlen hbig hb ⊢
  obtain ⟨P, hP⟩ : ∃ P, P = w.heap.size := ⟨_, rfl⟩
  have HC1 := Lib.hid C1; have HC2 := Lib.hid C2; have HC3 := Lib.hid C3; have HC4 := Lib.hid C4; have HV := Lib.hid hb; have HP := Lib.hid hP; have HL := Lib.hid hl; have HLen := Lib.hid hlen; have HB := Lib.hid hB; have HN := Lib.hid hN; have HBig := Lib.hid hbig
  rw [← hP]
  clear C1 C2 C3 C4 hb hP hl hlen hB hN hbig
  go_enter Try.func6, Try.ntmps6
  go_wp2_with fail
  refine (HC1.out w HV.out).mono ?_
  rintro e w1 ⟨v1, rfl, ho1, b1⟩
  obtain ⟨ao1, cap1, rfl⟩ := ho1.shape
  obtain ⟨np, hnp⟩ : ∃ np, np = pl.length := ⟨_, rfl⟩
  rw [← hnp] at ho1 ⊢
  have HB1 := Lib.hid (b1.alloc b1.size (.cells #[.slice ao1 np cap1] 43))
  have HX1 := Lib.hid (heap_alloc_new w1 (.cells #[.slice ao1 np cap1] 43))
  have HO1 := Lib.hid (ho1.call ((Below.refl w1.heap.size w1).alloc (Nat.le_refl _) (.cells #[.slice ao1 np cap1] 43)))
  have HS1 := Lib.hid (show w.heap.size ≤ w1.heap.size from b1.size)
  have HNP := Lib.hid hnp
  clear ho1 b1 hnp
  go_wp2_with fail
  refine (HC2.out _ (HV.out.below HB1.out HB.out)).mono ?_
  rintro e w2 ⟨v2, rfl, ho2, b2⟩
  obtain ⟨ao2, cap2, rfl⟩ := ho2.shape
  rw [← HNP.out] at ho2 ⊢
  have HB2 := Lib.hid (HB1.out.trans ((b2.alloc b2.size (.cells #[.slice ao2 np cap2] 43)).mono (by simp; exact Nat.le_succ_of_le HS1.out)))
  have HX2 := Lib.hid (heap_alloc_keeps ((b2.block _ (lt_of_block HX1.out)).trans HX1.out) (.cells #[.slice ao2 np cap2] 43))
  have HY2 := Lib.hid (heap_alloc_new w2 (.cells #[.slice ao2 np cap2] 43))
  have HO12 := Lib.hid ((HO1.out.call b2).call ((Below.refl w2.heap.size w2).alloc (Nat.le_refl _) (.cells #[.slice ao2 np cap2] 43)))
  have HO2 := Lib.hid (ho2.call ((Below.refl w2.heap.size w2).alloc (Nat.le_refl _) (.cells #[.slice ao2 np cap2] 43)))
  have hXY : w1.heap.size < w2.heap.size := by have := b2.size; simp at this; omega
  have HXY := Lib.hid hXY
  have HS2 := Lib.hid (show w.heap.size ≤ w1.heap.size + 1 by have := HS1.out; omega)
  have HO2' : Hid (BsO (w2.alloc (.cells #[.slice ao2 np cap2] 43)) w.heap.size (.slice ao2 np cap2) pl) := Lib.hid (HO2.out.lower (by simp; exact HS2.out))
  obtain ⟨X, hX⟩ : ∃ X, X = w1.heap.size := ⟨_, rfl⟩
  obtain ⟨Y, hY⟩ : ∃ Y, Y = w2.heap.size := ⟨_, rfl⟩
  rw [← hX] at HX2 HXY
  rw [← hY] at HY2 HXY
  have HPX := Lib.hid (show P ≤ X by rw [HP.out, hX]; exact HS1.out)
  have HX := Lib.hid hX; have HY := Lib.hid hY
  clear ho2 b2 hXY hX hY HO2
  go_wp2_with fail
  rw [← HX.out, ← HY.out]
  refine (HC3.out _ (HV.out.below HB2.out HB.out)).mono ?_
  rintro e w3 ⟨q1, rfl, hs3, b3⟩
  have hsz3 : w.heap.size ≤ (w2.alloc (.cells #[.slice ao2 np cap2] 43)).heap.size := HB2.out.size
  have HB3 := Lib.hid (HB2.out.trans (b3.mono hsz3))
  have HX3 := Lib.hid ((b3.block _ (lt_of_block HX2.out)).trans HX2.out)
  have HY3 := Lib.hid ((b3.block _ (lt_of_block HY2.out)).trans HY2.out)
  have HO13 := Lib.hid (HO12.out.call b3)
  have HO23 := Lib.hid (HO2'.out.call b3)
  have HS3 := Lib.hid (show SrcL w3 P q1 b l from SrcL.lower ⟨0, hs3, by rw [HL.out]; simp [leftL]⟩ (by rw [HP.out]; exact hsz3))
  clear hs3 b3 hsz3
  go_wp2_with fail
  refine (HC4.out _ (HV.out.below HB3.out HB.out)).mono ?_
  rintro e w4 ⟨q2, rfl, hr4, b4⟩
  have hsz4 : w.heap.size ≤ w3.heap.size := HB3.out.size
  have HR := Lib.hid (show Rq0 w P X Y q1 q2 (.slice ao1 np cap1) (.slice ao2 np cap2) pl pl b l l w4 from
    ⟨by rw [HP.out]; exact HB3.out.trans (b4.mono hsz4), by rw [HP.out]; exact Nat.le_trans hsz4 b4.size, HPX.out, Nat.le_of_lt (Nat.lt_of_le_of_lt HPX.out HXY.out), Nat.ne_of_lt HXY.out, (b4.block _ (lt_of_block HX3.out)).trans HX3.out, (b4.block _ (lt_of_block HY3.out)).trans HY3.out, by rw [HP.out]; exact HO13.out.call b4, by rw [HP.out]; exact HO23.out.call b4, HS3.out.below b4 (Nat.le_refl _), hr4.lower (by rw [HP.out]; exact hsz4)⟩)
  clear hr4 b4 hsz4
  have hpe2 : (pe != pe) = false := by simp
  go_wp2_with fail
  refine (begun10_any _).mono ?_
  rintro e w5 ⟨rfl, b5⟩
  have HR5 := Lib.hid (HR.out.call b5)
  have HCS := Lib.hid (sameQ np ao1 cap1 ao2 cap2 pl w5 HR5.out.ox HR5.out.oy)
  have c0 := cells_one0 HR5.out.bx
  have d0 := cells_one0 HR5.out.by_
  clear b5
  go_wp2_with fail
  refine HCS.out.mono ?_
  rintro e w6 ⟨rfl, b6⟩
  have HR6 := Lib.hid (HR5.out.call b6)
  clear b6 c0 d0
  have hsm : (0 : Int) ≤ (skip : Int) ∧ (skip : Int) ≤ 255 := by omega
  go_wp2_with fail
  obtain ⟨m, hm⟩ : ∃ m : Nat, m = skip % 8 := ⟨_, rfl⟩
  have hmi : (skip : Int) % 8 = (m : Int) := by omega
  have hm8 : m < 8 := by omega
  rw [hmi]
  obtain ⟨p, hs6, hp6⟩ := HR6.out.src
  have CB := sBits_any P q1 (m : Int) b p w6 hs6 (by simp [Lit.wf, IntKind.min, IntKind.max, IntKind.signed, IntKind.bits]; omega)
  rw [hp6] at CB
  have hlen := HLen.out
  have hN := HBig.out
  clear hs6 hp6 hm hmi hsm
  by_cases hgt : 8 * N < m
  · have he : bitsErr (m : Int) l.length = 10 := bitsErr_ends (by omega) (by omega)
    rw [he] at CB
    have HCB := Lib.hid CB
    clear CB he hlen
    refine HCB.out.mono ?_
    rintro e w7 ⟨rfl, ⟨p7, hs7, hl7⟩, k7⟩
    have HR7 := Lib.hid (HR6.out.takeS k7.kept ⟨by decide, by decide, by decide, by decide, by decide⟩ ⟨p7, hs7, hl7⟩)
    clear hs7 hl7 k7
    go_wp2
    go_ret
    exact ⟨by simp; omega, by rw [HP.out] at HR7 ⊢; exact HR7.out.below⟩
  · have he : bitsErr (m : Int) l.length = 0 := bitsErr_ok (by omega) (by omega)
    have hr : bitsRest l (m : Int) = l.drop m := by unfold bitsRest; rw [he, if_pos rfl]; rfl
    rw [he, hr] at CB
    have HCB := Lib.hid CB
    clear CB he hr
    refine HCB.out.mono ?_
    rintro e w7 ⟨rfl, ⟨p7, hs7, hl7⟩, k7⟩
    have HR7 := Lib.hid (HR6.out.takeS k7.kept ⟨by decide, by decide, by decide, by decide, by decide⟩ ⟨p7, hs7, hl7⟩)
    clear hs7 hl7 k7
    have hfree := HR7.out.ref.free
    have hkeep := HR7.out.ref
    have HREF := Lib.hid hkeep
    obtain ⟨l', hl'⟩ : ∃ l', l' = l.drop m := ⟨_, rfl⟩
    have HL' := Lib.hid hl'
    rw [← hl'] at HR7
    have CT := fun (w' : World) (h : SrcL w' P q1 b l') (hB : P ≤ w'.heap.size) => mTake_any P q1 b l' w' h hB
    have CR := fun (w' : World) (h : RefIs w' P q2 l') (hB : P ≤ w'.heap.size) => r10Take_any P q2 l' w' h hB
    generalize tpErr l' = te at CT CR
    generalize tpL l' = tl at CT CR
    generalize tpRest l' = tr at CT CR
    have HCT := Lib.hid CT; have HCR := Lib.hid CR
    have hsl : ∀ v, ((∃ cap bb o, w7.cell? ⟨q2, 0, none⟩ = some (.slice (some ⟨bb, o, none⟩) l.length cap) ∧ ((cap = m ∧ v = .slice (some ⟨bb, o, none⟩) (l.length - m) (cap - m)) ∨ v = .slice (some ⟨bb, o + m, none⟩) (l.length - m) (cap - m))) ∨ (l = [] ∧ m = 0 ∧ v = .slice none 0 0)) → m ≤ l.length → Rq0 w P X Y q1 q2 (.slice ao1 np cap1) (.slice ao2 np cap2) pl pl b l' l' (w7.setCell ⟨q2, 0, none⟩ v) := fun v hv hml => by
      refine HR7.out.takeR (HREF.out.keeps v) ?_
      rw [HL'.out]
      rcases hv with ⟨cap, bb, o, h0, hv⟩ | ⟨rfl, rfl, rfl⟩
      · exact HREF.out.moved m hml h0 v hv
      · obtain ⟨ao', cap', hq, hc', hn', hr'⟩ := HREF.out.row
        refine ⟨HREF.out.from_, by simp, none, 0, ?_, by simp, fun _ => rfl, fun a ha => by cases ha⟩
        rw [one_setCell hq]; rfl
    have HSL := Lib.hid hsl
    have nXY : ¬ X = Y := HR7.out.ne
    have nYX : ¬ Y = X := fun e => HR7.out.ne e.symm
    clear hsl CT CR hl'
    have HM := Lib.hid (show m ≤ l.length by have := HLen.out; omega)
    rcases hkeep.open with ⟨hl0, ao, cap, h0, hn0, hsp⟩ | ⟨bb, o, cap, h0, hcap, hpos, hc⟩
    · obtain rfl : m = 0 := by have := HM.out; rw [hl0] at this; simpa using this
      have HLZ := Lib.hid hl0
      have H0 := Lib.hid h0
      cases ao with
      | none =>
        obtain rfl := hn0 rfl
        clear hn0 hsp hl0 hlen hkeep hgt
        have HR8 := Lib.hid (HSL.out (.slice none 0 0) (.inr ⟨HLZ.out, rfl, rfl⟩) (Nat.zero_le _))
        go_wp2_with fail
        obtain ⟨W8, hW8⟩ : ∃ W8, W8 = w7.setCell ⟨q2, 0, none⟩ (.slice none 0 0) := ⟨_, rfl⟩
        rw [← hW8]
        rw [← hW8] at HR8
        clear hW8 h0 hfree
        refine (HCT.out W8 HR8.out.src HR8.out.size).mono ?_
        rintro e w9 ⟨v9, rfl, ho9, hs9, k9⟩
        obtain ⟨ao9, cap9, rfl⟩ := ho9.shape
        obtain ⟨nt, hnt⟩ : ∃ nt, nt = tl.length := ⟨_, rfl⟩
        rw [← hnt] at ho9 ⊢
        have HR9 := Lib.hid (HR8.out.takeS k9 ⟨by decide, by decide, by decide, by decide, by decide⟩ hs9)
        have HO9 := Lib.hid (ho9.lower HR8.out.size)
        have c0 := cells_one0 HR9.out.bx
        have f0 := free_cells_of HR9.out.bx 0
        have HR10 := Lib.hid (HR9.out.setX (.slice ao9 nt cap9) tl HO9.out)
        have HNT := Lib.hid hnt
        clear ho9 hs9 k9 hnt
        go_wp2_with fail
        clear c0 f0
        refine (HCR.out _ HR10.out.ref HR10.out.size).mono ?_
        rintro e w11 ⟨v11, rfl, ho11, hr11, k11⟩
        obtain ⟨ao11, cap11, rfl⟩ := ho11.shape
        rw [← HNT.out] at ho11 ⊢
        have HR11 := Lib.hid (HR10.out.takeR k11 hr11)
        have HO11 := Lib.hid (ho11.lower HR10.out.size)
        have d0 := cells_one0 HR11.out.by_
        have f0 := free_cells_of HR11.out.by_ 0
        have HR12 := Lib.hid (HR11.out.setY (.slice ao11 nt cap11) tl HO11.out)
        obtain ⟨W12, hW12⟩ : ∃ W12, W12 = w11.setCell ⟨Y, 0, none⟩ (.slice ao11 nt cap11) := ⟨_, rfl⟩
        rw [← hW12] at HR12
        have HCS := Lib.hid (fun (w' : World) (hb : Below W12.heap.size W12 w') => sameQ nt ao9 cap9 ao11 cap11 tl w' (HR12.out.ox.call hb) (HR12.out.oy.call hb))
        obtain ⟨pp, hsp12, hlp12⟩ := HR12.out.src
        have CL := fun (w' : World) (hb : Below W12.heap.size W12 w') => sLeft_any P q1 b pp w' (hsp12.below hb (Nat.le_refl _))
        have hll : 8 * b.length - pp = tr.length := by rw [← hlp12, leftL_length]
        rw [hll] at CL
        obtain ⟨ar, cr, hqr, hrc, _⟩ := HR12.out.ref.row
        have HCL := Lib.hid CL
        obtain ⟨K, hK⟩ : ∃ K, K = tr.length := ⟨_, rfl⟩
        rw [← hK] at HCL hqr hrc
        have hrl := HR12.out.ref.len
        rw [← hK] at hrl
        have HF := Lib.hid (show ∀ (w' : World), Below W12.heap.size W12 w' → w'.cell? ⟨X, 0, none⟩ = some (.slice ao9 nt cap9) ∧ w'.cell? ⟨Y, 0, none⟩ = some (.slice ao11 nt cap11) ∧ w'.cell? ⟨q2, 0, none⟩ = some (.slice ar K cr) from fun w' hb =>
          ⟨cells_one0 ((hb.block X (lt_of_block HR12.out.bx)).trans HR12.out.bx), cells_one0 ((hb.block Y (lt_of_block HR12.out.by_)).trans HR12.out.by_), cell_of_one ((hb.block q2 (lt_of_block hqr)).trans hqr)⟩)
        have HBX := Lib.hid (Below.refl W12.heap.size W12)
        have HW12 := Lib.hid hW12
        have hte2 : (te == te) = true := by simp
        clear ho11 hr11 k11 CL hsp12 hlp12 hll hqr hrc hK hW12
        go_wp2_with fail
        clear d0 f0
        rw [← HW12.out]
        obtain ⟨c0, d0, g0⟩ := HF.out _ HBX.out
        go_region_held3 (fun w' => w'.cell? ⟨X, 0, none⟩ = some (.slice ao9 nt cap9) ∧ w'.cell? ⟨Y, 0, none⟩ = some (.slice ao11 nt cap11) ∧ w'.cell? ⟨q2, 0, none⟩ = some (.slice ar K cr))
          (first | (with_reducible exact ⟨c0, d0, g0⟩) | go_keep)
          (first
            | (go_at_call 25; (with_reducible refine (HCS.out _ (by first | exact HBX.out | exact HBX.out.drew)).mono ?_); rintro e w1 ⟨rfl, hb⟩; have HBX := Lib.hid ((show Below W12.heap.size W12 _ by first | exact HBX.out | exact HBX.out.drew).trans (hb.mono (by first | exact HBX.out.size | exact HBX.out.drew.size))); clear hb c0 d0 g0; obtain ⟨c0, d0, g0⟩ := HF.out _ HBX.out)
            | (go_at_call 29; (with_reducible refine (HCL.out _ (by first | exact HBX.out | exact HBX.out.drew)).mono ?_); rintro e w1 ⟨rfl, nn, hw1⟩; have HBX := Lib.hid (show Below W12.heap.size W12 w1 by rw [hw1]; exact Below.drewN' HBX.out nn); clear hw1 c0 d0 g0; obtain ⟨c0, d0, g0⟩ := HF.out _ HBX.out))
        all_goals go_wp2
        all_goals go_ret
        all_goals exact ⟨rfl, by have := HR12.out.below.trans (HBX.out.mono HR12.out.size); exact this⟩
      | some a =>
        obtain ⟨b8, o8, sp⟩ := a
        obtain rfl : sp = none := hsp _ rfl
        clear hn0 hsp hlen hkeep hgt
        by_cases hc0 : cap = 0
        · subst hc0
          have HR8 := Lib.hid (HSL.out (.slice (some ⟨b8, o8, none⟩) 0 0) (.inl ⟨0, b8, o8, by rw [hl0]; exact H0.out, .inl ⟨rfl, by rw [hl0]; rfl⟩⟩) (Nat.zero_le _))
          clear hl0
          go_wp2_with fail
          obtain ⟨W8, hW8⟩ : ∃ W8, W8 = w7.setCell ⟨q2, 0, none⟩ (.slice (some ⟨b8, o8, none⟩) 0 0) := ⟨_, rfl⟩
          rw [← hW8]
          rw [← hW8] at HR8
          clear hW8 h0 hfree
          refine (HCT.out W8 HR8.out.src HR8.out.size).mono ?_
          rintro e w9 ⟨v9, rfl, ho9, hs9, k9⟩
          obtain ⟨ao9, cap9, rfl⟩ := ho9.shape
          obtain ⟨nt, hnt⟩ : ∃ nt, nt = tl.length := ⟨_, rfl⟩
          rw [← hnt] at ho9 ⊢
          have HR9 := Lib.hid (HR8.out.takeS k9 ⟨by decide, by decide, by decide, by decide, by decide⟩ hs9)
          have HO9 := Lib.hid (ho9.lower HR8.out.size)
          have c0 := cells_one0 HR9.out.bx
          have f0 := free_cells_of HR9.out.bx 0
          have HR10 := Lib.hid (HR9.out.setX (.slice ao9 nt cap9) tl HO9.out)
          have HNT := Lib.hid hnt
          clear ho9 hs9 k9 hnt
          go_wp2_with fail
          clear c0 f0
          refine (HCR.out _ HR10.out.ref HR10.out.size).mono ?_
          rintro e w11 ⟨v11, rfl, ho11, hr11, k11⟩
          obtain ⟨ao11, cap11, rfl⟩ := ho11.shape
          rw [← HNT.out] at ho11 ⊢
          have HR11 := Lib.hid (HR10.out.takeR k11 hr11)
          have HO11 := Lib.hid (ho11.lower HR10.out.size)
          have d0 := cells_one0 HR11.out.by_
          have f0 := free_cells_of HR11.out.by_ 0
          have HR12 := Lib.hid (HR11.out.setY (.slice ao11 nt cap11) tl HO11.out)
          obtain ⟨W12, hW12⟩ : ∃ W12, W12 = w11.setCell ⟨Y, 0, none⟩ (.slice ao11 nt cap11) := ⟨_, rfl⟩
          rw [← hW12] at HR12
          have HCS := Lib.hid (fun (w' : World) (hb : Below W12.heap.size W12 w') => sameQ nt ao9 cap9 ao11 cap11 tl w' (HR12.out.ox.call hb) (HR12.out.oy.call hb))
          obtain ⟨pp, hsp12, hlp12⟩ := HR12.out.src
          have CL := fun (w' : World) (hb : Below W12.heap.size W12 w') => sLeft_any P q1 b pp w' (hsp12.below hb (Nat.le_refl _))
          have hll : 8 * b.length - pp = tr.length := by rw [← hlp12, leftL_length]
          rw [hll] at CL
          obtain ⟨ar, cr, hqr, hrc, _⟩ := HR12.out.ref.row
          have HCL := Lib.hid CL
          obtain ⟨K, hK⟩ : ∃ K, K = tr.length := ⟨_, rfl⟩
          rw [← hK] at HCL hqr hrc
          have hrl := HR12.out.ref.len
          rw [← hK] at hrl
          have HF := Lib.hid (show ∀ (w' : World), Below W12.heap.size W12 w' → w'.cell? ⟨X, 0, none⟩ = some (.slice ao9 nt cap9) ∧ w'.cell? ⟨Y, 0, none⟩ = some (.slice ao11 nt cap11) ∧ w'.cell? ⟨q2, 0, none⟩ = some (.slice ar K cr) from fun w' hb =>
            ⟨cells_one0 ((hb.block X (lt_of_block HR12.out.bx)).trans HR12.out.bx), cells_one0 ((hb.block Y (lt_of_block HR12.out.by_)).trans HR12.out.by_), cell_of_one ((hb.block q2 (lt_of_block hqr)).trans hqr)⟩)
          have HBX := Lib.hid (Below.refl W12.heap.size W12)
          have HW12 := Lib.hid hW12
          have hte2 : (te == te) = true := by simp
          clear ho11 hr11 k11 CL hsp12 hlp12 hll hqr hrc hK hW12
          go_wp2_with fail
          clear d0 f0
          rw [← HW12.out]
          obtain ⟨c0, d0, g0⟩ := HF.out _ HBX.out
          go_region_held3 (fun w' => w'.cell? ⟨X, 0, none⟩ = some (.slice ao9 nt cap9) ∧ w'.cell? ⟨Y, 0, none⟩ = some (.slice ao11 nt cap11) ∧ w'.cell? ⟨q2, 0, none⟩ = some (.slice ar K cr))
            (first | (with_reducible exact ⟨c0, d0, g0⟩) | go_keep)
            (first
              | (go_at_call 25; (with_reducible refine (HCS.out _ (by first | exact HBX.out | exact HBX.out.drew)).mono ?_); rintro e w1 ⟨rfl, hb⟩; have HBX := Lib.hid ((show Below W12.heap.size W12 _ by first | exact HBX.out | exact HBX.out.drew).trans (hb.mono (by first | exact HBX.out.size | exact HBX.out.drew.size))); clear hb c0 d0 g0; obtain ⟨c0, d0, g0⟩ := HF.out _ HBX.out)
              | (go_at_call 29; (with_reducible refine (HCL.out _ (by first | exact HBX.out | exact HBX.out.drew)).mono ?_); rintro e w1 ⟨rfl, nn, hw1⟩; have HBX := Lib.hid (show Below W12.heap.size W12 w1 by rw [hw1]; exact Below.drewN' HBX.out nn); clear hw1 c0 d0 g0; obtain ⟨c0, d0, g0⟩ := HF.out _ HBX.out))
          all_goals go_wp2
          all_goals go_ret
          all_goals exact ⟨rfl, by have := HR12.out.below.trans (HBX.out.mono HR12.out.size); exact this⟩
        · have hc1 : 0 < cap := by omega
          have HR8 := Lib.hid (HSL.out (.slice (some ⟨b8, o8, none⟩) 0 cap) (.inl ⟨cap, b8, o8, by rw [hl0]; exact H0.out, .inr (by rw [hl0]; rfl)⟩) (Nat.zero_le _))
          clear hl0
          go_wp2_with fail
          obtain ⟨W8, hW8⟩ : ∃ W8, W8 = w7.setCell ⟨q2, 0, none⟩ (.slice (some ⟨b8, o8, none⟩) 0 cap) := ⟨_, rfl⟩
          rw [← hW8]
          rw [← hW8] at HR8
          clear hW8 h0 hfree
          refine (HCT.out W8 HR8.out.src HR8.out.size).mono ?_
          rintro e w9 ⟨v9, rfl, ho9, hs9, k9⟩
          obtain ⟨ao9, cap9, rfl⟩ := ho9.shape
          obtain ⟨nt, hnt⟩ : ∃ nt, nt = tl.length := ⟨_, rfl⟩
          rw [← hnt] at ho9 ⊢
          have HR9 := Lib.hid (HR8.out.takeS k9 ⟨by decide, by decide, by decide, by decide, by decide⟩ hs9)
          have HO9 := Lib.hid (ho9.lower HR8.out.size)
          have c0 := cells_one0 HR9.out.bx
          have f0 := free_cells_of HR9.out.bx 0
          have HR10 := Lib.hid (HR9.out.setX (.slice ao9 nt cap9) tl HO9.out)
          have HNT := Lib.hid hnt
          clear ho9 hs9 k9 hnt
          go_wp2_with fail
          clear c0 f0
          refine (HCR.out _ HR10.out.ref HR10.out.size).mono ?_
          rintro e w11 ⟨v11, rfl, ho11, hr11, k11⟩
          obtain ⟨ao11, cap11, rfl⟩ := ho11.shape
          rw [← HNT.out] at ho11 ⊢
          have HR11 := Lib.hid (HR10.out.takeR k11 hr11)
          have HO11 := Lib.hid (ho11.lower HR10.out.size)
          have d0 := cells_one0 HR11.out.by_
          have f0 := free_cells_of HR11.out.by_ 0
          have HR12 := Lib.hid (HR11.out.setY (.slice ao11 nt cap11) tl HO11.out)
          obtain ⟨W12, hW12⟩ : ∃ W12, W12 = w11.setCell ⟨Y, 0, none⟩ (.slice ao11 nt cap11) := ⟨_, rfl⟩
          rw [← hW12] at HR12
          have HCS := Lib.hid (fun (w' : World) (hb : Below W12.heap.size W12 w') => sameQ nt ao9 cap9 ao11 cap11 tl w' (HR12.out.ox.call hb) (HR12.out.oy.call hb))
          obtain ⟨pp, hsp12, hlp12⟩ := HR12.out.src
          have CL := fun (w' : World) (hb : Below W12.heap.size W12 w') => sLeft_any P q1 b pp w' (hsp12.below hb (Nat.le_refl _))
          have hll : 8 * b.length - pp = tr.length := by rw [← hlp12, leftL_length]
          rw [hll] at CL
          obtain ⟨ar, cr, hqr, hrc, _⟩ := HR12.out.ref.row
          have HCL := Lib.hid CL
          obtain ⟨K, hK⟩ : ∃ K, K = tr.length := ⟨_, rfl⟩
          rw [← hK] at HCL hqr hrc
          have hrl := HR12.out.ref.len
          rw [← hK] at hrl
          have HF := Lib.hid (show ∀ (w' : World), Below W12.heap.size W12 w' → w'.cell? ⟨X, 0, none⟩ = some (.slice ao9 nt cap9) ∧ w'.cell? ⟨Y, 0, none⟩ = some (.slice ao11 nt cap11) ∧ w'.cell? ⟨q2, 0, none⟩ = some (.slice ar K cr) from fun w' hb =>
            ⟨cells_one0 ((hb.block X (lt_of_block HR12.out.bx)).trans HR12.out.bx), cells_one0 ((hb.block Y (lt_of_block HR12.out.by_)).trans HR12.out.by_), cell_of_one ((hb.block q2 (lt_of_block hqr)).trans hqr)⟩)
          have HBX := Lib.hid (Below.refl W12.heap.size W12)
          have HW12 := Lib.hid hW12
          have hte2 : (te == te) = true := by simp
          clear ho11 hr11 k11 CL hsp12 hlp12 hll hqr hrc hK hW12
          go_wp2_with fail
          clear d0 f0
          rw [← HW12.out]
          obtain ⟨c0, d0, g0⟩ := HF.out _ HBX.out
          go_region_held3 (fun w' => w'.cell? ⟨X, 0, none⟩ = some (.slice ao9 nt cap9) ∧ w'.cell? ⟨Y, 0, none⟩ = some (.slice ao11 nt cap11) ∧ w'.cell? ⟨q2, 0, none⟩ = some (.slice ar K cr))
            (first | (with_reducible exact ⟨c0, d0, g0⟩) | go_keep)
            (first
              | (go_at_call 25; (with_reducible refine (HCS.out _ (by first | exact HBX.out | exact HBX.out.drew)).mono ?_); rintro e w1 ⟨rfl, hb⟩; have HBX := Lib.hid ((show Below W12.heap.size W12 _ by first | exact HBX.out | exact HBX.out.drew).trans (hb.mono (by first | exact HBX.out.size | exact HBX.out.drew.size))); clear hb c0 d0 g0; obtain ⟨c0, d0, g0⟩ := HF.out _ HBX.out)
              | (go_at_call 29; (with_reducible refine (HCL.out _ (by first | exact HBX.out | exact HBX.out.drew)).mono ?_); rintro e w1 ⟨rfl, nn, hw1⟩; have HBX := Lib.hid (show Below W12.heap.size W12 w1 by rw [hw1]; exact Below.drewN' HBX.out nn); clear hw1 c0 d0 g0; obtain ⟨c0, d0, g0⟩ := HF.out _ HBX.out))
          all_goals go_wp2
          all_goals go_ret
          all_goals exact ⟨rfl, by have := HR12.out.below.trans (HBX.out.mono HR12.out.size); exact this⟩
    · have H0 := Lib.hid h0
      obtain ⟨L, hL⟩ : ∃ L, L = l.length := ⟨_, rfl⟩
      have hmL : m ≤ L := by rw [hL]; exact HM.out
      rw [← hL] at h0 hcap
      have HLL := Lib.hid hL
      have hL2 : L ≤ 1125899906842624 := by omega
      clear hL hc hpos hlen hkeep hgt
      by_cases hck : cap = m
      · have HR8 := Lib.hid (HSL.out (.slice (some ⟨bb, o, none⟩) (L - m) 0) (.inl ⟨cap, bb, o, H0.out, .inl ⟨hck, by rw [HLL.out, hck, Nat.sub_self]⟩⟩) HM.out)
        go_wp2_with fail
        obtain ⟨W8, hW8⟩ : ∃ W8, W8 = w7.setCell ⟨q2, 0, none⟩ (.slice (some ⟨bb, o, none⟩) (L - m) 0) := ⟨_, rfl⟩
        rw [← hW8]
        rw [← hW8] at HR8
        clear hW8 h0 hfree
        refine (HCT.out W8 HR8.out.src HR8.out.size).mono ?_
        rintro e w9 ⟨v9, rfl, ho9, hs9, k9⟩
        obtain ⟨ao9, cap9, rfl⟩ := ho9.shape
        obtain ⟨nt, hnt⟩ : ∃ nt, nt = tl.length := ⟨_, rfl⟩
        rw [← hnt] at ho9 ⊢
        have HR9 := Lib.hid (HR8.out.takeS k9 ⟨by decide, by decide, by decide, by decide, by decide⟩ hs9)
        have HO9 := Lib.hid (ho9.lower HR8.out.size)
        have c0 := cells_one0 HR9.out.bx
        have f0 := free_cells_of HR9.out.bx 0
        have HR10 := Lib.hid (HR9.out.setX (.slice ao9 nt cap9) tl HO9.out)
        have HNT := Lib.hid hnt
        clear ho9 hs9 k9 hnt
        go_wp2_with fail
        clear c0 f0
        refine (HCR.out _ HR10.out.ref HR10.out.size).mono ?_
        rintro e w11 ⟨v11, rfl, ho11, hr11, k11⟩
        obtain ⟨ao11, cap11, rfl⟩ := ho11.shape
        rw [← HNT.out] at ho11 ⊢
        have HR11 := Lib.hid (HR10.out.takeR k11 hr11)
        have HO11 := Lib.hid (ho11.lower HR10.out.size)
        have d0 := cells_one0 HR11.out.by_
        have f0 := free_cells_of HR11.out.by_ 0
        have HR12 := Lib.hid (HR11.out.setY (.slice ao11 nt cap11) tl HO11.out)
        obtain ⟨W12, hW12⟩ : ∃ W12, W12 = w11.setCell ⟨Y, 0, none⟩ (.slice ao11 nt cap11) := ⟨_, rfl⟩
        rw [← hW12] at HR12
        have HCS := Lib.hid (fun (w' : World) (hb : Below W12.heap.size W12 w') => sameQ nt ao9 cap9 ao11 cap11 tl w' (HR12.out.ox.call hb) (HR12.out.oy.call hb))
        obtain ⟨pp, hsp12, hlp12⟩ := HR12.out.src
        have CL := fun (w' : World) (hb : Below W12.heap.size W12 w') => sLeft_any P q1 b pp w' (hsp12.below hb (Nat.le_refl _))
        have hll : 8 * b.length - pp = tr.length := by rw [← hlp12, leftL_length]
        rw [hll] at CL
        obtain ⟨ar, cr, hqr, hrc, _⟩ := HR12.out.ref.row
        have HCL := Lib.hid CL
        obtain ⟨K, hK⟩ : ∃ K, K = tr.length := ⟨_, rfl⟩
        rw [← hK] at HCL hqr hrc
        have hrl := HR12.out.ref.len
        rw [← hK] at hrl
        have HF := Lib.hid (show ∀ (w' : World), Below W12.heap.size W12 w' → w'.cell? ⟨X, 0, none⟩ = some (.slice ao9 nt cap9) ∧ w'.cell? ⟨Y, 0, none⟩ = some (.slice ao11 nt cap11) ∧ w'.cell? ⟨q2, 0, none⟩ = some (.slice ar K cr) from fun w' hb =>
          ⟨cells_one0 ((hb.block X (lt_of_block HR12.out.bx)).trans HR12.out.bx), cells_one0 ((hb.block Y (lt_of_block HR12.out.by_)).trans HR12.out.by_), cell_of_one ((hb.block q2 (lt_of_block hqr)).trans hqr)⟩)
        have HBX := Lib.hid (Below.refl W12.heap.size W12)
        have HW12 := Lib.hid hW12
        have hte2 : (te == te) = true := by simp
        clear ho11 hr11 k11 CL hsp12 hlp12 hll hqr hrc hK hW12
        go_wp2_with fail
        clear d0 f0
        rw [← HW12.out]
        obtain ⟨c0, d0, g0⟩ := HF.out _ HBX.out
        go_region_held3 (fun w' => w'.cell? ⟨X, 0, none⟩ = some (.slice ao9 nt cap9) ∧ w'.cell? ⟨Y, 0, none⟩ = some (.slice ao11 nt cap11) ∧ w'.cell? ⟨q2, 0, none⟩ = some (.slice ar K cr))
          (first | (with_reducible exact ⟨c0, d0, g0⟩) | go_keep)
          (first
            | (go_at_call 25; (with_reducible refine (HCS.out _ (by first | exact HBX.out | exact HBX.out.drew)).mono ?_); rintro e w1 ⟨rfl, hb⟩; have HBX := Lib.hid ((show Below W12.heap.size W12 _ by first | exact HBX.out | exact HBX.out.drew).trans (hb.mono (by first | exact HBX.out.size | exact HBX.out.drew.size))); clear hb c0 d0 g0; obtain ⟨c0, d0, g0⟩ := HF.out _ HBX.out)
            | (go_at_call 29; (with_reducible refine (HCL.out _ (by first | exact HBX.out | exact HBX.out.drew)).mono ?_); rintro e w1 ⟨rfl, nn, hw1⟩; have HBX := Lib.hid (show Below W12.heap.size W12 w1 by rw [hw1]; exact Below.drewN' HBX.out nn); clear hw1 c0 d0 g0; obtain ⟨c0, d0, g0⟩ := HF.out _ HBX.out))
        all_goals go_wp2
        all_goals go_ret
        all_goals exact ⟨rfl, by have := HR12.out.below.trans (HBX.out.mono HR12.out.size); exact this⟩
      · have hck2 : m < cap := by omega
        have HR8 := Lib.hid (HSL.out (.slice (some ⟨bb, o + m, none⟩) (L - m) (cap - m)) (.inl ⟨cap, bb, o, H0.out, .inr (by rw [HLL.out])⟩) HM.out)
        go_wp2_with fail
        obtain ⟨W8, hW8⟩ : ∃ W8, W8 = w7.setCell ⟨q2, 0, none⟩ (.slice (some ⟨bb, o + m, none⟩) (L - m) (cap - m)) := ⟨_, rfl⟩
        rw [← hW8]
        rw [← hW8] at HR8
        clear hW8 h0 hfree
        refine (HCT.out W8 HR8.out.src HR8.out.size).mono ?_
        rintro e w9 ⟨v9, rfl, ho9, hs9, k9⟩
        obtain ⟨ao9, cap9, rfl⟩ := ho9.shape
        obtain ⟨nt, hnt⟩ : ∃ nt, nt = tl.length := ⟨_, rfl⟩
        rw [← hnt] at ho9 ⊢
        have HR9 := Lib.hid (HR8.out.takeS k9 ⟨by decide, by decide, by decide, by decide, by decide⟩ hs9)
        have HO9 := Lib.hid (ho9.lower HR8.out.size)
        have c0 := cells_one0 HR9.out.bx
        have f0 := free_cells_of HR9.out.bx 0
        have HR10 := Lib.hid (HR9.out.setX (.slice ao9 nt cap9) tl HO9.out)
        have HNT := Lib.hid hnt
        clear ho9 hs9 k9 hnt
        go_wp2_with fail
        clear c0 f0
        refine (HCR.out _ HR10.out.ref HR10.out.size).mono ?_
        rintro e w11 ⟨v11, rfl, ho11, hr11, k11⟩
        obtain ⟨ao11, cap11, rfl⟩ := ho11.shape
        rw [← HNT.out] at ho11 ⊢
        have HR11 := Lib.hid (HR10.out.takeR k11 hr11)
        have HO11 := Lib.hid (ho11.lower HR10.out.size)
        have d0 := cells_one0 HR11.out.by_
        have f0 := free_cells_of HR11.out.by_ 0
        have HR12 := Lib.hid (HR11.out.setY (.slice ao11 nt cap11) tl HO11.out)
        obtain ⟨W12, hW12⟩ : ∃ W12, W12 = w11.setCell ⟨Y, 0, none⟩ (.slice ao11 nt cap11) := ⟨_, rfl⟩
        rw [← hW12] at HR12
        have HCS := Lib.hid (fun (w' : World) (hb : Below W12.heap.size W12 w') => sameQ nt ao9 cap9 ao11 cap11 tl w' (HR12.out.ox.call hb) (HR12.out.oy.call hb))
        obtain ⟨pp, hsp12, hlp12⟩ := HR12.out.src
        have CL := fun (w' : World) (hb : Below W12.heap.size W12 w') => sLeft_any P q1 b pp w' (hsp12.below hb (Nat.le_refl _))
        have hll : 8 * b.length - pp = tr.length := by rw [← hlp12, leftL_length]
        rw [hll] at CL
        obtain ⟨ar, cr, hqr, hrc, _⟩ := HR12.out.ref.row
        have HCL := Lib.hid CL
        obtain ⟨K, hK⟩ : ∃ K, K = tr.length := ⟨_, rfl⟩
        rw [← hK] at HCL hqr hrc
        have hrl := HR12.out.ref.len
        rw [← hK] at hrl
        have HF := Lib.hid (show ∀ (w' : World), Below W12.heap.size W12 w' → w'.cell? ⟨X, 0, none⟩ = some (.slice ao9 nt cap9) ∧ w'.cell? ⟨Y, 0, none⟩ = some (.slice ao11 nt cap11) ∧ w'.cell? ⟨q2, 0, none⟩ = some (.slice ar K cr) from fun w' hb =>
          ⟨cells_one0 ((hb.block X (lt_of_block HR12.out.bx)).trans HR12.out.bx), cells_one0 ((hb.block Y (lt_of_block HR12.out.by_)).trans HR12.out.by_), cell_of_one ((hb.block q2 (lt_of_block hqr)).trans hqr)⟩)
        have HBX := Lib.hid (Below.refl W12.heap.size W12)
        have HW12 := Lib.hid hW12
        have hte2 : (te == te) = true := by simp
        clear ho11 hr11 k11 CL hsp12 hlp12 hll hqr hrc hK hW12
        go_wp2_with fail
        clear d0 f0
        rw [← HW12.out]
        obtain ⟨c0, d0, g0⟩ := HF.out _ HBX.out
        go_region_held3 (fun w' => w'.cell? ⟨X, 0, none⟩ = some (.slice ao9 nt cap9) ∧ w'.cell? ⟨Y, 0, none⟩ = some (.slice ao11 nt cap11) ∧ w'.cell? ⟨q2, 0, none⟩ = some (.slice ar K cr))
          (first | (with_reducible exact ⟨c0, d0, g0⟩) | go_keep)
          (first
            | (go_at_call 25; (with_reducible refine (HCS.out _ (by first | exact HBX.out | exact HBX.out.drew)).mono ?_); rintro e w1 ⟨rfl, hb⟩; have HBX := Lib.hid ((show Below W12.heap.size W12 _ by first | exact HBX.out | exact HBX.out.drew).trans (hb.mono (by first | exact HBX.out.size | exact HBX.out.drew.size))); clear hb c0 d0 g0; obtain ⟨c0, d0, g0⟩ := HF.out _ HBX.out)
            | (go_at_call 29; (with_reducible refine (HCL.out _ (by first | exact HBX.out | exact HBX.out.drew)).mono ?_); rintro e w1 ⟨rfl, nn, hw1⟩; have HBX := Lib.hid (show Below W12.heap.size W12 w1 by rw [hw1]; exact Below.drewN' HBX.out nn); clear hw1 c0 d0 g0; obtain ⟨c0, d0, g0⟩ := HF.out _ HBX.out))
        all_goals go_wp2
        all_goals go_ret
        all_goals exact ⟨rfl, by have := HR12.out.below.trans (HBX.out.mono HR12.out.size); exact this⟩
end Go.Proofs.Ytpbloplbpkedcaa

/- What the arguments are in memory, as the statements hand them over: attributes, events, bounds, partial matches. -/
namespace Go.Proofs.Ytpbloplbpkedcaa
open Go Go.ChangeShapes Go.WideShapes Go.ChangeAt Go.RowKit Go.Deep
set_option linter.unusedVariables false

/-- Data that no machine is too small for: each row's weight within reach, or all of it of little bulk. -/
def Sml {H : Type} (t : TypeId) (d : DataW H) : Prop := (∀ n ∈ d.weights Try.prog t, n ≤ reachBytes) ∨ Rows.uptoBulk d ≤ 1048576
theorem bulk_all_mem {H : Type} : ∀ {l : List (DataW H)} {x : DataW H}, x ∈ l → Rows.uptoBulk x ≤ Rows.uptoBulkAll l
  | y :: r, x, h => by
    simp only [Rows.uptoBulkAll]
    rcases List.mem_cons.1 h with rfl | h
    · omega
    · have := bulk_all_mem h; omega
theorem weights_all_mem {H : Type} {e : TypeId} : ∀ {l : List (DataW H)} {x : DataW H}, x ∈ l → ∀ n ∈ x.weights Try.prog e, n ∈ DataW.weightsAll Try.prog e l
  | y :: r, x, h, n, hn => by
    simp only [DataW.weightsAll, List.mem_append]
    rcases List.mem_cons.1 h with rfl | h
    · exact .inl hn
    · exact .inr (weights_all_mem h n hn)
theorem Sml.elem {H : Type} {t e : TypeId} (ht : Try.prog.underlying t = some (.slice e)) {elems sp : List (DataW H)} (h : Sml t (.slice elems sp)) {x : DataW H} (hx : x ∈ elems) : Sml e x := by
  rcases h with h | h
  · refine .inl fun n hn => h n ?_
    simp only [DataW.weights, ht, List.mem_cons, List.mem_append]
    exact .inr (.inl (weights_all_mem hx n hn))
  · refine .inr (Nat.le_trans (bulk_all_mem hx) ?_)
    simp only [Rows.uptoBulk] at h
    omega
theorem bulk_pos {H : Type} : ∀ d : DataW H, 1 ≤ Rows.uptoBulk d
  | .lit l => by cases l <;> simp [Rows.uptoBulk]
  | .nil => by simp [Rows.uptoBulk]
  | .ptr _ => by simp [Rows.uptoBulk]
  | .slice _ _ => by simp [Rows.uptoBulk]
  | .agg _ => by simp [Rows.uptoBulk]
  | .iface _ _ => by simp [Rows.uptoBulk]
  | .map _ => by simp [Rows.uptoBulk]
  | .held _ => by simp [Rows.uptoBulk]
theorem bulk_len {H : Type} : ∀ l : List (DataW H), l.length ≤ Rows.uptoBulkAll l
  | [] => Nat.zero_le _
  | d :: r => by
    have := bulk_len r
    have h1 := bulk_pos d
    simp only [Rows.uptoBulkAll, List.length_cons]; omega
theorem Sml.len {H : Type} {t e : TypeId} (ht : Try.prog.underlying t = some (.slice e)) {elems sp : List (DataW H)} (h : Sml t (.slice elems sp)) (hb : 0 < Try.prog.bytesOf e) (hb2 : Try.prog.bytesOf e ≤ 1024) : elems.length * Try.prog.bytesOf e ≤ 140737488355328 := by
  rcases h with h | h
  · have := h ((elems.length + sp.length) * Try.prog.bytesOf e) (by simp [DataW.weights, ht])
    have h2 := reachBytes_lt
    have : elems.length * Try.prog.bytesOf e ≤ (elems.length + sp.length) * Try.prog.bytesOf e := Nat.mul_le_mul_right _ (by omega)
    omega
  · simp only [Rows.uptoBulk] at h
    have := bulk_len elems
    have h3 : elems.length * Try.prog.bytesOf e ≤ 1048576 * 1024 := Nat.mul_le_mul (by omega) hb2
    omega
theorem Sml.field {H : Type} {t s : TypeId} {fs : Array Field} (ht : Try.prog.underlying t = some (.struct fs)) {parts : List (DataW H)} (h : Sml t (.agg parts)) {j : Nat} {x : DataW H} (hj : (fs.toList.map (·.type))[j]? = some s) (hx : parts[j]? = some x) : Sml s x := by
  rcases h with h | h
  · refine .inl fun n hn => h n ?_
    simp only [DataW.weights, ht]
    exact DataW.weights_mem_each hj hx n hn
  · refine .inr (Nat.le_trans (bulk_all_mem (List.mem_of_getElem? hx)) ?_)
    simp only [Rows.uptoBulk] at h
    omega

/-- A row, opened, with its capacity. -/
theorem open_row9 {H : Type} {enc : TypeId × Value → H} {W : World} {t e : TypeId} {fuel : Nat} {v : Value} {x : DataW H × List MemPlace} (ht : Try.prog.underlying t = some (.slice e)) (hc : 0 < Try.prog.cellsOf e)
    (h : DataW.trod enc Try.prog W 0 (fun _ => true) true fuel t [v] = some x) :
    ∃ (ao : Option Addr) (len cap : Nat) (elems : List (DataW H × List MemPlace)) (n : Nat), v = .slice ao len cap ∧ elems.length = len ∧ len ≤ cap ∧ cap ≤ 9223372036854775807 ∧ (ao = none → cap = 0) ∧ (elems = [] ∨ ∃ sp, x.1 = .slice (elems.map (·.1)) sp) ∧
      (elems ≠ [] → ∃ b o, ao = some ⟨b, o, none⟩ ∧ b < W.heap.size ∧ ∀ i y, elems[i]? = some y → ∃ cs, cs.length = Try.prog.cellsOf e ∧ (∀ c, c < Try.prog.cellsOf e → W.cell? ⟨b, o + i * Try.prog.cellsOf e + c, none⟩ = cs[c]?) ∧ DataW.trod enc Try.prog W 0 (fun _ => true) true n e cs = some y) := by
  rcases DataW.trod_slice ht h with ⟨hcs, _⟩ | ⟨a, len, cap, elems, rest, n, hf, hcs, hx, _, hl, hm, hlen, hel, _, _⟩
  · simp only [List.cons.injEq, and_true] at hcs
    exact ⟨none, 0, 0, [], 0, hcs, rfl, Nat.zero_le _, by omega, fun _ => rfl, .inl rfl, fun h => absurd rfl h⟩
  · simp only [List.cons.injEq, and_true] at hcs
    refine ⟨some a, len, cap, elems, n, hcs, hlen, hl, by unfold maxLen at hm; omega, (fun e => by cases e), .inr ⟨rest.map (·.1), by rw [hx]⟩, fun hne => ?_⟩
    have hopen : ∀ i y, elems[i]? = some y → ∃ cs, cs.length = Try.prog.cellsOf e ∧ (∀ c, c < Try.prog.cellsOf e → W.cell? (a.add (i * Try.prog.cellsOf e + c)) = cs[c]?) ∧ DataW.trod enc Try.prog W 0 (fun _ => true) true n e cs = some y := fun i y hy => by
      have hi : i < len := by rw [← hlen]; exact (List.getElem?_eq_some_iff.1 hy).1
      have := hel i hi
      rw [hy] at this
      obtain ⟨cs, h1, h2⟩ := Option.bind_eq_some_iff.1 this
      obtain ⟨_, hcl, hat⟩ := World.cells?_some h1
      exact ⟨cs, hcl, fun c hc => by rw [← Go.Deep.add_add, hat c (by omega)], h2⟩
    obtain ⟨y0, hy0⟩ : ∃ y, elems[0]? = some y := by
      cases elems with
      | nil => exact absurd rfl hne
      | cons y r => exact ⟨y, rfl⟩
    obtain ⟨cs0, hl0, ha0, _⟩ := hopen 0 y0 hy0
    have h00 := ha0 0 hc
    rw [List.getElem?_eq_getElem (by omega)] at h00
    obtain ⟨b, o, sp⟩ := a
    obtain rfl : sp = none := by simpa [Addr.add] using World.cell?_spot h00
    have hblk : b < W.heap.size := by simpa [Addr.add] using World.block_lt_of_cell? _ _ h00
    refine ⟨b, o, rfl, hblk, fun i y hy => ?_⟩
    obtain ⟨cs, h1, h2, h3⟩ := hopen i y hy
    exact ⟨cs, h1, fun c hc => by rw [Nat.add_assoc, ← add_off0]; exact h2 c hc, h3⟩

set_option maxRecDepth 100000 in
theorem open_attr0 {H : Type} {enc : TypeId × Value → H} {W : World} {fuel : Nat} {cs : List Value} {y : DataW H × List MemPlace} (h : DataW.trod enc Try.prog W 0 (fun _ => true) true fuel 78 cs = some y) :
    ∃ x : At, cs = enc4 x ∧ x.name.size ≤ maxLen ∧ x.s.size ≤ maxLen ∧ (Lit.int .i64 x.n).wf = true := by
  obtain ⟨xs, n, _, hx, hcl, hlen, hg⟩ := DataW.trod_struct Try.underlying78 h
  have hC : Try.prog.cellsOf 78 = 4 := by kernel_rfl
  have e3 : Try.prog.cellsOf 3 = 1 := by kernel_rfl
  have e2 : Try.prog.cellsOf 2 = 1 := by kernel_rfl
  have e9 : Try.prog.cellsOf 9 = 1 := by kernel_rfl
  have e23 : Try.prog.cellsOf 23 = 3 := by kernel_rfl
  rw [hC] at hcl
  match cs, hcl, xs, hlen with
  | [c0, c1, c2, c3], _, [y0, y1], _ =>
    have g0 : DataW.trod enc Try.prog W 0 (fun _ => true) true n 9 [c0] = some y0 := by have := hg 0 _ rfl; simpa [e9] using this
    have g1 : DataW.trod enc Try.prog W 0 (fun _ => true) true n 23 [c1, c2, c3] = some y1 := by have := hg 1 _ rfl; simpa [e23] using this
    obtain ⟨zs, m, _, hz, _, hzl, hf⟩ := DataW.trod_struct Try.underlying23 g1
    match zs, hzl with
    | [z0, z1, z2], _ =>
      have f0 : DataW.trod enc Try.prog W 0 (fun _ => true) true m 3 [c1] = some z0 := by have := hf 0 _ rfl; simpa [e3, e2, e9] using this
      have f1 : DataW.trod enc Try.prog W 0 (fun _ => true) true m 2 [c2] = some z1 := by have := hf 1 _ rfl; simpa [e3, e2, e9] using this
      have f2 : DataW.trod enc Try.prog W 0 (fun _ => true) true m 9 [c3] = some z2 := by have := hf 2 _ rfl; simpa [e3, e2, e9] using this
      obtain ⟨nm, k0, _, hn⟩ := DataW.trod_string Try.underlying9 g0
      obtain ⟨k, k1, _, _⟩ := DataW.trod_int Try.underlying3 f0
      obtain ⟨q, k2, _, hq⟩ := DataW.trod_int Try.underlying2 f1
      obtain ⟨s, k3, _, hs⟩ := DataW.trod_string Try.underlying9 f2
      simp only [List.cons.injEq, and_true] at k0 k1 k2 k3
      subst k0 k1 k2 k3
      exact ⟨⟨nm, k, q, s⟩, rfl, hn, hs, hq⟩
theorem row_attrs0 {H : Type} {enc : TypeId × Value → H} {W : World} {n b : Nat} : ∀ (elems : List (DataW H × List MemPlace)) (o : Nat),
    (∀ i y, elems[i]? = some y → ∃ cs, cs.length = 4 ∧ (∀ c, c < 4 → W.cell? ⟨b, o + i * 4 + c, none⟩ = cs[c]?) ∧ DataW.trod enc Try.prog W 0 (fun _ => true) true n 78 cs = some y) →
    ∃ l : List At, l.length = elems.length ∧ (∀ j, j < l.length → ∀ i u, (enc4 l[j]!)[i]? = some u → W.cell? ⟨b, o + j * 4 + i, none⟩ = some u) ∧ ∀ x ∈ l, (x.name.size ≤ maxLen ∧ x.s.size ≤ maxLen) ∧ (Lit.int .i64 x.n).wf = true
  | [], _, _ => ⟨[], rfl, fun j h => absurd h (Nat.not_lt_zero _), fun c h => by cases h⟩
  | y :: r, o, h => by
    obtain ⟨l, h1, h2, h3⟩ := row_attrs0 r (o + 4) (fun i z hz => by
      obtain ⟨cs, k1, k2, k3⟩ := h (i + 1) z (by simpa using hz)
      exact ⟨cs, k1, fun c hc => by rw [← k2 c hc]; congr 2; omega, k3⟩)
    obtain ⟨cs, k1, k2, k3⟩ := h 0 y rfl
    obtain ⟨x, rfl, k4, k5, k6⟩ := open_attr0 k3
    refine ⟨x :: l, by simp [h1], fun j hj i u hu => ?_, fun c hc => ?_⟩
    · cases j with
      | zero =>
        have hi : i < 4 := by have := (List.getElem?_eq_some_iff.1 hu).1; simpa [enc4_len] using this
        have := k2 i hi
        rw [this, ← hu]; rfl
      | succ j =>
        have hj' : j < l.length := by simpa using hj
        have := h2 j hj' i u (by simpa using hu)
        rwa [show o + 4 + j * 4 + i = o + (j + 1) * 4 + i by omega] at this
    · rcases List.mem_cons.1 hc with rfl | hc
      · exact ⟨⟨k4, k5⟩, k6⟩
      · exact h3 c hc
theorem open_attrs0 {H : Type} {enc : TypeId × Value → H} {W : World} {fuel : Nat} {v : Value} {y : DataW H × List MemPlace} (h : DataW.trod enc Try.prog W 0 (fun _ => true) true fuel 34 [v] = some y) (hs : Sml 34 y.1) :
    ∃ xs : List At, AvN W W.heap.size v xs ∧ ∀ x ∈ xs, (Lit.int .i64 x.n).wf = true := by
  have hC : Try.prog.cellsOf 78 = 4 := by kernel_rfl
  have hb : Try.prog.bytesOf 78 = 48 := by kernel_rfl
  obtain ⟨ao, len, cap, elems, n, rfl, hlen, hl, hm, hn, hd, hh⟩ := open_row9 Try.underlying34 (by rw [hC]; omega) h
  have hnil : ∀ n c, Value.slice ao len cap = .slice none n c → c = 0 := fun n c e => by
    simp only [Value.slice.injEq] at e
    rw [← e.2.2]; exact hn e.1
  by_cases he : elems = []
  · subst he
    obtain rfl : len = 0 := hlen.symm
    exact ⟨[], ⟨⟨(fun x hx => by cases hx), by simp, ao, cap, rfl, hl, hm, fun h => absurd h (Nat.lt_irrefl _)⟩, hnil⟩, fun x hx => by cases hx⟩
  · obtain ⟨b, o, rfl, hbl, hel⟩ := hh he
    rw [hC] at hel
    obtain ⟨l, h1, h2, h3⟩ := row_attrs0 elems o hel
    rcases hd with hd | ⟨sp, hd⟩
    · exact absurd hd he
    · rw [hd] at hs
      have h4 := hs.len Try.underlying34 (by rw [hb]; omega) (by rw [hb]; omega)
      rw [hb, List.length_map] at h4
      exact ⟨l, ⟨⟨fun x hx => (h3 x hx).1, by rw [h1]; exact h4, _, cap, by rw [h1, hlen], by rw [h1, hlen]; exact hl, hm, fun _ => ⟨b, o, rfl, hbl, h2⟩⟩, hnil⟩, fun x hx => (h3 x hx).2⟩
set_option maxRecDepth 100000 in
theorem open_event0 {H : Type} {enc : TypeId × Value → H} {W : World} {fuel : Nat} {cs : List Value} {y : DataW H × List MemPlace} (h : DataW.trod enc Try.prog W 0 (fun _ => true) true fuel 36 cs = some y) (hs : Sml 36 y.1) :
    ∃ (e : Ev) (v : Value), cs = [.int .i64 e.src, .int .i64 e.seq, .int .i64 e.time, .string e.ty, v] ∧ AvN W W.heap.size v e.ats ∧ e.ty.size ≤ maxLen ∧ ∀ x ∈ e.ats, (Lit.int .i64 x.n).wf = true := by
  obtain ⟨xs, n, _, hx, hcl, hlen, hg⟩ := DataW.trod_struct Try.underlying36 h
  have hC : Try.prog.cellsOf 36 = 5 := by kernel_rfl
  have e23 : Try.prog.cellsOf 33 = 2 := by kernel_rfl
  have e3 : Try.prog.cellsOf 3 = 1 := by kernel_rfl
  have e2 : Try.prog.cellsOf 2 = 1 := by kernel_rfl
  have e9 : Try.prog.cellsOf 9 = 1 := by kernel_rfl
  have e24 : Try.prog.cellsOf 34 = 1 := by kernel_rfl
  rw [hC] at hcl
  match cs, hcl, xs, hlen with
  | [c0, c1, c2, c3, c4], _, [y0, y1, y2, y3], _ =>
    have g0 : DataW.trod enc Try.prog W 0 (fun _ => true) true n 33 [c0, c1] = some y0 := by have := hg 0 _ rfl; simpa [e23, e3, e2, e9, e24] using this
    have g1 : DataW.trod enc Try.prog W 0 (fun _ => true) true n 2 [c2] = some y1 := by have := hg 1 _ rfl; simpa [e23, e3, e2, e9, e24] using this
    have g2 : DataW.trod enc Try.prog W 0 (fun _ => true) true n 9 [c3] = some y2 := by have := hg 2 _ rfl; simpa [e23, e3, e2, e9, e24] using this
    have g3 : DataW.trod enc Try.prog W 0 (fun _ => true) true n 34 [c4] = some y3 := by have := hg 3 _ rfl; simpa [e23, e3, e2, e9, e24] using this
    obtain ⟨zs, m, _, hzz, _, hzl, hf2⟩ := DataW.trod_struct Try.underlying33 g0
    match zs, hzl with
    | [z0, z1], _ =>
      have f0 : DataW.trod enc Try.prog W 0 (fun _ => true) true m 3 [c0] = some z0 := by have := hf2 0 _ rfl; simpa [e3, e2] using this
      have f1 : DataW.trod enc Try.prog W 0 (fun _ => true) true m 2 [c1] = some z1 := by have := hf2 1 _ rfl; simpa [e3, e2] using this
      obtain ⟨a, k0, _, _⟩ := DataW.trod_int Try.underlying3 f0
      obtain ⟨b, k1, _, _⟩ := DataW.trod_int Try.underlying2 f1
      obtain ⟨t, k2, _, _⟩ := DataW.trod_int Try.underlying2 g1
      obtain ⟨s, k3, _, hs3⟩ := DataW.trod_string Try.underlying9 g2
      simp only [List.cons.injEq, and_true] at k0 k1 k2 k3
      subst k0 k1 k2 k3
      rw [hx] at hs
      obtain ⟨xs, hav, hb⟩ := open_attrs0 g3 (hs.field Try.underlying36 (j := 3) rfl rfl)
      exact ⟨⟨a, b, t, s, xs⟩, c4, rfl, hav, hs3, hb⟩
set_option maxRecDepth 100000 in
theorem open_bound0 {H : Type} {enc : TypeId × Value → H} {W : World} {fuel : Nat} {cs : List Value} {y : DataW H × List MemPlace} (h : DataW.trod enc Try.prog W 0 (fun _ => true) true fuel 91 cs = some y) (hs : Sml 91 y.1) :
    ∃ (x : Bd) (v : Value), cs = encB x v ∧ AvN W W.heap.size v x.ev.ats ∧ (x.var.size ≤ maxLen ∧ x.ev.ty.size ≤ maxLen) ∧ ∀ a ∈ x.ev.ats, (Lit.int .i64 a.n).wf = true := by
  obtain ⟨xs, n, _, hx, hcl, hlen, hg⟩ := DataW.trod_struct Try.underlying91 h
  have hC : Try.prog.cellsOf 91 = 6 := by kernel_rfl
  have e5 : Try.prog.cellsOf 36 = 5 := by kernel_rfl
  have e9 : Try.prog.cellsOf 9 = 1 := by kernel_rfl
  rw [hC] at hcl
  match cs, hcl, xs, hlen with
  | [c0, c1, c2, c3, c4, c5], _, [y0, y1], _ =>
    have g0 : DataW.trod enc Try.prog W 0 (fun _ => true) true n 9 [c0] = some y0 := by have := hg 0 _ rfl; simpa [e9, e5] using this
    have g1 : DataW.trod enc Try.prog W 0 (fun _ => true) true n 36 [c1, c2, c3, c4, c5] = some y1 := by have := hg 1 _ rfl; simpa [e9, e5] using this
    obtain ⟨nm, k0, _, hv⟩ := DataW.trod_string Try.underlying9 g0
    simp only [List.cons.injEq, and_true] at k0
    subst k0
    rw [hx] at hs
    obtain ⟨e, v, he, hav, ht, hb⟩ := open_event0 g1 (hs.field Try.underlying91 (j := 1) rfl rfl)
    simp only [List.cons.injEq, and_true] at he
    obtain ⟨rfl, rfl, rfl, rfl, rfl⟩ := he
    exact ⟨⟨nm, e⟩, c5, rfl, hav, ⟨hv, ht⟩, hb⟩
def WfB (bs : List Bd) : Prop := ∀ b ∈ bs, ∀ a ∈ b.ev.ats, (Lit.int .i64 a.n).wf = true
theorem row_bounds0 {H : Type} {enc : TypeId × Value → H} {W : World} {n b : Nat} : ∀ (elems : List (DataW H × List MemPlace)) (o : Nat), (∀ y ∈ elems, Sml 91 y.1) →
    (∀ i y, elems[i]? = some y → ∃ cs, cs.length = 6 ∧ (∀ c, c < 6 → W.cell? ⟨b, o + i * 6 + c, none⟩ = cs[c]?) ∧ DataW.trod enc Try.prog W 0 (fun _ => true) true n 91 cs = some y) →
    ∃ l : List Bd, l.length = elems.length ∧ BdAt W W.heap.size l b o ∧ (∀ x ∈ l, x.var.size ≤ maxLen ∧ x.ev.ty.size ≤ maxLen) ∧ WfB l
  | [], _, _, _ => ⟨[], rfl, trivial, (fun x h => by cases h), fun x h => by cases h⟩
  | y :: r, o, hs, h => by
    obtain ⟨l, h1, h2, h3, h4⟩ := row_bounds0 r (o + 6) (fun z hz => hs z (List.mem_cons_of_mem _ hz)) (fun i z hz => by
      obtain ⟨cs, k1, k2, k3⟩ := h (i + 1) z (by simpa using hz)
      exact ⟨cs, k1, fun c hc => by rw [← k2 c hc]; congr 2; omega, k3⟩)
    obtain ⟨cs, k1, k2, k3⟩ := h 0 y rfl
    obtain ⟨x, v, rfl, hav, hw, hb⟩ := open_bound0 k3 (hs y (List.mem_cons_self))
    obtain ⟨aa, ac, rfl⟩ := hav.1.shape
    refine ⟨x :: l, by simp [h1], ⟨⟨aa, ac, fun j u hu => ?_, hav.1, fun hn => hav.2 _ _ (by rw [hn])⟩, h2⟩, fun c hc => ?_, fun c hc => ?_⟩
    · have hj : j < 6 := by have := (List.getElem?_eq_some_iff.1 hu).1; rwa [encB_len] at this
      have := k2 j hj
      rw [Nat.zero_mul, Nat.add_zero] at this
      rw [this, hu]
    · rcases List.mem_cons.1 hc with rfl | hc
      · exact hw
      · exact h3 c hc
    · rcases List.mem_cons.1 hc with rfl | hc
      · exact hb
      · exact h4 c hc
theorem open_bounds0 {H : Type} {enc : TypeId × Value → H} {W : World} {fuel : Nat} {v : Value} {y : DataW H × List MemPlace} (h : DataW.trod enc Try.prog W 0 (fun _ => true) true fuel 41 [v] = some y) (hs : Sml 41 y.1) :
    ∃ (bs : List Bd) (ao : Option Addr) (n cap : Nat), v = .slice ao n cap ∧ BsV W W.heap.size v bs ∧ WfB bs := by
  have hC : Try.prog.cellsOf 91 = 6 := by kernel_rfl
  have hb : Try.prog.bytesOf 91 = 80 := by kernel_rfl
  obtain ⟨ao, len, cap, elems, n, rfl, hlen, hl, hm, hn, hd, hh⟩ := open_row9 Try.underlying41 (by rw [hC]; omega) h
  by_cases he : elems = []
  · subst he
    obtain rfl : len = 0 := hlen.symm
    exact ⟨[], ao, 0, cap, rfl, ⟨(fun x h => by cases h), by simp, ao, cap, rfl, hl, hm, hn, fun h => absurd rfl h⟩, fun x h => by cases h⟩
  · obtain ⟨b, o, rfl, hbl, hel⟩ := hh he
    rw [hC] at hel
    rcases hd with hd | ⟨sp, hd⟩
    · exact absurd hd he
    · rw [hd] at hs
      have h4 := hs.len Try.underlying41 (by rw [hb]; omega) (by rw [hb]; omega)
      rw [hb, List.length_map] at h4
      obtain ⟨l, h1, h2, h3, h5⟩ := row_bounds0 elems o (fun z hz => hs.elem Try.underlying41 (List.mem_map_of_mem hz)) hel
      exact ⟨l, _, len, cap, rfl, ⟨h3, by rw [h1]; exact h4, _, cap, by rw [h1, hlen], by rw [h1, hlen]; exact hl, hm, hn, fun _ => ⟨b, o, rfl, hbl, h2⟩⟩, h5⟩
set_option maxRecDepth 100000 in
theorem open_partial0 {H : Type} {enc : TypeId × Value → H} {W : World} {base : Nat} {v : Value} {d : DataW H} {p : List MemPlace} (hv : Value.okWide Try.prog W .any base 43 v)
    (h : DataW.Trod enc Try.prog W 0 (fun _ => true) true 43 v d p) (hs : Sml 43 d) :
    ∃ (bs : List Bd) (ao : Option Addr) (n cap : Nat), v = .agg #[.slice ao n cap] ∧ BsV W W.heap.size (.slice ao n cap) bs ∧ WfB bs := by
  obtain ⟨cs, rfl, hsz⟩ := okWide_struct Try.underlying43 hv
  have hC : Try.prog.cellsOf 43 = 1 := by kernel_rfl
  have e1 : Try.prog.cellsOf 41 = 1 := by kernel_rfl
  obtain ⟨l⟩ := cs
  match l, hsz.trans hC with
  | [c0], _ =>
    obtain ⟨fuel, hf⟩ := h
    obtain ⟨xs, n, _, hx, _, hlen, hg⟩ := DataW.trod_struct Try.underlying43 hf
    match xs, hlen with
    | [y0], _ =>
      have g0 : DataW.trod enc Try.prog W 0 (fun _ => true) true n 41 [c0] = some y0 := by have := hg 0 _ rfl; simpa [Value.cells, e1] using this
      simp only [Prod.mk.injEq] at hx
      rw [hx.1] at hs
      obtain ⟨bs, ao, m, cap, rfl, h1, h2⟩ := open_bounds0 g0 (hs.field Try.underlying43 (j := 0) rfl rfl)
      exact ⟨bs, ao, m, cap, rfl, h1, h2⟩
end Go.Proofs.Ytpbloplbpkedcaa

/- What the arguments are in memory, as the statements hand them over: bytes. -/
namespace Go.Proofs.Ytpbloplbpkedcaa
open Go Go.ChangeShapes Go.WideShapes Go.ChangeAt Go.RowKit Go.Deep
set_option linter.unusedVariables false

theorem open_bv {H : Type} {enc : TypeId × Value → H} {W : World} {v : Value} {d : DataW H} {p : List MemPlace} {fuel : Nat}
    (hf : DataW.trod enc Try.prog W 0 (fun _ => true) true fuel 53 [v] = some (d, p)) (hsz : ∀ es sp, d = .slice es sp → es.length ≤ 140737488355328) :
    ∃ x : List Nat, Bv W W.heap.size v x ∧ (d = .nil ∧ x = [] ∨ ∃ es sp, d = .slice es sp ∧ x.length = es.length) := by
  rcases open_ints Try.underlying53 Try.underlying5 (by kernel_rfl) hf with ⟨hcs, hx⟩ | ⟨a, len, cap, zs, hcs, _, hl, hm, hz, hx, hcell, hwz⟩
  · simp only [List.cons.injEq, and_true] at hcs
    subst hcs
    simp only [Prod.mk.injEq] at hx
    exact ⟨[], Bv.nil _ _, .inl ⟨hx.1, rfl⟩⟩
  · simp only [List.cons.injEq, and_true] at hcs
    subst hcs
    simp only [if_true] at hz
    simp only [Prod.mk.injEq] at hx
    have hlen : ((zs.take len).map Int.toNat).length = len := by simp; omega
    have hb : ∀ z ∈ zs, 0 ≤ z ∧ z ≤ 255 := fun z hzz => by
      have := hwz z hzz
      simpa [Lit.wf, IntKind.min, IntKind.max, IntKind.signed, IntKind.bits] using this
    have hn := hsz _ _ hx.1
    have hes : (lits (H := H) .u8 (zs.take len)).length = len := by simp [lits]; omega
    rw [hes] at hn
    unfold maxLen at hm
    refine ⟨(zs.take len).map Int.toNat, ⟨?_, by rw [hlen]; exact hn, some a, cap, by rw [hlen], by rw [hlen]; exact hl, by omega, (fun h => by cases h), fun h0 => ?_⟩, .inr ⟨_, _, hx.1, by rw [hlen, hes]⟩⟩
    · intro c hc
      simp only [List.mem_map] at hc
      obtain ⟨z, hz1, rfl⟩ := hc
      have := hb z (List.mem_of_mem_take hz1)
      omega
    · rw [hlen] at h0 ⊢
      have h00 := hcell 0 (by omega)
      obtain ⟨b, o, sp⟩ := a
      obtain rfl : sp = none := by simpa [Addr.add] using World.cell?_spot h00
      have hblk : b < W.heap.size := by simpa [Addr.add] using World.block_lt_of_cell? _ _ h00
      refine ⟨b, o, rfl, hblk, fun j hj => ?_⟩
      have hjz : j < zs.length := by omega
      have hj2 := hcell j hjz
      rw [add_spot] at hj2
      rw [hj2]
      have h1 := hb zs[j] (List.getElem_mem _)
      simp [List.getD, hj, hjz]
      omega
end Go.Proofs.Ytpbloplbpkedcaa
