/- Joined: Mr2, So0, Cc0, Mg0, Of0, Sp0, Bx0, Be0, Ce0, Sr0. -/
import Derived.Test.YtpbloplbpkedcaaJrg
import Derived.Test.YtpbloplbpkedcaaJre
import Derived.Test.YtpbloplbpkedcaaShelf5
import Derived.Test.YtpbloplbpkedcaaJra
import Derived.Shelf.SlSortCmp.WholeK
import Derived.Lib.OwnBridge
import Derived.Lib.AppendZeros
import Derived.OwnWalk
import Derived.Test.YtpbloplbpkedcaaJrf
import Derived.BigQuiet
import Derived.Deep.QuietTactic
import Derived.Deep.RegionHeld3
/- Contracts: Take and Parse of a partial match: the document's. -/
namespace Go.Proofs.Ytpbloplbpkedcaa
open Go Go.RowKit

set_option maxRecDepth 100000 in
set_option maxHeartbeats 6400000 in
theorem r10Take_any (B q : Nat) (l : List Bool) (w : World) (h : RefIs w B q l) (hB : B ≤ w.heap.size) :
    Calls Try.prog 28 #[.pointer (some ⟨q, 0, none⟩)] w fun e w' => ∃ v, e = .returned (.tuple #[.agg #[v], .int .i64 (tpErr l)]) ∧ BsO w' w.heap.size v (tpL l) ∧ RefIs w' B q (tpRest l) ∧ KeptR B q w w' := by
  obtain ⟨P, hP⟩ : ∃ P, P = w.heap.size := ⟨_, rfl⟩
  obtain ⟨ao0, cap0, hq0⟩ : ∃ ao cap, w.heap[q]? = some (.cells #[.slice ao l.length cap] 67 (0, 0)) := by
    obtain ⟨ao, cap, hq, _⟩ := h.row
    exact ⟨ao, cap, hq⟩
  obtain ⟨N, hN⟩ : ∃ N, N = l.length := ⟨_, rfl⟩
  rw [← hN] at hq0
  have c00 := cell_of_one hq0
  have c0 : (w.alloc (.cells #[.slice none 0 0] 43)).cell? ⟨q, 0, none⟩ = some (.slice ao0 N cap0) := Lib.cell?_alloc_some _ c00
  obtain ⟨W, hW⟩ : ∃ W, W = (w.alloc (.cells #[.slice none 0 0] 43)).alloc (.cells #[.slice ao0 N cap0] 67) := ⟨_, rfl⟩
  have hWr : RefIs W B q l := by rw [hW]; exact (h.alloc _).alloc _
  have hWq : W.cell? ⟨q, 0, none⟩ = some (.slice ao0 N cap0) := by rw [hW]; exact Lib.cell?_alloc_some _ c0
  have hWR : W.heap[P]? = some (.cells #[.slice none 0 0] 43 (0, 0)) := by rw [hW, hP]; exact heap_alloc_keeps (heap_alloc_new _ _) _
  have hWX : W.heap[P + 1]? = some (.cells #[.slice ao0 N cap0] 67 (0, 0)) := by rw [hW, hP]; exact heap_alloc_at (by simp) rfl
  have hWK : KeptR B q w W := by rw [hW]; exact ((KeptR.refl _ _ _).alloc hB _).alloc (by simp; omega) _
  have hWS : P + 2 = W.heap.size := by rw [hW, hP]; simp
  have C := r10take_any B q l W hWr (by rw [← hWS]; omega)
  have hqP : q < P := by rw [hP]; exact h.lt
  have T1 := Lib.hid (tpErr_read (l := l)); have T2 := Lib.hid (tpErr_ck (l := l)); have T3 := Lib.hid (tpL_no (l := l)); have T4 := Lib.hid (tpL_ok (l := l)); have T5 := Lib.hid (tpRest_no (l := l)); have T6 := Lib.hid (tpRest_ok (l := l))
  generalize (rdP l).1 = re at C T1 T2
  generalize (rdP l).2.1 = bs at C T2 T4
  generalize (rdP l).2.2 = l3 at C T6
  generalize tpErr l = te at *
  generalize tpL l = tl at *
  generalize tpRest l = tr at *
  have HC := Lib.hid C; have HWR := Lib.hid hWr; have HWQ := Lib.hid hWq; have HRR := Lib.hid hWR; have HWX := Lib.hid hWX; have HWK := Lib.hid hWK; have HWS := Lib.hid hWS; have HQP := Lib.hid hqP; have HW := Lib.hid hW; have HP := Lib.hid hP; have HB := Lib.hid hB
  have HPE : Hid (w.heap.size ≤ P) := Lib.hid (by rw [hP]; exact Nat.le_refl _)
  have HBP : Hid (B ≤ P) := Lib.hid (by rw [hP]; exact hB)
  have HBW : Hid (B ≤ W.heap.size) := Lib.hid (by omega)
  rw [← hP]
  clear c00 C hWr hWq hWR hWX hWK hWS hqP hW hP hB h hq0 hN
  go_enter Try.func28, Try.ntmps28
  go_wp2_with fail
  rw [← HW.out, ← HP.out]
  clear c0
  refine HC.out.mono ?_
  rintro e w2 ⟨ao, n, c, rfl, ho2, ⟨l2, hs2, hl2⟩, k2⟩
  obtain ⟨W3, hW3⟩ : ∃ W3, W3 = w2.alloc (.cells #[.slice ao n c] 43) := ⟨_, rfl⟩
  have hb3 : Below w2.heap.size w2 W3 := by rw [hW3]; exact (Below.refl _ _).alloc (Nat.le_refl _) _
  have hsz2 := k2.below.size
  have HX3 : Hid (W3.heap[w2.heap.size]? = some (.cells #[.slice ao n c] 43 (0, 0))) := by rw [hW3]; exact Lib.hid (heap_alloc_new _ _)
  have HKW3 : Hid (KeptR B q W W3) := by rw [hW3]; exact Lib.hid (k2.alloc (Nat.le_trans HBW.out hsz2) _)
  have HS3 : Hid (RefIs W3 B q l2) := by rw [hW3]; exact Lib.hid (hs2.alloc _)
  have HR3 := Lib.hid (HKW3.out.typed _ _ _ _ HRR.out (by decide))
  have HY3 := Lib.hid ((HKW3.out.only (P + 1) (lt_of_block HWX.out) (by have := HQP.out; omega)).trans HWX.out)
  have HO3 := Lib.hid (fun h => (ho2 h).call hb3)
  have HL2 := Lib.hid hl2
  have HP2 := Lib.hid (show P + 1 < w2.heap.size by have := HWS.out; omega)
  have HWE := Lib.hid hW3
  clear ho2 hs2 hl2 k2 hb3 hsz2
  by_cases h0 : re = 0
  case neg =>
    have b1 : (re == 0) = false := by simp [h0]
    have b2 : (re != 0) = true := by simp [h0]
    have HN := Lib.hid h0
    have HTE := Lib.hid (T1.out h0)
    have hback := HWR.out.back HKW3.out HS3.out HWQ.out
    have HBK := Lib.hid hback
    have fq := HS3.out.free
    have y0 := cells_one0 HY3.out
    have r0 := cells_one0 HR3.out
    have g0 := free_cells_of HR3.out 0
    obtain ⟨aq, cq, hqq, _⟩ := HS3.out.row
    have q0 := cell_of_one hqq
    have m1 : ¬ q = P := by have := HQP.out; omega
    have m2 : ¬ P = q := fun e => m1 e.symm
    rw [hW3] at fq y0 r0 g0 q0
    clear h0 hback hqq hW3
    go_wp2
    have hr4 := heap_setCell_far (p := ⟨q, 0, none⟩) HR3.out (by show P ≠ q; exact m2) (.slice ao0 N cap0)
    have ks := one_set hr4 (.slice none 0 0)
    have hz := cells_one0 (heap_setCell_same (k := 0) hr4 (.slice none 0 0))
    have hF := (HWK.out.trans HBK.out.2).setCell_fresh (p := ⟨P, 0, none⟩) (by show B ≤ P; exact HBP.out) (by show w.heap.size ≤ P; exact HPE.out) (.slice none 0 0)
    have hS := HBK.out.1.kept ks (by decide) (by decide)
    rw [HWE.out] at hz hF hS
    refine bodyPost_ret (v := .tuple #[.agg #[.slice none 0 0], .int .i64 re]) (by simp [results, Try.results28, go_sem, hz]) rfl ?_
    have hne : te ≠ 0 := by rw [HTE.out]; exact HN.out
    rw [T3.out hne, T5.out hne, HTE.out]
    exact ⟨.slice none 0 0, rfl, BsO.nil _ _, hS, hF⟩
  case pos =>
    have hO := HO3.out h0
    have hl3 := HL2.out h0
    have HT2 := Lib.hid (T2.out h0)
    subst h0
    subst hl3
    have HBO := Lib.hid hO
    have HCK := Lib.hid (r10Check_any W3.heap.size ao n c bs W3 hO.bsv (Nat.le_refl _))
    have x0 := cells_one0 HX3.out
    generalize ckP bs = ck at HCK HT2
    rw [hW3] at x0
    clear hO hW3
    go_wp2_with fail
    rw [← HWE.out]
    clear x0
    refine HCK.out.mono ?_
    rintro e w4 ⟨rfl, hb4⟩
    have HKW4 := Lib.hid (HKW3.out.of_below hb4 (Nat.le_trans HBW.out HKW3.out.below.size) rfl)
    have HS4 := Lib.hid (HS3.out.below hb4 (Nat.le_refl _))
    have HR4 := Lib.hid ((hb4.block P (lt_of_block HR3.out)).trans HR3.out)
    have HY4 := Lib.hid ((hb4.block (P + 1) (lt_of_block HY3.out)).trans HY3.out)
    have HX4 := Lib.hid ((hb4.block w2.heap.size (lt_of_block HX3.out)).trans HX3.out)
    have HBO4 := Lib.hid (HBO.out.call hb4)
    clear hb4
    by_cases hc : ck = 0
    case neg =>
      have b2 : (ck != 0) = true := by simp [hc]
      have HC0 := Lib.hid hc
      have HBK := Lib.hid (HWR.out.back HKW4.out HS4.out HWQ.out)
      have fq := HS4.out.free
      have y0 := cells_one0 HY4.out
      have r0 := cells_one0 HR4.out
      have g0 := free_cells_of HR4.out 0
      obtain ⟨aq, cq, hqq, _⟩ := HS4.out.row
      have q0 := cell_of_one hqq
      have m1 : ¬ q = P := by have := HQP.out; omega
      have m2 : ¬ P = q := fun e => m1 e.symm
      clear hc hqq
      go_wp2
      have hr4 := heap_setCell_far (p := ⟨q, 0, none⟩) HR4.out (by show P ≠ q; exact m2) (.slice ao0 N cap0)
      have ks := one_set hr4 (.slice none 0 0)
      have hz := cells_one0 (heap_setCell_same (k := 0) hr4 (.slice none 0 0))
      have hF := (HWK.out.trans HBK.out.2).setCell_fresh (p := ⟨P, 0, none⟩) (by show B ≤ P; exact HBP.out) (by show w.heap.size ≤ P; exact HPE.out) (.slice none 0 0)
      have hS := HBK.out.1.kept ks (by decide) (by decide)
      refine bodyPost_ret (v := .tuple #[.agg #[.slice none 0 0], .int .i64 ck]) (by simp [results, Try.results28, go_sem, hz]) rfl ?_
      have hne : te ≠ 0 := by rw [HT2.out]; exact HC0.out
      rw [T3.out hne, T5.out hne, HT2.out]
      exact ⟨.slice none 0 0, rfl, BsO.nil _ _, hS, hF⟩
    case pos =>
      have b2 : (ck != 0) = false := by simp [hc]
      have HTZ : Hid (te = 0) := Lib.hid (by rw [HT2.out]; exact hc)
      have r0 := cells_one0 HR4.out
      have g0 := free_cells_of HR4.out 0
      have x0 := cells_one0 HX4.out
      have m1 : ¬ w2.heap.size = P := by have := HP2.out; omega
      clear hc
      go_wp2
      have ks := one_set HR4.out (.slice ao n c)
      have hz := cells_one0 (heap_setCell_same (k := 0) HR4.out (.slice ao n c))
      have hF := (HWK.out.trans HKW4.out).setCell_fresh (p := ⟨P, 0, none⟩) (by show B ≤ P; exact HBP.out) (by show w.heap.size ≤ P; exact HPE.out) (.slice ao n c)
      have hS := HS4.out.kept ks (by decide) (by decide)
      refine bodyPost_ret (v := .tuple #[.agg #[.slice ao n c], .int .i64 0]) (by simp [results, Try.results28, go_sem, hz]) rfl ?_
      rw [T4.out HTZ.out, T6.out HTZ.out, HTZ.out]
      exact ⟨.slice ao n c, rfl, (HBO4.out.keptT ks (by decide) (by decide)).lower (by have := HWS.out; omega), hS, hF⟩

set_option maxRecDepth 100000 in
set_option maxHeartbeats 3200000 in
theorem r10Parse_any (ao : Option Addr) (cap : Nat) (bytes : List Nat) (w : World) (hbig : bytes.length ≤ 1048576) (hsm : ∀ c ∈ bytes, c < 256) (h : BytesAt w ao bytes) :
    Calls Try.prog 21 #[.slice ao bytes.length cap] w fun e w' => ∃ v, e = .returned (.tuple #[.agg #[v], .int .i64 (ppErr (bitsAll bytes))]) ∧ BsO w' w.heap.size v (ppL (bitsAll bytes)) ∧ Below w.heap.size w w' := by
  obtain ⟨P, hP⟩ : ∃ P, P = w.heap.size := ⟨_, rfl⟩
  obtain ⟨W, hW⟩ : ∃ W, W = w.alloc (.cells #[.slice none 0 0] 43) := ⟨_, rfl⟩
  have hbW : Below P w W := by rw [hW, hP]; exact (Below.refl _ _).alloc (Nat.le_refl _) _
  have hsz : P < W.heap.size := by rw [hW, hP]; simp
  have hrW : W.heap[P]? = some (.cells #[.slice none 0 0] 43 (0, 0)) := by rw [hW, hP]; exact heap_alloc_new _ _
  have hba : BytesAt W ao bytes := ⟨h.1, fun a ha j hj => by rw [hW]; exact Lib.cell?_alloc_some _ (h.2 a ha j hj)⟩
  have CN := rNew_any ao cap bytes W hbig hsm hba
  have C2 := fun (q : Nat) (w1 : World) (hs : RefIs w1 W.heap.size q (bitsAll bytes)) (hB : W.heap.size ≤ w1.heap.size) => r10Take_any W.heap.size q (bitsAll bytes) w1 hs hB
  obtain ⟨l, hl⟩ : ∃ l, l = bitsAll bytes := ⟨_, rfl⟩
  rw [← hl] at C2 CN ⊢
  have T1 := Lib.hid (ppErr_take (l := l)); have T2 := Lib.hid (ppErr_end (l := l)); have T3 := Lib.hid (ppL_no (l := l)); have T4 := Lib.hid (ppL_ok (l := l))
  generalize tpErr l = te at *
  generalize tpL l = bs at *
  generalize tpRest l = tr at *
  generalize ppErr l = pe at *
  generalize ppL l = pl at *
  have HCN := Lib.hid CN; have HC2 := Lib.hid C2; have HBW := Lib.hid hbW; have HSZ := Lib.hid hsz; have HRW := Lib.hid hrW; have HW := Lib.hid hW; have HP := Lib.hid hP
  rw [← hP]
  clear hbig hsm h hP hW hbW hsz hrW hba CN C2 hl
  go_enter Try.func21, Try.ntmps21
  go_wp2_with fail
  rw [← HW.out, ← HP.out]
  refine HCN.out.mono ?_
  rintro e w1 ⟨q, rfl, hs1, b1⟩
  have HS1 := Lib.hid hs1; have HB1 := Lib.hid b1
  clear hs1 b1
  go_wp2_with fail
  refine (HC2.out q w1 HS1.out HB1.out.size).mono ?_
  rintro e w2 ⟨v2, rfl, ho2, hs2, k2⟩
  obtain ⟨ao2, cap2, rfl⟩ := ho2.shape
  obtain ⟨n2, hn2⟩ : ∃ n2, n2 = bs.length := ⟨_, rfl⟩
  rw [← hn2] at ho2 ⊢
  obtain ⟨W3, hW3⟩ : ∃ W3, W3 = w2.alloc (.cells #[.slice ao2 n2 cap2] 43) := ⟨_, rfl⟩
  have hb3 : Below w2.heap.size w2 W3 := by rw [hW3]; exact (Below.refl _ _).alloc (Nat.le_refl _) _
  have hbb : Below P w w2 := HBW.out.trans ((HB1.out.trans k2.below).mono (Nat.le_of_lt HSZ.out))
  have HO3 := Lib.hid (ho2.call hb3)
  have HS3 := Lib.hid (hs2.below hb3 (Nat.le_refl _))
  have HB3 := Lib.hid (hbb.trans (hb3.mono (by rw [HP.out]; exact hbb.size)))
  have hr2 := (k2.below.block P HSZ.out).trans ((HB1.out.block P HSZ.out).trans HRW.out)
  have HR3 := Lib.hid ((hb3.block P (lt_of_block hr2)).trans hr2)
  have HX3 : Hid (W3.heap[w2.heap.size]? = some (.cells #[.slice ao2 n2 cap2] 43 (0, 0))) := by rw [hW3]; exact Lib.hid (heap_alloc_new _ _)
  have HL2 := Lib.hid (show P ≤ w1.heap.size from Nat.le_trans (Nat.le_of_lt HSZ.out) HB1.out.size)
  have m1 : ¬ w2.heap.size = P := by have := lt_of_block hr2; omega
  have m2 : ¬ P = w2.heap.size := fun e => m1 e.symm
  have HWE := Lib.hid hW3
  clear ho2 hs2 k2 hbb hr2 hb3 hn2 hW3
  by_cases h0 : te = 0
  · have HTZ := Lib.hid (T2.out h0)
    subst h0
    have CE := rsEnd_any W.heap.size q tr W3 HS3.out
    generalize endErrL tr = en at CE HTZ
    have HCE := Lib.hid CE
    clear CE
    go_wp2_with fail
    rw [← HWE.out]
    refine HCE.out.mono ?_
    rintro e w4 ⟨rfl, rfl⟩
    have HR4 := HR3; have HX4 := HX3; have HO4 := HO3; have HB4 := HB3
    have c0 := cells_one0 HX4.out
    have r0 := cells_one0 HR4.out
    have g0 := free_cells_of HR4.out 0
    by_cases hn0 : en = 0
    · subst hn0
      go_wp2
      have ks := one_set HR4.out (.slice ao2 n2 cap2)
      have hz := cells_one0 (heap_setCell_same (k := 0) HR4.out (.slice ao2 n2 cap2))
      refine bodyPost_ret (v := .tuple #[.agg #[.slice ao2 n2 cap2], .int .i64 0]) (by simp [results, Try.results21, go_sem, hz]) rfl ?_
      have hp0 : pe = 0 := HTZ.out
      rw [T4.out hp0, hp0]
      exact ⟨.slice ao2 n2 cap2, rfl, (HO4.out.keptT ks (by decide) (by decide)).lower HL2.out, HB4.out.setCell (p := ⟨P, 0, none⟩) (Nat.le_refl _) _⟩
    · have b1 : ((en : Int) != 0) = true := by simp; omega
      have HN0 : Hid ((en : Int) ≠ 0) := Lib.hid (by omega)
      clear hn0
      go_wp2
      have hz := cells_one0 (heap_setCell_same (k := 0) HR4.out (.slice none 0 0))
      refine bodyPost_ret (v := .tuple #[.agg #[.slice none 0 0], .int .i64 (en : Int)]) (by simp [results, Try.results21, go_sem, hz]) rfl ?_
      have hne : pe ≠ 0 := by rw [HTZ.out]; exact HN0.out
      rw [T3.out hne, HTZ.out]
      exact ⟨.slice none 0 0, rfl, BsO.nil _ _, HB4.out.setCell (p := ⟨P, 0, none⟩) (Nat.le_refl _) _⟩
  · have b1 : (te != 0) = true := by simp [h0]
    have b0 : (te == 0) = false := by simp [h0]
    have HTE := Lib.hid (T1.out h0); have HTN := Lib.hid h0
    have r0 := cells_one0 HR3.out
    have g0 := free_cells_of HR3.out 0
    rw [HWE.out] at r0 g0
    clear h0
    go_wp2
    have hz := cells_one0 (heap_setCell_same (k := 0) HR3.out (.slice none 0 0))
    have hB := HB3.out.setCell (p := ⟨P, 0, none⟩) (Nat.le_refl _) (.slice none 0 0)
    rw [HWE.out] at hz hB
    refine bodyPost_ret (v := .tuple #[.agg #[.slice none 0 0], .int .i64 te]) (by simp [results, Try.results21, go_sem, hz]) rfl ?_
    have hne : pe ≠ 0 := by rw [HTE.out]; exact HTN.out
    rw [T3.out hne, HTE.out]
    exact ⟨.slice none 0 0, rfl, BsO.nil _ _, hB⟩
end Go.Proofs.Ytpbloplbpkedcaa

/- Contract: slices.SortFunc of bounds by their variables. -/
namespace Go.Proofs.Ytpbloplbpkedcaa
open Go Go.RowKit Go.Sort Go.Shelf

/-- A bound with its slice of attributes. -/
abbrev El := Bd × (Option Addr × Nat)
def elV (p : El) : Value := .slice p.2.1 p.1.ev.ats.length p.2.2
def encE (p : El) : List Value := encB p.1 (elV p)
theorem encE_len (p : El) : (encE p).length = 6 := rfl
theorem RwL.els {A : Value → List At → Prop} : ∀ {bs : List Bd} {xs : List Value}, RwL A bs xs → ∃ l : List El, l.map Prod.fst = bs ∧ xs = l.flatMap encE ∧ ∀ p ∈ l, A (elV p) p.1.ev.ats
  | [], _, h => ⟨[], rfl, h, fun p hp => by cases hp⟩
  | x :: r, _, ⟨aa, ac, ys, e, h1, h2⟩ => by
    obtain ⟨l, e1, e2, h3⟩ := h2.els
    refine ⟨(x, (aa, ac)) :: l, by rw [List.map_cons, e1], by rw [e, e2]; rfl, fun p hp => ?_⟩
    rcases List.mem_cons.1 hp with rfl | hp
    · exact h1
    · exact h3 p hp
theorem RwL.of_els {A : Value → List At → Prop} : ∀ (l : List El), (∀ p ∈ l, A (elV p) p.1.ev.ats) → RwL A (l.map Prod.fst) (l.flatMap encE)
  | [], _ => rfl
  | p :: r, h => ⟨p.2.1, p.2.2, r.flatMap encE, rfl, h p (List.mem_cons_self ..), RwL.of_els r fun q hq => h q (List.mem_cons_of_mem _ hq)⟩
theorem flatE_len : ∀ l : List El, (l.flatMap encE).length = l.length * 6
  | [] => rfl
  | p :: r => by rw [List.flatMap_cons, List.length_append, encE_len, flatE_len r, List.length_cons]; omega
theorem flatE_at : ∀ (l : List El) (j : Nat), j < l.length * 6 → (l.flatMap encE)[j]? = some ((encE l[j / 6]!)[j % 6]!)
  | [], j, h => absurd h (by simp)
  | p :: r, j, h => by
    rw [List.flatMap_cons]
    by_cases hlt : j < 6
    · rw [List.getElem?_append_left (by rw [encE_len]; exact hlt), Nat.div_eq_of_lt hlt, Nat.mod_eq_of_lt hlt]
      show (encE p)[j]? = some ((encE p)[j]!)
      rw [getElem!_pos (encE p) j (by rw [encE_len]; exact hlt), List.getElem?_eq_getElem (by rw [encE_len]; exact hlt)]
    · have hl : (p :: r).length * 6 = r.length * 6 + 6 := by rw [List.length_cons]; omega
      rw [List.getElem?_append_right (by rw [encE_len]; omega), encE_len, flatE_at r (j - 6) (by omega)]
      have h1 : j / 6 = (j - 6) / 6 + 1 := by omega
      have h2 : j % 6 = (j - 6) % 6 := by omega
      rw [h1, h2]
      simp
theorem holds_of_own {w : World} {base g n cap : Nat} {l : List El} (h : w.ownsRow base 91 6 (.slice (some ⟨g, 0, none⟩) n cap) n (l.flatMap encE)) (hn : n = l.length) : HoldsK encE 6 w g 0 l.toArray := by
  intro j hj
  have hj' : j < l.length * 6 := by simpa [size_flatK] using hj
  refine ⟨?_, by rw [Nat.zero_add]; exact h.frozenAt j⟩
  rw [get_flatK _ _ _ j (by simpa using hj'), Nat.zero_add, h.cellAt j (by omega), flatE_at l j hj']
  simp
theorem cells_of_holds {w : World} {g : Nat} {l : List El} (h : HoldsK encE 6 w g 0 l.toArray) : ∀ j u, (l.flatMap encE)[j]? = some u → w.cell? ⟨g, 0 + j, none⟩ = some u := by
  intro j u hu
  have hj : j < l.length * 6 := by rw [← flatE_len]; exact (List.getElem?_eq_some_iff.1 hu).1
  have := (h j (by simpa [size_flatK] using hj)).1
  rw [this, get_flatK _ _ _ j (by simpa using hj), ← hu, flatE_at l j hj]
  simp
def cfE (x y : El) : Int := cbV x.1 y.1
theorem swoE : SWO (ltOf cfE) where
  irrefl x := by unfold ltOf cfE cbV; rw [cb_self]; rfl
  trans x y z h1 h2 := by
    unfold ltOf cfE at *
    rw [decide_eq_true_eq] at *
    exact cbV_trans h1 h2
  ntrans x y z h1 h2 := by
    unfold ltOf cfE at *
    rw [decide_eq_false_iff_not] at *
    have a := cbV_swap x.1 y.1; have b := cbV_swap y.1 z.1; have c := cbV_swap x.1 z.1
    have := (cb_trans z.1.var.data.toList y.1.var.data.toList x.1.var.data.toList (show cbV z.1 y.1 ≤ 0 by omega) (show cbV y.1 x.1 ≤ 0 by omega)).1
    have d : cbV z.1 x.1 ≤ 0 := this
    omega

set_option maxRecDepth 100000 in
set_option maxHeartbeats 1600000 in
theorem mMerge1_any (x y : El) (W : World) :
    Calls Try.prog 89 #[.agg (encE x).toArray, .agg (encE y).toArray] W fun e w' => e = .returned (.int .i64 (cfE x y)) ∧ ∃ q os', w' = grow (W.drewN q) os' := by
  show Calls Try.prog 89 #[.agg #[.string x.1.var, .int .i64 x.1.ev.src, .int .i64 x.1.ev.seq, .int .i64 x.1.ev.time, .string x.1.ev.ty, elV x], .agg #[.string y.1.var, .int .i64 y.1.ev.src, .int .i64 y.1.ev.seq, .int .i64 y.1.ev.time, .string y.1.ev.ty, elV y]] W fun e w' => e = .returned (.int .i64 (Lib.compareBytes x.1.var.data.toList y.1.var.data.toList)) ∧ ∃ q os', w' = grow (W.drewN q) os'
  have hcon := fun w => Try.strings_Compare x.1.var y.1.var w
  generalize Lib.compareBytes x.1.var.data.toList y.1.var.data.toList = r at hcon ⊢
  generalize elV x = vx
  generalize elV y = vy
  go_enter Try.func89, Try.ntmps89
  go_wp2_with (go_at_call 90; (with_reducible refine (hcon _).mono ?_); rintro e w' ⟨rfl, rfl⟩)
  go_ret
  exact ⟨rfl, 0, _, by rw [alloc_eq_grow, alloc_eq_grow, grow_grow]; rfl⟩

theorem below_sortWorld {base : Nat} {w : World} {g n : Nat} {d : Array El} {os : Array Obj} (hg : base ≤ g) (hgw : g < w.heap.size) : Below base w (sortWorldK encE 6 w g 0 n d os) ∧ w.heap.size ≤ (sortWorldK encE 6 w g 0 n d os).heap.size := by
  have hsz : (putRowK encE 6 (Sort.ahead w n) g 0 d).heap.size = w.heap.size := by unfold putRowK; rw [size_putRow]; rfl
  have h1 : Below base w (putRowK encE 6 (Sort.ahead w n) g 0 d) := Lib.below_putRow (Below.refl base w) hg
  have h2 : Below w.heap.size (putRowK encE 6 (Sort.ahead w n) g 0 d) (grow (putRowK encE 6 (Sort.ahead w n) g 0 d) os) := ⟨rfl, rfl, rfl, by simp [grow], fun k hk => by
    show (_ ++ os)[k]? = _
    rw [Array.getElem?_append_left (by omega)]⟩
  exact ⟨h1.trans (h2.mono (by omega)), by show w.heap.size ≤ (_ ++ os).size; rw [Array.size_append, hsz]; omega⟩

set_option maxRecDepth 100000 in
set_option maxHeartbeats 1600000 in
theorem iSortBd_none (p : Option Addr) (cap : Nat) (fv : Value) (w : World) :
    Calls Try.prog 148 #[.slice p 0 cap, .int .i64 0, .int .i64 0, fv] w fun e w' => e = .returned (.tuple #[]) ∧ w = w' := by
  go_enter Try.func148, Try.ntmps148
  go_wp2
  refine wp_loop_rounds 1 ?_
  rw [rounds_succ]
  go_wp2
  go_end0
  exact ⟨rfl, rfl⟩
set_option maxRecDepth 100000 in
set_option maxHeartbeats 1600000 in
theorem pdqBd_none (p : Option Addr) (cap : Nat) (lim : Int) (fv : Value) (w : World) :
    Calls Try.prog 117 #[.slice p 0 cap, .int .i64 0, .int .i64 0, .int .i64 lim, fv] w fun e w' => e = .returned (.tuple #[]) ∧ w = w' := by
  go_enter Try.func117, Try.ntmps117
  go_wp2
  refine wp_loop_rounds 1 ?_
  rw [rounds_succ]
  go_wp2_with (go_at_call 148; (with_reducible refine (iSortBd_none _ _ _ _).mono ?_); rintro e w' ⟨rfl, rfl⟩)
  (try simp only [Exit.inBlock, Exit.then]); refine bodyPost_ret (results_none rfl _ _ _) rfl ?_
  exact ⟨rfl, rfl⟩
set_option maxRecDepth 100000 in
set_option maxHeartbeats 1600000 in
theorem SortFuncBd_none (fv : Value) (w : World) :
    Calls Try.prog 88 #[.slice none 0 0, fv] w fun e w' => e = .returned (.tuple #[]) ∧ w = w' := by
  have hl : ∀ W, Calls Try.prog 111 #[.int .u64 0] W fun e w' => e = .returned (.int .i64 (Lib.bitLen 0 : Nat)) ∧ W = w' := fun W => (Try.bits_Len 0 W (by omega) (by omega)).mono fun _ _ ⟨a, b⟩ => ⟨a, b.symm⟩
  go_enter Try.func88, Try.ntmps88
  go_wp2_with (first | (go_at_call 111; (with_reducible refine (hl _).mono ?_); rintro e w' ⟨rfl, rfl⟩) | (go_at_call 117; (with_reducible refine (pdqBd_none _ _ _ _ _).mono ?_); rintro e w' ⟨rfl, rfl⟩))
  go_end0
  exact ⟨rfl, rfl⟩
set_option maxHeartbeats 1600000 in
theorem SortFuncBd_any (base B : Nat) (v : Value) (bs : List Bd) (xs : List Value) (w : World) (h : w.ownsRow base 91 6 v bs.length xs) (hr : RwL (AvN w B) bs xs) (hB : B ≤ base) (hbw : base ≤ w.heap.size) (hw : ∀ x ∈ bs, x.var.size ≤ maxLen ∧ x.ev.ty.size ≤ maxLen) (hl : bs.length * 80 ≤ 140737488355328) :
    Calls Try.prog 88 #[v, .func (.func 89) #[] #[]] w fun e w' => e = .returned (.tuple #[]) ∧ ∃ m : List Bd, m.Perm bs ∧ (m.Pairwise fun x y => cbV x y ≤ 0) ∧ BsV w' w'.heap.size v m ∧ Below base w w' ∧ w.heap.size ≤ w'.heap.size ∧ ∀ a : Addr, some a.block ≠ v.ownBlock → a.block < w.heap.size → w'.cell? a = w.cell? a := by
  rcases h.2 with ⟨rfl, h0⟩ | ⟨g, cap, cur, rfl, hg, hgg, hcap, hcm, _, _⟩
  · obtain rfl : bs = [] := List.eq_nil_of_length_eq_zero h0
    exact (SortFuncBd_none (.func (.func 89) #[] #[]) w).mono fun e w' ⟨he, hw'⟩ => ⟨he, [], List.Perm.refl _, List.Pairwise.nil, BsV.nil _ _, by rw [← hw']; exact Below.refl _ _, by rw [← hw']; exact Nat.le_refl _, fun a _ _ => by rw [← hw']⟩
  · obtain ⟨l, rfl, rfl, hA⟩ := hr.els
    have hgw := lt_of_block hgg
    have hlen : (l.map Prod.fst).length = l.length := List.length_map _
    have hH := holds_of_own h hlen
    have eg : ∀ args w, (callFunc 89 args).run Try.prog w = .ok (.enter 89 args) w := enters_of Try.func89 (by kernel_rfl) rfl
    have hcmp : CmpLays Try.prog 89 #[] encE 6 cfE g 0 l.toArray.size w := fun _ _ _ _ x y => mMerge1_any x y _
    have hcon := AnyQ.slices_SortFunc Try.lSortF 6 Try.isAgg91 Try.sizeOf91 encE encE_len (fun x v hv => encB_one _ _ _ _ v hv) cfE swoE 89 #[] g 0 cap l.toArray w eg hcmp hH hgw (by simp; omega)
    change Calls Try.prog 88 #[.slice (some ⟨g, 0, none⟩) l.length cap, _] _ _ at hcon
    rw [hlen]
    refine hcon.mono fun e w' ⟨he, d', n, os, hp, hs, hw'⟩ => ?_
    have hps : d'.size = l.length := by have := hp.1; simpa using this
    have hperm : d'.toList.Perm l := by
      have := hp.2.2
      have e1 : d'.extract 0 l.toArray.size = d' := by rw [show l.toArray.size = d'.size by simp [hps]]; exact Array.extract_size
      have e2 : l.toArray.extract 0 l.toArray.size = l.toArray := Array.extract_size
      rw [e1, e2] at this
      simpa using this
    obtain ⟨hb, hsz⟩ := below_sortWorld (n := n) (d := d') (os := os) hg hgw
    rw [← hw'] at hb hsz
    have hH' : HoldsK encE 6 w' g 0 d'.toList.toArray := by rw [hw', Array.toArray_toList]; exact holdsK_sortWorldK encE 6 w g 0 n l.toArray d' os hgw hH (by simp [hps])
    have hpm : (d'.toList.map Prod.fst).Perm (l.map Prod.fst) := hperm.map _
    refine ⟨he, d'.toList.map Prod.fst, hpm, ?_, ?_, hb, hsz, fun a ha hlt => by rw [hw']; exact cell?_sortWorldK_other encE 6 w g 0 n d' os a (fun e => ha (by rw [e]; rfl)) hlt⟩
    · rw [List.pairwise_iff_getElem]
      intro i j hi hj hij
      rw [List.length_map, Array.length_toList] at hi hj
      have := hs i j (Nat.zero_le _) hij (by simp; omega)
      unfold ltOf cfE at this
      rw [decide_eq_false_iff_not, getElem!_pos d' i hi, getElem!_pos d' j hj] at this
      have h2 := cbV_swap (d'[i]).1 (d'[j]).1
      rw [List.getElem_map, List.getElem_map, Array.getElem_toList, Array.getElem_toList]
      omega
    · have hml : (d'.toList.map Prod.fst).length = l.length := by rw [List.length_map, Array.length_toList, hps]
      refine ⟨fun x hx => hw x (hpm.mem_iff.1 hx), by rw [hml, ← hlen]; exact hl, some ⟨g, 0, none⟩, cap, by rw [hml], by rw [hml, ← hlen]; exact hcap, by unfold maxLen at hcm; omega, (fun e => by cases e), fun _ => ⟨g, 0, rfl, by omega, ?_⟩⟩
      exact BdAt.of_list (RwL.of_els d'.toList fun p hp => ((hA p (hperm.mem_iff.1 hp)).below hb hB).mono (by omega)) (cells_of_holds hH')
end Go.Proofs.Ytpbloplbpkedcaa

/- Contracts: slices.Grow of no bounds, slices.Concat of two slices of bounds. -/
namespace Go.Proofs.Ytpbloplbpkedcaa
open Go Go.RowKit

theorem cell_of_two0 {w : World} {q : Nat} {c0 c1 : Value} {t : Nat} (h : w.heap[q]? = some (.cells #[c0, c1] t (0, 0))) : w.cell? ⟨q, 0, none⟩ = some c0 ∧ w.cell? ⟨q, 1, none⟩ = some c1 := by simp [World.cell?, h]
theorem GrowBd_zero (w : World) : Calls Try.prog 116 #[.slice none 0 0, .int .i64 0] w fun e w' => e = .returned (.slice none 0 0) ∧ w = w' := by
  go_enter Try.func116, Try.ntmps116
  go_wp2
  go_ret
  exact ⟨rfl, rfl⟩
set_option maxRecDepth 100000 in
set_option maxHeartbeats 2000000 in
theorem GrowBd_more (w : World) (n : Nat) (h0 : 0 < n) (hn : n * 80 ≤ 281474976710656) :
    Calls Try.prog 116 #[.slice none 0 0, .int .i64 (n : Int)] w fun e w' => ∃ g cap, e = .returned (.slice (some ⟨g, 0, none⟩) 0 cap) ∧ n ≤ cap ∧ w'.ownsRow w.heap.size 91 6 (.slice (some ⟨g, 0, none⟩) 0 cap) 0 [] ∧ Below w.heap.size w w' := by
  obtain ⟨i0, hi, hz0, hz1, hz2⟩ := info_parts infoBd
  have happ := Lib.run_append_nil_zeros (P := Try.prog) w 41 3 41 91 i0 _ .i64 .i64 Try.underlying41 Try.underlying3 hi hz0 n h0 (by omega) (by omega) (by rw [hz2]; omega)
  generalize hcap : grownCap w n 0 91 = cap at happ
  have hcapge : n ≤ cap := by rw [← hcap]; exact grownCap_ge w _ 0 91
  have hcaple : cap ≤ maxLen := by rw [← hcap]; exact grownCap_le_maxLen w _ 0 91 (by unfold maxLen; omega)
  generalize hZ : (Builtin.zeroCells (Value.agg #[.string ⟨#[]⟩, .int .i64 0, .int .i64 0, .int .i64 0, .string ⟨#[]⟩, .slice none 0 0]).cells n ++ Builtin.zeroCells (Value.agg #[.string ⟨#[]⟩, .int .i64 0, .int .i64 0, .int .i64 0, .string ⟨#[]⟩, .slice none 0 0]).cells (cap - n)) = Z at happ
  have hZs : Z.size = cap * 6 := by rw [← hZ]; simp [size_zeroCells, Value.cells]; omega
  clear hcap hZ
  have p1 : ¬ (n : Int) < 0 := by omega
  have p2 : (0 : Int) < (n : Int) := by omega
  have p3 : (n : Int) > 0 := by omega
  have p4 := decide_eq_true p2
  have p5 : IntKind.i64.wrap (n : Int) = (n : Int) := by rw [IntKind.wrap_i64]; omega
  have p6 : wrap64 (n : Int) = (n : Int) := by unfold wrap64; omega
  have p7 : ¬ (cap : Int) < 0 := by omega
  have p8 : (0 : Int) ≤ (n : Int) := by omega
  have p9 : (0 : Int) ≤ (cap : Int) := by omega
  have HZ := Lib.hid hZs; have HC := Lib.hid (And.intro hcapge hcaple)
  clear h0 hn hZs hcapge hcaple hz0 hz1 hz2 hi
  go_enter Try.func116, Try.ntmps116
  go_wp2_with (at_builtin; refine Lib.wpList_append_run _ rfl _ _ _ _ rfl _ _ rfl rfl _ _ happ ?_)
  go_ret
  refine ⟨w.heap.size, cap, rfl, HC.out.1, ⟨rfl, .inr ⟨w.heap.size, cap, Z, rfl, Nat.le_refl _, ?_, Nat.zero_le _, HC.out.2, HZ.out, rfl⟩⟩, ((Below.refl w.heap.size w).alloc (Nat.le_refl _) _).drew⟩
  exact heap_alloc_new w _

theorem nums9 (n1 n2 : Nat) (h1 : n1 * 80 ≤ 140737488355328) (h2 : n2 * 80 ≤ 140737488355328) :
    IntKind.i64.wrap ((n1 : Int) + (n2 : Int)) = (n1 : Int) + (n2 : Int) ∧ IntKind.i64.wrap (n1 : Int) = (n1 : Int) ∧ IntKind.i64.wrap (0 + (n1 : Int)) = (n1 : Int) ∧ wrap64 ((n1 : Int) + (n2 : Int)) = (n1 : Int) + (n2 : Int) ∧ wrap64 (n1 : Int) = (n1 : Int) ∧ ¬ (n1 : Int) < 0 ∧ ¬ (n1 : Int) + (n2 : Int) < 0 := by
  refine ⟨?_, ?_, ?_, ?_, ?_, ?_, ?_⟩
  · rw [IntKind.wrap_i64]; omega
  · rw [IntKind.wrap_i64]; omega
  · rw [IntKind.wrap_i64]; omega
  · unfold wrap64; omega
  · unfold wrap64; omega
  · omega
  · omega
theorem nums9b (n1 n2 : Nat) (h1 : n1 * 80 ≤ 140737488355328) (h2 : n2 * 80 ≤ 140737488355328) (hz : ¬ n1 + n2 = 0) : 0 < n1 + n2 ∧ (n1 + n2) * 80 ≤ 281474976710656 := by omega
set_option maxRecDepth 100000 in
set_option maxHeartbeats 4000000 in
theorem ConcatBd_any (g B : Nat) (a1 : Option Addr) (n1 c1 : Nat) (a2 : Option Addr) (n2 c2 : Nat) (bs ms : List Bd) (w : World) (h1 : BsV w B (.slice a1 n1 c1) bs) (h2 : BsV w B (.slice a2 n2 c2) ms) (hB : B ≤ w.heap.size)
    (hg : w.heap[g]? = some (.cells #[.slice a1 n1 c1, .slice a2 n2 c2] 41 (0, 0))) (hn1 : n1 * 80 ≤ 140737488355328) (hn2 : n2 * 80 ≤ 140737488355328) :
    Calls Try.prog 87 #[.slice (some ⟨g, 0, none⟩) 2 2] w fun e w' => ∃ v' xs ys, e = .returned v' ∧ w'.ownsRow w.heap.size 91 6 v' (n1 + n2) (xs ++ ys) ∧ RwL (AvN w B) bs xs ∧ RwL (AvN w B) ms ys ∧ Below w.heap.size w w' := by
  obtain ⟨i0, hi, hz0, hz1, hz2⟩ := info_parts infoBd
  obtain ⟨xs, xr, x1, x6⟩ := h1.list
  obtain ⟨ys, yr, y1, y6⟩ := h2.list
  have x3 := h1.num.1; have x4 := h1.num.2.2.1; have x5' := h1.num.2.2.2.2.1
  have y3 := h2.num.1; have y4 := h2.num.2.2.1; have y5' := h2.num.2.2.2.2.1
  have x2 := xr.one; have y2 := yr.one
  have x5 : a1 = none → n1 = 0 ∧ c1 = 0 := fun e => ⟨by have := x5' e; omega, x5' e⟩
  have y5 : a2 = none → n2 = 0 ∧ c2 = 0 := fun e => ⟨by have := y5' e; omega, y5' e⟩
  have HXR := Lib.hid xr; have HYR := Lib.hid yr
  clear xr yr x5' y5'
  have hgl := lt_of_block hg
  have HG := Lib.hid (fun (u : World) (hu : Below w.heap.size w u) => (cell_of_two0 ((hu.block g hgl).trans hg) : u.cell? ⟨g, 0, none⟩ = some (.slice a1 n1 c1) ∧ u.cell? ⟨g, 1, none⟩ = some (.slice a2 n2 c2)))
  have B0 := Lib.hid (Below.refl w.heap.size w)
  obtain ⟨w1, w2, w3, v1, v2, p1, p2⟩ := nums9 n1 n2 hn1 hn2
  have p3 := decide_eq_false p1
  have p4 := decide_eq_false p2
  by_cases hz : n1 + n2 = 0
  · obtain ⟨e1, e2⟩ := Nat.add_eq_zero_iff.1 hz
    subst e1 e2
    obtain rfl : bs = [] := List.eq_nil_of_length_eq_zero x3.symm
    obtain rfl : ms = [] := List.eq_nil_of_length_eq_zero y3.symm
    have HGZ := Lib.hid (fun u : World => GrowBd_zero u)
    have HX0 : Hid (RwL (AvN w B) [] []) := Lib.hid rfl; have HY0 : Hid (RwL (AvN w B) [] []) := Lib.hid rfl
    clear h1 h2 hB hg hn1 hn2 x1 x2 x3 x4 x6 y1 y2 y3 y4 y6 w1 w2 w3 v1 v2 p1 p2 p3 p4 hz hgl HXR HYR
    rcases a1 with _ | ad1 <;> rcases a2 with _ | ad2
    all_goals
      try (obtain ⟨_, rfl⟩ := x5 rfl)
      try (obtain ⟨_, rfl⟩ := y5 rfl)
      clear x5 y5
      go_enter Try.func87, Try.ntmps87
      go_wp2_with fail
      go_loopw [3, 11] (fun sv iv wr => sv = .int .i64 0 ∧ w = wr ∧ (iv = .int .i64 0 ∨ iv = .int .i64 1 ∨ iv = .int .i64 2)) (fun _ iv _ => 2 - (intOf iv).toNat)
      case atStart => exact ⟨rfl, rfl, .inl rfl⟩
      case round =>
        obtain ⟨rfl, rfl, rfl | rfl | rfl⟩ := hrel
        · obtain ⟨g0, g1⟩ := HG.out _ B0.out
          go_wp2_with fail
          go_roundw
          all_goals first
            | exact ⟨rfl, rfl, .inr (.inl rfl)⟩
            | (simp [intOf]; done)
        · obtain ⟨g0, g1⟩ := HG.out _ B0.out
          go_wp2_with fail
          go_roundw
          all_goals first
            | exact ⟨rfl, rfl, .inr (.inr rfl)⟩
            | (simp [intOf]; done)
        · go_wp2_with (first | (go_at_call 116; (with_reducible refine (HGZ.out _).mono ?_); rintro e w1 ⟨rfl, rfl⟩))
          go_loopw [6, 27] (fun sv iv wr => sv = .slice none 0 0 ∧ Hid (Below w.heap.size w wr) ∧ (iv = .int .i64 0 ∨ iv = .int .i64 1 ∨ iv = .int .i64 2)) (fun _ iv _ => 2 - (intOf iv).toNat)
          case atStart => exact ⟨rfl, B0, .inl rfl⟩
          case round =>
            obtain ⟨rfl, HBR, hiv⟩ := hrel
            obtain ⟨g0, g1⟩ := HG.out _ HBR.out
            have HBW : Hid (w.heap.size ≤ _) := Lib.hid HBR.out.size
            rcases hiv with rfl | rfl | rfl
            · go_wp2_with (first
                | (at_builtin; refine wpList_append_own_none rfl (.tmp 31) (.tmp 32) 41 rfl w.heap.size 91 i0 6 Try.underlying41 hi _ 0 [] rfl (World.ownsRow_nil _ _ _ _) rfl ?_)
                | (at_builtin; (refine wpList_append_own _ rfl (.tmp 31) (.tmp 32) 41 rfl w.heap.size 91 i0 _ 6 80 Try.underlying41 hi hz0 hz1 hz2 rfl (by decide) _ 0 [] rfl (World.ownsRow_nil _ _ _ _) _ 0 _ [] rfl rfl (fun j u hj => by simp at hj) (fun u hu => by cases hu) (by unfold maxLen; omega) (by omega) HBW.out ?_; intro v' w' hown hgrow hnil; obtain rfl := hnil.2 ⟨rfl, rfl⟩; clear hnil hown; have HB2 := Lib.hid (HBR.out.grown hgrow HBW.out (fun k hk => by cases hk)); clear hgrow)))
              go_roundw
              all_goals first
                | exact ⟨rfl, HBR, .inr (.inl rfl)⟩
                | exact ⟨rfl, HB2, .inr (.inl rfl)⟩
                | (simp [intOf]; done)
            · go_wp2_with (first
                | (at_builtin; refine wpList_append_own_none rfl (.tmp 31) (.tmp 32) 41 rfl w.heap.size 91 i0 6 Try.underlying41 hi _ 0 [] rfl (World.ownsRow_nil _ _ _ _) rfl ?_)
                | (at_builtin; (refine wpList_append_own _ rfl (.tmp 31) (.tmp 32) 41 rfl w.heap.size 91 i0 _ 6 80 Try.underlying41 hi hz0 hz1 hz2 rfl (by decide) _ 0 [] rfl (World.ownsRow_nil _ _ _ _) _ 0 _ [] rfl rfl (fun j u hj => by simp at hj) (fun u hu => by cases hu) (by unfold maxLen; omega) (by omega) HBW.out ?_; intro v' w' hown hgrow hnil; obtain rfl := hnil.2 ⟨rfl, rfl⟩; clear hnil hown; have HB2 := Lib.hid (HBR.out.grown hgrow HBW.out (fun k hk => by cases hk)); clear hgrow)))
              go_roundw
              all_goals first
                | exact ⟨rfl, HBR, .inr (.inr rfl)⟩
                | exact ⟨rfl, HB2, .inr (.inr rfl)⟩
                | (simp [intOf]; done)
            · go_wp2
              go_ret
              exact ⟨_, [], [], rfl, World.ownsRow_nil _ _ _ _, HX0.out, HY0.out, HBR.out⟩
  · have hc0 : ((n1 + n2 : Nat) : Int) = (n1 : Int) + (n2 : Int) := Int.natCast_add n1 n2
    have HGR := Lib.hid (fun u : World => GrowBd_more u (n1 + n2) (nums9b n1 n2 hn1 hn2 hz).1 (nums9b n1 n2 hn1 hn2 hz).2)
    rw [hc0] at HGR
    have e1 : ((0 + n1 : Nat)) = n1 := Nat.zero_add n1
    have HX1 := Lib.hid (And.intro x1 (And.intro x2 x6)); have HX5 := Lib.hid x5
    have HY1 := Lib.hid (And.intro y1 (And.intro y2 y6)); have HY5 := Lib.hid y5
    clear h1 h2 hg hn1 hn2 x1 x2 x3 x4 x5 x6 y1 y2 y3 y4 y5 y6 hz hgl
    have HBB := Lib.hid hB
    clear hB
    go_enter Try.func87, Try.ntmps87
    go_wp2_with fail
    go_loopw [3, 11] (fun sv iv wr => w = wr ∧ ((iv = .int .i64 0 ∧ sv = .int .i64 0) ∨ (iv = .int .i64 1 ∧ sv = .int .i64 (n1 : Int)) ∨ (iv = .int .i64 2 ∧ sv = .int .i64 ((n1 : Int) + (n2 : Int))))) (fun _ iv _ => 2 - (intOf iv).toNat)
    case atStart => exact ⟨rfl, .inl ⟨rfl, rfl⟩⟩
    case round =>
      obtain ⟨rfl, ⟨rfl, rfl⟩ | ⟨rfl, rfl⟩ | ⟨rfl, rfl⟩⟩ := hrel
      · obtain ⟨g0, g1⟩ := HG.out _ B0.out
        go_wp2_with fail
        go_roundw
        all_goals first
          | exact ⟨rfl, .inr (.inl ⟨rfl, rfl⟩)⟩
          | (simp [intOf]; done)
      · obtain ⟨g0, g1⟩ := HG.out _ B0.out
        go_wp2_with fail
        go_roundw
        all_goals first
          | exact ⟨rfl, .inr (.inr ⟨rfl, rfl⟩)⟩
          | (simp [intOf]; done)
      · go_wp2_with (first | (go_at_call 116; (with_reducible refine (HGR.out _).mono ?_); rintro e u1 ⟨G, cap, rfl, hcap, hown, hb⟩; have HO := Lib.hid hown; have HCAP := Lib.hid hcap; have HB1 := Lib.hid hb; clear hown hcap hb))
        go_loopw [6, 27] (fun sv iv wr => Hid (Below w.heap.size w wr) ∧ ((iv = .int .i64 0 ∧ sv = .slice (some ⟨G, 0, none⟩) 0 cap ∧ Hid (wr.ownsRow w.heap.size 91 6 (.slice (some ⟨G, 0, none⟩) 0 cap) 0 [])) ∨ (iv = .int .i64 1 ∧ sv = .slice (some ⟨G, 0, none⟩) n1 cap ∧ Hid (wr.ownsRow w.heap.size 91 6 (.slice (some ⟨G, 0, none⟩) n1 cap) n1 xs)) ∨ (iv = .int .i64 2 ∧ sv = .slice (some ⟨G, 0, none⟩) (n1 + n2) cap ∧ Hid (wr.ownsRow w.heap.size 91 6 (.slice (some ⟨G, 0, none⟩) (n1 + n2) cap) (n1 + n2) (xs ++ ys))))) (fun _ iv _ => 2 - (intOf iv).toNat)
        case atStart => exact ⟨HB1, .inl ⟨rfl, rfl, HO⟩⟩
        case round =>
          obtain ⟨HBR, hiv⟩ := hrel
          obtain ⟨g0, g1⟩ := HG.out _ HBR.out
          clear HO
          rcases hiv with ⟨rfl, rfl, HO⟩ | ⟨rfl, rfl, HO⟩ | ⟨rfl, rfl, HO⟩
          · go_wp2_with (first
              | (at_builtin; (refine wpList_append_fits_any _ rfl (.tmp 31) (.tmp 32) 41 rfl w.heap.size 91 i0 6 Try.underlying41 hi hz1 G 0 cap [] rfl HO.out a1 n1 c1 xs rfl HX1.out.1 HX5.out (HX1.out.2.2 _ (HBR.out.mono HBB.out)) HX1.out.2.1 (by have := HCAP.out; omega) ?_; intro w3 hown3 hgrow3; have HO3 := Lib.hid (show w3.ownsRow w.heap.size 91 6 (.slice (some ⟨G, 0, none⟩) n1 cap) n1 xs by have := hown3; rw [e1] at this; exact this); have HB3 := Lib.hid (HBR.out.grown hgrow3 HBR.out.size (fun k hk => by cases hk; exact (HO.out.lt _ rfl).1)); clear hown3 hgrow3)))
            go_roundw
            all_goals first
              | exact ⟨HB3, .inr (.inl ⟨rfl, rfl, HO3⟩)⟩
              | exact ⟨HB3, .inr (.inl ⟨rfl, by rw [e1], HO3⟩)⟩
              | (simp [intOf]; done)
          · go_wp2_with (first
              | (at_builtin; (refine wpList_append_fits_any _ rfl (.tmp 31) (.tmp 32) 41 rfl w.heap.size 91 i0 6 Try.underlying41 hi hz1 G n1 cap xs rfl HO.out a2 n2 c2 ys rfl HY1.out.1 HY5.out (HY1.out.2.2 _ (HBR.out.mono HBB.out)) HY1.out.2.1 HCAP.out ?_; intro w3 hown3 hgrow3; have HO3 := Lib.hid hown3; have HB3 := Lib.hid (HBR.out.grown hgrow3 HBR.out.size (fun k hk => by cases hk; exact (HO.out.lt _ rfl).1)); clear hown3 hgrow3)))
            go_roundw
            all_goals first
              | exact ⟨HB3, .inr (.inr ⟨rfl, rfl, HO3⟩)⟩
              | (simp [intOf]; done)
          · go_wp2
            go_ret
            exact ⟨_, xs, ys, rfl, HO.out, HXR.out, HYR.out, HBR.out⟩
end Go.Proofs.Ytpbloplbpkedcaa

/- Contract: two partial matches put together: the program's. -/
namespace Go.Proofs.Ytpbloplbpkedcaa
open Go Go.RowKit

theorem merge_len {a b : List Bd} (ha : ckP a = 0) (hb : ckP b = 0) : (a ++ b).length * 80 ≤ 140737488355328 := by
  have h1 := ((ckP_iff a).1 ha).len
  have h2 := ((ckP_iff b).1 hb).len
  rw [List.length_append]; omega
set_option maxRecDepth 100000 in
set_option maxHeartbeats 6400000 in
theorem mMerge_any (B C : Nat) (ao : Option Addr) (n cap : Nat) (ao2 : Option Addr) (n2 cap2 : Nat) (cs bs : List Bd) (w : World) (h1 : BsV w B (.slice ao n cap) cs) (h2 : BsV w C (.slice ao2 n2 cap2) bs) (hB : B ≤ w.heap.size) (hC : C ≤ w.heap.size) :
    Calls Try.prog 57 #[.agg #[.slice ao n cap], .agg #[.slice ao2 n2 cap2]] w fun e w' => ∃ v', e = .returned (.tuple #[.agg #[v'], .bool (mergeO cs bs).isSome]) ∧ BsO w' w.heap.size v' ((mergeO cs bs).getD []) ∧ Below w.heap.size w w' := by
  obtain ⟨P, hP⟩ : ∃ P, P = w.heap.size := ⟨_, rfl⟩
  obtain ⟨W, hW⟩ : ∃ W, W = ((w.alloc (.cells #[.slice ao n cap] 43)).alloc (.cells #[.slice ao2 n2 cap2] 43)).alloc (.cells #[.slice none 0 0] 43) := ⟨_, rfl⟩
  have HB0 : Hid (Below P w W) := by rw [hW, hP]; exact (((Below.refl _ _).alloc (Nat.le_refl _) _).alloc (by simp) _).alloc (by simp; omega) _
  have p0 : W.heap[P]? = some (.cells #[.slice ao n cap] 43 (0, 0)) := by rw [hW, hP]; exact heap_alloc_keeps (heap_alloc_keeps (heap_alloc_new w _) _) _
  have p1 : W.heap[P + 1]? = some (.cells #[.slice ao2 n2 cap2] 43 (0, 0)) := by rw [hW, hP]; exact heap_alloc_keeps (heap_alloc_at (by simp) rfl) _
  have p2 : W.heap[P + 1 + 1]? = some (.cells #[.slice none 0 0] 43 (0, 0)) := by rw [hW, hP]; exact heap_alloc_at (by simp) rfl
  have hWs := lt_of_block p2
  have k1 := (h1.below HB0.out (by omega)).mono (show B ≤ P by omega)
  have k2 := (h2.below HB0.out (by omega)).mono (show C ≤ P by omega)
  have HK1 := Lib.hid (fun u (hu : Below W.heap.size W u) => k1.below hu (by omega)); have HK2 := Lib.hid (fun u (hu : Below W.heap.size W u) => k2.below hu (by omega))
  have HPS : Hid (P ≤ W.heap.size) := Lib.hid (by omega)
  have HPS2 : Hid (P + 1 + 1 < W.heap.size) := Lib.hid hWs
  have HC1 := Lib.hid (fun u (hu : Below W.heap.size W u) => mCheck_any P ao n cap cs u (HK1.out u hu) (Nat.le_trans HPS.out hu.size))
  have HC2 := Lib.hid (fun u (hu : Below W.heap.size W u) => mCheck_any P ao2 n2 cap2 bs u (HK2.out u hu) (Nat.le_trans HPS.out hu.size))
  have HX := Lib.hid (fun u (hu : Below W.heap.size W u) => And.intro (cells_one0 ((hu.block P (by omega)).trans p0)) (cells_one0 ((hu.block (P + 1) (by omega)).trans p1)))
  have HX2 := Lib.hid (fun u (hu : Below W.heap.size W u) => (hu.block (P + 1 + 1) hWs).trans p2)
  have HBR : Hid (Below W.heap.size W W) := Lib.hid (Below.refl _ _)
  obtain ⟨c0, c1⟩ := HX.out _ HBR.out
  have HN1 := Lib.hid h1.num.1; have HN2 := Lib.hid h2.num.1
  have HL1 := Lib.hid h1.num.2.2.2.2.2; have HL2 := Lib.hid h2.num.2.2.2.2.2
  have HWD : Hid (∀ x ∈ cs ++ bs, x.var.size ≤ maxLen ∧ x.ev.ty.size ≤ maxLen) := Lib.hid (fun x hx => (List.mem_append.1 hx).elim (h1.wide x) (h2.wide x))
  have HW := Lib.hid hW; have HP := Lib.hid hP
  have MA := Lib.hid (mergeO_a (a := cs) (b := bs)); have MB := Lib.hid (mergeO_b (a := cs) (b := bs))
  have MN := Lib.hid (fun m => mergeO_no (a := cs) (b := bs) (m := m)); have MY := Lib.hid (fun m => mergeO_yes (a := cs) (b := bs) (m := m))
  have ML := Lib.hid (merge_len (a := cs) (b := bs))
  rw [← hP]
  clear h1 h2 hB hC hP hW p0 p1 p2 hWs k1 k2
  by_cases za : ckP cs = 0
  case neg =>
    have HR := Lib.hid (MA.out za)
    have hz1 : (ckP cs == 0) = false := beq_eq_false_iff_ne.2 za
    have hz2 : (ckP cs != 0) = true := by simp [za]
    generalize ckP cs = ca at HC1 hz1 hz2
    clear za
    go_enter Try.func57, Try.ntmps57
    go_wp2_with fail
    rw [← HP.out, ← HW.out]
    refine (HC1.out _ HBR.out).mono ?_
    rintro e w1 ⟨rfl, hb1⟩
    have x2 := HX2.out _ hb1
    have d2 := cells_one0 x2
    have z2 : w1.frozen? ⟨P + 1 + 1, 0, none⟩ = false := by simp [World.frozen?, x2]
    have HS := Lib.hid (heap_setCell_same (k := 0) x2 (.slice none 0 0))
    have HB2 := Lib.hid ((HB0.out.trans (hb1.mono HPS.out)).setCell (p := ⟨P + 1 + 1, 0, none⟩) (by show P ≤ P + 1 + 1; omega) (.slice none 0 0))
    clear hb1 x2 c0 c1
    go_wp2
    have z := cells_one0 HS.out
    refine bodyPost_ret (v := .tuple #[.agg #[.slice none 0 0], .bool false]) (by simp [results, Try.results57, go_sem, z]) rfl ⟨_, by rw [HR.out]; rfl, ?_, HB2.out⟩
    rw [HR.out]; exact BsO.nil _ _
  case pos =>
    by_cases zb : ckP bs = 0
    case neg =>
      have HR := Lib.hid (MB.out zb)
      rw [za] at HC1
      have hz1 : (ckP bs == 0) = false := beq_eq_false_iff_ne.2 zb
      have hz2 : (ckP bs != 0) = true := by simp [zb]
      generalize ckP bs = cb at HC2 hz1 hz2
      clear za zb
      go_enter Try.func57, Try.ntmps57
      go_wp2_with fail
      rw [← HP.out, ← HW.out]
      refine (HC1.out _ HBR.out).mono ?_
      rintro e w1 ⟨rfl, hb1⟩
      clear c0 c1
      obtain ⟨c0, c1⟩ := HX.out _ hb1
      have HB1 := Lib.hid hb1
      clear hb1
      go_wp2_with fail
      refine (HC2.out _ HB1.out).mono ?_
      rintro e w2 ⟨rfl, hb2⟩
      have hb12 := HB1.out.trans (hb2.mono HB1.out.size)
      have x2 := HX2.out _ hb12
      have d2 := cells_one0 x2
      have z2 : w2.frozen? ⟨P + 1 + 1, 0, none⟩ = false := by simp [World.frozen?, x2]
      have HS := Lib.hid (heap_setCell_same (k := 0) x2 (.slice none 0 0))
      have HB2 := Lib.hid ((HB0.out.trans (hb12.mono HPS.out)).setCell (p := ⟨P + 1 + 1, 0, none⟩) (by show P ≤ P + 1 + 1; omega) (.slice none 0 0))
      clear hb2 hb12 x2 c0 c1
      go_wp2
      have z := cells_one0 HS.out
      refine bodyPost_ret (v := .tuple #[.agg #[.slice none 0 0], .bool false]) (by simp [results, Try.results57, go_sem, z]) rfl ⟨_, by rw [HR.out]; rfl, ?_, HB2.out⟩
      rw [HR.out]; exact BsO.nil _ _
    case pos =>
      rw [za] at HC1
      rw [zb] at HC2
      have HML := Lib.hid (ML.out za zb)
      have HZA := Lib.hid za; have HZB := Lib.hid zb
      clear za zb
      go_enter Try.func57, Try.ntmps57
      go_wp2_with fail
      rw [← HP.out, ← HW.out]
      refine (HC1.out _ HBR.out).mono ?_
      rintro e w1 ⟨rfl, hb1⟩
      clear c0 c1
      obtain ⟨c0, c1⟩ := HX.out _ hb1
      have HB1 := Lib.hid hb1
      clear hb1
      go_wp2_with fail
      refine (HC2.out _ HB1.out).mono ?_
      rintro e w2 ⟨rfl, hb2⟩
      have HB2 := Lib.hid (HB1.out.trans (hb2.mono HB1.out.size))
      clear hb2 c0 c1
      obtain ⟨c0, c1⟩ := HX.out _ HB2.out
      go_wp2_with fail
      obtain ⟨W3, hW3⟩ : ∃ W3, W3 = w2.alloc (.cells #[.slice ao n cap, .slice ao2 n2 cap2] 41) := ⟨_, rfl⟩
      rw [← hW3]
      have hg3 : W3.heap[w2.heap.size]? = some (.cells #[.slice ao n cap, .slice ao2 n2 cap2] 41 (0, 0)) := by rw [hW3]; exact heap_alloc_new _ _
      have HB3 : Hid (Below W.heap.size W W3) := by rw [hW3]; exact HB2.out.alloc HB2.out.size _
      have HW3S := Lib.hid HB3.out.size
      refine (ConcatBd_any w2.heap.size P ao n cap ao2 n2 cap2 cs bs W3 (HK1.out W3 HB3.out) (HK2.out W3 HB3.out) (Nat.le_trans HPS.out HW3S.out) hg3 HL1.out HL2.out).mono ?_
      rintro e w4 ⟨v', xs, ys, rfl, hown, hr1, hr2, hb4⟩
      obtain ⟨ao3, cap3, rfl⟩ := own_slice hown
      have HB4 := Lib.hid (HB3.out.trans (hb4.mono HW3S.out))
      have hnn : n + n2 = (cs ++ bs).length := by rw [List.length_append, HN1.out, HN2.out]
      obtain ⟨N, hN⟩ : ∃ N, N = n + n2 := ⟨_, rfl⟩
      rw [← hN] at hown hnn ⊢
      have HNN := Lib.hid hnn
      obtain ⟨W5, hW5⟩ : ∃ W5, W5 = w4.alloc (.cells #[.slice ao3 N cap3] 43) := ⟨_, rfl⟩
      have hb5 : Below w4.heap.size w4 W5 := by rw [hW5]; exact (Below.refl _ _).alloc (Nat.le_refl _) _
      have h5 : W5.heap[w4.heap.size]? = some (.cells #[.slice ao3 N cap3] 43 (0, 0)) := by rw [hW5]; exact heap_alloc_new _ _
      have hW5s := lt_of_block h5
      have hP4 : P ≤ w4.heap.size := Nat.le_trans HPS.out HB4.out.size
      have hown5 := own_call0 hown hb5
      rw [hnn] at hown5
      have hr5 := (hr1.imp fun v x _ hx => (hx.below hb4 (Nat.le_trans HPS.out HW3S.out)).below hb5 hP4).app (hr2.imp fun v x _ hx => (hx.below hb4 (Nat.le_trans HPS.out HW3S.out)).below hb5 hP4)
      have hbase : W3.heap.size ≤ W5.heap.size := Nat.le_trans hb4.size (Nat.le_trans hb5.size (Nat.le_refl _))
      have HSO := Lib.hid (SortFuncBd_any W3.heap.size P _ (cs ++ bs) (xs ++ ys) W5 hown5 hr5 (Nat.le_trans HPS.out HW3S.out) hbase HWD.out HML.out)
      rw [← hnn] at HSO
      have HB5 := Lib.hid (HB4.out.trans (hb5.mono HB4.out.size))
      have hgq : some w4.heap.size ≠ (Value.slice ao3 N cap3).ownBlock := by
        intro e
        have := hown.lt w4.heap.size e.symm
        omega
      have HGQ := Lib.hid hgq
      have HQ5 := Lib.hid h5; have HQS := Lib.hid hW5s
      have c5 := cells_one0 h5
      have HW5 := Lib.hid hW5
      clear hgq hown hr1 hr2 hb4 hb5 hown5 hr5 hbase h5 hW5s hP4 hg3 hnn hN hW3 hW5 c0 c1
      go_wp2_with fail
      rw [← HW5.out]
      (with_reducible refine HSO.out.mono ?_)
      rintro e w6 ⟨rfl, m, hpm, hsr, hbm, hb6, hsz6, hcell⟩
      have HMR : Hid (MrgR cs bs m) := Lib.hid ⟨hpm, hsr⟩
      have hml : m.length = N := by rw [hpm.length_eq, HNN.out]
      have HB6 := Lib.hid (HB5.out.trans (hb6.mono HW3S.out))
      have c6 := (hcell ⟨w4.heap.size, 0, none⟩ HGQ.out HQS.out).trans c5
      have HCM := Lib.hid (mCheck_any w6.heap.size ao3 N cap3 m w6 hbm (Nat.le_refl _))
      have HCL := Lib.hid (fun u (hu : Below w6.heap.size w6 u) => mClone_any w6.heap.size ao3 N cap3 m u (hbm.below hu (Nat.le_refl _)) hu.size)
      have hq6 : w4.heap.size < w6.heap.size := Nat.lt_of_lt_of_le HQS.out hsz6
      have HC6 := Lib.hid (fun u (hu : Below w6.heap.size w6 u) => (hu.cell (p := ⟨w4.heap.size, 0, none⟩) hq6).trans c6)
      have HMN := Lib.hid (MN.out m HMR.out); have HMY := Lib.hid (MY.out m HMR.out HZA.out HZB.out)
      have HMLN := Lib.hid hml
      clear hpm hsr hbm hb6 hsz6 hcell c5 hq6 hml
      by_cases zm : ckP m = 0
      · have HR := Lib.hid (HMY.out zm)
        rw [zm] at HCM
        clear zm
        go_wp2_with fail
        (with_reducible refine HCM.out.mono ?_)
        rintro e w7 ⟨rfl, hb7⟩
        clear c6
        have c7 := HC6.out _ hb7
        have HB7 := Lib.hid hb7
        clear hb7
        go_wp2_with fail
        (with_reducible refine (HCL.out _ HB7.out).mono ?_)
        rintro e w8 ⟨v8, rfl, ho, hb8⟩
        obtain ⟨ao8, cp8, rfl⟩ := ho.shape
        have hb78 := HB6.out.trans ((HB7.out.trans (hb8.mono HB7.out.size)).mono HB6.out.size)
        have x2 := HX2.out _ hb78
        have d2 := cells_one0 x2
        have z2 : w8.frozen? ⟨P + 1 + 1, 0, none⟩ = false := by simp [World.frozen?, x2]
        have HS := Lib.hid (heap_setCell_same (k := 0) x2 (.slice ao8 m.length cp8))
        have HO := Lib.hid (BsO.setP (k := 0) (ho.lower (Nat.le_trans HPS.out (Nat.le_trans HB6.out.size HB7.out.size))) x2 (.slice ao8 m.length cp8))
        have HBF := Lib.hid ((HB0.out.trans (hb78.mono HPS.out)).setCell (p := ⟨P + 1 + 1, 0, none⟩) (by show P ≤ P + 1 + 1; omega) (.slice ao8 m.length cp8))
        clear ho hb8 hb78 x2 c7
        go_wp2
        have z := cells_one0 HS.out
        refine bodyPost_ret (v := .tuple #[.agg #[.slice ao8 m.length cp8], .bool true]) (by simp [results, Try.results57, go_sem, z]) rfl ⟨_, by rw [HR.out]; rfl, ?_, HBF.out⟩
        rw [HR.out]; exact HO.out
      · have HR := Lib.hid (HMN.out zm)
        have hz1 : (ckP m == 0) = false := beq_eq_false_iff_ne.2 zm
        have hz2 : (ckP m != 0) = true := by simp [zm]
        generalize ckP m = cm at HCM hz1 hz2
        clear zm
        go_wp2_with fail
        (with_reducible refine HCM.out.mono ?_)
        rintro e w7 ⟨rfl, hb7⟩
        have hb78 := HB6.out.trans (hb7.mono HB6.out.size)
        have x2 := HX2.out _ hb78
        have d2 := cells_one0 x2
        have z2 : w7.frozen? ⟨P + 1 + 1, 0, none⟩ = false := by simp [World.frozen?, x2]
        have HS := Lib.hid (heap_setCell_same (k := 0) x2 (.slice none 0 0))
        have HBF := Lib.hid ((HB0.out.trans (hb78.mono HPS.out)).setCell (p := ⟨P + 1 + 1, 0, none⟩) (by show P ≤ P + 1 + 1; omega) (.slice none 0 0))
        clear hb7 hb78 x2 c6
        go_wp2
        have z := cells_one0 HS.out
        refine bodyPost_ret (v := .tuple #[.agg #[.slice none 0 0], .bool false]) (by simp [results, Try.results57, go_sem, z]) rfl ⟨_, by rw [HR.out]; rfl, ?_, HBF.out⟩
        rw [HR.out]; exact BsO.nil _ _
end Go.Proofs.Ytpbloplbpkedcaa

/- Contracts: Of, the program's. -/
namespace Go.Proofs.Ytpbloplbpkedcaa
open Go Go.RowKit

/-- One bound as a row. -/
theorem BsV.single {w : World} {g B : Nat} {x : Bd} {aa : Option Addr} {ac : Nat} (hg : w.heap[g]? = some (.cells #[.string x.var, .int .i64 x.ev.src, .int .i64 x.ev.seq, .int .i64 x.ev.time, .string x.ev.ty, .slice aa x.ev.ats.length ac] 91 (0, 0))) (h : Av w B (.slice aa x.ev.ats.length ac) x.ev.ats) (hn : aa = none → ac = 0) (hB : B ≤ w.heap.size) (hv : x.var.size ≤ maxLen) (ht : x.ev.ty.size ≤ maxLen) : BsV w w.heap.size (.slice (some ⟨g, 0, none⟩) 1 1) [x] := by
  refine ⟨fun y hy => ?_, by simp, some ⟨g, 0, none⟩, 1, rfl, by simp, by omega, (fun e => by cases e), fun _ => ⟨g, 0, rfl, lt_of_block hg, ⟨aa, ac, fun j u hu => ?_, h.mono hB, hn⟩, trivial⟩⟩
  · rw [List.mem_singleton] at hy; subst hy; exact ⟨hv, ht⟩
  · obtain ⟨a0, a1, a2, a3, a4, a5⟩ := cells_six hg
    rw [Nat.zero_add]
    match j, hu with
    | 0, hu => simp only [encB, List.getElem?_cons_zero, Option.some.injEq] at hu; subst hu; exact a0
    | 1, hu => simp only [encB, List.getElem?_cons_succ, List.getElem?_cons_zero, Option.some.injEq] at hu; subst hu; exact a1
    | 2, hu => simp only [encB, List.getElem?_cons_succ, List.getElem?_cons_zero, Option.some.injEq] at hu; subst hu; exact a2
    | 3, hu => simp only [encB, List.getElem?_cons_succ, List.getElem?_cons_zero, Option.some.injEq] at hu; subst hu; exact a3
    | 4, hu => simp only [encB, List.getElem?_cons_succ, List.getElem?_cons_zero, Option.some.injEq] at hu; subst hu; exact a4
    | 5, hu => simp only [encB, List.getElem?_cons_succ, List.getElem?_cons_zero, Option.some.injEq] at hu; subst hu; exact a5
    | j + 6, hu => simp [encB] at hu

/-- What Of tells: the one bound if it may be, else none. -/
def ofL (x : Bd) : List Bd := if ckP [x] = 0 then [x] else []
theorem ofL_yes {x : Bd} (h : ckP [x] = 0) : ofL x = [x] := if_pos h
theorem ofL_no {x : Bd} (h : ckP [x] ≠ 0) : ofL x = [] := if_neg h
set_option maxRecDepth 100000 in
set_option maxHeartbeats 3200000 in
theorem mOf_any (x : Bd) (B : Nat) (aa : Option Addr) (n ac : Nat) (w : World) (h : Av w B (.slice aa n ac) x.ev.ats) (hnil : aa = none → ac = 0) (hB : B ≤ w.heap.size) (hv : x.var.size ≤ maxLen) (ht : x.ev.ty.size ≤ maxLen) :
    Calls Try.prog 56 #[.string x.var, evV x.ev (.slice aa n ac)] w fun e w' => ∃ v', e = .returned (.tuple #[.agg #[v'], .int .i64 (ckP [x])]) ∧ BsO w' w.heap.size v' (ofL x) ∧ Below w.heap.size w w' := by
  obtain ⟨rfl, _⟩ := h.num
  obtain ⟨P, hP⟩ : ∃ P, P = w.heap.size := ⟨_, rfl⟩
  obtain ⟨W, hW⟩ : ∃ W, W = (((w.alloc (.cells #[.int .i64 x.ev.src, .int .i64 x.ev.seq, .int .i64 x.ev.time, .string x.ev.ty, .slice aa x.ev.ats.length ac] 36)).alloc (.cells #[.slice none 0 0] 43)).alloc (.cells #[.string x.var, .int .i64 x.ev.src, .int .i64 x.ev.seq, .int .i64 x.ev.time, .string x.ev.ty, .slice aa x.ev.ats.length ac] 91)).alloc (.cells #[.slice (some ⟨P + 1 + 1, 0, none⟩) 1 1] 43) := ⟨_, rfl⟩
  have HB0 : Hid (Below P w W) := by rw [hW, hP]; exact ((((Below.refl _ _).alloc (Nat.le_refl _) _).alloc (by simp) _).alloc (by simp; omega) _).alloc (by simp; omega) _
  have h1 : W.heap[P + 1]? = some (.cells #[.slice none 0 0] 43 (0, 0)) := by rw [hW, hP]; exact heap_alloc_keeps (heap_alloc_keeps (heap_alloc_at (by simp) rfl) _) _
  have h2 : W.heap[P + 1 + 1]? = some (.cells #[.string x.var, .int .i64 x.ev.src, .int .i64 x.ev.seq, .int .i64 x.ev.time, .string x.ev.ty, .slice aa x.ev.ats.length ac] 91 (0, 0)) := by rw [hW, hP]; exact heap_alloc_keeps (heap_alloc_at (by simp) rfl) _
  have h3 : W.heap[P + 1 + 1 + 1]? = some (.cells #[.slice (some ⟨P + 1 + 1, 0, none⟩) 1 1] 43 (0, 0)) := by rw [hW, hP]; exact heap_alloc_at (by simp) rfl
  have hWs := lt_of_block h3
  have hPW := HB0.out.size
  have hbs := BsV.single h2 (h.below HB0.out (by omega)) hnil (by omega) hv ht
  have HC := Lib.hid (mCheck_any W.heap.size _ 1 1 [x] W hbs (Nat.le_refl _))
  have HCL := Lib.hid (fun u (hu : Below W.heap.size W u) => mClone_any W.heap.size _ 1 1 [x] u (hbs.below hu (Nat.le_refl _)) hu.size)
  have HX1 := Lib.hid (fun u (hu : Below W.heap.size W u) => (hu.block (P + 1) (by omega)).trans h1)
  have HX3 := Lib.hid (fun u (hu : Below W.heap.size W u) => cells_one0 ((hu.block (P + 1 + 1 + 1) hWs).trans h3))
  have HPS : Hid (P ≤ W.heap.size) := Lib.hid (by omega)
  have HY := Lib.hid (ofL_yes (x := x)); have HN := Lib.hid (ofL_no (x := x))
  have HW := Lib.hid hW; have HP := Lib.hid hP
  unfold evV
  rw [← hP]
  clear h1 h2 h3 hWs hPW hbs h hnil hB hv ht hW hP
  generalize ckP [x] = c at HC HY HN ⊢
  by_cases hc : c = 0
  · subst hc
    have HR := Lib.hid (HY.out rfl)
    go_enter Try.func56, Try.ntmps56
    go_wp2_with fail
    rw [← HP.out, ← HW.out]
    refine HC.out.mono ?_
    rintro e w1 ⟨rfl, hb1⟩
    have c3 := HX3.out _ hb1
    have HB1 := Lib.hid hb1
    clear hb1
    go_wp2_with fail
    refine (HCL.out _ HB1.out).mono ?_
    rintro e w2 ⟨v', rfl, ho, hb2⟩
    obtain ⟨ao, cp, rfl⟩ := ho.shape
    have hb12 := HB1.out.trans (hb2.mono HB1.out.size)
    have x1 := HX1.out _ hb12
    have d1 := cells_one0 x1
    have z1 : w2.frozen? ⟨P + 1, 0, none⟩ = false := by simp [World.frozen?, x1]
    have HS := Lib.hid (heap_setCell_same (k := 0) x1 (.slice ao 1 cp))
    have HO := Lib.hid (BsO.setP (k := 0) (ho.lower (Nat.le_trans HPS.out HB1.out.size)) x1 (.slice ao 1 cp))
    have HB2 := Lib.hid ((HB0.out.trans (hb12.mono HPS.out)).setCell (p := ⟨P + 1, 0, none⟩) (by show P ≤ P + 1; omega) (.slice ao 1 cp))
    clear ho hb2 hb12 x1
    go_wp2
    have z := cells_one0 HS.out
    refine bodyPost_ret (v := .tuple #[.agg #[.slice ao 1 cp], .int .i64 0]) (by simp [results, Try.results56, go_sem, z]) rfl ⟨_, rfl, ?_, HB2.out⟩
    rw [HR.out]; exact HO.out
  · have HR := Lib.hid (HN.out hc)
    have hz1 : (c == 0) = false := beq_eq_false_iff_ne.2 hc
    have hz2 : (c != 0) = true := by simp [hc]
    go_enter Try.func56, Try.ntmps56
    go_wp2_with fail
    rw [← HP.out, ← HW.out]
    refine HC.out.mono ?_
    rintro e w1 ⟨rfl, hb1⟩
    have x1 := HX1.out _ hb1
    have d1 := cells_one0 x1
    have z1 : w1.frozen? ⟨P + 1, 0, none⟩ = false := by simp [World.frozen?, x1]
    have HS := Lib.hid (heap_setCell_same (k := 0) x1 (.slice none 0 0))
    have HB2 := Lib.hid ((HB0.out.trans (hb1.mono HPS.out)).setCell (p := ⟨P + 1, 0, none⟩) (by show P ≤ P + 1; omega) (.slice none 0 0))
    clear hb1 x1
    go_wp2
    have z := cells_one0 HS.out
    refine bodyPost_ret (v := .tuple #[.agg #[.slice none 0 0], .int .i64 c]) (by simp [results, Try.results56, go_sem, z]) rfl ⟨_, rfl, ?_, HB2.out⟩
    rw [HR.out]; exact BsO.nil _ _
end Go.Proofs.Ytpbloplbpkedcaa

/- Contracts: from when to when the events of a partial match are. -/
namespace Go.Proofs.Ytpbloplbpkedcaa
open Go Go.RowKit

theorem take_ne {bs : List Bd} {k : Nat} (hk : k < bs.length) (h0 : ¬ k = 0) : bs.take k ≠ [] := fun e => by
  have h1 : (bs.take k).length = 0 := by rw [e]; rfl
  rw [List.length_take] at h1; omega
theorem begT_step {bs : List Bd} {k : Nat} (hk : k < bs.length) : begT (bs.take (k + 1)) = if k = 0 then bs[k]!.ev.time else min (begT (bs.take k)) bs[k]!.ev.time := by
  rw [take_one hk]
  by_cases h0 : k = 0
  · subst h0; rfl
  · rw [if_neg h0, begT_snoc _ _ (take_ne hk h0)]
theorem endT_step {bs : List Bd} {k : Nat} (hk : k < bs.length) : endT (bs.take (k + 1)) = if k = 0 then bs[k]!.ev.time else max (endT (bs.take k)) bs[k]!.ev.time := by
  rw [take_one hk]
  by_cases h0 : k = 0
  · subst h0; rfl
  · rw [if_neg h0, endT_snoc _ _ (take_ne hk h0)]
set_option maxRecDepth 100000 in
set_option maxHeartbeats 3200000 in
theorem mSpan_any (B : Nat) (ao : Option Addr) (n cap : Nat) (bs : List Bd) (w : World) (h : BsV w B (.slice ao n cap) bs) (hB : B ≤ w.heap.size) :
    Calls Try.prog 91 #[.agg #[.slice ao n cap]] w fun e w' => e = .returned (.tuple #[.int .i64 (begT bs), .int .i64 (endT bs)]) ∧ Below w.heap.size w w' := by
  obtain ⟨hn, hn63, _⟩ := h.num
  have HN := Lib.hid hn
  have HH := Lib.hid h
  clear h hn
  obtain ⟨P, hP⟩ : ∃ P, P = w.heap.size := ⟨_, rfl⟩
  have HP := Lib.hid hP
  have HB0 : Hid (Below P w (w.alloc (.cells #[.slice ao n cap] 43))) := by rw [hP]; exact (Below.refl _ _).alloc (Nat.le_refl _) _
  rw [← hP] at hB ⊢
  clear hP
  go_enter Try.func91, Try.ntmps91
  go_wp2_with fail
  rw [← HP.out]
  go_loopw [2, 3, 9] (fun bv ev iv wr => ∃ k : Nat, k ≤ n ∧ iv = .int .i64 k ∧ bv = .int .i64 (begT (bs.take k)) ∧ ev = .int .i64 (endT (bs.take k)) ∧ Below P w wr) (fun _ _ iv _ => n - (intOf iv).toNat)
  case atStart => exact ⟨0, Nat.zero_le _, rfl, rfl, rfl, HB0.out⟩
  case round =>
    obtain ⟨k, hk, rfl, rfl, rfl, hb⟩ := hrel
    have HB := Lib.hid hb; clear hb
    by_cases hlt : k < n
    · obtain ⟨b, o, aa, ac, rfl, hbB, hkl, _, _, _, _, hc⟩ := HH.out.at hlt
      obtain ⟨a0, a1, a2, a3, a4, a5⟩ := six_cells (hc _ (HB.out.mono hB))
      have hbw : b ≠ wr.heap.size := by have := HB.out.size; have := HP.out; omega
      have hb0 := begT_step hkl
      have he0 := endT_step hkl
      obtain ⟨x, hx⟩ : ∃ x, x = bs[k]! := ⟨_, rfl⟩
      rw [← hx] at a0 a1 a2 a3 a4 a5 hb0 he0
      have HA : Hid (Below P w (wr.alloc (.cells #[.string x.var, .int .i64 x.ev.src, .int .i64 x.ev.seq, .int .i64 x.ev.time, .string x.ev.ty, .slice aa x.ev.ats.length ac] 91))) := by
        have := HB.out.size; have := HP.out
        exact HB.out.alloc (by omega) _
      have HBT := Lib.hid hb0; have HET := Lib.hid he0
      have e1 : IntKind.i64.wrap ((k : Int) + 1) = (k : Int) + 1 := IntWalk.i64_in _ (by omega)
      clear hb0 he0 hc hx hkl
      by_cases h0 : k = 0
      · subst h0
        simp only [Nat.zero_mul, Nat.add_zero] at a0 a1 a2 a3 a4 a5
        go_wp2_with fail
        go_quiet (fail)
        go_wp2_with fail
        go_quiet (fail)
        go_wp2
        go_roundw
        case rel => exact ⟨1, by omega, rfl, by rw [HBT.out]; simp, by rw [HET.out]; simp, Below.drewN' HA.out _⟩
        case measure => simp [intOf]; omega
      · rw [if_neg h0] at HBT HET
        have h1 : ((k : Int) == 0) = false := by simp; omega
        go_wp2_with fail
        go_quiet (fail)
        go_wp2
        go_roundw
        case rel => exact ⟨k + 1, by omega, by go_num, by rw [HBT.out], by rw [HET.out], Below.drewN' HA.out _⟩
        case measure => simp [intOf]; omega
    · have HT : Hid (bs.take k = bs) := List.take_of_length_le (by have := HN.out; omega)
      rw [HT.out]
      go_wp2
      go_ret2
      exact ⟨rfl, HB.out⟩

set_option maxRecDepth 100000 in
set_option maxHeartbeats 1600000 in
theorem mBegin_any (B : Nat) (ao : Option Addr) (n cap : Nat) (bs : List Bd) (w : World) (h : BsV w B (.slice ao n cap) bs) (hB : B ≤ w.heap.size) :
    Calls Try.prog 58 #[.agg #[.slice ao n cap]] w fun e w' => e = .returned (.int .i64 (begT bs)) ∧ Below w.heap.size w w' := by
  have HB0 : Hid (Below w.heap.size w (w.alloc (.cells #[.slice ao n cap] 43))) := (Below.refl _ _).alloc (Nat.le_refl _) _
  have HC := Lib.hid (mSpan_any B ao n cap bs _ (h.below HB0.out hB) (Nat.le_trans hB HB0.out.size))
  clear h hB
  go_enter Try.func58, Try.ntmps58
  go_wp2_with (go_at_call 91; (with_reducible refine (HC.out).mono ?_); rintro e w1 ⟨rfl, hb⟩; have HB1 := Lib.hid hb; clear hb)
  go_ret
  exact ⟨rfl, HB0.out.trans (HB1.out.mono HB0.out.size)⟩

set_option maxRecDepth 100000 in
set_option maxHeartbeats 1600000 in
theorem mEnd_any (B : Nat) (ao : Option Addr) (n cap : Nat) (bs : List Bd) (w : World) (h : BsV w B (.slice ao n cap) bs) (hB : B ≤ w.heap.size) :
    Calls Try.prog 59 #[.agg #[.slice ao n cap]] w fun e w' => e = .returned (.int .i64 (endT bs)) ∧ Below w.heap.size w w' := by
  have HB0 : Hid (Below w.heap.size w (w.alloc (.cells #[.slice ao n cap] 43))) := (Below.refl _ _).alloc (Nat.le_refl _) _
  have HC := Lib.hid (mSpan_any B ao n cap bs _ (h.below HB0.out hB) (Nat.le_trans hB HB0.out.size))
  clear h hB
  go_enter Try.func59, Try.ntmps59
  go_wp2_with (go_at_call 91; (with_reducible refine (HC.out).mono ?_); rintro e w1 ⟨rfl, hb⟩; have HB1 := Lib.hid hb; clear hb)
  go_ret
  exact ⟨rfl, HB0.out.trans (HB1.out.mono HB0.out.size)⟩

def wnB (bs : List Bd) (win : Int) : Bool := decide (0 ≤ win) && decide (IntKind.u64.wrap (IntKind.u64.wrap (endT bs) - IntKind.u64.wrap (begT bs)) ≤ IntKind.u64.wrap win)
end Go.Proofs.Ytpbloplbpkedcaa

/- Partial matches in boxes: how things stand within the statements' walks. -/
namespace Go.Proofs.Ytpbloplbpkedcaa
open Go Go.RowKit

/-- Boxes from block P on, each with a partial match that lies below P or is in memory of the walk's own. -/
structure Bx (w0 : World) (P : Nat) (L : List (Nat × Value × List Bd)) (u : World) : Prop where
  below : Below P w0 u
  sz : P ≤ u.heap.size
  all : ∀ q v bs, (q, v, bs) ∈ L → P ≤ q ∧ u.heap[q]? = some (.cells #[v] 43 (0, 0)) ∧ (BsV u P v bs ∨ BsO u P v bs)
  nd : (L.map Prod.fst).Nodup
theorem Bx.nil {w : World} : Bx w w.heap.size [] w := ⟨Below.refl _ _, Nat.le_refl _, (fun _ _ _ h => by cases h), List.nodup_nil⟩
theorem Bx.call {w0 u u' : World} {P : Nat} {L : List (Nat × Value × List Bd)} (h : Bx w0 P L u) (hb : Below u.heap.size u u') : Bx w0 P L u' :=
  ⟨h.below.trans (hb.mono h.sz), Nat.le_trans h.sz hb.size, fun q v bs hm => by
    obtain ⟨h1, h2, h3⟩ := h.all q v bs hm
    exact ⟨h1, (hb.block q (lt_of_block h2)).trans h2, h3.elim (fun k => .inl (k.below hb h.sz)) (fun k => .inr (k.call hb))⟩, h.nd⟩
theorem Bx.alloc {w0 u : World} {P : Nat} {L : List (Nat × Value × List Bd)} (h : Bx w0 P L u) (o : Obj) : Bx w0 P L (u.alloc o) := h.call ((Below.refl _ _).alloc (Nat.le_refl _) o)
theorem Bx.new {w0 u : World} {P : Nat} {L : List (Nat × Value × List Bd)} (h : Bx w0 P L u) {v : Value} {bs : List Bd} (hv : BsV u P v bs ∨ BsO u P v bs) : Bx w0 P ((u.heap.size, v, bs) :: L) (u.alloc (.cells #[v] 43)) := by
  have hb := (Below.refl u.heap.size u).alloc (Nat.le_refl _) (.cells #[v] 43)
  refine ⟨(h.alloc _).below, (h.alloc _).sz, fun q v' bs' hm => ?_, ?_⟩
  rotate_left
  · rw [List.map_cons, List.nodup_cons]
    refine ⟨fun hm => ?_, h.nd⟩
    obtain ⟨⟨q, x, y⟩, hx, e⟩ := List.mem_map.1 hm
    have := lt_of_block (h.all q x y hx).2.1
    simp only at e; omega
  rcases List.mem_cons.1 hm with e | hm
  · simp only [Prod.mk.injEq] at e
    obtain ⟨rfl, rfl, rfl⟩ := e
    exact ⟨h.sz, heap_alloc_new _ _, hv.elim (fun k => .inl (k.below hb h.sz)) (fun k => .inr (k.call hb))⟩
  · exact (h.alloc _).all q v' bs' hm
theorem Bx.cell {w0 u : World} {P q : Nat} {L : List (Nat × Value × List Bd)} {v : Value} {bs : List Bd} (h : Bx w0 P L u) (hm : (q, v, bs) ∈ L) : u.cell? ⟨q, 0, none⟩ = some v := cells_one0 (h.all q v bs hm).2.1
theorem Bx.bsv {w0 u : World} {P q : Nat} {L : List (Nat × Value × List Bd)} {v : Value} {bs : List Bd} (h : Bx w0 P L u) (hm : (q, v, bs) ∈ L) : BsV u u.heap.size v bs :=
  (h.all q v bs hm).2.2.elim (fun k => k.mono h.sz) (fun k => k.bsv)
/-- A box is given another one. -/
theorem Bx.set {w0 u : World} {P q : Nat} {v v' : Value} {bs bs' : List Bd} (A B : List (Nat × Value × List Bd)) (h : Bx w0 P (A ++ (q, v, bs) :: B) u) (hv : BsV u P v' bs' ∨ BsO u P v' bs') :
    Bx w0 P (A ++ (q, v', bs') :: B) (u.setCell ⟨q, 0, none⟩ v') := by
  obtain ⟨h1, h2, _⟩ := h.all q v bs (by simp)
  have hb : Below P u (u.setCell ⟨q, 0, none⟩ v') := (Below.refl P u).setCell (p := ⟨q, 0, none⟩) h1 _
  have key : ∀ {x y}, (BsV u P x y ∨ BsO u P x y) → (BsV (u.setCell ⟨q, 0, none⟩ v') P x y ∨ BsO (u.setCell ⟨q, 0, none⟩ v') P x y) := fun k => k.elim (fun k => .inl (k.below hb (Nat.le_refl _))) (fun k => .inr (k.setP h2 v'))
  have hnd := h.nd
  refine ⟨h.below.trans hb, by have := h.sz; simpa using this, fun q' x y hm => ?_, by simpa using hnd⟩
  rw [List.mem_append, List.mem_cons] at hm
  have hq : (q', x, y) ∈ A ∨ (q', x, y) ∈ B → q' ≠ q := by
    intro hh e
    subst e
    rw [List.map_append, List.map_cons, List.nodup_append] at hnd
    rcases hh with hh | hh
    · exact hnd.2.2 q' (List.mem_map.2 ⟨_, hh, rfl⟩) q' (List.mem_cons_self ..) rfl
    · exact (List.nodup_cons.1 hnd.2.1).1 (List.mem_map.2 ⟨_, hh, rfl⟩)
  have old : (q', x, y) ∈ A ∨ (q', x, y) ∈ B → P ≤ q' ∧ (u.setCell ⟨q, 0, none⟩ v').heap[q']? = some (.cells #[x] 43 (0, 0)) ∧ (BsV (u.setCell ⟨q, 0, none⟩ v') P x y ∨ BsO (u.setCell ⟨q, 0, none⟩ v') P x y) := fun hh => by
    obtain ⟨g1, g2, g3⟩ := h.all q' x y (by rw [List.mem_append, List.mem_cons]; rcases hh with hh | hh; exact .inl hh; exact .inr (.inr hh))
    exact ⟨g1, by rw [Below.heap_setCell _ _ _ _ (show q' ≠ q from hq hh)]; exact g2, key g3⟩
  rcases hm with hm | hm | hm
  · exact old (.inl hm)
  · simp only [Prod.mk.injEq] at hm
    obtain ⟨rfl, rfl, rfl⟩ := hm
    exact ⟨h1, heap_setCell_same h2 x, key hv⟩
  · exact old (.inr hm)
theorem Bx.free {w0 u : World} {P q : Nat} {L : List (Nat × Value × List Bd)} {v : Value} {bs : List Bd} (h : Bx w0 P L u) (hm : (q, v, bs) ∈ L) : u.frozen? ⟨q, 0, none⟩ = false := by
  simp [World.frozen?, (h.all q v bs hm).2.1]
end Go.Proofs.Ytpbloplbpkedcaa

/- Contract: begun answers true. -/
namespace Go.Proofs.Ytpbloplbpkedcaa
open Go Go.RowKit

def bA : Bd := ⟨⟨#[97]⟩, ⟨0, 1, 5, ⟨#[116]⟩, []⟩⟩
def bB : Bd := ⟨⟨#[98]⟩, ⟨1, 0, 7, ⟨#[116]⟩, []⟩⟩
def bC : Bd := ⟨⟨#[99]⟩, ⟨0, 1, 5, ⟨#[116]⟩, []⟩⟩
theorem ckE_none {e : Ev} (h : evB e = true) (h1 : e.ats = []) : ckE e = 0 := by
  rw [ckE_ok h, h1]; unfold ckAll; rw [if_neg (by decide), ckGo_end (by decide)]
theorem eA : ckE bA.ev = 0 := ckE_none (by decide +kernel) rfl
theorem eB : ckE bB.ev = 0 := ckE_none (by decide +kernel) rfl
theorem eC : ckE bC.ev = 0 := ckE_none (by decide +kernel) rfl
theorem ckA : ckP [bA] = 0 := by rw [ckP_go (by decide), ckFr_at (k := 0) (by decide) (by decide +kernel) (show ckE [bA][0]!.ev = 0 from eA), ckFr_end (by decide)]
theorem ckB' : ckP [bB] = 0 := by rw [ckP_go (by decide), ckFr_at (k := 0) (by decide) (by decide +kernel) (show ckE [bB][0]!.ev = 0 from eB), ckFr_end (by decide)]
theorem ckC : ckP [bC] = 0 := by rw [ckP_go (by decide), ckFr_at (k := 0) (by decide) (by decide +kernel) (show ckE [bC][0]!.ev = 0 from eC), ckFr_end (by decide)]
theorem ckAB : ckP [bA, bB] = 0 := by rw [ckP_go (by decide), ckFr_at (k := 0) (by decide) (by decide +kernel) (show ckE [bA, bB][0]!.ev = 0 from eA), ckFr_at (k := 1) (by decide) (by decide +kernel) (show ckE [bA, bB][1]!.ev = 0 from eB), ckFr_end (by decide)]
theorem ckAC : ckP [bA, bC] ≠ 0 := by rw [ckP_go (by decide), ckFr_at (k := 0) (by decide) (by decide +kernel) (show ckE [bA, bC][0]!.ev = 0 from eA), ckFr_st (k := 1) (by decide) (by decide +kernel)]; decide
theorem mBA : mergeO [bB] [bA] = some [bA, bB] :=
  mergeO_yes ⟨List.Perm.swap _ _ _, List.Pairwise.cons (fun x hx => by rw [List.mem_singleton.1 hx]; decide +kernel) (List.pairwise_singleton _ _)⟩ ckB' ckA ckAB
theorem mAC : mergeO [bA] [bC] = none :=
  mergeO_no (m := [bA, bC]) ⟨List.Perm.refl _, List.Pairwise.cons (fun x hx => by rw [List.mem_singleton.1 hx]; decide +kernel) (List.pairwise_singleton _ _)⟩ ckAC
theorem begAB : begT [bA, bB] = 5 := by decide +kernel
theorem endAB : endT [bA, bB] = 7 := by decide +kernel

theorem ofA (x : Bd) (hx : x.ev.ats = []) (h0 : ckP [x] = 0) (hv : x.var.size ≤ maxLen) (ht : x.ev.ty.size ≤ maxLen) (u : World) :
    Calls Try.prog 56 #[.string x.var, evV x.ev (.slice none 0 0)] u fun e w' => ∃ ao c, e = .returned (.tuple #[.agg #[.slice ao 1 c], .int .i64 0]) ∧ BsO w' u.heap.size (.slice ao 1 c) [x] ∧ Below u.heap.size u w' := by
  have h := mOf_any x 0 none 0 0 u (by rw [hx]; exact Av.nil _ _) (fun _ => rfl) (Nat.zero_le _) hv ht
  rw [h0, ofL_yes h0] at h
  refine h.mono ?_
  rintro e w' ⟨v', rfl, ho, hb⟩
  obtain ⟨ao, c, rfl⟩ := ho.shape
  exact ⟨ao, c, rfl, ho, hb⟩
theorem mergeS {cs bs m : List Bd} (hm : mergeO cs bs = some m) {N : Nat} (hN : m.length = N) (ao : Option Addr) (n cap : Nat) (ao2 : Option Addr) (n2 cap2 : Nat) (u : World) (h1 : BsV u u.heap.size (.slice ao n cap) cs) (h2 : BsV u u.heap.size (.slice ao2 n2 cap2) bs) :
    Calls Try.prog 57 #[.agg #[.slice ao n cap], .agg #[.slice ao2 n2 cap2]] u fun e w' => ∃ ao c, e = .returned (.tuple #[.agg #[.slice ao N c], .bool true]) ∧ BsO w' u.heap.size (.slice ao N c) m ∧ Below u.heap.size u w' := by
  have h := mMerge_any u.heap.size u.heap.size ao n cap ao2 n2 cap2 cs bs u h1 h2 (Nat.le_refl _) (Nat.le_refl _)
  rw [hm] at h
  refine h.mono ?_
  rintro e w' ⟨v', rfl, ho, hb⟩
  obtain ⟨ao, c, rfl⟩ := ho.shape
  rw [show ((some m).getD []).length = N from hN] at ho ⊢
  exact ⟨ao, c, rfl, ho, hb⟩
theorem mergeN {cs bs : List Bd} (hm : mergeO cs bs = none) (ao : Option Addr) (n cap : Nat) (ao2 : Option Addr) (n2 cap2 : Nat) (u : World) (h1 : BsV u u.heap.size (.slice ao n cap) cs) (h2 : BsV u u.heap.size (.slice ao2 n2 cap2) bs) :
    Calls Try.prog 57 #[.agg #[.slice ao n cap], .agg #[.slice ao2 n2 cap2]] u fun e w' => ∃ ao c, e = .returned (.tuple #[.agg #[.slice ao 0 c], .bool false]) ∧ BsO w' u.heap.size (.slice ao 0 c) [] ∧ Below u.heap.size u w' := by
  have h := mMerge_any u.heap.size u.heap.size ao n cap ao2 n2 cap2 cs bs u h1 h2 (Nat.le_refl _) (Nat.le_refl _)
  rw [hm] at h
  refine h.mono ?_
  rintro e w' ⟨v', rfl, ho, hb⟩
  obtain ⟨ao, c, rfl⟩ := ho.shape
  exact ⟨ao, c, rfl, ho, hb⟩

set_option maxRecDepth 100000 in
set_option maxHeartbeats 3200000 in
theorem begun10_any (w : World) : Calls Try.prog 24 #[] w fun e w' => e = .returned (.bool true) ∧ Below w.heap.size w w' := by
  have C1 := ofA bA rfl ckA (by decide +kernel) (by decide +kernel)
  have C2 := ofA bB rfl ckB' (by decide +kernel) (by decide +kernel)
  have C3 := ofA bC rfl ckC (by decide +kernel) (by decide +kernel)
  unfold evV at C1 C2 C3
  have HC1 : Hid (∀ u, Calls Try.prog 56 #[.string ⟨#[97]⟩, .agg #[.int .i64 0, .int .i64 1, .int .i64 5, .string ⟨#[116]⟩, .slice none 0 0]] u fun e w' => ∃ ao c, e = .returned (.tuple #[.agg #[.slice ao 1 c], .int .i64 0]) ∧ BsO w' u.heap.size (.slice ao 1 c) [bA] ∧ Below u.heap.size u w') := Lib.hid C1
  have HC2 : Hid (∀ u, Calls Try.prog 56 #[.string ⟨#[98]⟩, .agg #[.int .i64 1, .int .i64 0, .int .i64 7, .string ⟨#[116]⟩, .slice none 0 0]] u fun e w' => ∃ ao c, e = .returned (.tuple #[.agg #[.slice ao 1 c], .int .i64 0]) ∧ BsO w' u.heap.size (.slice ao 1 c) [bB] ∧ Below u.heap.size u w') := Lib.hid C2
  have HC3 : Hid (∀ u, Calls Try.prog 56 #[.string ⟨#[99]⟩, .agg #[.int .i64 0, .int .i64 1, .int .i64 5, .string ⟨#[116]⟩, .slice none 0 0]] u fun e w' => ∃ ao c, e = .returned (.tuple #[.agg #[.slice ao 1 c], .int .i64 0]) ∧ BsO w' u.heap.size (.slice ao 1 c) [bC] ∧ Below u.heap.size u w') := Lib.hid C3
  have HM1 := Lib.hid (mergeS (N := 2) mBA rfl)
  have HM2 := Lib.hid (mergeN mAC)
  have HE1 := Lib.hid begAB; have HE2 := Lib.hid endAB
  have HK0 : Hid (Bx w w.heap.size [] w) := Lib.hid Bx.nil
  clear C1 C2 C3
  go_enter Try.func24, Try.ntmps24
  go_wp2_with fail
  (with_reducible refine (HC1.out _).mono ?_)
  rintro e w1 ⟨a1, k1, rfl, ho1, hb1⟩
  have HK1 := Lib.hid ((HK0.out.call hb1).new (.inr ho1))
  clear ho1 hb1
  go_wp2_with fail
  obtain ⟨W1, hW1⟩ : ∃ W1, W1 = w1.alloc (.cells #[.slice a1 1 k1] 43) := ⟨_, rfl⟩
  rw [← hW1] at HK1 ⊢
  clear hW1
  generalize w1.heap.size = q1 at HK1 ⊢
  (with_reducible refine (HC2.out _).mono ?_)
  rintro e w2 ⟨a2, k2, rfl, ho2, hb2⟩
  have HK2 := Lib.hid ((HK1.out.call hb2).new (.inr (ho2.lower HK1.out.sz)))
  clear ho2 hb2
  go_wp2_with fail
  obtain ⟨W2, hW2⟩ : ∃ W2, W2 = w2.alloc (.cells #[.slice a2 1 k2] 43) := ⟨_, rfl⟩
  rw [← hW2] at HK2 ⊢
  clear hW2
  generalize w2.heap.size = q2 at HK2 ⊢
  (with_reducible refine (HC3.out _).mono ?_)
  rintro e w3 ⟨a3, k3, rfl, ho3, hb3⟩
  have HK3 := Lib.hid ((HK2.out.call hb3).new (.inr (ho3.lower HK2.out.sz)))
  clear ho3 hb3
  have l1 := HK3.out.cell (.tail _ (.tail _ (.head _)))
  have l2 := HK3.out.cell (.tail _ (.head _))
  go_wp2_with fail
  obtain ⟨W3, hW3⟩ : ∃ W3, W3 = w3.alloc (.cells #[.slice a3 1 k3] 43) := ⟨_, rfl⟩
  rw [← hW3] at HK3 ⊢
  clear hW3 l1 l2
  generalize w3.heap.size = q3 at HK3 ⊢
  have hv2 := HK3.out.bsv (.tail _ (.head _)); have hv1 := HK3.out.bsv (.tail _ (.tail _ (.head _)))
  (with_reducible refine (HM1.out _ _ _ _ _ _ _ hv2 hv1).mono ?_)
  clear hv1 hv2
  rintro e w4 ⟨a4, k4, rfl, ho4, hb4⟩
  have HK4 := Lib.hid ((HK3.out.call hb4).new (.inr (ho4.lower HK3.out.sz)))
  clear ho4 hb4
  have l1 := HK4.out.cell (.tail _ (.tail _ (.tail _ (.head _))))
  have l3 := HK4.out.cell (.tail _ (.head _))
  go_wp2_with fail
  obtain ⟨W4, hW4⟩ : ∃ W4, W4 = w4.alloc (.cells #[.slice a4 2 k4] 43) := ⟨_, rfl⟩
  rw [← hW4] at HK4 ⊢
  clear hW4 l1 l3
  generalize w4.heap.size = q4 at HK4 ⊢
  have hv1 := HK4.out.bsv (.tail _ (.tail _ (.tail _ (.head _)))); have hv3 := HK4.out.bsv (.tail _ (.head _))
  (with_reducible refine (HM2.out _ _ _ _ _ _ _ hv1 hv3).mono ?_)
  clear hv1 hv3
  rintro e w5 ⟨a5, k5, rfl, ho5, hb5⟩
  have HK5 := Lib.hid ((HK4.out.call hb5).new (.inr (ho5.lower HK4.out.sz)))
  clear ho5 hb5
  obtain ⟨W5, hW5⟩ : ∃ W5, W5 = w5.alloc (.cells #[.slice a5 0 k5] 43) := ⟨_, rfl⟩
  have HW5 := Lib.hid hW5
  rw [← hW5] at HK5
  have HG := Lib.hid (fun u (hu : Below W5.heap.size W5 u) => (HK5.out.call hu).cell (.tail _ (.head _)))
  have HBV := Lib.hid (HK5.out.bsv (.tail _ (.head _)))
  have HCB := Lib.hid (fun u (hu : Below W5.heap.size W5 u) => mBegin_any W5.heap.size a4 2 k4 [bA, bB] u (HBV.out.below hu (Nat.le_refl _)) hu.size)
  have HCE := Lib.hid (fun u (hu : Below W5.heap.size W5 u) => mEnd_any W5.heap.size a4 2 k4 [bA, bB] u (HBV.out.below hu (Nat.le_refl _)) hu.size)
  rw [begAB] at HCB
  rw [endAB] at HCE
  have HB5 : Hid (Below W5.heap.size W5 W5) := Lib.hid (Below.refl _ _)
  have l4 := HG.out _ HB5.out
  rw [hW5] at l4
  clear hW5
  go_wp2_with fail
  rw [← HW5.out]
  (with_reducible refine (HCB.out _ HB5.out).mono ?_)
  rintro e w6 ⟨rfl, hb6⟩
  clear l4
  have l4 := HG.out _ hb6
  have HB6 := Lib.hid hb6
  clear hb6
  go_wp2_with fail
  (with_reducible refine (HCE.out _ HB6.out).mono ?_)
  rintro e w7 ⟨rfl, hb7⟩
  have HB7 := Lib.hid (HB6.out.trans (hb7.mono HB6.out.size))
  clear l4 hb7
  have l4 := HG.out _ HB7.out
  go_wp2
  go_ret
  exact ⟨rfl, HK5.out.below.trans (HB7.out.mono HK5.out.sz)⟩
end Go.Proofs.Ytpbloplbpkedcaa

/- Contracts: how two partial matches stand to each other; whether they are the same: the program's. -/
namespace Go.Proofs.Ytpbloplbpkedcaa
open Go Go.RowKit

def cmpBd (x y : Bd) : Int := orI (cbV x y) (cmpID x.ev.src x.ev.seq y.ev.src y.ev.seq)
def cmpL : List Bd → List Bd → Int
  | [], [] => 0
  | [], _ :: _ => -1
  | _ :: _, [] => 1
  | x :: a, y :: b => if cmpBd x y = 0 then cmpL a b else cmpBd x y
theorem cmpL_go {a b : List Bd} {k : Nat} (ha : k < a.length) (hb : k < b.length) (h : cmpBd a[k]! b[k]! = 0) : cmpL (a.drop k) (b.drop k) = cmpL (a.drop (k + 1)) (b.drop (k + 1)) := by
  rw [List.drop_eq_getElem_cons ha, List.drop_eq_getElem_cons hb, cmpL, ← getElem!_pos a k ha, ← getElem!_pos b k hb, if_pos h]
theorem cmpL_bad {a b : List Bd} {k : Nat} (ha : k < a.length) (hb : k < b.length) (h : cmpBd a[k]! b[k]! ≠ 0) : cmpL (a.drop k) (b.drop k) = cmpBd a[k]! b[k]! := by
  rw [List.drop_eq_getElem_cons ha, List.drop_eq_getElem_cons hb, cmpL, ← getElem!_pos a k ha, ← getElem!_pos b k hb, if_neg h]
theorem cmpL_gt {a b : List Bd} {k : Nat} (ha : k < a.length) (hb : ¬ k < b.length) : cmpL (a.drop k) (b.drop k) = 1 := by
  rw [List.drop_eq_getElem_cons ha, List.drop_eq_nil_of_le (show b.length ≤ k by omega), cmpL]
theorem cmpL_lt {a b : List Bd} {k : Nat} (ha : ¬ k < a.length) (hb : k < b.length) : cmpL (a.drop k) (b.drop k) = -1 := by
  rw [List.drop_eq_getElem_cons hb, List.drop_eq_nil_of_le (show a.length ≤ k by omega), cmpL]
theorem cmpL_end {a b : List Bd} {k : Nat} (ha : ¬ k < a.length) (hb : ¬ k < b.length) : cmpL (a.drop k) (b.drop k) = 0 := by
  rw [List.drop_eq_nil_of_le (show b.length ≤ k by omega), List.drop_eq_nil_of_le (show a.length ≤ k by omega), cmpL]
def sameB (x y : Bd) : Bool := (x.var.toList == y.var.toList) && sameE x.ev y.ev
theorem sameB_iff {x y : Bd} : sameB x y = true ↔ x = y := by
  obtain ⟨v, e⟩ := x
  obtain ⟨v', e'⟩ := y
  unfold sameB
  rw [Bool.and_eq_true, sameE_iff, beq_iff_eq, Bd.mk.injEq]
  exact ⟨fun ⟨a, b⟩ => ⟨ba_ext2 a, b⟩, fun ⟨a, b⟩ => ⟨by rw [a], b⟩⟩
theorem same_ne {a b : List Bd} {k : Nat} (ha : k < a.length) (hl : a.length = b.length) (h : sameB a[k]! b[k]! = false) : decide (a = b) = false :=
  decide_eq_false fun e => by
    subst e
    rw [sameB_iff.2 rfl] at h; cases h
theorem same_all {a b : List Bd} (hl : a.length = b.length) (h : a.take a.length = b.take a.length) : decide (a = b) = true := by
  refine decide_eq_true ?_
  rwa [List.take_length, hl, List.take_length] at h

end Go.Proofs.Ytpbloplbpkedcaa

/- Contracts: the document's Same. -/
namespace Go.Proofs.Ytpbloplbpkedcaa
open Go Go.RowKit

set_option maxRecDepth 100000 in
set_option maxHeartbeats 6400000 in
theorem r10Same_any (B C : Nat) (ao : Option Addr) (n cap : Nat) (ao2 : Option Addr) (n2 cap2 : Nat) (cs bs : List Bd) (w : World) (h1 : BsV w B (.slice ao n cap) cs) (h2 : BsV w C (.slice ao2 n2 cap2) bs) (hB : B ≤ w.heap.size) (hC : C ≤ w.heap.size) :
    Calls Try.prog 25 #[.agg #[.slice ao n cap], .agg #[.slice ao2 n2 cap2]] w fun e w' => e = .returned (.bool (decide (cs = bs))) ∧ Below w.heap.size w w' := by
  obtain ⟨hn, hn63, _⟩ := h1.num
  obtain ⟨hm, hm63, _⟩ := h2.num
  have HN := Lib.hid hn; have HM := Lib.hid hm
  obtain ⟨P, hP⟩ : ∃ P, P = w.heap.size := ⟨_, rfl⟩
  obtain ⟨W, hW⟩ : ∃ W, W = (w.alloc (.cells #[.slice ao n cap] 43)).alloc (.cells #[.slice ao2 n2 cap2] 43) := ⟨_, rfl⟩
  have HB0 : Hid (Below P w W) := by rw [hW, hP]; exact ((Below.refl _ _).alloc (Nat.le_refl _) _).alloc (by simp) _
  have hPW : W.heap[P]? = some (.cells #[.slice ao n cap] 43 (0, 0)) := by rw [hW, hP]; exact heap_alloc_keeps (heap_alloc_new w _) _
  have hQW : W.heap[P + 1]? = some (.cells #[.slice ao2 n2 cap2] 43 (0, 0)) := by rw [hW, hP]; exact heap_alloc_at (by simp) rfl
  have hWs : W.heap.size = P + 2 := by rw [hW, hP]; simp
  have HW := Lib.hid hW; have HP := Lib.hid hP
  have HPS : Hid (P ≤ W.heap.size) := Lib.hid (by omega)
  have HPX := Lib.hid (fun u (hu : Below W.heap.size W u) => And.intro (cells_one0 ((hu.block P (by omega)).trans hPW)) (cells_one0 ((hu.block (P + 1) (by omega)).trans hQW)))
  have H1 := Lib.hid (h1.below HB0.out (by omega)); have H2 := Lib.hid (h2.below HB0.out (by omega))
  have HBB : Hid (B ≤ W.heap.size) := Lib.hid (by omega); have HCC : Hid (C ≤ W.heap.size) := Lib.hid (by omega)
  have HBR : Hid (Below W.heap.size W W) := Lib.hid (Below.refl _ _)
  obtain ⟨c0, d0⟩ := HPX.out _ HBR.out
  rw [← hP]
  clear h1 h2 hn hm hB hC hP hW hPW hQW hWs
  rcases Decidable.em (n = n2) with hnn | hnn
  case inr =>
    rw [show decide (cs = bs) = false from decide_eq_false fun e => hnn (by rw [HN.out, HM.out, e])]
    have e1 : ((n : Int) != (n2 : Int)) = true := by simp; omega
    have e2 : ((n : Int) == (n2 : Int)) = false := by simp; omega
    go_enter Try.func25, Try.ntmps25
    go_wp2
    go_ret
    exact ⟨rfl, by rw [← HW.out]; exact HB0.out⟩
  subst hnn
  go_enter Try.func25, Try.ntmps25
  go_wp2_with fail
  rw [← HW.out, ← HP.out]
  go_loopw [5] (fun iv wr => ∃ k : Nat, k ≤ n ∧ iv = .int .i64 k ∧ Hid (cs.take k = bs.take k) ∧ Hid (Below W.heap.size W wr)) (fun iv _ => n - (intOf iv).toNat)
  case atStart => exact ⟨0, Nat.zero_le _, rfl, Lib.hid rfl, HBR⟩
  case round =>
    obtain ⟨k, hk, rfl, HK, HB⟩ := hrel
    clear c0 d0
    obtain ⟨c0, d0⟩ := HPX.out _ HB.out
    by_cases hlt : k < n
    · obtain ⟨b, o, aa, ac, rfl, hbB, hkl, _, _, _, hav, hc⟩ := H1.out.at hlt
      obtain ⟨b2, o2, aa2, ac2, rfl, hbC, hkm, _, _, _, hav2, hc2⟩ := H2.out.at hlt
      obtain ⟨x0, x1, x2, x3, x4, x5⟩ := six_cells (hc _ (HB.out.mono HBB.out))
      obtain ⟨y0, y1, y2, y3, y4, y5⟩ := six_cells (hc2 _ (HB.out.mono HCC.out))
      have HT := Lib.hid (take_one hkl); have HT2 := Lib.hid (take_one hkm)
      have HS := Lib.hid (same_ne (b := bs) hkl (by rw [← HN.out, HM.out]))
      obtain ⟨x, hx⟩ : ∃ x, x = cs[k]! := ⟨_, rfl⟩
      obtain ⟨y, hy⟩ : ∃ y, y = bs[k]! := ⟨_, rfl⟩
      rw [← hx] at x0 x1 x2 x3 x4 x5 HT hav HS
      rw [← hy] at y0 y1 y2 y3 y4 y5 HT2 hav2 HS
      have CC := rg (w := wr) (fun u hu => r4Same_any x.ev y.ev B C aa _ ac aa2 _ ac2 u (hav.below (HB.out.trans (hu.mono HB.out.size)) HBB.out) (hav2.below (HB.out.trans (hu.mono HB.out.size)) HCC.out) (Nat.le_trans HBB.out (Nat.le_trans HB.out.size hu.size)) (Nat.le_trans HCC.out (Nat.le_trans HB.out.size hu.size)))
      unfold evV at CC
      have e1 : IntKind.i64.wrap ((k : Int) + 1) = (k : Int) + 1 := IntWalk.i64_in _ (by omega)
      have hk0 : (0 : Int) ≤ (k : Int) := by omega
      have hkn' : (k : Int) < (n : Int) := by omega
      have hsb : sameB x y = ((x.var.toList == y.var.toList) && sameE x.ev y.ev) := rfl
      have C0 := cell_regrown c0; have D0 := cell_regrown d0
      have X0 := cell_regrown x0; have X1 := cell_regrown x1; have X2 := cell_regrown x2; have X3 := cell_regrown x3; have X4 := cell_regrown x4; have X5 := cell_regrown x5
      have Y0 := cell_regrown y0; have Y1 := cell_regrown y1; have Y2 := cell_regrown y2; have Y3 := cell_regrown y3; have Y4 := cell_regrown y4; have Y5 := cell_regrown y5
      clear hx hy hc hc2 hkl hkm hav hav2
      cases hv : (x.var.toList == y.var.toList) with
      | false =>
        have HR := Lib.hid (HS.out (by rw [hsb, hv]; rfl))
        have hv2 : (x.var.toList != y.var.toList) = true := by unfold bne; rw [hv]; rfl
        clear CC hsb C0 D0 X0 X1 X2 X3 X4 X5 Y0 Y1 Y2 Y3 Y4 Y5
        go_wp2_with fail
        go_quiet (fail)
        go_wp2
        go_ret
        exact ⟨ret_bool0 HR.out.symm, HB0.out.trans ((Below.drewN' HB.out _).mono HPS.out)⟩
      | true =>
        have hv2 : (x.var.toList != y.var.toList) = false := by unfold bne; rw [hv]; rfl
        cases hs : sameE x.ev y.ev with
        | true =>
          have HR := Lib.hid (sameB_iff.1 (by rw [hsb, hv, hs]; rfl : sameB x y = true))
          rw [hs] at CC
          clear hsb hs
          go_wp2_with fail
          clear c0 d0 x0 x1 x2 x3 x4 x5 y0 y1 y2 y3 y4 y5
          refine wp_region_quiet_below (by kernel_rfl) (by kernel_rfl) ?_
          repeat (quiet_step (first | (with_reducible exact CC _ _)))
          refine wpQuiet_nil ?_
          intro _ hw'
          obtain ⟨⟨dq, osq⟩, hw''⟩ := hw'
          subst hw''
          have HBQ := Lib.hid (HB.out.trans ((below_regrown wr dq osq).mono HB.out.size))
          go_wp2
          go_roundw
          case rel => exact ⟨k + 1, by omega, by go_num, Lib.hid (by rw [HT.out, HT2.out, HK.out, HR.out]), HBQ⟩
          case measure => simp [intOf]; omega
        | false =>
          have HR := Lib.hid (HS.out (by rw [hsb, hv, hs]; rfl))
          rw [hs] at CC
          clear hsb hs
          go_wp2_with fail
          clear c0 d0 x0 x1 x2 x3 x4 x5 y0 y1 y2 y3 y4 y5
          refine wp_region_quiet_below (by kernel_rfl) (by kernel_rfl) ?_
          repeat (quiet_step (first | (with_reducible exact CC _ _)))
          refine wpQuiet_nil ?_
          intro _ hw'
          obtain ⟨⟨dq, osq⟩, hw''⟩ := hw'
          subst hw''
          have HBQ := Lib.hid (HB.out.trans ((below_regrown wr dq osq).mono HB.out.size))
          go_wp2
          go_ret
          exact ⟨ret_bool0 HR.out.symm, HB0.out.trans (HBQ.out.mono HPS.out)⟩
    · have HE : Hid (decide (cs = bs) = true) := Lib.hid (same_all (by rw [← HN.out, HM.out]) (by have := HK.out; rwa [show k = cs.length by have := HN.out; omega] at this))
      go_wp2
      go_ret
      exact ⟨ret_bool0 HE.out.symm, HB0.out.trans (HB.out.mono HPS.out)⟩
end Go.Proofs.Ytpbloplbpkedcaa
