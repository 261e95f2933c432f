/- The walk of EventReads. -/
import Derived.Test.YtiljekpfkkocnaaRk
import Derived.Test.YtiljekpfkkocnaaBv
import Derived.Test.YtiljekpfkkocnaaBg4
namespace Go.Proofs.Ytiljekpfkkocnaa
open Go Go.RowKit

theorem rNew_any (ao : Option Addr) (cap : Nat) (bytes : List Nat) (w : World) (hbig : bytes.length ≤ 1048576) (hsm : ∀ c ∈ bytes, c < 256) (h : BytesAt w ao bytes) :
    Calls Try.prog 33 #[.slice ao bytes.length cap] w fun e w' => ∃ q, e = .returned (.pointer (some ⟨q, 0, none⟩)) ∧ RefIs w' w.heap.size q (bitsAll bytes) ∧ Below w.heap.size w w' := by
  rcases Nat.eq_zero_or_pos bytes.length with hl | hl
  · obtain rfl : bytes = [] := List.length_eq_zero_iff.1 hl
    exact rNew_nil ao cap w
  · cases ao with
    | none => have := h.1 rfl; omega
    | some a =>
      obtain ⟨b, o, s⟩ := a
      have h0 := h.2 _ rfl 0 hl
      obtain rfl : s = none := by simpa [Addr.add] using World.cell?_spot h0
      have hb : b < w.heap.size := World.block_lt_of_cell? _ _ h0
      refine rNew_some b o cap bytes w hbig hsm (by simpa [Addr.add] using hb) (fun j hj => ?_)
      have := h.2 _ rfl j hj
      rwa [Go.WideShapes.add_plain] at this
theorem own_len {w : World} {B e size n m c : Nat} {ao : Option Addr} {xs : List Value} (h : w.ownsRow B e size (.slice ao m c) n xs) : m = n := by
  obtain ⟨a, k, e⟩ := own_slice h
  simp only [Value.slice.injEq] at e
  exact e.2.1
theorem KeptR.of_below {B B' q : Nat} {a w w' : World} (h : KeptR B q a w) (hb : Below B' w w') (hB : B ≤ B') (hs : B' = w.heap.size) : KeptR B q a w' := by
  subst hs
  exact ⟨h.kept.trans ⟨hb.mono hB, fun k cs e fr hk _ => (hb.block k (lt_of_block hk)).trans hk⟩, fun k h1 h2 => (hb.block k (Nat.lt_of_lt_of_le h1 h.kept.below.size)).trans (h.only k h1 h2)⟩
theorem KeptR.five_fresh {B q : Nat} {a w : World} (h : KeptR B q a w) {P : Nat} (hB : B ≤ P) (hP : a.heap.size ≤ P) (d0 d1 d2 d3 d4 : Value) :
    KeptR B q a (((((w.setCell ⟨P, 0, none⟩ d0).setCell ⟨P, 1, none⟩ d1).setCell ⟨P, 2, none⟩ d2).setCell ⟨P, 3, none⟩ d3).setCell ⟨P, 4, none⟩ d4) :=
  ((((h.setCell_fresh (p := ⟨P, 0, none⟩) hB hP d0).setCell_fresh (p := ⟨P, 1, none⟩) hB hP d1).setCell_fresh (p := ⟨P, 2, none⟩) hB hP d2).setCell_fresh (p := ⟨P, 3, none⟩) hB hP d3).setCell_fresh (p := ⟨P, 4, none⟩) hB hP d4
/-- What was loaded before is stored back. -/
theorem RefIs.back {w w1 : World} {B q : Nat} {l l1 : List Bool} (h : RefIs w B q l) (hk : KeptR B q w w1) (h1 : RefIs w1 B q l1) {v : Value} (h0 : w.cell? ⟨q, 0, none⟩ = some v) : RefIs (w1.setCell ⟨q, 0, none⟩ v) B q l ∧ KeptR B q w (w1.setCell ⟨q, 0, none⟩ v) :=
  ⟨h.restored hk h1 h0, hk.trans (h1.keeps v)⟩

set_option maxRecDepth 100000 in
set_option maxHeartbeats 3200000 in
theorem r4Take_any (B q : Nat) (l : List Bool) (w : World) (h : RefIs w B q l) (hB : B ≤ w.heap.size) :
    Calls Try.prog 36 #[.pointer (some ⟨q, 0, none⟩)] w fun e w' => ∃ v, e = .returned (.tuple #[evV (tkEv l) v, .int .i64 (tkErr l)]) ∧ w'.ownsRow w.heap.size 91 4 v (tkEv l).ats.length ((tkEv l).ats.flatMap enc4) ∧ RefIs w' B q (tkRest l) ∧ KeptR B q w w' := by
  obtain ⟨R, hR⟩ : ∃ R, R = w.heap.size := ⟨_, rfl⟩
  obtain ⟨ao0, cap0, hq0⟩ : ∃ ao cap, w.heap[q]? = some (.cells #[.slice ao l.length cap] 60 (0, 0)) := by
    obtain ⟨ao, cap, hq, _⟩ := h.row
    exact ⟨ao, cap, hq⟩
  obtain ⟨N, hN⟩ : ∃ N, N = l.length := ⟨_, rfl⟩
  rw [← hN] at hq0
  have c0 := cell_of_one hq0
  obtain ⟨W, hW⟩ : ∃ W, W = (w.alloc (.cells #[.int .i64 0, .int .i64 0, .int .i64 0, .string ⟨#[]⟩, .slice none 0 0] 26)).alloc (.cells #[.slice ao0 N cap0] 60) := ⟨_, rfl⟩
  have hWS : R + 2 = W.heap.size := by rw [hW, hR]; simp
  have hWr : RefIs W B q l := by rw [hW]; exact (h.alloc _).alloc _
  have hWq : W.cell? ⟨q, 0, none⟩ = some (.slice ao0 N cap0) := by rw [hW]; exact Lib.cell?_alloc_some _ (Lib.cell?_alloc_some _ c0)
  have hWR : W.heap[R]? = some (.cells #[.int .i64 0, .int .i64 0, .int .i64 0, .string ⟨#[]⟩, .slice none 0 0] 26 (0, 0)) := by rw [hW, hR]; exact heap_alloc_keeps (heap_alloc_new _ _) _
  have hWX : W.heap[R + 1]? = some (.cells #[.slice ao0 N cap0] 60 (0, 0)) := by rw [hW, hR]; exact heap_alloc_at (by simp) rfl
  have hWK : KeptR B q w W := by rw [hW]; exact ((KeptR.refl _ _ _).alloc hB _).alloc (by simp; omega) _
  have C := r4take_any B q l W hWr (by rw [← hWS]; omega)
  have hqR : q < R := by rw [hR]; exact h.lt
  have hl2 : l.length ≤ 1125899906842624 := h.len
  have hwide : 8 * (qEvent (0, l)).1.ty.size ≤ l.length ∧ (∀ x ∈ (qEvent (0, l)).1.ats, 8 * x.name.size ≤ l.length ∧ 8 * x.s.size ≤ l.length) ∧ (qEvent (0, l)).1.ats.length ≤ 8 ∧ (qEvent (0, l)).2.2.length ≤ l.length := qEvent_wide (0, l)
  have hte : tkErr l = if (qEvent (0, l)).2.1 ≠ 0 then (((qEvent (0, l)).2.1 : Nat) : Int) else ckE (qEvent (0, l)).1 := rfl
  have htv : tkEv l = if tkErr l = 0 then (qEvent (0, l)).1 else evZ := rfl
  have htr : tkRest l = if tkErr l = 0 then (qEvent (0, l)).2.2 else l := rfl
  unfold r4tPost at C
  obtain ⟨ev, hev⟩ : ∃ ev, ev = qEvent (0, l) := ⟨_, rfl⟩
  rw [← hev] at C hte htv htr hwide
  have HC := hide C; have HWS := hide hWS; have HWR := hide hWR; have HWX := hide hWX; have HWK := hide hWK; have HWr := hide hWr; have HWq := hide hWq; have HL := hide hl2; have HWD := hide hwide; have HTE := hide hte; have HTV := hide htv; have HTR := hide htr; have HB := hide hB; have HR := hide hR; have HW := hide hW; have HQR := hide hqR
  rw [← hR]
  have d0 : (w.alloc (.cells #[.int .i64 0, .int .i64 0, .int .i64 0, .string ⟨#[]⟩, .slice none 0 0] 26)).cell? ⟨q, 0, none⟩ = some (.slice ao0 N cap0) := Lib.cell?_alloc_some _ c0
  clear C hWS hWR hWX hWK hWr hWq hl2 hwide hte htv htr hB hR hW hq0 hN hev h hqR c0
  go_enter Try.func36, Try.ntmps36
  go_wp2_with fail
  rw [← HW.out, ← HR.out]
  refine HC.out.mono ?_
  rintro e w2 ⟨x, ao, n, cap, rfl, hok, ⟨l', hr2, hl'⟩, k2⟩
  have hOK := hok
  obtain ⟨es, eq, et, ety, eats⟩ := x
  unfold evV
  simp only
  have HOK := hide hOK
  have HR2 := hide (heap_alloc_keeps (k2.typed _ _ _ _ HWR.out (by decide)) (.cells #[.int .i64 es, .int .i64 eq, .int .i64 et, .string ety, .slice ao n cap] 26))
  have HX2 := hide (heap_alloc_keeps ((k2.only (R + 1) (by have := HWS.out; omega) (by have := HQR.out; omega)).trans HWX.out) (.cells #[.int .i64 es, .int .i64 eq, .int .i64 et, .string ety, .slice ao n cap] 26))
  have HE2 := hide (heap_alloc_new w2 (.cells #[.int .i64 es, .int .i64 eq, .int .i64 et, .string ety, .slice ao n cap] 26))
  have hBW : B ≤ W.heap.size := by have := HB.out; have := HWS.out; have := HR.out; omega
  have HK2 := hide (k2.alloc (Nat.le_trans hBW k2.below.size) (.cells #[.int .i64 es, .int .i64 eq, .int .i64 et, .string ety, .slice ao n cap] 26))
  have HF2 := hide (hr2.alloc (.cells #[.int .i64 es, .int .i64 eq, .int .i64 et, .string ety, .slice ao n cap] 26))
  have HL' := hide hl'
  have hsz2 : W.heap.size ≤ w2.heap.size := k2.below.size
  have n1 : ¬ q = R := by have := HQR.out; omega
  have n2 : ¬ R = q := by have := HQR.out; omega
  have n3 : ¬ q = w2.heap.size := by have := HQR.out; have := HWS.out; omega
  have n4 : ¬ w2.heap.size = q := by have := HQR.out; have := HWS.out; omega
  have n5 : ¬ w2.heap.size = R := by have := HWS.out; omega
  have n6 : ¬ R = w2.heap.size := by have := HWS.out; omega
  have n7 : ¬ R + 1 = q := by have := HQR.out; omega
  have n8 : ¬ q = R + 1 := by have := HQR.out; omega
  clear hok hOK hr2 hl' k2 hBW d0 hsz2
  obtain ⟨E, hE⟩ : ∃ E, E = ev.2.1 := ⟨_, rfl⟩
  rw [← hE]
  have hte := HTE.out
  rw [← hE] at hte
  have HTE := hide hte
  have HEE := hide hE
  clear hte hE
  by_cases h0 : E = 0
  · subst h0
    have hev0 : ev.2.1 = 0 := HEE.out.symm
    obtain ⟨hx, ho⟩ := HOK.out hev0
    obtain rfl : n = eats.length := own_len ho
    have hte := HTE.out
    rw [if_neg (by simp), ← hx] at hte
    have hwd := HWD.out
    rw [← hx] at hwd
    have ho3 := ho.alloc (.cells #[.int .i64 es, .int .i64 eq, .int .i64 et, .string ety, .slice ao eats.length cap] 26)
    have hav := Av.of_own ho3 (fun x hx => by
      have := hwd.2.1 x hx
      have := HL.out
      unfold maxLen; omega) (by have := hwd.2.2.1; simp only at this ⊢; omega)
    have CK := r4Check_any ⟨es, eq, et, ety, eats⟩ _ ao eats.length cap _ hav (Nat.le_refl _) (by have := hwd.1; have := HL.out; unfold maxLen; simp only at *; omega)
    unfold evV at CK
    simp only at CK
    obtain ⟨cE, hcE⟩ : ∃ cE, cE = ckE ⟨es, eq, et, ety, eats⟩ := ⟨_, rfl⟩
    rw [← hcE] at CK hte
    have HCK := hide CK; have HTE2 := hide hte; have HO3 := hide ho3; have HX := hide hx; have HLL := hide (HL'.out hev0)
    clear CK hte hcE hav hwd ho ho3 hx hev0
    obtain ⟨c0, c1, c2, c3, c4⟩ := cell_of_five HE2.out
    go_wp2_with fail
    refine HCK.out.mono ?_
    rintro e w4 ⟨rfl, hb4⟩
    have HR4 := hide ((hb4.block R (lt_of_block HR2.out)).trans HR2.out)
    have HX4 := hide ((hb4.block (R + 1) (lt_of_block HX2.out)).trans HX2.out)
    have HE4 := hide ((hb4.block w2.heap.size (lt_of_block HE2.out)).trans HE2.out)
    have HF4 := hide (HF2.out.below hb4 (Nat.le_refl _))
    have HO4 := hide (ownsRow_below HO3.out hb4 (Nat.le_refl _))
    have HK4 := hide (HK2.out.of_below hb4 (Nat.le_trans (by have := HB.out; have := HWS.out; have := HR.out; omega) HK2.out.below.size) rfl)
    have HK5 := hide (HWK.out.trans HK4.out)
    clear hb4 c0 c1 c2 c3 c4
    obtain ⟨c0, c1, c2, c3, c4⟩ := cell_of_five HE4.out
    obtain ⟨r0, r1, r2, r3, r4⟩ := cell_of_five HR4.out
    have g0 := free_cells_of HR4.out 0; have g1 := free_cells_of HR4.out 1; have g2 := free_cells_of HR4.out 2; have g3 := free_cells_of HR4.out 3; have g4 := free_cells_of HR4.out 4
    by_cases hc0 : cE = 0
    · subst hc0
      go_wp2
      have hz := cell_of_five (five_set HR4.out (.int .i64 es) (.int .i64 eq) (.int .i64 et) (.string ety) (.slice ao eats.length cap))
      refine bodyPost_ret (v := .tuple #[.agg #[.int .i64 es, .int .i64 eq, .int .i64 et, .string ety, .slice ao eats.length cap], .int .i64 0]) (by simp [results, Try.results36, go_sem, hz]) rfl ?_
      have h00 := HTE2.out
      have htv := HTV.out; have htr := HTR.out
      rw [if_pos h00] at htv htr
      rw [htv, htr, h00, ← HX.out, ← HLL.out]
      refine ⟨.slice ao eats.length cap, rfl, ?_, ?_, ?_⟩
      · exact ownsRow_lower (own_five HO4.out HR4.out (by decide) _ _ _ _ _) (by have := HWS.out; omega)
      · exact HF4.out.kept (kept_five HR4.out _ _ _ _ _) (by decide) (by decide)
      · exact HK5.out.five_fresh (by rw [HR.out]; exact HB.out) (by rw [HR.out]; exact Nat.le_refl _) _ _ _ _ _
    · have b1 : (cE != 0) = true := by simp [hc0]
      have HC0 := hide hc0
      have x0 := cell_of_one HX4.out
      have fq := HF4.out.free
      obtain ⟨aq, kq, hqq, _⟩ := HF4.out.row
      have q0 := cell_of_one hqq
      clear hqq
      have hback := HWr.out.back HK4.out HF4.out HWq.out
      have HBK := hide hback.1; have HK6 := hide (HWK.out.trans hback.2)
      have HR5 := hide (hback.2.typed _ _ _ _ HWR.out (by decide))
      clear hc0 hback
      go_wp2
      have hz := cell_of_five (five_set HR5.out (.int .i64 0) (.int .i64 0) (.int .i64 0) (.string ⟨#[]⟩) (.slice none 0 0))
      refine bodyPost_ret (v := .tuple #[.agg #[.int .i64 0, .int .i64 0, .int .i64 0, .string ⟨#[]⟩, .slice none 0 0], .int .i64 cE]) (by simp [results, Try.results36, go_sem, hz]) rfl ?_
      have hne : tkErr l ≠ 0 := by rw [HTE2.out]; exact HC0.out
      rw [tkEv_no hne, tkRest_no hne, HTE2.out]
      exact ⟨.slice none 0 0, rfl, World.ownsRow_nil _ _ _ _, HBK.out.kept (kept_five HR5.out _ _ _ _ _) (by decide) (by decide), HK6.out.five_fresh (by rw [HR.out]; exact HB.out) (by rw [HR.out]; exact Nat.le_refl _) _ _ _ _ _⟩
  · have b1 : ((E : Int) != 0) = true := by simp; omega
    have b2 : ((E : Int) == 0) = false := by simp; omega
    have hte := HTE.out
    rw [if_pos h0] at hte
    have HTE2 := hide hte
    have HH0 := hide h0
    obtain ⟨r0, r1, r2, r3, r4⟩ := cell_of_five HR2.out
    have g0 := free_cells_of HR2.out 0; have g1 := free_cells_of HR2.out 1; have g2 := free_cells_of HR2.out 2; have g3 := free_cells_of HR2.out 3; have g4 := free_cells_of HR2.out 4
    have x0 := cell_of_one HX2.out
    have fq := HF2.out.free
    obtain ⟨aq, kq, hqq, _⟩ := HF2.out.row
    have q0 := cell_of_one hqq
    clear hqq
    have hback := HWr.out.back HK2.out HF2.out HWq.out
    have HBK := hide hback.1; have HK6 := hide (HWK.out.trans hback.2)
    have HR5 := hide (hback.2.typed _ _ _ _ HWR.out (by decide))
    clear h0 hte hback
    go_wp2
    have hz := cell_of_five (five_set HR5.out (.int .i64 0) (.int .i64 0) (.int .i64 0) (.string ⟨#[]⟩) (.slice none 0 0))
    refine bodyPost_ret (v := .tuple #[.agg #[.int .i64 0, .int .i64 0, .int .i64 0, .string ⟨#[]⟩, .slice none 0 0], .int .i64 (E : Int)]) (by simp [results, Try.results36, go_sem, hz]) rfl ?_
    have hne : tkErr l ≠ 0 := by rw [HTE2.out]; have := HH0.out; omega
    rw [tkEv_no hne, tkRest_no hne, HTE2.out]
    exact ⟨.slice none 0 0, rfl, World.ownsRow_nil _ _ _ _, HBK.out.kept (kept_five HR5.out _ _ _ _ _) (by decide) (by decide), HK6.out.five_fresh (by rw [HR.out]; exact HB.out) (by rw [HR.out]; exact Nat.le_refl _) _ _ _ _ _⟩

set_option maxRecDepth 100000 in
set_option maxHeartbeats 1600000 in
theorem r4Parse_any (ao : Option Addr) (cap : Nat) (bytes : List Nat) (w : World) (hbig : bytes.length ≤ 1048576) (hsm : ∀ c ∈ bytes, c < 256) (h : BytesAt w ao bytes) :
    Calls Try.prog 31 #[.slice ao bytes.length cap] w fun e w' => ∃ v, e = .returned (.tuple #[evV (psEv (bitsAll bytes)) v, .int .i64 (psErr (bitsAll bytes))]) ∧ w'.ownsRow w.heap.size 91 4 v (psEv (bitsAll bytes)).ats.length ((psEv (bitsAll bytes)).ats.flatMap enc4) ∧ Below w.heap.size w w' := by
  obtain ⟨P, hP⟩ : ∃ P, P = w.heap.size := ⟨_, rfl⟩
  obtain ⟨W, hW⟩ : ∃ W, W = w.alloc (.cells #[.int .i64 0, .int .i64 0, .int .i64 0, .string ⟨#[]⟩, .slice none 0 0] 26) := ⟨_, rfl⟩
  have hbW : Below P w W := by rw [hW, hP]; exact (Below.refl _ _).alloc (Nat.le_refl _) _
  have hsz : P < W.heap.size := by rw [hW, hP]; simp
  have hrW : W.heap[P]? = some (.cells #[.int .i64 0, .int .i64 0, .int .i64 0, .string ⟨#[]⟩, .slice none 0 0] 26 (0, 0)) := by rw [hW, hP]; exact heap_alloc_new _ _
  have hba : BytesAt W ao bytes := ⟨h.1, fun a ha j hj => by rw [hW]; exact Lib.cell?_alloc_some _ (h.2 a ha j hj)⟩
  have CN := rNew_any ao cap bytes W hbig hsm hba
  have C2 := fun (q : Nat) (w1 : World) (hs : RefIs w1 W.heap.size q (bitsAll bytes)) (hB : W.heap.size ≤ w1.heap.size) => r4Take_any W.heap.size q (bitsAll bytes) w1 hs hB
  obtain ⟨l, hl⟩ : ∃ l, l = bitsAll bytes := ⟨_, rfl⟩
  rw [← hl] at CN C2 ⊢
  have hpe : psErr l = if tkErr l ≠ 0 then tkErr l else ((endErrL (tkRest l) : Nat) : Int) := rfl
  have hpv : psEv l = if psErr l = 0 then tkEv l else evZ := rfl
  obtain ⟨ev, hev⟩ : ∃ ev, ev = tkEv l := ⟨_, rfl⟩
  obtain ⟨te, hte⟩ : ∃ te, te = tkErr l := ⟨_, rfl⟩
  obtain ⟨tr, htr⟩ : ∃ tr, tr = tkRest l := ⟨_, rfl⟩
  rw [← hte, ← htr] at hpe
  rw [← hev] at hpv
  rw [← hev, ← hte, ← htr] at C2
  obtain ⟨es, eq, et, ety, eats⟩ := ev
  unfold evV at C2
  simp only at C2
  have HCN := hide CN; have HC2 := hide C2; have HBW := hide hbW; have HSZ := hide hsz; have HRW := hide hrW; have HPE := hide hpe; have HPV := hide hpv; have HW := hide hW; have HP := hide hP
  rw [← hP]
  clear hbig hsm h hP hW hbW hsz hrW hba CN C2 hl hpe hpv hev hte htr
  go_enter Try.func31, Try.ntmps31
  go_wp2_with fail
  rw [← HW.out, ← HP.out]
  refine HCN.out.mono ?_
  rintro e w1 ⟨q, rfl, hs1, b1⟩
  have HS1 := hide hs1; have HB1 := hide b1
  clear hs1 b1
  go_wp2_with fail
  refine (HC2.out q w1 HS1.out HB1.out.size).mono ?_
  rintro e w2 ⟨v2, rfl, ho2, hs2, k2⟩
  obtain ⟨ao2, cap2, rfl⟩ := own_slice ho2
  have HO3 := hide (ho2.alloc (.cells #[.int .i64 es, .int .i64 eq, .int .i64 et, .string ety, .slice ao2 eats.length cap2] 26))
  have HS3 := hide (hs2.below ((Below.refl w2.heap.size w2).alloc (Nat.le_refl _) (.cells #[.int .i64 es, .int .i64 eq, .int .i64 et, .string ety, .slice ao2 eats.length cap2] 26)) (Nat.le_refl _))
  have hbb : Below P w w2 := HBW.out.trans ((HB1.out.trans k2.below).mono (Nat.le_of_lt HSZ.out))
  have HB3 := hide (hbb.alloc (by rw [HP.out]; exact hbb.size) (.cells #[.int .i64 es, .int .i64 eq, .int .i64 et, .string ety, .slice ao2 eats.length cap2] 26))
  have hr2 := (k2.below.block P HSZ.out).trans ((HB1.out.block P HSZ.out).trans HRW.out)
  have HR3 := hide (heap_alloc_keeps hr2 (.cells #[.int .i64 es, .int .i64 eq, .int .i64 et, .string ety, .slice ao2 eats.length cap2] 26))
  have HX3 := hide (heap_alloc_new w2 (.cells #[.int .i64 es, .int .i64 eq, .int .i64 et, .string ety, .slice ao2 eats.length cap2] 26))
  have HL2 := hide (show P ≤ w1.heap.size from Nat.le_trans (Nat.le_of_lt HSZ.out) HB1.out.size)
  have n1 : ¬ w2.heap.size = P := by have := lt_of_block hr2; omega
  have n2 : ¬ P = w2.heap.size := by have := lt_of_block hr2; omega
  clear ho2 hs2 k2 hbb hr2
  by_cases h0 : te = 0
  · have hpe := HPE.out
    rw [if_neg (by simp [h0])] at hpe
    subst h0
    have CE := rsEnd_any W.heap.size q tr _ HS3.out
    obtain ⟨en, hen⟩ : ∃ en, en = endErrL tr := ⟨_, rfl⟩
    rw [← hen] at CE hpe
    have HCE := hide CE; have HPE2 := hide hpe
    clear CE hpe hen
    go_wp2_with fail
    refine HCE.out.mono ?_
    rintro e w4 ⟨rfl, rfl⟩
    have HR4 := HR3; have HX4 := HX3; have HO4 := HO3; have HB4 := HB3
    obtain ⟨c0, c1, c2, c3, c4⟩ := cell_of_five HX4.out
    obtain ⟨r0, r1, r2, r3, r4⟩ := cell_of_five HR4.out
    have g0 := free_cells_of HR4.out 0; have g1 := free_cells_of HR4.out 1; have g2 := free_cells_of HR4.out 2; have g3 := free_cells_of HR4.out 3; have g4 := free_cells_of HR4.out 4
    by_cases hn0 : en = 0
    · subst hn0
      go_wp2
      have hz := cell_of_five (five_set HR4.out (.int .i64 es) (.int .i64 eq) (.int .i64 et) (.string ety) (.slice ao2 eats.length cap2))
      refine bodyPost_ret (v := .tuple #[.agg #[.int .i64 es, .int .i64 eq, .int .i64 et, .string ety, .slice ao2 eats.length cap2], .int .i64 0]) (by simp [results, Try.results31, go_sem, hz]) rfl ?_
      have hpv := HPV.out
      have hp0 : psErr l = 0 := HPE2.out
      rw [if_pos hp0] at hpv
      rw [hpv, hp0]
      refine ⟨.slice ao2 eats.length cap2, rfl, ownsRow_lower (own_five HO4.out HR4.out (by decide) _ _ _ _ _) ?_, ?_⟩
      · exact HL2.out
      · exact below_five HB4.out (Nat.le_refl _) _ _ _ _ _
    · have b1 : ((en : Int) != 0) = true := by simp; omega
      have HN0 := hide hn0
      have HPE3 := HPE2
      have hEn : (en : Int) ≠ 0 := by omega
      have HEN := hide hEn
      clear hn0 hEn
      go_wp2
      have hz := cell_of_five (five_set HR4.out (.int .i64 0) (.int .i64 0) (.int .i64 0) (.string ⟨#[]⟩) (.slice none 0 0))
      refine bodyPost_ret (v := .tuple #[.agg #[.int .i64 0, .int .i64 0, .int .i64 0, .string ⟨#[]⟩, .slice none 0 0], .int .i64 (en : Int)]) (by simp [results, Try.results31, go_sem, hz]) rfl ?_
      have hne : psErr l ≠ 0 := by rw [HPE3.out]; exact HEN.out
      rw [psEv_no hne, HPE3.out]
      exact ⟨.slice none 0 0, rfl, World.ownsRow_nil _ _ _ _, below_five HB4.out (Nat.le_refl _) _ _ _ _ _⟩
  · have b1 : (te != 0) = true := by simp [h0]
    have b0 : (te == 0) = false := by simp [h0]
    have hpe := HPE.out
    rw [if_pos h0] at hpe
    have HPE2 := hide hpe; have HTN := hide h0
    obtain ⟨r0, r1, r2, r3, r4⟩ := cell_of_five HR3.out
    have g0 := free_cells_of HR3.out 0; have g1 := free_cells_of HR3.out 1; have g2 := free_cells_of HR3.out 2; have g3 := free_cells_of HR3.out 3; have g4 := free_cells_of HR3.out 4
    clear h0 hpe
    go_wp2
    have hz := cell_of_five (five_set HR3.out (.int .i64 0) (.int .i64 0) (.int .i64 0) (.string ⟨#[]⟩) (.slice none 0 0))
    refine bodyPost_ret (v := .tuple #[.agg #[.int .i64 0, .int .i64 0, .int .i64 0, .string ⟨#[]⟩, .slice none 0 0], .int .i64 te]) (by simp [results, Try.results31, go_sem, hz]) rfl ?_
    have hne : psErr l ≠ 0 := by rw [HPE2.out]; exact HTN.out
    rw [psEv_no hne, HPE2.out]
    exact ⟨.slice none 0 0, rfl, World.ownsRow_nil _ _ _ _, below_five HB3.out (Nat.le_refl _) _ _ _ _ _⟩
end Go.Proofs.Ytiljekpfkkocnaa
namespace Go.Proofs.Ytiljekpfkkocnaa
open Go Go.RowKit

theorem psEv_wide (l : List Bool) (hl : l.length ≤ 1125899906842624) : (∀ x ∈ (psEv l).ats, x.name.size ≤ maxLen ∧ x.s.size ≤ maxLen) ∧ (psEv l).ats.length * 48 ≤ 140737488355328 := by
  have hw : 8 * (qEvent (0, l)).1.ty.size ≤ l.length ∧ (∀ x ∈ (qEvent (0, l)).1.ats, 8 * x.name.size ≤ l.length ∧ 8 * x.s.size ≤ l.length) ∧ (qEvent (0, l)).1.ats.length ≤ 8 ∧ (qEvent (0, l)).2.2.length ≤ l.length := qEvent_wide (0, l)
  by_cases h : psErr l = 0
  · rw [psEv_ok h, tkEv_ok (psErr_ok h).1]
    exact ⟨fun x hx => by have := hw.2.1 x hx; unfold maxLen; omega, by omega⟩
  · rw [psEv_no h]; exact ⟨fun x hx => (by cases hx), by decide⟩
theorem tkEv_wide (l : List Bool) (hl : l.length ≤ 1125899906842624) : (∀ x ∈ (tkEv l).ats, x.name.size ≤ maxLen ∧ x.s.size ≤ maxLen) ∧ (tkEv l).ats.length * 48 ≤ 140737488355328 := by
  have hw : 8 * (qEvent (0, l)).1.ty.size ≤ l.length ∧ (∀ x ∈ (qEvent (0, l)).1.ats, 8 * x.name.size ≤ l.length ∧ 8 * x.s.size ≤ l.length) ∧ (qEvent (0, l)).1.ats.length ≤ 8 ∧ (qEvent (0, l)).2.2.length ≤ l.length := qEvent_wide (0, l)
  by_cases h : tkErr l = 0
  · rw [tkEv_ok h]
    exact ⟨fun x hx => by have := hw.2.1 x hx; unfold maxLen; omega, by omega⟩
  · rw [tkEv_no h]; exact ⟨fun x hx => (by cases hx), by decide⟩

theorem SrcL.lower {w : World} {B B' q : Nat} {bytes : List Nat} {l : List Bool} (h : SrcL w B q bytes l) (hB : B' ≤ B) : SrcL w B' q bytes l := by
  obtain ⟨p, h1, h2⟩ := h
  obtain ⟨v, hq, ho⟩ := h1.row
  exact ⟨p, ⟨Nat.le_trans hB h1.from_, h1.len, h1.at_, h1.small, v, hq, ownsRow_lower ho hB⟩, h2⟩
/-- How things stand within EventReads: two boxes of events, a source, the document's source. -/
structure Rw4 (w0 : World) (P X Y q1 q2 : Nat) (cx cy : Array Value) (b : List Nat) (l1 l2 : List Bool) (w : World) : Prop where
  below : Below P w0 w
  size : P ≤ w.heap.size
  hX : P ≤ X
  hY : P ≤ Y
  ne : X ≠ Y
  bx : w.heap[X]? = some (.cells cx 26 (0, 0))
  by_ : w.heap[Y]? = some (.cells cy 26 (0, 0))
  src : SrcL w P q1 b l1
  ref : RefIs w P q2 l2
theorem Rw4.call {w0 : World} {P X Y q1 q2 : Nat} {cx cy : Array Value} {b : List Nat} {l1 l2 : List Bool} {w w' : World} (h : Rw4 w0 P X Y q1 q2 cx cy b l1 l2 w) (hb : Below w.heap.size w w') : Rw4 w0 P X Y q1 q2 cx cy b l1 l2 w' :=
  ⟨h.below.trans (hb.mono h.size), Nat.le_trans h.size hb.size, h.hX, h.hY, h.ne, (hb.block X (lt_of_block h.bx)).trans h.bx, (hb.block Y (lt_of_block h.by_)).trans h.by_, h.src.below hb (Nat.le_refl _), h.ref.below hb (Nat.le_refl _)⟩
theorem Rw4.drew {w0 : World} {P X Y q1 q2 : Nat} {cx cy : Array Value} {b : List Nat} {l1 l2 : List Bool} {w : World} (h : Rw4 w0 P X Y q1 q2 cx cy b l1 l2 w) : Rw4 w0 P X Y q1 q2 cx cy b l1 l2 w.drew := h.call (Below.refl _ _).drew
theorem Rw4.takeS {w0 : World} {P X Y q1 q2 : Nat} {cx cy : Array Value} {b : List Nat} {l1 l1' l2 : List Bool} {w w' : World} {T : Nat → Bool} (h : Rw4 w0 P X Y q1 q2 cx cy b l1 l2 w) (hk : Kept P T w w') (h1 : T 26 = false) (h2 : T 60 = false) (h3 : T 4 = false) (hs : SrcL w' P q1 b l1') : Rw4 w0 P X Y q1 q2 cx cy b l1' l2 w' :=
  ⟨h.below.trans hk.below, Nat.le_trans h.size hk.below.size, h.hX, h.hY, h.ne, hk.typed _ _ _ _ h.bx h1, hk.typed _ _ _ _ h.by_ h1, hs, h.ref.kept hk h2 h3⟩
theorem Rw4.takeR {w0 : World} {P X Y q1 q2 : Nat} {cx cy : Array Value} {b : List Nat} {l1 l2 l2' : List Bool} {w w' : World} (h : Rw4 w0 P X Y q1 q2 cx cy b l1 l2 w) (hk : KeptR P q2 w w') (hr : RefIs w' P q2 l2') : Rw4 w0 P X Y q1 q2 cx cy b l1 l2' w' :=
  ⟨h.below.trans hk.below, Nat.le_trans h.size hk.below.size, h.hX, h.hY, h.ne, hk.typed _ _ _ _ h.bx (by decide), hk.typed _ _ _ _ h.by_ (by decide), h.src.kept hk.kept (by decide) (by decide), hr⟩
theorem Rw4.setX {w0 : World} {P X Y q1 q2 : Nat} {c0 c1 c2 c3 c4 : Value} {cy : Array Value} {b : List Nat} {l1 l2 : List Bool} {w : World} (h : Rw4 w0 P X Y q1 q2 #[c0, c1, c2, c3, c4] cy b l1 l2 w) (d0 d1 d2 d3 d4 : Value) :
    Rw4 w0 P X Y q1 q2 #[d0, d1, d2, d3, d4] cy b l1 l2 (((((w.setCell ⟨X, 0, none⟩ d0).setCell ⟨X, 1, none⟩ d1).setCell ⟨X, 2, none⟩ d2).setCell ⟨X, 3, none⟩ d3).setCell ⟨X, 4, none⟩ d4) := by
  have hk := kept_five h.bx d0 d1 d2 d3 d4
  have hn : Y ≠ X := fun e => h.ne e.symm
  refine ⟨below_five h.below h.hX _ _ _ _ _, by simpa using h.size, h.hX, h.hY, h.ne, five_set h.bx _ _ _ _ _, ?_, h.src.kept hk (by decide) (by decide), h.ref.kept hk (by decide) (by decide)⟩
  exact heap_setCell_far (p := ⟨X, 4, none⟩) (heap_setCell_far (p := ⟨X, 3, none⟩) (heap_setCell_far (p := ⟨X, 2, none⟩) (heap_setCell_far (p := ⟨X, 1, none⟩) (heap_setCell_far (p := ⟨X, 0, none⟩) h.by_ hn _) hn _) hn _) hn _) hn _
theorem Rw4.setY {w0 : World} {P X Y q1 q2 : Nat} {c0 c1 c2 c3 c4 : Value} {cx : Array Value} {b : List Nat} {l1 l2 : List Bool} {w : World} (h : Rw4 w0 P X Y q1 q2 cx #[c0, c1, c2, c3, c4] b l1 l2 w) (d0 d1 d2 d3 d4 : Value) :
    Rw4 w0 P X Y q1 q2 cx #[d0, d1, d2, d3, d4] b l1 l2 (((((w.setCell ⟨Y, 0, none⟩ d0).setCell ⟨Y, 1, none⟩ d1).setCell ⟨Y, 2, none⟩ d2).setCell ⟨Y, 3, none⟩ d3).setCell ⟨Y, 4, none⟩ d4) := by
  have hk := kept_five h.by_ d0 d1 d2 d3 d4
  have hn : X ≠ Y := h.ne
  refine ⟨below_five h.below h.hY _ _ _ _ _, by simpa using h.size, h.hX, h.hY, h.ne, ?_, five_set h.by_ _ _ _ _ _, h.src.kept hk (by decide) (by decide), h.ref.kept hk (by decide) (by decide)⟩
  exact heap_setCell_far (p := ⟨Y, 4, none⟩) (heap_setCell_far (p := ⟨Y, 3, none⟩) (heap_setCell_far (p := ⟨Y, 2, none⟩) (heap_setCell_far (p := ⟨Y, 1, none⟩) (heap_setCell_far (p := ⟨Y, 0, none⟩) h.bx hn _) hn _) hn _) hn _) hn _

set_option maxRecDepth 100000 in
set_option maxHeartbeats 6400000 in
theorem reads_walk (B : Nat) (v : Value) (b : List Nat) (skip : Nat) (w : World) (hb : Bv w B v b) (hB : B ≤ w.heap.size) (hbig : b.length ≤ 1048576) (hsk : skip < 256) :
    Calls Try.prog 6 #[v, .int .u8 (skip : Int)] w fun e w' => e = .returned (.bool true) ∧ Below w.heap.size w w' := by
  obtain ⟨ao, cap, rfl, _, _, _, _⟩ := hb.row
  have C1 := fun (w' : World) (h : Bv w' B (.slice ao b.length cap) b) => eParse_any ao cap b w' (by omega) hb.small h.bytesAt'
  have C2 := fun (w' : World) (h : Bv w' B (.slice ao b.length cap) b) => r4Parse_any ao cap b w' hbig hb.small h.bytesAt'
  have C3 := fun (w' : World) (h : Bv w' B (.slice ao b.length cap) b) => newSource_any ao cap b w' (by omega) hb.small h.bytesAt'
  have C4 := fun (w' : World) (h : Bv w' B (.slice ao b.length cap) b) => rNew_any ao cap b w' hbig hb.small h.bytesAt'
  have hlen : (bitsAll b).length = 8 * b.length := bitsAll_length b
  have hwp := psEv_wide (bitsAll b) (by omega)
  obtain ⟨l, hl⟩ : ∃ l, l = bitsAll b := ⟨_, rfl⟩
  rw [← hl] at C1 C2 C4 hlen hwp
  obtain ⟨pv, hpv⟩ : ∃ pv, pv = psEv l := ⟨_, rfl⟩
  obtain ⟨pe, hpe⟩ : ∃ pe, pe = psErr l := ⟨_, rfl⟩
  rw [← hpv, ← hpe] at C1 C2
  rw [← hpv] at hwp
  obtain ⟨ps, pq, pt, pty, pats⟩ := pv
  unfold evV at C1 C2
  simp only at C1 C2 hwp
  obtain ⟨N, hN⟩ : ∃ N, N = b.length := ⟨_, rfl⟩
  rw [← hN] at C1 C2 C3 C4 hlen hbig hb ⊢
  obtain ⟨P, hP⟩ : ∃ P, P = w.heap.size := ⟨_, rfl⟩
  have HC1 := hide C1; have HC2 := hide C2; have HC3 := hide C3; have HC4 := hide C4; have HV := hide hb; have HP := hide hP; have HW := hide hwp; have HL := hide hl; have HLen := hide hlen; have HB := hide hB; have HN := hide hN; have HBig := hide hbig
  rw [← hP]
  clear C1 C2 C3 C4 hb hP hwp hl hlen hpv hpe hB hN hbig
  go_enter Try.func6, Try.ntmps6
  go_wp2_with fail
  refine (HC1.out w HV.out).mono ?_
  rintro e w1 ⟨v1, rfl, ho1, b1⟩
  obtain ⟨ao1, cap1, rfl⟩ := own_slice ho1
  have HB1 := hide (b1.alloc b1.size (.cells #[.int .i64 ps, .int .i64 pq, .int .i64 pt, .string pty, .slice ao1 pats.length cap1] 26))
  have HX1 := hide (heap_alloc_new w1 (.cells #[.int .i64 ps, .int .i64 pq, .int .i64 pt, .string pty, .slice ao1 pats.length cap1] 26))
  have HO1 := hide (ho1.alloc (.cells #[.int .i64 ps, .int .i64 pq, .int .i64 pt, .string pty, .slice ao1 pats.length cap1] 26))
  have HS1 := hide (show w.heap.size ≤ w1.heap.size from b1.size)
  clear ho1 b1
  go_wp2_with fail
  refine (HC2.out _ (HV.out.below HB1.out HB.out)).mono ?_
  rintro e w2 ⟨v2, rfl, ho2, b2⟩
  obtain ⟨ao2, cap2, rfl⟩ := own_slice ho2
  have HB2 := hide (HB1.out.trans ((b2.alloc b2.size (.cells #[.int .i64 ps, .int .i64 pq, .int .i64 pt, .string pty, .slice ao2 pats.length cap2] 26)).mono (by simp; exact Nat.le_succ_of_le HS1.out)))
  have HX2 := hide (heap_alloc_keeps ((b2.block _ (lt_of_block HX1.out)).trans HX1.out) (.cells #[.int .i64 ps, .int .i64 pq, .int .i64 pt, .string pty, .slice ao2 pats.length cap2] 26))
  have HY2 := hide (heap_alloc_new w2 (.cells #[.int .i64 ps, .int .i64 pq, .int .i64 pt, .string pty, .slice ao2 pats.length cap2] 26))
  have HO12 := hide ((ownsRow_below HO1.out b2 (Nat.le_refl _)).alloc (.cells #[.int .i64 ps, .int .i64 pq, .int .i64 pt, .string pty, .slice ao2 pats.length cap2] 26))
  have HO2 := hide (ho2.alloc (.cells #[.int .i64 ps, .int .i64 pq, .int .i64 pt, .string pty, .slice ao2 pats.length cap2] 26))
  have hXY : w1.heap.size < w2.heap.size := by have := b2.size; simp at this; omega
  have HXY := hide hXY
  obtain ⟨X, hX⟩ : ∃ X, X = w1.heap.size := ⟨_, rfl⟩
  obtain ⟨Y, hY⟩ : ∃ Y, Y = w2.heap.size := ⟨_, rfl⟩
  rw [← hX] at HX2 HXY
  rw [← hY] at HY2 HXY
  have HPX := hide (show P ≤ X by rw [HP.out, hX]; exact HS1.out)
  have HX := hide hX; have HY := hide hY
  clear ho2 b2 hXY hX hY
  go_wp2_with fail
  rw [← HX.out, ← HY.out]
  refine (HC3.out _ (HV.out.below HB2.out HB.out)).mono ?_
  rintro e w3 ⟨q1, rfl, hs3, b3⟩
  have hsz3 : w.heap.size ≤ (w2.alloc (.cells #[.int .i64 ps, .int .i64 pq, .int .i64 pt, .string pty, .slice ao2 pats.length cap2] 26)).heap.size := HB2.out.size
  have HB3 := hide (HB2.out.trans (b3.mono hsz3))
  have HX3 := hide ((b3.block _ (lt_of_block HX2.out)).trans HX2.out)
  have HY3 := hide ((b3.block _ (lt_of_block HY2.out)).trans HY2.out)
  have HO13 := hide (ownsRow_below HO12.out b3 (Nat.le_refl _))
  have HO23 := hide (ownsRow_below HO2.out b3 (Nat.le_refl _))
  have HS3 := hide (show SrcL w3 P q1 b l from SrcL.lower ⟨0, hs3, by rw [HL.out]; simp [leftL]⟩ (by rw [HP.out]; exact hsz3))
  clear hs3 b3 hsz3
  go_wp2_with fail
  refine (HC4.out _ (HV.out.below HB3.out HB.out)).mono ?_
  rintro e w4 ⟨q2, rfl, hr4, b4⟩
  have hsz4 : w.heap.size ≤ w3.heap.size := HB3.out.size
  have HR := hide (show Rw4 w P X Y q1 q2 #[.int .i64 ps, .int .i64 pq, .int .i64 pt, .string pty, .slice ao1 pats.length cap1] #[.int .i64 ps, .int .i64 pq, .int .i64 pt, .string pty, .slice ao2 pats.length cap2] b l l w4 from
    ⟨by rw [HP.out]; exact HB3.out.trans (b4.mono hsz4), by rw [HP.out]; exact Nat.le_trans hsz4 b4.size, HPX.out, Nat.le_of_lt (Nat.lt_of_le_of_lt HPX.out HXY.out), Nat.ne_of_lt HXY.out, (b4.block _ (lt_of_block HX3.out)).trans HX3.out, (b4.block _ (lt_of_block HY3.out)).trans HY3.out, HS3.out.below b4 (Nat.le_refl _), hr4.lower (by rw [HP.out]; exact hsz4)⟩)
  have HO14 := hide (ownsRow_below HO13.out b4 (Nat.le_refl _))
  have HO24 := hide (ownsRow_below HO23.out b4 (Nat.le_refl _))
  clear hr4 b4 hsz4
  have hpe2 : (pe != pe) = false := by simp
  go_wp2_with fail
  refine (begun4_any _).mono ?_
  rintro e w5 ⟨rfl, b5⟩
  have HR5 := hide (HR.out.call b5)
  have hav1 := Av.of_own (ownsRow_below HO14.out b5 (Nat.le_refl _)) HW.out.1 HW.out.2
  have hav2 := Av.of_own (ownsRow_below HO24.out b5 (Nat.le_refl _)) HW.out.1 HW.out.2
  have CS := r4Same_any ⟨ps, pq, pt, pty, pats⟩ ⟨ps, pq, pt, pty, pats⟩ _ _ ao1 pats.length cap1 ao2 pats.length cap2 w5 hav1 hav2 (Nat.le_refl _) (Nat.le_refl _)
  rw [sameE_refl] at CS
  unfold evV at CS
  have HCS := hide CS
  obtain ⟨c0, c1, c2, c3, c4⟩ := cell_of_five HR5.out.bx
  obtain ⟨d0, d1, d2, d3, d4⟩ := cell_of_five HR5.out.by_
  clear b5 hav1 hav2 CS
  go_wp2_with fail
  refine HCS.out.mono ?_
  rintro e w6 ⟨rfl, b6⟩
  have HR6 := hide (HR5.out.call b6)
  clear b6 c0 c1 c2 c3 c4 d0 d1 d2 d3 d4
  have hsm : (0 : Int) ≤ (skip : Int) ∧ (skip : Int) ≤ 255 := by omega
  go_wp2_with fail
  obtain ⟨m, hm⟩ : ∃ m : Nat, m = skip % 8 := ⟨_, rfl⟩
  have hmi : (skip : Int) % 8 = (m : Int) := by omega
  have hm8 : m < 8 := by omega
  rw [hmi]
  obtain ⟨p, hs6, hp6⟩ := HR6.out.src
  have CB := sBits_any P q1 (m : Int) b p w6 hs6 (by simp [Lit.wf, IntKind.min, IntKind.max, IntKind.signed, IntKind.bits]; omega)
  rw [hp6] at CB
  have hlen := HLen.out
  have hN := HBig.out
  clear hs6 hp6 hm hmi hsm
  by_cases hgt : 8 * N < m
  · have he : bitsErr (m : Int) l.length = 10 := bitsErr_ends (by omega) (by omega)
    rw [he] at CB
    have HCB := hide CB
    clear CB he hlen
    refine HCB.out.mono ?_
    rintro e w7 ⟨rfl, ⟨p7, hs7, hl7⟩, k7⟩
    have HR7 := hide (HR6.out.takeS k7 (by decide) (by decide) (by decide) ⟨p7, hs7, hl7⟩)
    clear hs7 hl7 k7
    go_wp2
    go_ret
    exact ⟨by simp; omega, by rw [HP.out] at HR7 ⊢; exact HR7.out.below⟩
  · have he : bitsErr (m : Int) l.length = 0 := bitsErr_ok (by omega) (by omega)
    have hr : bitsRest l (m : Int) = l.drop m := by unfold bitsRest; rw [he, if_pos rfl]; rfl
    rw [he, hr] at CB
    have HCB := hide CB
    clear CB he hr
    refine HCB.out.mono ?_
    rintro e w7 ⟨rfl, ⟨p7, hs7, hl7⟩, k7⟩
    have HR7 := hide (HR6.out.takeS k7 (by decide) (by decide) (by decide) ⟨p7, hs7, hl7⟩)
    clear hs7 hl7 k7
    have hfree := HR7.out.ref.free
    have hkeep := HR7.out.ref
    have HREF := hide hkeep
    have htw := tkEv_wide (l.drop m) (by rw [List.length_drop]; have := HLen.out; have := HBig.out; omega)
    obtain ⟨l', hl'⟩ : ∃ l', l' = l.drop m := ⟨_, rfl⟩
    have HL' := hide hl'
    rw [← hl'] at HR7 htw
    have CT := fun (w' : World) (h : SrcL w' P q1 b l') (hB : P ≤ w'.heap.size) => eTake_any P q1 b l' w' h hB
    have CR := fun (w' : World) (h : RefIs w' P q2 l') (hB : P ≤ w'.heap.size) => r4Take_any P q2 l' w' h hB
    obtain ⟨tv, htv⟩ : ∃ tv, tv = tkEv l' := ⟨_, rfl⟩
    obtain ⟨te, hte⟩ : ∃ te, te = tkErr l' := ⟨_, rfl⟩
    obtain ⟨tr, htr⟩ : ∃ tr, tr = tkRest l' := ⟨_, rfl⟩
    rw [← htv, ← hte, ← htr] at CT CR
    rw [← htv] at htw
    obtain ⟨ts, tq, tt, tty, tats⟩ := tv
    unfold evV at CT CR
    simp only at CT CR htw
    have HCT := hide CT; have HCR := hide CR; have HTW := hide htw
    have hsl : ∀ v, ((∃ cap bb o, w7.cell? ⟨q2, 0, none⟩ = some (.slice (some ⟨bb, o, none⟩) l.length cap) ∧ ((cap = m ∧ v = .slice (some ⟨bb, o, none⟩) (l.length - m) (cap - m)) ∨ v = .slice (some ⟨bb, o + m, none⟩) (l.length - m) (cap - m))) ∨ (l = [] ∧ m = 0 ∧ v = .slice none 0 0)) → m ≤ l.length → Rw4 w P X Y q1 q2 #[.int .i64 ps, .int .i64 pq, .int .i64 pt, .string pty, .slice ao1 pats.length cap1] #[.int .i64 ps, .int .i64 pq, .int .i64 pt, .string pty, .slice ao2 pats.length cap2] b l' l' (w7.setCell ⟨q2, 0, none⟩ v) := fun v hv hml => by
      refine HR7.out.takeR (HREF.out.keeps v) ?_
      rw [HL'.out]
      rcases hv with ⟨cap, bb, o, h0, hv⟩ | ⟨rfl, rfl, rfl⟩
      · exact HREF.out.moved m hml h0 v hv
      · obtain ⟨ao', cap', hq, hc', hn', hr'⟩ := HREF.out.row
        refine ⟨HREF.out.from_, by simp, none, 0, ?_, by simp, fun _ => rfl, fun a ha => by cases ha⟩
        rw [one_setCell hq]; rfl
    have HSL := hide hsl
    have nXY : ¬ X = Y := HR7.out.ne
    have nYX : ¬ Y = X := fun e => HR7.out.ne e.symm
    clear hsl CT CR htv hte htr htw hl'
    have HM := hide (show m ≤ l.length by have := HLen.out; omega)
    rcases hkeep.open with ⟨hl0, ao, cap, h0, hn0, hsp⟩ | ⟨bb, o, cap, h0, hcap, hpos, hc⟩
    · obtain rfl : m = 0 := by have := HM.out; rw [hl0] at this; simpa using this
      have HLZ := hide hl0
      have H0 := hide h0
      cases ao with
      | none =>
        obtain rfl := hn0 rfl
        clear hn0 hsp hl0 hlen hkeep hgt
        have HR8 := hide (HSL.out (.slice none 0 0) (.inr ⟨HLZ.out, rfl, rfl⟩) (Nat.zero_le _))
        go_wp2_with fail
        obtain ⟨W8, hW8⟩ : ∃ W8, W8 = w7.setCell ⟨q2, 0, none⟩ (.slice none 0 0) := ⟨_, rfl⟩
        rw [← hW8]
        rw [← hW8] at HR8
        clear hW8 h0 hfree
        refine (HCT.out W8 HR8.out.src HR8.out.size).mono ?_
        rintro e w9 ⟨v9, rfl, ho9, hs9, k9⟩
        obtain ⟨ao9, cap9, rfl⟩ := own_slice ho9
        have HR9 := hide (HR8.out.takeS k9 (by decide) (by decide) (by decide) hs9)
        obtain ⟨c0, c1, c2, c3, c4⟩ := cell_of_five HR9.out.bx
        have f0 := free_cells_of HR9.out.bx 0; have f1 := free_cells_of HR9.out.bx 1; have f2 := free_cells_of HR9.out.bx 2; have f3 := free_cells_of HR9.out.bx 3; have f4 := free_cells_of HR9.out.bx 4
        have HO9 := hide (own_five ho9 HR9.out.bx (by decide) (.int .i64 ts) (.int .i64 tq) (.int .i64 tt) (.string tty) (.slice ao9 tats.length cap9))
        have HR10 := hide (HR9.out.setX (.int .i64 ts) (.int .i64 tq) (.int .i64 tt) (.string tty) (.slice ao9 tats.length cap9))
        clear ho9 hs9 k9
        go_wp2_with fail
        clear c0 c1 c2 c3 c4 f0 f1 f2 f3 f4
        refine (HCR.out _ HR10.out.ref HR10.out.size).mono ?_
        rintro e w11 ⟨v11, rfl, ho11, hr11, k11⟩
        obtain ⟨ao11, cap11, rfl⟩ := own_slice ho11
        have HR11 := hide (HR10.out.takeR k11 hr11)
        obtain ⟨d0, d1, d2, d3, d4⟩ := cell_of_five HR11.out.by_
        have f0 := free_cells_of HR11.out.by_ 0; have f1 := free_cells_of HR11.out.by_ 1; have f2 := free_cells_of HR11.out.by_ 2; have f3 := free_cells_of HR11.out.by_ 3; have f4 := free_cells_of HR11.out.by_ 4
        have HO11 := hide (own_five ho11 HR11.out.by_ (by decide) (.int .i64 ts) (.int .i64 tq) (.int .i64 tt) (.string tty) (.slice ao11 tats.length cap11))
        have HO91 := hide (own_five (k11.ownsRow HO9.out (by decide)) HR11.out.by_ (by decide) (.int .i64 ts) (.int .i64 tq) (.int .i64 tt) (.string tty) (.slice ao11 tats.length cap11))
        have HR12 := hide (HR11.out.setY (.int .i64 ts) (.int .i64 tq) (.int .i64 tt) (.string tty) (.slice ao11 tats.length cap11))
        obtain ⟨W12, hW12⟩ : ∃ W12, W12 = (((((w11.setCell ⟨Y, 0, none⟩ (.int .i64 ts)).setCell ⟨Y, 1, none⟩ (.int .i64 tq)).setCell ⟨Y, 2, none⟩ (.int .i64 tt)).setCell ⟨Y, 3, none⟩ (.string tty)).setCell ⟨Y, 4, none⟩ (.slice ao11 tats.length cap11)) := ⟨_, rfl⟩
        rw [← hW12] at HO11 HO91 HR12
        have hav1 := Av.of_own HO91.out HTW.out.1 HTW.out.2
        have hav2 := Av.of_own HO11.out HTW.out.1 HTW.out.2
        have CS := fun (w' : World) (hb : Below W12.heap.size W12 w') => r4Same_any ⟨ts, tq, tt, tty, tats⟩ ⟨ts, tq, tt, tty, tats⟩ _ _ ao9 tats.length cap9 ao11 tats.length cap11 w' (hav1.below hb (Nat.le_refl _)) (hav2.below hb (Nat.le_refl _)) hb.size hb.size
        rw [sameE_refl] at CS
        unfold evV at CS
        obtain ⟨pp, hsp12, hlp12⟩ := HR12.out.src
        have CL := fun (w' : World) (hb : Below W12.heap.size W12 w') => sLeft_any P q1 b pp w' (hsp12.below hb (Nat.le_refl _))
        have hll : 8 * b.length - pp = tr.length := by rw [← hlp12, leftL_length]
        rw [hll] at CL
        obtain ⟨ar, cr, hqr, hrc, _⟩ := HR12.out.ref.row
        have HCS := hide CS; have HCL := hide CL
        obtain ⟨K, hK⟩ : ∃ K, K = tr.length := ⟨_, rfl⟩
        rw [← hK] at HCL hqr hrc
        have hrl := HR12.out.ref.len
        rw [← hK] at hrl
        have HF := hide (show ∀ (w' : World), Below W12.heap.size W12 w' → (w'.cell? ⟨X, 0, none⟩ = some (.int .i64 ts) ∧ w'.cell? ⟨X, 1, none⟩ = some (.int .i64 tq) ∧ w'.cell? ⟨X, 2, none⟩ = some (.int .i64 tt) ∧ w'.cell? ⟨X, 3, none⟩ = some (.string tty) ∧ w'.cell? ⟨X, 4, none⟩ = some (.slice ao9 tats.length cap9)) ∧ (w'.cell? ⟨Y, 0, none⟩ = some (.int .i64 ts) ∧ w'.cell? ⟨Y, 1, none⟩ = some (.int .i64 tq) ∧ w'.cell? ⟨Y, 2, none⟩ = some (.int .i64 tt) ∧ w'.cell? ⟨Y, 3, none⟩ = some (.string tty) ∧ w'.cell? ⟨Y, 4, none⟩ = some (.slice ao11 tats.length cap11)) ∧ w'.cell? ⟨q2, 0, none⟩ = some (.slice ar K cr) from fun w' hb =>
          ⟨cell_of_five ((hb.block X (lt_of_block HR12.out.bx)).trans HR12.out.bx), cell_of_five ((hb.block Y (lt_of_block HR12.out.by_)).trans HR12.out.by_), cell_of_one ((hb.block q2 (lt_of_block hqr)).trans hqr)⟩)
        have HBX := hide (Below.refl W12.heap.size W12)
        have HW12 := hide hW12
        have hte2 : (te == te) = true := by simp
        clear ho11 hr11 k11 hav1 hav2 CS CL hsp12 hlp12 hll hqr hrc hK hW12
        go_wp2_with fail
        clear d0 d1 d2 d3 d4 f0 f1 f2 f3 f4
        rw [← HW12.out]
        obtain ⟨⟨c0, c1, c2, c3, c4⟩, ⟨d0, d1, d2, d3, d4⟩, g0⟩ := HF.out _ HBX.out
        go_region_held3 (fun w' => w'.cell? ⟨X, 0, none⟩ = some (.int .i64 ts) ∧ w'.cell? ⟨X, 1, none⟩ = some (.int .i64 tq) ∧ w'.cell? ⟨X, 2, none⟩ = some (.int .i64 tt) ∧ w'.cell? ⟨X, 3, none⟩ = some (.string tty) ∧ w'.cell? ⟨X, 4, none⟩ = some (.slice ao9 tats.length cap9) ∧ w'.cell? ⟨Y, 0, none⟩ = some (.int .i64 ts) ∧ w'.cell? ⟨Y, 1, none⟩ = some (.int .i64 tq) ∧ w'.cell? ⟨Y, 2, none⟩ = some (.int .i64 tt) ∧ w'.cell? ⟨Y, 3, none⟩ = some (.string tty) ∧ w'.cell? ⟨Y, 4, none⟩ = some (.slice ao11 tats.length cap11) ∧ w'.cell? ⟨q2, 0, none⟩ = some (.slice ar K cr))
          (first | exact ⟨c0, c1, c2, c3, c4, d0, d1, d2, d3, d4, g0⟩ | go_keep)
          (first
            | (go_at_call 15; (with_reducible refine (HCS.out _ (by first | exact HBX.out | exact HBX.out.drew)).mono ?_); rintro e w1 ⟨rfl, hb⟩; have HBX := hide ((show Below W12.heap.size W12 _ by first | exact HBX.out | exact HBX.out.drew).trans (hb.mono (by first | exact HBX.out.size | exact HBX.out.drew.size))); clear hb c0 c1 c2 c3 c4 d0 d1 d2 d3 d4 g0; obtain ⟨⟨c0, c1, c2, c3, c4⟩, ⟨d0, d1, d2, d3, d4⟩, g0⟩ := HF.out _ HBX.out)
            | (go_at_call 37; (with_reducible refine (HCL.out _ (by first | exact HBX.out | exact HBX.out.drew)).mono ?_); rintro e w1 ⟨rfl, nn, hw1⟩; have HBX := hide (show Below W12.heap.size W12 w1 by rw [hw1]; exact Below.drewN' HBX.out nn); clear hw1 c0 c1 c2 c3 c4 d0 d1 d2 d3 d4 g0; obtain ⟨⟨c0, c1, c2, c3, c4⟩, ⟨d0, d1, d2, d3, d4⟩, g0⟩ := HF.out _ HBX.out))
        all_goals go_wp2
        all_goals go_ret
        all_goals exact ⟨rfl, by have := HR12.out.below.trans (HBX.out.mono HR12.out.size); exact this⟩
      | some a =>
        obtain ⟨b8, o8, sp⟩ := a
        obtain rfl : sp = none := hsp _ rfl
        clear hn0 hsp hlen hkeep hgt
        by_cases hc0 : cap = 0
        · subst hc0
          have HR8 := hide (HSL.out (.slice (some ⟨b8, o8, none⟩) 0 0) (.inl ⟨0, b8, o8, by rw [hl0]; exact H0.out, .inl ⟨rfl, by rw [hl0]; rfl⟩⟩) (Nat.zero_le _))
          clear hl0
          go_wp2_with fail
          obtain ⟨W8, hW8⟩ : ∃ W8, W8 = w7.setCell ⟨q2, 0, none⟩ (.slice (some ⟨b8, o8, none⟩) 0 0) := ⟨_, rfl⟩
          rw [← hW8]
          rw [← hW8] at HR8
          clear hW8 h0 hfree
          refine (HCT.out W8 HR8.out.src HR8.out.size).mono ?_
          rintro e w9 ⟨v9, rfl, ho9, hs9, k9⟩
          obtain ⟨ao9, cap9, rfl⟩ := own_slice ho9
          have HR9 := hide (HR8.out.takeS k9 (by decide) (by decide) (by decide) hs9)
          obtain ⟨c0, c1, c2, c3, c4⟩ := cell_of_five HR9.out.bx
          have f0 := free_cells_of HR9.out.bx 0; have f1 := free_cells_of HR9.out.bx 1; have f2 := free_cells_of HR9.out.bx 2; have f3 := free_cells_of HR9.out.bx 3; have f4 := free_cells_of HR9.out.bx 4
          have HO9 := hide (own_five ho9 HR9.out.bx (by decide) (.int .i64 ts) (.int .i64 tq) (.int .i64 tt) (.string tty) (.slice ao9 tats.length cap9))
          have HR10 := hide (HR9.out.setX (.int .i64 ts) (.int .i64 tq) (.int .i64 tt) (.string tty) (.slice ao9 tats.length cap9))
          clear ho9 hs9 k9
          go_wp2_with fail
          clear c0 c1 c2 c3 c4 f0 f1 f2 f3 f4
          refine (HCR.out _ HR10.out.ref HR10.out.size).mono ?_
          rintro e w11 ⟨v11, rfl, ho11, hr11, k11⟩
          obtain ⟨ao11, cap11, rfl⟩ := own_slice ho11
          have HR11 := hide (HR10.out.takeR k11 hr11)
          obtain ⟨d0, d1, d2, d3, d4⟩ := cell_of_five HR11.out.by_
          have f0 := free_cells_of HR11.out.by_ 0; have f1 := free_cells_of HR11.out.by_ 1; have f2 := free_cells_of HR11.out.by_ 2; have f3 := free_cells_of HR11.out.by_ 3; have f4 := free_cells_of HR11.out.by_ 4
          have HO11 := hide (own_five ho11 HR11.out.by_ (by decide) (.int .i64 ts) (.int .i64 tq) (.int .i64 tt) (.string tty) (.slice ao11 tats.length cap11))
          have HO91 := hide (own_five (k11.ownsRow HO9.out (by decide)) HR11.out.by_ (by decide) (.int .i64 ts) (.int .i64 tq) (.int .i64 tt) (.string tty) (.slice ao11 tats.length cap11))
          have HR12 := hide (HR11.out.setY (.int .i64 ts) (.int .i64 tq) (.int .i64 tt) (.string tty) (.slice ao11 tats.length cap11))
          obtain ⟨W12, hW12⟩ : ∃ W12, W12 = (((((w11.setCell ⟨Y, 0, none⟩ (.int .i64 ts)).setCell ⟨Y, 1, none⟩ (.int .i64 tq)).setCell ⟨Y, 2, none⟩ (.int .i64 tt)).setCell ⟨Y, 3, none⟩ (.string tty)).setCell ⟨Y, 4, none⟩ (.slice ao11 tats.length cap11)) := ⟨_, rfl⟩
          rw [← hW12] at HO11 HO91 HR12
          have hav1 := Av.of_own HO91.out HTW.out.1 HTW.out.2
          have hav2 := Av.of_own HO11.out HTW.out.1 HTW.out.2
          have CS := fun (w' : World) (hb : Below W12.heap.size W12 w') => r4Same_any ⟨ts, tq, tt, tty, tats⟩ ⟨ts, tq, tt, tty, tats⟩ _ _ ao9 tats.length cap9 ao11 tats.length cap11 w' (hav1.below hb (Nat.le_refl _)) (hav2.below hb (Nat.le_refl _)) hb.size hb.size
          rw [sameE_refl] at CS
          unfold evV at CS
          obtain ⟨pp, hsp12, hlp12⟩ := HR12.out.src
          have CL := fun (w' : World) (hb : Below W12.heap.size W12 w') => sLeft_any P q1 b pp w' (hsp12.below hb (Nat.le_refl _))
          have hll : 8 * b.length - pp = tr.length := by rw [← hlp12, leftL_length]
          rw [hll] at CL
          obtain ⟨ar, cr, hqr, hrc, _⟩ := HR12.out.ref.row
          have HCS := hide CS; have HCL := hide CL
          obtain ⟨K, hK⟩ : ∃ K, K = tr.length := ⟨_, rfl⟩
          rw [← hK] at HCL hqr hrc
          have hrl := HR12.out.ref.len
          rw [← hK] at hrl
          have HF := hide (show ∀ (w' : World), Below W12.heap.size W12 w' → (w'.cell? ⟨X, 0, none⟩ = some (.int .i64 ts) ∧ w'.cell? ⟨X, 1, none⟩ = some (.int .i64 tq) ∧ w'.cell? ⟨X, 2, none⟩ = some (.int .i64 tt) ∧ w'.cell? ⟨X, 3, none⟩ = some (.string tty) ∧ w'.cell? ⟨X, 4, none⟩ = some (.slice ao9 tats.length cap9)) ∧ (w'.cell? ⟨Y, 0, none⟩ = some (.int .i64 ts) ∧ w'.cell? ⟨Y, 1, none⟩ = some (.int .i64 tq) ∧ w'.cell? ⟨Y, 2, none⟩ = some (.int .i64 tt) ∧ w'.cell? ⟨Y, 3, none⟩ = some (.string tty) ∧ w'.cell? ⟨Y, 4, none⟩ = some (.slice ao11 tats.length cap11)) ∧ w'.cell? ⟨q2, 0, none⟩ = some (.slice ar K cr) from fun w' hb =>
            ⟨cell_of_five ((hb.block X (lt_of_block HR12.out.bx)).trans HR12.out.bx), cell_of_five ((hb.block Y (lt_of_block HR12.out.by_)).trans HR12.out.by_), cell_of_one ((hb.block q2 (lt_of_block hqr)).trans hqr)⟩)
          have HBX := hide (Below.refl W12.heap.size W12)
          have HW12 := hide hW12
          have hte2 : (te == te) = true := by simp
          clear ho11 hr11 k11 hav1 hav2 CS CL hsp12 hlp12 hll hqr hrc hK hW12
          go_wp2_with fail
          clear d0 d1 d2 d3 d4 f0 f1 f2 f3 f4
          rw [← HW12.out]
          obtain ⟨⟨c0, c1, c2, c3, c4⟩, ⟨d0, d1, d2, d3, d4⟩, g0⟩ := HF.out _ HBX.out
          go_region_held3 (fun w' => w'.cell? ⟨X, 0, none⟩ = some (.int .i64 ts) ∧ w'.cell? ⟨X, 1, none⟩ = some (.int .i64 tq) ∧ w'.cell? ⟨X, 2, none⟩ = some (.int .i64 tt) ∧ w'.cell? ⟨X, 3, none⟩ = some (.string tty) ∧ w'.cell? ⟨X, 4, none⟩ = some (.slice ao9 tats.length cap9) ∧ w'.cell? ⟨Y, 0, none⟩ = some (.int .i64 ts) ∧ w'.cell? ⟨Y, 1, none⟩ = some (.int .i64 tq) ∧ w'.cell? ⟨Y, 2, none⟩ = some (.int .i64 tt) ∧ w'.cell? ⟨Y, 3, none⟩ = some (.string tty) ∧ w'.cell? ⟨Y, 4, none⟩ = some (.slice ao11 tats.length cap11) ∧ w'.cell? ⟨q2, 0, none⟩ = some (.slice ar K cr))
            (first | exact ⟨c0, c1, c2, c3, c4, d0, d1, d2, d3, d4, g0⟩ | go_keep)
            (first
              | (go_at_call 15; (with_reducible refine (HCS.out _ (by first | exact HBX.out | exact HBX.out.drew)).mono ?_); rintro e w1 ⟨rfl, hb⟩; have HBX := hide ((show Below W12.heap.size W12 _ by first | exact HBX.out | exact HBX.out.drew).trans (hb.mono (by first | exact HBX.out.size | exact HBX.out.drew.size))); clear hb c0 c1 c2 c3 c4 d0 d1 d2 d3 d4 g0; obtain ⟨⟨c0, c1, c2, c3, c4⟩, ⟨d0, d1, d2, d3, d4⟩, g0⟩ := HF.out _ HBX.out)
              | (go_at_call 37; (with_reducible refine (HCL.out _ (by first | exact HBX.out | exact HBX.out.drew)).mono ?_); rintro e w1 ⟨rfl, nn, hw1⟩; have HBX := hide (show Below W12.heap.size W12 w1 by rw [hw1]; exact Below.drewN' HBX.out nn); clear hw1 c0 c1 c2 c3 c4 d0 d1 d2 d3 d4 g0; obtain ⟨⟨c0, c1, c2, c3, c4⟩, ⟨d0, d1, d2, d3, d4⟩, g0⟩ := HF.out _ HBX.out))
          all_goals go_wp2
          all_goals go_ret
          all_goals exact ⟨rfl, by have := HR12.out.below.trans (HBX.out.mono HR12.out.size); exact this⟩
        · have hc1 : 0 < cap := by omega
          have HR8 := hide (HSL.out (.slice (some ⟨b8, o8, none⟩) 0 cap) (.inl ⟨cap, b8, o8, by rw [hl0]; exact H0.out, .inr (by rw [hl0]; rfl)⟩) (Nat.zero_le _))
          clear hl0 hc0
          go_wp2_with fail
          obtain ⟨W8, hW8⟩ : ∃ W8, W8 = w7.setCell ⟨q2, 0, none⟩ (.slice (some ⟨b8, o8, none⟩) 0 cap) := ⟨_, rfl⟩
          rw [← hW8]
          rw [← hW8] at HR8
          clear hW8 h0 hfree
          refine (HCT.out W8 HR8.out.src HR8.out.size).mono ?_
          rintro e w9 ⟨v9, rfl, ho9, hs9, k9⟩
          obtain ⟨ao9, cap9, rfl⟩ := own_slice ho9
          have HR9 := hide (HR8.out.takeS k9 (by decide) (by decide) (by decide) hs9)
          obtain ⟨c0, c1, c2, c3, c4⟩ := cell_of_five HR9.out.bx
          have f0 := free_cells_of HR9.out.bx 0; have f1 := free_cells_of HR9.out.bx 1; have f2 := free_cells_of HR9.out.bx 2; have f3 := free_cells_of HR9.out.bx 3; have f4 := free_cells_of HR9.out.bx 4
          have HO9 := hide (own_five ho9 HR9.out.bx (by decide) (.int .i64 ts) (.int .i64 tq) (.int .i64 tt) (.string tty) (.slice ao9 tats.length cap9))
          have HR10 := hide (HR9.out.setX (.int .i64 ts) (.int .i64 tq) (.int .i64 tt) (.string tty) (.slice ao9 tats.length cap9))
          clear ho9 hs9 k9
          go_wp2_with fail
          clear c0 c1 c2 c3 c4 f0 f1 f2 f3 f4
          refine (HCR.out _ HR10.out.ref HR10.out.size).mono ?_
          rintro e w11 ⟨v11, rfl, ho11, hr11, k11⟩
          obtain ⟨ao11, cap11, rfl⟩ := own_slice ho11
          have HR11 := hide (HR10.out.takeR k11 hr11)
          obtain ⟨d0, d1, d2, d3, d4⟩ := cell_of_five HR11.out.by_
          have f0 := free_cells_of HR11.out.by_ 0; have f1 := free_cells_of HR11.out.by_ 1; have f2 := free_cells_of HR11.out.by_ 2; have f3 := free_cells_of HR11.out.by_ 3; have f4 := free_cells_of HR11.out.by_ 4
          have HO11 := hide (own_five ho11 HR11.out.by_ (by decide) (.int .i64 ts) (.int .i64 tq) (.int .i64 tt) (.string tty) (.slice ao11 tats.length cap11))
          have HO91 := hide (own_five (k11.ownsRow HO9.out (by decide)) HR11.out.by_ (by decide) (.int .i64 ts) (.int .i64 tq) (.int .i64 tt) (.string tty) (.slice ao11 tats.length cap11))
          have HR12 := hide (HR11.out.setY (.int .i64 ts) (.int .i64 tq) (.int .i64 tt) (.string tty) (.slice ao11 tats.length cap11))
          obtain ⟨W12, hW12⟩ : ∃ W12, W12 = (((((w11.setCell ⟨Y, 0, none⟩ (.int .i64 ts)).setCell ⟨Y, 1, none⟩ (.int .i64 tq)).setCell ⟨Y, 2, none⟩ (.int .i64 tt)).setCell ⟨Y, 3, none⟩ (.string tty)).setCell ⟨Y, 4, none⟩ (.slice ao11 tats.length cap11)) := ⟨_, rfl⟩
          rw [← hW12] at HO11 HO91 HR12
          have hav1 := Av.of_own HO91.out HTW.out.1 HTW.out.2
          have hav2 := Av.of_own HO11.out HTW.out.1 HTW.out.2
          have CS := fun (w' : World) (hb : Below W12.heap.size W12 w') => r4Same_any ⟨ts, tq, tt, tty, tats⟩ ⟨ts, tq, tt, tty, tats⟩ _ _ ao9 tats.length cap9 ao11 tats.length cap11 w' (hav1.below hb (Nat.le_refl _)) (hav2.below hb (Nat.le_refl _)) hb.size hb.size
          rw [sameE_refl] at CS
          unfold evV at CS
          obtain ⟨pp, hsp12, hlp12⟩ := HR12.out.src
          have CL := fun (w' : World) (hb : Below W12.heap.size W12 w') => sLeft_any P q1 b pp w' (hsp12.below hb (Nat.le_refl _))
          have hll : 8 * b.length - pp = tr.length := by rw [← hlp12, leftL_length]
          rw [hll] at CL
          obtain ⟨ar, cr, hqr, hrc, _⟩ := HR12.out.ref.row
          have HCS := hide CS; have HCL := hide CL
          obtain ⟨K, hK⟩ : ∃ K, K = tr.length := ⟨_, rfl⟩
          rw [← hK] at HCL hqr hrc
          have hrl := HR12.out.ref.len
          rw [← hK] at hrl
          have HF := hide (show ∀ (w' : World), Below W12.heap.size W12 w' → (w'.cell? ⟨X, 0, none⟩ = some (.int .i64 ts) ∧ w'.cell? ⟨X, 1, none⟩ = some (.int .i64 tq) ∧ w'.cell? ⟨X, 2, none⟩ = some (.int .i64 tt) ∧ w'.cell? ⟨X, 3, none⟩ = some (.string tty) ∧ w'.cell? ⟨X, 4, none⟩ = some (.slice ao9 tats.length cap9)) ∧ (w'.cell? ⟨Y, 0, none⟩ = some (.int .i64 ts) ∧ w'.cell? ⟨Y, 1, none⟩ = some (.int .i64 tq) ∧ w'.cell? ⟨Y, 2, none⟩ = some (.int .i64 tt) ∧ w'.cell? ⟨Y, 3, none⟩ = some (.string tty) ∧ w'.cell? ⟨Y, 4, none⟩ = some (.slice ao11 tats.length cap11)) ∧ w'.cell? ⟨q2, 0, none⟩ = some (.slice ar K cr) from fun w' hb =>
            ⟨cell_of_five ((hb.block X (lt_of_block HR12.out.bx)).trans HR12.out.bx), cell_of_five ((hb.block Y (lt_of_block HR12.out.by_)).trans HR12.out.by_), cell_of_one ((hb.block q2 (lt_of_block hqr)).trans hqr)⟩)
          have HBX := hide (Below.refl W12.heap.size W12)
          have HW12 := hide hW12
          have hte2 : (te == te) = true := by simp
          clear ho11 hr11 k11 hav1 hav2 CS CL hsp12 hlp12 hll hqr hrc hK hW12
          go_wp2_with fail
          clear d0 d1 d2 d3 d4 f0 f1 f2 f3 f4
          rw [← HW12.out]
          obtain ⟨⟨c0, c1, c2, c3, c4⟩, ⟨d0, d1, d2, d3, d4⟩, g0⟩ := HF.out _ HBX.out
          go_region_held3 (fun w' => w'.cell? ⟨X, 0, none⟩ = some (.int .i64 ts) ∧ w'.cell? ⟨X, 1, none⟩ = some (.int .i64 tq) ∧ w'.cell? ⟨X, 2, none⟩ = some (.int .i64 tt) ∧ w'.cell? ⟨X, 3, none⟩ = some (.string tty) ∧ w'.cell? ⟨X, 4, none⟩ = some (.slice ao9 tats.length cap9) ∧ w'.cell? ⟨Y, 0, none⟩ = some (.int .i64 ts) ∧ w'.cell? ⟨Y, 1, none⟩ = some (.int .i64 tq) ∧ w'.cell? ⟨Y, 2, none⟩ = some (.int .i64 tt) ∧ w'.cell? ⟨Y, 3, none⟩ = some (.string tty) ∧ w'.cell? ⟨Y, 4, none⟩ = some (.slice ao11 tats.length cap11) ∧ w'.cell? ⟨q2, 0, none⟩ = some (.slice ar K cr))
            (first | exact ⟨c0, c1, c2, c3, c4, d0, d1, d2, d3, d4, g0⟩ | go_keep)
            (first
              | (go_at_call 15; (with_reducible refine (HCS.out _ (by first | exact HBX.out | exact HBX.out.drew)).mono ?_); rintro e w1 ⟨rfl, hb⟩; have HBX := hide ((show Below W12.heap.size W12 _ by first | exact HBX.out | exact HBX.out.drew).trans (hb.mono (by first | exact HBX.out.size | exact HBX.out.drew.size))); clear hb c0 c1 c2 c3 c4 d0 d1 d2 d3 d4 g0; obtain ⟨⟨c0, c1, c2, c3, c4⟩, ⟨d0, d1, d2, d3, d4⟩, g0⟩ := HF.out _ HBX.out)
              | (go_at_call 37; (with_reducible refine (HCL.out _ (by first | exact HBX.out | exact HBX.out.drew)).mono ?_); rintro e w1 ⟨rfl, nn, hw1⟩; have HBX := hide (show Below W12.heap.size W12 w1 by rw [hw1]; exact Below.drewN' HBX.out nn); clear hw1 c0 c1 c2 c3 c4 d0 d1 d2 d3 d4 g0; obtain ⟨⟨c0, c1, c2, c3, c4⟩, ⟨d0, d1, d2, d3, d4⟩, g0⟩ := HF.out _ HBX.out))
          all_goals go_wp2
          all_goals go_ret
          all_goals exact ⟨rfl, by have := HR12.out.below.trans (HBX.out.mono HR12.out.size); exact this⟩
    · have H0 := hide h0
      obtain ⟨L, hL⟩ : ∃ L, L = l.length := ⟨_, rfl⟩
      have hmL : m ≤ L := by rw [hL]; exact HM.out
      rw [← hL] at h0 hcap
      have HLL := hide hL
      have hL2 : L ≤ 1125899906842624 := by omega
      clear hL hc hpos hlen hkeep hgt
      by_cases hck : cap = m
      · have HR8 := hide (HSL.out (.slice (some ⟨bb, o, none⟩) (L - m) 0) (.inl ⟨cap, bb, o, H0.out, .inl ⟨hck, by rw [HLL.out, hck, Nat.sub_self]⟩⟩) HM.out)
        go_wp2_with fail
        obtain ⟨W8, hW8⟩ : ∃ W8, W8 = w7.setCell ⟨q2, 0, none⟩ (.slice (some ⟨bb, o, none⟩) (L - m) 0) := ⟨_, rfl⟩
        rw [← hW8]
        rw [← hW8] at HR8
        clear hW8 h0 hfree
        refine (HCT.out W8 HR8.out.src HR8.out.size).mono ?_
        rintro e w9 ⟨v9, rfl, ho9, hs9, k9⟩
        obtain ⟨ao9, cap9, rfl⟩ := own_slice ho9
        have HR9 := hide (HR8.out.takeS k9 (by decide) (by decide) (by decide) hs9)
        obtain ⟨c0, c1, c2, c3, c4⟩ := cell_of_five HR9.out.bx
        have f0 := free_cells_of HR9.out.bx 0; have f1 := free_cells_of HR9.out.bx 1; have f2 := free_cells_of HR9.out.bx 2; have f3 := free_cells_of HR9.out.bx 3; have f4 := free_cells_of HR9.out.bx 4
        have HO9 := hide (own_five ho9 HR9.out.bx (by decide) (.int .i64 ts) (.int .i64 tq) (.int .i64 tt) (.string tty) (.slice ao9 tats.length cap9))
        have HR10 := hide (HR9.out.setX (.int .i64 ts) (.int .i64 tq) (.int .i64 tt) (.string tty) (.slice ao9 tats.length cap9))
        clear ho9 hs9 k9
        go_wp2_with fail
        clear c0 c1 c2 c3 c4 f0 f1 f2 f3 f4
        refine (HCR.out _ HR10.out.ref HR10.out.size).mono ?_
        rintro e w11 ⟨v11, rfl, ho11, hr11, k11⟩
        obtain ⟨ao11, cap11, rfl⟩ := own_slice ho11
        have HR11 := hide (HR10.out.takeR k11 hr11)
        obtain ⟨d0, d1, d2, d3, d4⟩ := cell_of_five HR11.out.by_
        have f0 := free_cells_of HR11.out.by_ 0; have f1 := free_cells_of HR11.out.by_ 1; have f2 := free_cells_of HR11.out.by_ 2; have f3 := free_cells_of HR11.out.by_ 3; have f4 := free_cells_of HR11.out.by_ 4
        have HO11 := hide (own_five ho11 HR11.out.by_ (by decide) (.int .i64 ts) (.int .i64 tq) (.int .i64 tt) (.string tty) (.slice ao11 tats.length cap11))
        have HO91 := hide (own_five (k11.ownsRow HO9.out (by decide)) HR11.out.by_ (by decide) (.int .i64 ts) (.int .i64 tq) (.int .i64 tt) (.string tty) (.slice ao11 tats.length cap11))
        have HR12 := hide (HR11.out.setY (.int .i64 ts) (.int .i64 tq) (.int .i64 tt) (.string tty) (.slice ao11 tats.length cap11))
        obtain ⟨W12, hW12⟩ : ∃ W12, W12 = (((((w11.setCell ⟨Y, 0, none⟩ (.int .i64 ts)).setCell ⟨Y, 1, none⟩ (.int .i64 tq)).setCell ⟨Y, 2, none⟩ (.int .i64 tt)).setCell ⟨Y, 3, none⟩ (.string tty)).setCell ⟨Y, 4, none⟩ (.slice ao11 tats.length cap11)) := ⟨_, rfl⟩
        rw [← hW12] at HO11 HO91 HR12
        have hav1 := Av.of_own HO91.out HTW.out.1 HTW.out.2
        have hav2 := Av.of_own HO11.out HTW.out.1 HTW.out.2
        have CS := fun (w' : World) (hb : Below W12.heap.size W12 w') => r4Same_any ⟨ts, tq, tt, tty, tats⟩ ⟨ts, tq, tt, tty, tats⟩ _ _ ao9 tats.length cap9 ao11 tats.length cap11 w' (hav1.below hb (Nat.le_refl _)) (hav2.below hb (Nat.le_refl _)) hb.size hb.size
        rw [sameE_refl] at CS
        unfold evV at CS
        obtain ⟨pp, hsp12, hlp12⟩ := HR12.out.src
        have CL := fun (w' : World) (hb : Below W12.heap.size W12 w') => sLeft_any P q1 b pp w' (hsp12.below hb (Nat.le_refl _))
        have hll : 8 * b.length - pp = tr.length := by rw [← hlp12, leftL_length]
        rw [hll] at CL
        obtain ⟨ar, cr, hqr, hrc, _⟩ := HR12.out.ref.row
        have HCS := hide CS; have HCL := hide CL
        obtain ⟨K, hK⟩ : ∃ K, K = tr.length := ⟨_, rfl⟩
        rw [← hK] at HCL hqr hrc
        have hrl := HR12.out.ref.len
        rw [← hK] at hrl
        have HF := hide (show ∀ (w' : World), Below W12.heap.size W12 w' → (w'.cell? ⟨X, 0, none⟩ = some (.int .i64 ts) ∧ w'.cell? ⟨X, 1, none⟩ = some (.int .i64 tq) ∧ w'.cell? ⟨X, 2, none⟩ = some (.int .i64 tt) ∧ w'.cell? ⟨X, 3, none⟩ = some (.string tty) ∧ w'.cell? ⟨X, 4, none⟩ = some (.slice ao9 tats.length cap9)) ∧ (w'.cell? ⟨Y, 0, none⟩ = some (.int .i64 ts) ∧ w'.cell? ⟨Y, 1, none⟩ = some (.int .i64 tq) ∧ w'.cell? ⟨Y, 2, none⟩ = some (.int .i64 tt) ∧ w'.cell? ⟨Y, 3, none⟩ = some (.string tty) ∧ w'.cell? ⟨Y, 4, none⟩ = some (.slice ao11 tats.length cap11)) ∧ w'.cell? ⟨q2, 0, none⟩ = some (.slice ar K cr) from fun w' hb =>
          ⟨cell_of_five ((hb.block X (lt_of_block HR12.out.bx)).trans HR12.out.bx), cell_of_five ((hb.block Y (lt_of_block HR12.out.by_)).trans HR12.out.by_), cell_of_one ((hb.block q2 (lt_of_block hqr)).trans hqr)⟩)
        have HBX := hide (Below.refl W12.heap.size W12)
        have HW12 := hide hW12
        have hte2 : (te == te) = true := by simp
        clear ho11 hr11 k11 hav1 hav2 CS CL hsp12 hlp12 hll hqr hrc hK hW12
        go_wp2_with fail
        clear d0 d1 d2 d3 d4 f0 f1 f2 f3 f4
        rw [← HW12.out]
        obtain ⟨⟨c0, c1, c2, c3, c4⟩, ⟨d0, d1, d2, d3, d4⟩, g0⟩ := HF.out _ HBX.out
        go_region_held3 (fun w' => w'.cell? ⟨X, 0, none⟩ = some (.int .i64 ts) ∧ w'.cell? ⟨X, 1, none⟩ = some (.int .i64 tq) ∧ w'.cell? ⟨X, 2, none⟩ = some (.int .i64 tt) ∧ w'.cell? ⟨X, 3, none⟩ = some (.string tty) ∧ w'.cell? ⟨X, 4, none⟩ = some (.slice ao9 tats.length cap9) ∧ w'.cell? ⟨Y, 0, none⟩ = some (.int .i64 ts) ∧ w'.cell? ⟨Y, 1, none⟩ = some (.int .i64 tq) ∧ w'.cell? ⟨Y, 2, none⟩ = some (.int .i64 tt) ∧ w'.cell? ⟨Y, 3, none⟩ = some (.string tty) ∧ w'.cell? ⟨Y, 4, none⟩ = some (.slice ao11 tats.length cap11) ∧ w'.cell? ⟨q2, 0, none⟩ = some (.slice ar K cr))
          (first | exact ⟨c0, c1, c2, c3, c4, d0, d1, d2, d3, d4, g0⟩ | go_keep)
          (first
            | (go_at_call 15; (with_reducible refine (HCS.out _ (by first | exact HBX.out | exact HBX.out.drew)).mono ?_); rintro e w1 ⟨rfl, hb⟩; have HBX := hide ((show Below W12.heap.size W12 _ by first | exact HBX.out | exact HBX.out.drew).trans (hb.mono (by first | exact HBX.out.size | exact HBX.out.drew.size))); clear hb c0 c1 c2 c3 c4 d0 d1 d2 d3 d4 g0; obtain ⟨⟨c0, c1, c2, c3, c4⟩, ⟨d0, d1, d2, d3, d4⟩, g0⟩ := HF.out _ HBX.out)
            | (go_at_call 37; (with_reducible refine (HCL.out _ (by first | exact HBX.out | exact HBX.out.drew)).mono ?_); rintro e w1 ⟨rfl, nn, hw1⟩; have HBX := hide (show Below W12.heap.size W12 w1 by rw [hw1]; exact Below.drewN' HBX.out nn); clear hw1 c0 c1 c2 c3 c4 d0 d1 d2 d3 d4 g0; obtain ⟨⟨c0, c1, c2, c3, c4⟩, ⟨d0, d1, d2, d3, d4⟩, g0⟩ := HF.out _ HBX.out))
        all_goals go_wp2
        all_goals go_ret
        all_goals exact ⟨rfl, by have := HR12.out.below.trans (HBX.out.mono HR12.out.size); exact this⟩
      · have hck2 : m < cap := by omega
        have HR8 := hide (HSL.out (.slice (some ⟨bb, o + m, none⟩) (L - m) (cap - m)) (.inl ⟨cap, bb, o, H0.out, .inr (by rw [HLL.out])⟩) HM.out)
        go_wp2_with fail
        obtain ⟨W8, hW8⟩ : ∃ W8, W8 = w7.setCell ⟨q2, 0, none⟩ (.slice (some ⟨bb, o + m, none⟩) (L - m) (cap - m)) := ⟨_, rfl⟩
        rw [← hW8]
        rw [← hW8] at HR8
        clear hW8 h0 hfree
        refine (HCT.out W8 HR8.out.src HR8.out.size).mono ?_
        rintro e w9 ⟨v9, rfl, ho9, hs9, k9⟩
        obtain ⟨ao9, cap9, rfl⟩ := own_slice ho9
        have HR9 := hide (HR8.out.takeS k9 (by decide) (by decide) (by decide) hs9)
        obtain ⟨c0, c1, c2, c3, c4⟩ := cell_of_five HR9.out.bx
        have f0 := free_cells_of HR9.out.bx 0; have f1 := free_cells_of HR9.out.bx 1; have f2 := free_cells_of HR9.out.bx 2; have f3 := free_cells_of HR9.out.bx 3; have f4 := free_cells_of HR9.out.bx 4
        have HO9 := hide (own_five ho9 HR9.out.bx (by decide) (.int .i64 ts) (.int .i64 tq) (.int .i64 tt) (.string tty) (.slice ao9 tats.length cap9))
        have HR10 := hide (HR9.out.setX (.int .i64 ts) (.int .i64 tq) (.int .i64 tt) (.string tty) (.slice ao9 tats.length cap9))
        clear ho9 hs9 k9
        go_wp2_with fail
        clear c0 c1 c2 c3 c4 f0 f1 f2 f3 f4
        refine (HCR.out _ HR10.out.ref HR10.out.size).mono ?_
        rintro e w11 ⟨v11, rfl, ho11, hr11, k11⟩
        obtain ⟨ao11, cap11, rfl⟩ := own_slice ho11
        have HR11 := hide (HR10.out.takeR k11 hr11)
        obtain ⟨d0, d1, d2, d3, d4⟩ := cell_of_five HR11.out.by_
        have f0 := free_cells_of HR11.out.by_ 0; have f1 := free_cells_of HR11.out.by_ 1; have f2 := free_cells_of HR11.out.by_ 2; have f3 := free_cells_of HR11.out.by_ 3; have f4 := free_cells_of HR11.out.by_ 4
        have HO11 := hide (own_five ho11 HR11.out.by_ (by decide) (.int .i64 ts) (.int .i64 tq) (.int .i64 tt) (.string tty) (.slice ao11 tats.length cap11))
        have HO91 := hide (own_five (k11.ownsRow HO9.out (by decide)) HR11.out.by_ (by decide) (.int .i64 ts) (.int .i64 tq) (.int .i64 tt) (.string tty) (.slice ao11 tats.length cap11))
        have HR12 := hide (HR11.out.setY (.int .i64 ts) (.int .i64 tq) (.int .i64 tt) (.string tty) (.slice ao11 tats.length cap11))
        obtain ⟨W12, hW12⟩ : ∃ W12, W12 = (((((w11.setCell ⟨Y, 0, none⟩ (.int .i64 ts)).setCell ⟨Y, 1, none⟩ (.int .i64 tq)).setCell ⟨Y, 2, none⟩ (.int .i64 tt)).setCell ⟨Y, 3, none⟩ (.string tty)).setCell ⟨Y, 4, none⟩ (.slice ao11 tats.length cap11)) := ⟨_, rfl⟩
        rw [← hW12] at HO11 HO91 HR12
        have hav1 := Av.of_own HO91.out HTW.out.1 HTW.out.2
        have hav2 := Av.of_own HO11.out HTW.out.1 HTW.out.2
        have CS := fun (w' : World) (hb : Below W12.heap.size W12 w') => r4Same_any ⟨ts, tq, tt, tty, tats⟩ ⟨ts, tq, tt, tty, tats⟩ _ _ ao9 tats.length cap9 ao11 tats.length cap11 w' (hav1.below hb (Nat.le_refl _)) (hav2.below hb (Nat.le_refl _)) hb.size hb.size
        rw [sameE_refl] at CS
        unfold evV at CS
        obtain ⟨pp, hsp12, hlp12⟩ := HR12.out.src
        have CL := fun (w' : World) (hb : Below W12.heap.size W12 w') => sLeft_any P q1 b pp w' (hsp12.below hb (Nat.le_refl _))
        have hll : 8 * b.length - pp = tr.length := by rw [← hlp12, leftL_length]
        rw [hll] at CL
        obtain ⟨ar, cr, hqr, hrc, _⟩ := HR12.out.ref.row
        have HCS := hide CS; have HCL := hide CL
        obtain ⟨K, hK⟩ : ∃ K, K = tr.length := ⟨_, rfl⟩
        rw [← hK] at HCL hqr hrc
        have hrl := HR12.out.ref.len
        rw [← hK] at hrl
        have HF := hide (show ∀ (w' : World), Below W12.heap.size W12 w' → (w'.cell? ⟨X, 0, none⟩ = some (.int .i64 ts) ∧ w'.cell? ⟨X, 1, none⟩ = some (.int .i64 tq) ∧ w'.cell? ⟨X, 2, none⟩ = some (.int .i64 tt) ∧ w'.cell? ⟨X, 3, none⟩ = some (.string tty) ∧ w'.cell? ⟨X, 4, none⟩ = some (.slice ao9 tats.length cap9)) ∧ (w'.cell? ⟨Y, 0, none⟩ = some (.int .i64 ts) ∧ w'.cell? ⟨Y, 1, none⟩ = some (.int .i64 tq) ∧ w'.cell? ⟨Y, 2, none⟩ = some (.int .i64 tt) ∧ w'.cell? ⟨Y, 3, none⟩ = some (.string tty) ∧ w'.cell? ⟨Y, 4, none⟩ = some (.slice ao11 tats.length cap11)) ∧ w'.cell? ⟨q2, 0, none⟩ = some (.slice ar K cr) from fun w' hb =>
          ⟨cell_of_five ((hb.block X (lt_of_block HR12.out.bx)).trans HR12.out.bx), cell_of_five ((hb.block Y (lt_of_block HR12.out.by_)).trans HR12.out.by_), cell_of_one ((hb.block q2 (lt_of_block hqr)).trans hqr)⟩)
        have HBX := hide (Below.refl W12.heap.size W12)
        have HW12 := hide hW12
        have hte2 : (te == te) = true := by simp
        clear ho11 hr11 k11 hav1 hav2 CS CL hsp12 hlp12 hll hqr hrc hK hW12
        go_wp2_with fail
        clear d0 d1 d2 d3 d4 f0 f1 f2 f3 f4
        rw [← HW12.out]
        obtain ⟨⟨c0, c1, c2, c3, c4⟩, ⟨d0, d1, d2, d3, d4⟩, g0⟩ := HF.out _ HBX.out
        go_region_held3 (fun w' => w'.cell? ⟨X, 0, none⟩ = some (.int .i64 ts) ∧ w'.cell? ⟨X, 1, none⟩ = some (.int .i64 tq) ∧ w'.cell? ⟨X, 2, none⟩ = some (.int .i64 tt) ∧ w'.cell? ⟨X, 3, none⟩ = some (.string tty) ∧ w'.cell? ⟨X, 4, none⟩ = some (.slice ao9 tats.length cap9) ∧ w'.cell? ⟨Y, 0, none⟩ = some (.int .i64 ts) ∧ w'.cell? ⟨Y, 1, none⟩ = some (.int .i64 tq) ∧ w'.cell? ⟨Y, 2, none⟩ = some (.int .i64 tt) ∧ w'.cell? ⟨Y, 3, none⟩ = some (.string tty) ∧ w'.cell? ⟨Y, 4, none⟩ = some (.slice ao11 tats.length cap11) ∧ w'.cell? ⟨q2, 0, none⟩ = some (.slice ar K cr))
          (first | exact ⟨c0, c1, c2, c3, c4, d0, d1, d2, d3, d4, g0⟩ | go_keep)
          (first
            | (go_at_call 15; (with_reducible refine (HCS.out _ (by first | exact HBX.out | exact HBX.out.drew)).mono ?_); rintro e w1 ⟨rfl, hb⟩; have HBX := hide ((show Below W12.heap.size W12 _ by first | exact HBX.out | exact HBX.out.drew).trans (hb.mono (by first | exact HBX.out.size | exact HBX.out.drew.size))); clear hb c0 c1 c2 c3 c4 d0 d1 d2 d3 d4 g0; obtain ⟨⟨c0, c1, c2, c3, c4⟩, ⟨d0, d1, d2, d3, d4⟩, g0⟩ := HF.out _ HBX.out)
            | (go_at_call 37; (with_reducible refine (HCL.out _ (by first | exact HBX.out | exact HBX.out.drew)).mono ?_); rintro e w1 ⟨rfl, nn, hw1⟩; have HBX := hide (show Below W12.heap.size W12 w1 by rw [hw1]; exact Below.drewN' HBX.out nn); clear hw1 c0 c1 c2 c3 c4 d0 d1 d2 d3 d4 g0; obtain ⟨⟨c0, c1, c2, c3, c4⟩, ⟨d0, d1, d2, d3, d4⟩, g0⟩ := HF.out _ HBX.out))
        all_goals go_wp2
        all_goals go_ret
        all_goals exact ⟨rfl, by have := HR12.out.below.trans (HBX.out.mono HR12.out.size); exact this⟩
end Go.Proofs.Ytiljekpfkkocnaa
