/- Contract: Decode of the document. -/
import Derived.Test.YtebojmjbolphfaaRnew
import Derived.Test.YtebojmjbolphfaaRrd
import Derived.Test.YtebojmjbolphfaaSums
namespace Go.Proofs.Ytebojmjbolphfaa
open Go Go.RowKit

theorem rNew_any (ao : Option Addr) (cap : Nat) (bytes : List Nat) (w : World) (hbig : bytes.length ≤ 1048576) (hsm : ∀ c ∈ bytes, c < 256) (h : BytesAt w ao bytes) :
    Calls Try.prog 38 #[.slice ao bytes.length cap] w fun e w' => ∃ q, e = .returned (.pointer (some ⟨q, 0, none⟩)) ∧ RefIs w' w.heap.size q (bitsAll bytes) ∧ Below w.heap.size w w' := by
  rcases Nat.eq_zero_or_pos bytes.length with hl | hl
  · obtain rfl : bytes = [] := List.length_eq_zero_iff.1 hl
    exact rNew_nil ao cap w
  · cases ao with
    | none => have := h.1 rfl; omega
    | some a =>
      obtain ⟨b, o, s⟩ := a
      have h0 := h.2 _ rfl 0 hl
      obtain rfl : s = none := by simpa [Addr.add] using World.cell?_spot h0
      have hb : b < w.heap.size := World.block_lt_of_cell? _ _ h0
      refine rNew_some b o cap bytes w hbig hsm (by simpa [Addr.add] using hb) (fun j hj => ?_)
      have := h.2 _ rfl j hj
      rwa [Go.WideShapes.add_plain] at this
end Go.Proofs.Ytebojmjbolphfaa
namespace Go.Proofs.Ytebojmjbolphfaa
open Go Go.RowKit Crc

set_option maxRecDepth 100000 in
set_option maxHeartbeats 3200000 in
theorem r2Decode_short (B : Nat) (v : Value) (b : List Nat) (w : World) (hb : Bv w B v b) (h6 : b.length < 6) :
    Calls Try.prog 23 #[v] w (DecPost b w) := by
  obtain ⟨ao, cap1, rfl, _, _, _, _⟩ := hb.row
  have ho : openErr b = 10 := by unfold openErr; rw [if_pos h6]
  have HE := hide (show decErr b = 10 by rw [decErr_open (by rw [ho]; decide), ho])
  obtain ⟨n, hn⟩ : ∃ n, n = b.length := ⟨_, rfl⟩
  rw [← hn] at h6 ⊢
  clear hb hn ho
  go_enter Try.func23, Try.ntmps23
  go_wp2
  have hz := cell_of_six (heap_alloc_new w (.cells #[.int .i64 0, .int .i64 0, .int .i64 0, .int .i64 0, .int .i64 0, .slice none 0 0] 24))
  refine bodyPost_ret (v := .tuple #[.agg #[.int .i64 0, .int .i64 0, .int .i64 0, .int .i64 0, .int .i64 0, .slice none 0 0], .int .i64 10]) (by simp [results, Try.results23, go_sem, hz]) rfl ?_
  exact DecPost.bad HE.out (by decide) ((Below.refl _ _).alloc (Nat.le_refl _) _)

theorem tail_four (b : List Nat) (m : Nat) (h : b.length = m + 4) : tail4 b = [b.getD m 0, b.getD (m + 1) 0, b.getD (m + 2) 0, b.getD (m + 3) 0] := by
  apply List.ext_getElem
  · simp [tail4]; omega
  · intro i h1 h2
    simp only [tail4, List.getElem_drop]
    simp only [List.length_cons, List.length_nil] at h2
    have hb : b.length - 4 = m := by omega
    simp only [hb]
    match i, h2 with
    | 0, _ => simp [List.getD, show m < b.length by omega]
    | 1, _ => simp [List.getD, show m + 1 < b.length by omega]
    | 2, _ => simp [List.getD, show m + 2 < b.length by omega]
    | 3, _ => simp [List.getD, show m + 3 < b.length by omega]

set_option maxRecDepth 100000 in
set_option maxHeartbeats 3200000 in
theorem r2Decode_long (B : Nat) (v : Value) (b : List Nat) (w : World) (hb : Bv w B v b) (hB : B ≤ w.heap.size) (h6 : 6 ≤ b.length) (hbig : b.length ≤ 1048580) :
    Calls Try.prog 23 #[v] w (DecPost b w) := by
  obtain ⟨ao, cap, rfl, h2, h2', h2n, h3⟩ := hb.row
  obtain ⟨bk, o, rfl, hbk, hcell⟩ := h3 (by omega)
  obtain ⟨m, hm⟩ : ∃ m, b.length = m + 4 := ⟨b.length - 4, by omega⟩
  obtain ⟨tb, htb⟩ : ∃ tb, tb = told b := ⟨_, rfl⟩
  have htl : tb.length = m := by rw [htb, told_length]; omega
  have hta := tail_four b m hm
  have hg : ∀ i, i < 4 → b.getD (m + i) 0 < 256 := fun i hi => by
    rw [List.getD, List.getElem?_eq_getElem (by omega)]; exact hb.small _ (List.getElem_mem _)
  have g0 := hg 0 (by omega); have g1 := hg 1 (by omega); have g2 := hg 2 (by omega); have g3 := hg 3 (by omega)
  obtain ⟨P, hP⟩ : ∃ P, P = w.heap.size := ⟨_, rfl⟩
  obtain ⟨W, hW⟩ : ∃ W, W = w.alloc (.cells #[.int .i64 0, .int .i64 0, .int .i64 0, .int .i64 0, .int .i64 0, .slice none 0 0] 24) := ⟨_, rfl⟩
  have hbW : Below P w W := by rw [hW, hP]; exact (Below.refl _ _).alloc (Nat.le_refl _) _
  have hqW : W.heap[P]? = some (.cells #[.int .i64 0, .int .i64 0, .int .i64 0, .int .i64 0, .int .i64 0, .slice none 0 0] 24 (0, 0)) := by rw [hW, hP]; exact heap_alloc_new w _
  have hc : ∀ i, i < 4 → W.cell? ⟨bk, o + (m + i), none⟩ = some (.int .u8 ((b.getD (m + i) 0 : Nat) : Int)) := fun i hi =>
    (hbW.cell (p := ⟨bk, o + (m + i), none⟩) (by rw [hP]; show bk < _; omega)).trans (hcell (m + i) (by omega))
  have q0 := hc 0 (by omega); have q1 := hc 1 (by omega); have q2 := hc 2 (by omega); have q3 := hc 3 (by omega)
  have hVt : Bv W P (.slice (some ⟨bk, o, none⟩) m cap) tb := by
    rw [hm] at hb
    have h := (hb.upTo (k := m) (by omega)).mono hB
    rw [show b.take m = tb by rw [htb, told, hm]; rfl] at h
    exact h.below hbW (by rw [hP]; exact Nat.le_refl _) |>.mono (by rw [hP]; exact Nat.le_refl _)
  have CS := r2Sum_any P _ tb W hVt
  have CQ := rNew_any (some ⟨bk, o, none⟩) cap tb W (by omega) hVt.small hVt.bytesAt'
  rw [htl] at CQ
  have hPW : P < W.heap.size := lt_of_block hqW
  have hsl := sumN_lt tb
  have hE1 : tail4 b ≠ be32 (sumN tb) → decErr b = 20 := fun h => by
    have ho : openErr b = 20 := by
      unfold openErr
      rw [if_neg (by omega), if_pos]
      intro hh
      rw [← htb] at hh
      exact h ((be32_num (tail4 b) (tail4_length b (by omega)) (fun c hc => hb.small c (List.mem_of_mem_drop hc)) _ hsl).1 hh)
    rw [decErr_open (by rw [ho]; decide), ho]
  have hE2 : tail4 b = be32 (sumN tb) → openErr b = readErr (bitsAll tb) := fun h => by
    unfold openErr
    rw [if_neg (by omega), if_neg, ← htb]
    rw [← htb]
    exact not_not_intro ((be32_num (tail4 b) (tail4_length b (by omega)) (fun c hc => hb.small c (List.mem_of_mem_drop hc)) _ hsl).2 h)
  rw [hta] at hE1 hE2
  obtain ⟨a0, ha0⟩ : ∃ a0, a0 = b.getD m 0 := ⟨_, rfl⟩
  obtain ⟨a1, ha1⟩ : ∃ a1, a1 = b.getD (m + 1) 0 := ⟨_, rfl⟩
  obtain ⟨a2, ha2⟩ : ∃ a2, a2 = b.getD (m + 2) 0 := ⟨_, rfl⟩
  obtain ⟨a3, ha3⟩ : ∃ a3, a3 = b.getD (m + 3) 0 := ⟨_, rfl⟩
  simp only [Nat.add_zero] at q0 g0
  rw [← ha0] at q0 g0; rw [← ha1] at q1 g1; rw [← ha2] at q2 g2; rw [← ha3] at q3 g3
  rw [← ha0, ← ha1, ← ha2, ← ha3] at hE1 hE2
  obtain ⟨sm, hsm⟩ : ∃ sm, sm = sumN tb := ⟨_, rfl⟩
  rw [← hsm] at CS hE1 hE2 hsl
  have HW := hide hW; have HP := hide hP; have HBW := hide hbW; have HQ := hide hqW; have HTB := hide htb; have HPW := hide hPW
  have HE1 := hide hE1; have HE2 := hide hE2
  have hmc : m + 4 ≤ cap := by omega
  have hmb : m ≤ 1048576 := by omega
  have hm2 : 2 ≤ m := by omega
  rw [hm]
  clear hb h3 hcell hm h2n hW hP hbW hqW hVt hta htb hE1 hE2 htl hPW hsm ha0 ha1 ha2 ha3 hg hc h2 h6 hbig
  go_enter Try.func23, Try.ntmps23
  go_wp2_with fail
  rw [← HW.out, ← HP.out]
  refine CS.mono ?_
  clear CS
  rintro e w' ⟨rfl, rfl⟩
  have hcase : (¬ a0 = sm / 16777216) ∨ (a0 = sm / 16777216 ∧ ¬ a1 = sm / 65536 % 256) ∨ (a0 = sm / 16777216 ∧ a1 = sm / 65536 % 256 ∧ ¬ a2 = sm / 256 % 256) ∨ (a0 = sm / 16777216 ∧ a1 = sm / 65536 % 256 ∧ a2 = sm / 256 % 256 ∧ ¬ a3 = sm % 256) ∨ (a0 = sm / 16777216 ∧ a1 = sm / 65536 % 256 ∧ a2 = sm / 256 % 256 ∧ a3 = sm % 256) := by omega
  rcases hcase with hd | hd | hd | hd | hd
  · -- byte 0
    have HE := hide (HE1.out (by intro h; simp only [be32, List.cons.injEq, and_true] at h; omega))
    have e0 : ((a0 : Int) != (sm : Int) / 16777216) = true := by simp; omega
    clear HE1 HE2 hd
    obtain ⟨x0, x1, x2, x3, x4, x5⟩ := cell_of_six HQ.out
    obtain ⟨y0, y1, y2, y3, y4, y5⟩ := free_of_six HQ.out
    go_wp2
    have hz := cell_of_six (six_set HQ.out (.int .i64 0) (.int .i64 0) (.int .i64 0) (.int .i64 0) (.int .i64 0) (.slice none 0 0))
    refine bodyPost_ret (v := .tuple #[.agg #[.int .i64 0, .int .i64 0, .int .i64 0, .int .i64 0, .int .i64 0, .slice none 0 0], .int .i64 20]) (by simp [results, Try.results23, go_sem, hz]) rfl ?_
    exact DecPost.bad HE.out (by decide) (by rw [← HP.out]; exact below_six HBW.out (Nat.le_refl _) (.int .i64 0) (.int .i64 0) (.int .i64 0) (.int .i64 0) (.int .i64 0) (.slice none 0 0))
  · -- byte 1
    have HE := hide (HE1.out (by intro h; simp only [be32, List.cons.injEq, and_true] at h; omega))
    have e0 : ((a0 : Int) != (sm : Int) / 16777216) = false := by simp; omega
    have e1 : ((a1 : Int) != (sm : Int) / 65536 % 256) = true := by simp; omega
    clear HE1 HE2 hd
    obtain ⟨x0, x1, x2, x3, x4, x5⟩ := cell_of_six HQ.out
    obtain ⟨y0, y1, y2, y3, y4, y5⟩ := free_of_six HQ.out
    go_wp2
    have hz := cell_of_six (six_set HQ.out (.int .i64 0) (.int .i64 0) (.int .i64 0) (.int .i64 0) (.int .i64 0) (.slice none 0 0))
    refine bodyPost_ret (v := .tuple #[.agg #[.int .i64 0, .int .i64 0, .int .i64 0, .int .i64 0, .int .i64 0, .slice none 0 0], .int .i64 20]) (by simp [results, Try.results23, go_sem, hz]) rfl ?_
    exact DecPost.bad HE.out (by decide) (by rw [← HP.out]; exact below_six HBW.out (Nat.le_refl _) (.int .i64 0) (.int .i64 0) (.int .i64 0) (.int .i64 0) (.int .i64 0) (.slice none 0 0))
  · -- byte 2
    have HE := hide (HE1.out (by intro h; simp only [be32, List.cons.injEq, and_true] at h; omega))
    have e0 : ((a0 : Int) != (sm : Int) / 16777216) = false := by simp; omega
    have e1 : ((a1 : Int) != (sm : Int) / 65536 % 256) = false := by simp; omega
    have e2 : ((a2 : Int) != (sm : Int) / 256 % 256) = true := by simp; omega
    clear HE1 HE2 hd
    obtain ⟨x0, x1, x2, x3, x4, x5⟩ := cell_of_six HQ.out
    obtain ⟨y0, y1, y2, y3, y4, y5⟩ := free_of_six HQ.out
    go_wp2
    have hz := cell_of_six (six_set HQ.out (.int .i64 0) (.int .i64 0) (.int .i64 0) (.int .i64 0) (.int .i64 0) (.slice none 0 0))
    refine bodyPost_ret (v := .tuple #[.agg #[.int .i64 0, .int .i64 0, .int .i64 0, .int .i64 0, .int .i64 0, .slice none 0 0], .int .i64 20]) (by simp [results, Try.results23, go_sem, hz]) rfl ?_
    exact DecPost.bad HE.out (by decide) (by rw [← HP.out]; exact below_six HBW.out (Nat.le_refl _) (.int .i64 0) (.int .i64 0) (.int .i64 0) (.int .i64 0) (.int .i64 0) (.slice none 0 0))
  · -- byte 3
    have HE := hide (HE1.out (by intro h; simp only [be32, List.cons.injEq, and_true] at h; omega))
    have e0 : ((a0 : Int) != (sm : Int) / 16777216) = false := by simp; omega
    have e1 : ((a1 : Int) != (sm : Int) / 65536 % 256) = false := by simp; omega
    have e2 : ((a2 : Int) != (sm : Int) / 256 % 256) = false := by simp; omega
    have e3 : ((a3 : Int) != (sm : Int) % 256) = true := by simp; omega
    clear HE1 HE2 hd
    obtain ⟨x0, x1, x2, x3, x4, x5⟩ := cell_of_six HQ.out
    obtain ⟨y0, y1, y2, y3, y4, y5⟩ := free_of_six HQ.out
    go_wp2
    have hz := cell_of_six (six_set HQ.out (.int .i64 0) (.int .i64 0) (.int .i64 0) (.int .i64 0) (.int .i64 0) (.slice none 0 0))
    refine bodyPost_ret (v := .tuple #[.agg #[.int .i64 0, .int .i64 0, .int .i64 0, .int .i64 0, .int .i64 0, .slice none 0 0], .int .i64 20]) (by simp [results, Try.results23, go_sem, hz]) rfl ?_
    exact DecPost.bad HE.out (by decide) (by rw [← HP.out]; exact below_six HBW.out (Nat.le_refl _) (.int .i64 0) (.int .i64 0) (.int .i64 0) (.int .i64 0) (.int .i64 0) (.slice none 0 0))
  · -- the sum is right
    have HE := hide (HE2.out (by simp only [be32, List.cons.injEq, and_true]; omega))
    have e0 : ((a0 : Int) != (sm : Int) / 16777216) = false := by simp; omega
    have e1 : ((a1 : Int) != (sm : Int) / 65536 % 256) = false := by simp; omega
    have e2 : ((a2 : Int) != (sm : Int) / 256 % 256) = false := by simp; omega
    have e3 : ((a3 : Int) != (sm : Int) % 256) = false := by simp; omega
    clear HE1 HE2 hd
    go_wp2_with fail
    refine CQ.mono ?_
    clear CQ q0 q1 q2 q3 e0 e1 e2 e3
    rintro e w2 ⟨q, rfl, hs2, b2⟩
    have HB2 := hide (HBW.out.trans (b2.mono (Nat.le_of_lt HPW.out)))
    have HQ2 := hide ((b2.block P HPW.out).trans HQ.out)
    have CR := r2Read_any W.heap.size q (bitsAll tb) w2 hs2 b2.size
    have HS2 := hide b2.size
    clear hs2 b2
    go_wp2_with fail
    refine CR.mono ?_
    clear CR
    rintro e w4 ⟨f, t, k, s, a, v4, x, rfl, ho4, b4, hxl, hval⟩
    obtain ⟨ao, c, rfl⟩ := own_slice ho4
    obtain ⟨er, her⟩ : ∃ er, er = dgErr (bitsAll tb) := ⟨_, rfl⟩
    rw [← her] at hval ⊢
    have hq4 := (b4.block P HPW.out).trans HQ2.out
    have h4sz := Nat.le_trans HS2.out b4.size
    have HVal := hide hval; have HEr := hide her
    have HQ4 := hide (heap_alloc_keeps hq4 (.cells #[.int .i64 f, .int .i64 t, .int .i64 k, .int .i64 s, .int .i64 a, .slice ao x.length c] 24))
    have HN4 := hide (heap_alloc_new w4 (.cells #[.int .i64 f, .int .i64 t, .int .i64 k, .int .i64 s, .int .i64 a, .slice ao x.length c] 24))
    have HO4 := hide (ho4.alloc (.cells #[.int .i64 f, .int .i64 t, .int .i64 k, .int .i64 s, .int .i64 a, .slice ao x.length c] 24))
    have HB4 := hide (HB2.out.trans ((b4.alloc h4sz (.cells #[.int .i64 f, .int .i64 t, .int .i64 k, .int .i64 s, .int .i64 a, .slice ao x.length c] 24)).mono (Nat.le_of_lt HPW.out)))
    have Hlow := hide (show P ≤ w2.heap.size from Nat.le_trans (Nat.le_of_lt HPW.out) HS2.out)
    clear hval ho4 b4 hq4 h4sz her
    by_cases h0 : er = 0
    · subst h0
      have hdg : dgErr (bitsAll tb) = 0 := HEr.out.symm
      obtain ⟨hrf, e1, e2, e3, e4, e5, e6⟩ := HVal.out rfl
      have CE1 := rsEnd_any W.heap.size q (dgRest (bitsAll tb)) _ (hrf.below ((Below.refl _ _).alloc (Nat.le_refl _) (.cells #[.int .i64 f, .int .i64 t, .int .i64 k, .int .i64 s, .int .i64 a, .slice ao x.length c] 24)) (Nat.le_refl _))
      have hopen : openErr b = endErrL (dgRest (bitsAll tb)) := by rw [HE.out, readErr_eq, if_neg (by omega)]
      obtain ⟨en, hen⟩ : ∃ en, en = endErrL (dgRest (bitsAll tb)) := ⟨_, rfl⟩
      rw [← hen] at CE1 hopen
      obtain ⟨a1', a2', a3', a4', _, _, _, _⟩ := rEnd_ok (bitsAll tb) hdg
      have f1 : f = (((r3 (bitsAll (told b))).1 : Nat) : Int) := by rw [← HTB.out, a2', e1]
      have f2 : t = (((r4 (bitsAll (told b))).1 : Nat) : Int) := by rw [← HTB.out, a3', e2]
      have f3 : k = (((r1 (bitsAll (told b))).1 : Nat) : Int) := by rw [← HTB.out, a1', e3]
      have f4 : s = dS (bitsAll (told b)) := by rw [← HTB.out, dS_ok hdg, e4]
      have f5 : a = wrap64 (((r5 (bitsAll (told b))).1 : Nat) : Int) := by rw [← HTB.out, a4', e5]
      have f6 : x = dX (bitsAll (told b)) := by rw [← HTB.out, dX_ok hdg, e6]
      have HF := hide (show f = _ ∧ t = _ ∧ k = _ ∧ s = _ ∧ a = _ ∧ x = _ from ⟨f1, f2, f3, f4, f5, f6⟩)
      have HOpen := hide hopen
      clear hrf hdg e1 e2 e3 e4 e5 e6 hopen hen a1' a2' a3' a4' f1 f2 f3 f4 f5 f6
      go_wp2_with fail
      refine CE1.mono ?_
      clear CE1
      rintro e w' ⟨rfl, rfl⟩
      by_cases hen0 : en = 0
      · subst hen0
        have C := r2Check_any f t k s a ao x.length c (w4.alloc (.cells #[.int .i64 f, .int .i64 t, .int .i64 k, .int .i64 s, .int .i64 a, .slice ao x.length c] 24)) (by omega)
        obtain ⟨ck, hck⟩ : ∃ ck, ck = ckB f t k s a x.length := ⟨_, rfl⟩
        have hdec : decErr b = if ck then 0 else 21 := by
          obtain ⟨e1, e2, e3, e4, e5, e6⟩ := HF.out
          unfold decErr
          rw [if_neg (by have := HOpen.out; omega), hck, e1, e2, e3, e4, e5, e6]; rfl
        have hce : ckErr f t k s a x.length = if ck then 0 else 21 := by unfold ckErr; rw [← hck]
        rw [hce] at C
        have HDec := hide hdec
        obtain ⟨d0, d1, d2, d3, d4, d5⟩ := cell_of_six HN4.out
        clear hck hce hdec
        go_wp2_with fail
        refine C.mono ?_
        clear C d0 d1 d2 d3 d4 d5
        rintro e w5 ⟨rfl, b5⟩
        obtain ⟨d0, d1, d2, d3, d4, d5⟩ := cell_of_six ((b5.block w4.heap.size (lt_of_block HN4.out)).trans HN4.out)
        have hq5 := (b5.block P (lt_of_block HQ4.out)).trans HQ4.out
        obtain ⟨x0, x1, x2, x3, x4, x5⟩ := cell_of_six hq5
        obtain ⟨y0, y1, y2, y3, y4, y5⟩ := free_of_six hq5
        have HQ5 := hide hq5
        have HB5 := hide (HB4.out.trans (b5.mono (Nat.le_of_lt (lt_of_block HQ4.out))))
        have HO5 := hide (ownsRow_below HO4.out b5 (Nat.le_refl _))
        clear b5 hq5
        cases ck with
        | true =>
          have HD := hide (show decErr b = 0 from HDec.out)
          go_wp2
          have hz := cell_of_six (six_set HQ5.out (.int .i64 f) (.int .i64 t) (.int .i64 k) (.int .i64 s) (.int .i64 a) (.slice ao x.length c))
          refine bodyPost_ret (v := .tuple #[.agg #[.int .i64 f, .int .i64 t, .int .i64 k, .int .i64 s, .int .i64 a, .slice ao x.length c], .int .i64 0]) (by simp [results, Try.results23, go_sem, hz]) rfl ?_
          have hown := own_six (ownsRow_lower HO5.out Hlow.out) HQ5.out (by decide) (.int .i64 f) (.int .i64 t) (.int .i64 k) (.int .i64 s) (.int .i64 a) (.slice ao x.length c)
          have hbel := below_six HB5.out (Nat.le_refl _) (.int .i64 f) (.int .i64 t) (.int .i64 k) (.int .i64 s) (.int .i64 a) (.slice ao x.length c)
          obtain ⟨e1, e2, e3, e4, e5, e6⟩ := HF.out
          unfold DecPost decF decT decK decS decA decX
          simp only [HD.out]
          rw [← e1, ← e2, ← e3, ← e4, ← e5, ← e6, ← HP.out]
          exact ⟨_, rfl, hown, hbel⟩
        | false =>
          have HD := hide (show decErr b = 21 from HDec.out)
          go_wp2
          have hz := cell_of_six (six_set HQ5.out (.int .i64 0) (.int .i64 0) (.int .i64 0) (.int .i64 0) (.int .i64 0) (.slice none 0 0))
          refine bodyPost_ret (v := .tuple #[.agg #[.int .i64 0, .int .i64 0, .int .i64 0, .int .i64 0, .int .i64 0, .slice none 0 0], .int .i64 21]) (by simp [results, Try.results23, go_sem, hz]) rfl ?_
          exact DecPost.bad HD.out (by decide) (by rw [← HP.out]; exact below_six HB5.out (Nat.le_refl _) (.int .i64 0) (.int .i64 0) (.int .i64 0) (.int .i64 0) (.int .i64 0) (.slice none 0 0))
      · have hne : ((en : Int) != 0) = true := by simp; omega
        have HD := hide (show decErr b = en by rw [decErr_open (by rw [HOpen.out]; exact hen0), HOpen.out])
        have H0 := hide hen0
        obtain ⟨x0, x1, x2, x3, x4, x5⟩ := cell_of_six HQ4.out
        obtain ⟨y0, y1, y2, y3, y4, y5⟩ := free_of_six HQ4.out
        clear hen0
        go_wp2
        have hz := cell_of_six (six_set HQ4.out (.int .i64 0) (.int .i64 0) (.int .i64 0) (.int .i64 0) (.int .i64 0) (.slice none 0 0))
        refine bodyPost_ret (v := .tuple #[.agg #[.int .i64 0, .int .i64 0, .int .i64 0, .int .i64 0, .int .i64 0, .slice none 0 0], .int .i64 (en : Int)]) (by simp [results, Try.results23, go_sem, hz]) rfl ?_
        exact DecPost.bad HD.out H0.out (by rw [← HP.out]; exact below_six HB4.out (Nat.le_refl _) (.int .i64 0) (.int .i64 0) (.int .i64 0) (.int .i64 0) (.int .i64 0) (.slice none 0 0))
    · have hne : ((er : Int) != 0) = true := by simp; omega
      have hopen : openErr b = er := by rw [HE.out, readErr_eq, if_pos (by rw [← HEr.out]; exact h0), HEr.out]
      have HD := hide (show decErr b = er by rw [decErr_open (by rw [hopen]; exact h0), hopen])
      have H0 := hide h0
      obtain ⟨x0, x1, x2, x3, x4, x5⟩ := cell_of_six HQ4.out
      obtain ⟨y0, y1, y2, y3, y4, y5⟩ := free_of_six HQ4.out
      clear h0 hopen
      go_wp2
      have hz := cell_of_six (six_set HQ4.out (.int .i64 0) (.int .i64 0) (.int .i64 0) (.int .i64 0) (.int .i64 0) (.slice none 0 0))
      refine bodyPost_ret (v := .tuple #[.agg #[.int .i64 0, .int .i64 0, .int .i64 0, .int .i64 0, .int .i64 0, .slice none 0 0], .int .i64 (er : Int)]) (by simp [results, Try.results23, go_sem, hz]) rfl ?_
      exact DecPost.bad HD.out H0.out (by rw [← HP.out]; exact below_six HB4.out (Nat.le_refl _) (.int .i64 0) (.int .i64 0) (.int .i64 0) (.int .i64 0) (.int .i64 0) (.slice none 0 0))

theorem r2Decode_any (B : Nat) (v : Value) (b : List Nat) (w : World) (hb : Bv w B v b) (hB : B ≤ w.heap.size) (hbig : b.length ≤ 1048580) :
    Calls Try.prog 23 #[v] w (DecPost b w) := by
  by_cases h6 : b.length < 6
  · exact r2Decode_short B v b w hb h6
  · exact r2Decode_long B v b w hb hB (by omega) hbig
end Go.Proofs.Ytebojmjbolphfaa
