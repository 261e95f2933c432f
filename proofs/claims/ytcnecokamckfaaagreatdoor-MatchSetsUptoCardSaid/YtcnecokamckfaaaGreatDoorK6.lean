/- Joined: Or0, Ky0. -/
import Derived.Test.YtcnecokamckfaaaGreatDoorK5
import Derived.Test.YtcnecokamckfaaaGreatDoorRc0
import Derived.Test.YtcnecokamckfaaaGreatDoorCe0
import Derived.Lib.ItoaNum
set_option linter.unusedVariables false
set_option linter.unusedSimpArgs false
/- Contracts: the document's Of and Compare. -/
namespace Go.Proofs.YtcnecokamckfaaaGreatDoor
open Go Go.RowKit

/-- One bound as a row of the call's own. -/
theorem BsO.single {w : World} {g base : Nat} {x : Bd} {aa : Option Addr} {ac : Nat} (hg : w.heap[g]? = some (.cells #[.string x.var, .int .i64 x.ev.src, .int .i64 x.ev.seq, .int .i64 x.ev.time, .string x.ev.ty, .slice aa x.ev.ats.length ac] 54 (0, 0))) (hb : base ≤ g) (h : OwA w base (.slice aa x.ev.ats.length ac) x.ev.ats) (hv : x.var.size ≤ maxLen) (ht : x.ev.ty.size ≤ maxLen) : BsO w base (.slice (some ⟨g, 0, none⟩) 1 1) [x] :=
  ⟨fun y hy => by rw [List.mem_singleton] at hy; subst hy; exact ⟨hv, ht⟩, by simp, encB x (.slice aa x.ev.ats.length ac), ⟨rfl, .inr ⟨g, 1, _, rfl, hb, hg, Nat.le_refl _, by unfold maxLen; omega, rfl, rfl⟩⟩, RwL.single h⟩

theorem cmpBd_lt {x y : Bd} (h : cbV x y < 0) : cmpBd x y = -1 := by
  have := cb_range x.var.data.toList y.var.data.toList
  have e : cbV x y = -1 := by unfold cbV at h ⊢; omega
  unfold cmpBd; rw [e]; rfl
theorem cmpBd_gt {x y : Bd} (h : 0 < cbV x y) : cmpBd x y = 1 := by
  have := cb_range x.var.data.toList y.var.data.toList
  have e : cbV x y = 1 := by unfold cbV at h ⊢; omega
  unfold cmpBd; rw [e]; rfl
theorem cmpBd_eq {x y : Bd} (h : cbV x y = 0) : cmpBd x y = cmpID x.ev.src x.ev.seq y.ev.src y.ev.seq := by unfold cmpBd; rw [h]; rfl
set_option maxRecDepth 100000 in
set_option maxHeartbeats 6400000 in
theorem r10Compare_any (B C : Nat) (ao : Option Addr) (n cap : Nat) (ao2 : Option Addr) (n2 cap2 : Nat) (cs bs : List Bd) (w : World) (h1 : BsV w B (.slice ao n cap) cs) (h2 : BsV w C (.slice ao2 n2 cap2) bs) (hB : B ≤ w.heap.size) (hC : C ≤ w.heap.size) :
    Calls Tryz.prog 37 #[.agg #[.slice ao n cap], .agg #[.slice ao2 n2 cap2]] w fun e w' => e = .returned (.int .i64 (cmpL cs bs)) ∧ Below w.heap.size w w' := by
  have HN := Lib.hid h1.num.1; have HM := Lib.hid h2.num.1; have HN63 := Lib.hid h1.num.2.1
  obtain ⟨P, hP⟩ : ∃ P, P = w.heap.size := ⟨_, rfl⟩
  obtain ⟨W, hW⟩ : ∃ W, W = (w.alloc (.cells #[.slice ao n cap] 38)).alloc (.cells #[.slice ao2 n2 cap2] 38) := ⟨_, rfl⟩
  have HB0 : Hid (Below P w W) := by rw [hW, hP]; exact ((Below.refl _ _).alloc (Nat.le_refl _) _).alloc (by simp) _
  have hPW : W.heap[P]? = some (.cells #[.slice ao n cap] 38 (0, 0)) := by rw [hW, hP]; exact heap_alloc_keeps (heap_alloc_new w _) _
  have hQW : W.heap[P + 1]? = some (.cells #[.slice ao2 n2 cap2] 38 (0, 0)) := by rw [hW, hP]; exact heap_alloc_at (by simp) rfl
  have hWs : W.heap.size = P + 2 := by rw [hW, hP]; simp
  have HW := Lib.hid hW; have HP := Lib.hid hP
  have HPS : Hid (P ≤ W.heap.size) := Lib.hid (by omega)
  have HPX := Lib.hid (fun u (hu : Below W.heap.size W u) => And.intro (cells_one0 ((hu.block P (by omega)).trans hPW)) (cells_one0 ((hu.block (P + 1) (by omega)).trans hQW)))
  have H1 := Lib.hid (h1.below HB0.out (by omega)); have H2 := Lib.hid (h2.below HB0.out (by omega))
  have HBB : Hid (B ≤ W.heap.size) := Lib.hid (by omega); have HCC : Hid (C ≤ W.heap.size) := Lib.hid (by omega)
  have HBR : Hid (Below W.heap.size W W) := Lib.hid (Below.refl _ _)
  obtain ⟨c0, d0⟩ := HPX.out _ HBR.out
  rw [← hP]
  clear h1 h2 hB hC hP hW hPW hQW hWs
  go_enter Tryz.func37, Tryz.ntmps37
  go_wp2_with fail
  rw [← HW.out, ← HP.out]
  go_loopw [5] (fun iv wr => ∃ k : Nat, k ≤ n ∧ k ≤ n2 ∧ iv = .int .i64 k ∧ Hid (cmpL cs bs = cmpL (cs.drop k) (bs.drop k)) ∧ Hid (Below W.heap.size W wr)) (fun iv _ => n - (intOf iv).toNat)
  case atStart => exact ⟨0, Nat.zero_le _, Nat.zero_le _, rfl, Lib.hid rfl, HBR⟩
  case round =>
    obtain ⟨k, hk, hk2, rfl, HK, HB⟩ := hrel
    clear c0 d0
    obtain ⟨c0, d0⟩ := HPX.out _ HB.out
    have hk0 : (0 : Int) ≤ (k : Int) := by omega
    by_cases hlt : k < n
    · have hlt' : (k : Int) < (n : Int) := by omega
      have hlt2 := decide_eq_true hlt'
      by_cases hlm : k < n2
      · have hlm' : (k : Int) < (n2 : Int) := by omega
        have hlm2 := decide_eq_true hlm'
        obtain ⟨b, o, aa, ac, rfl, hbB, hkl, _, _, _, hav, hc⟩ := H1.out.at hlt
        obtain ⟨b2, o2, aa2, ac2, rfl, hbC, hkm, _, _, _, hav2, hc2⟩ := H2.out.at hlm
        obtain ⟨a0, a1, a2, a3, a4, a5⟩ := six_cells (hc _ (HB.out.mono HBB.out))
        have HGO := Lib.hid (cmpL_go (a := cs) (b := bs) hkl hkm); have HBAD := Lib.hid (cmpL_bad (a := cs) (b := bs) hkl hkm)
        obtain ⟨x, hx⟩ : ∃ x, x = cs[k]! := ⟨_, rfl⟩
        obtain ⟨y, hy⟩ : ∃ y, y = bs[k]! := ⟨_, rfl⟩
        rw [← hx] at a0 a1 a2 a3 a4 a5 HGO HBAD
        rw [← hy] at hc2 HGO HBAD
        have hBn := HB.out.alloc HB.out.size (.cells #[.string x.var, .int .i64 x.ev.src, .int .i64 x.ev.seq, .int .i64 x.ev.time, .string x.ev.ty, .slice aa x.ev.ats.length ac] 54)
        obtain ⟨y0, y1, y2, y3, y4, y5⟩ := six_cells (hc2 _ (hBn.mono HCC.out))
        obtain ⟨_, e0⟩ := HPX.out _ hBn
        have hBn2 := hBn.alloc hBn.size (.cells #[.string y.var, .int .i64 y.ev.src, .int .i64 y.ev.seq, .int .i64 y.ev.time, .string y.ev.ty, .slice aa2 y.ev.ats.length ac2] 54)
        obtain ⟨f0, f1, f2, f3, f4, f5⟩ := cells_six (heap_alloc_keeps (heap_alloc_new wr (.cells #[.string x.var, .int .i64 x.ev.src, .int .i64 x.ev.seq, .int .i64 x.ev.time, .string x.ev.ty, .slice aa x.ev.ats.length ac] 54)) (.cells #[.string y.var, .int .i64 y.ev.src, .int .i64 y.ev.seq, .int .i64 y.ev.time, .string y.ev.ty, .slice aa2 y.ev.ats.length ac2] 54))
        have hg := heap_alloc_new (wr.alloc (.cells #[.string x.var, .int .i64 x.ev.src, .int .i64 x.ev.seq, .int .i64 x.ev.time, .string x.ev.ty, .slice aa x.ev.ats.length ac] 54)) (.cells #[.string y.var, .int .i64 y.ev.src, .int .i64 y.ev.seq, .int .i64 y.ev.time, .string y.ev.ty, .slice aa2 y.ev.ats.length ac2] 54)
        rw [World.size_alloc] at hg
        obtain ⟨g0, g1, g2, g3, g4, g5⟩ := cells_six hg
        have HB2 := Lib.hid hBn2
        have e1 : IntKind.i64.wrap ((k : Int) + 1) = (k : Int) + 1 := IntWalk.i64_in _ (by have := HN63.out; omega)
        have hle := leq_at (a := x.var) (b := y.var) rfl
        have hlg := leq_at (a := y.var) (b := x.var) rfl
        have hcv : cbV x y = Lib.compareBytes x.var.data.toList y.var.data.toList := rfl
        have hsw : Lib.compareBytes y.var.data.toList x.var.data.toList = -Lib.compareBytes x.var.data.toList y.var.data.toList := cb_swap _ _
        have HC := Lib.hid (fun u => r4Compare_any x.ev.src x.ev.seq y.ev.src y.ev.seq u)
        have HQ := Lib.hid (cmpBd_eq (x := x) (y := y)); have HL := Lib.hid (cmpBd_lt (x := x) (y := y)); have HG := Lib.hid (cmpBd_gt (x := x) (y := y))
        rw [hcv] at HQ HL HG
        rw [hsw] at hlg
        clear hx hy hc hc2 hkl hkm hav hav2 hBn hBn2 hg hcv hsw
        generalize Lib.compareBytes x.var.data.toList y.var.data.toList = cc at hle hlg HQ HL HG
        obtain ⟨hl1, hl2⟩ := hle
        obtain ⟨hl3, _⟩ := hlg
        rcases Int.lt_trichotomy cc 0 with hcc | hcc | hcc
        · have HV := Lib.hid (HL.out hcc)
          have HR := Lib.hid (HBAD.out (by rw [HV.out]; decide))
          rw [decide_eq_true hcc] at hl1
          rw [decide_eq_false (by omega)] at hl2 hl3
          clear hcc
          go_wp2_with fail
          go_ret
          exact ⟨ret_int0 ((HK.out.trans HR.out).trans HV.out).symm, HB0.out.trans (HB2.out.mono HPS.out)⟩
        · have HV := Lib.hid (HQ.out hcc)
          subst hcc
          rw [show decide ((0 : Int) < 0) = false from rfl] at hl1
          rw [show decide (-(0 : Int) < 0) = false from rfl] at hl3
          generalize cmpID x.ev.src x.ev.seq y.ev.src y.ev.seq = cv at HC HV
          by_cases hz : cv = 0
          · subst hz
            have HR := Lib.hid (HGO.out HV.out)
            go_wp2_with (go_at_call 64; (with_reducible refine (HC.out _).mono ?_); rintro e w1 ⟨rfl, hb⟩; have HB1 := Lib.hid (HB2.out.trans (hb.mono HB2.out.size)); clear hb)
            go_roundw
            case rel => exact ⟨k + 1, by omega, by omega, by go_num, Lib.hid (HK.out.trans HR.out), HB1⟩
            case measure => simp [intOf]; omega
          · have HR := Lib.hid (HBAD.out (by rw [HV.out]; exact hz))
            have hz1 : (cv == 0) = false := beq_eq_false_iff_ne.2 hz
            have hz2 : (cv != 0) = true := by simp [hz]
            go_wp2_with (go_at_call 64; (with_reducible refine (HC.out _).mono ?_); rintro e w1 ⟨rfl, hb⟩; have HB1 := Lib.hid (HB2.out.trans (hb.mono HB2.out.size)); clear hb)
            go_ret
            exact ⟨ret_int0 ((HK.out.trans HR.out).trans HV.out).symm, HB0.out.trans (HB1.out.mono HPS.out)⟩
        · have HV := Lib.hid (HG.out hcc)
          have HR := Lib.hid (HBAD.out (by rw [HV.out]; decide))
          rw [decide_eq_false (by omega)] at hl1 hl2
          rw [decide_eq_true (by omega)] at hl3
          clear hcc
          go_wp2_with fail
          go_ret
          exact ⟨ret_int0 ((HK.out.trans HR.out).trans HV.out).symm, HB0.out.trans (HB2.out.mono HPS.out)⟩
      · have hlm' : ¬ (k : Int) < (n2 : Int) := by omega
        have hlm2 := decide_eq_false hlm'
        have hkl : k < cs.length := by rw [← HN.out]; exact hlt
        have HR := Lib.hid (cmpL_gt (a := cs) (b := bs) hkl (by rw [← HM.out]; exact hlm))
        have g1 : ¬ (n : Int) < (n2 : Int) := by omega
        have g2 := decide_eq_false g1
        have g3 : (n2 : Int) < (n : Int) := by omega
        have g4 := decide_eq_true g3
        clear hkl
        go_wp2
        go_ret
        exact ⟨ret_int0 (HK.out.trans HR.out).symm, HB0.out.trans (HB.out.mono HPS.out)⟩
    · have hlt' : ¬ (k : Int) < (n : Int) := by omega
      have hlt2 := decide_eq_false hlt'
      by_cases hlm : k < n2
      · have HR := Lib.hid (cmpL_lt (a := cs) (b := bs) (by rw [← HN.out]; exact hlt) (by rw [← HM.out]; exact hlm))
        have g1 : (n : Int) < (n2 : Int) := by omega
        have g2 := decide_eq_true g1
        go_wp2
        go_ret
        exact ⟨ret_int0 (HK.out.trans HR.out).symm, HB0.out.trans (HB.out.mono HPS.out)⟩
      · have HR := Lib.hid (cmpL_end (a := cs) (b := bs) (by rw [← HN.out]; exact hlt) (by rw [← HM.out]; exact hlm))
        have g1 : ¬ (n : Int) < (n2 : Int) := by omega
        have g2 := decide_eq_false g1
        have g3 : ¬ (n2 : Int) < (n : Int) := by omega
        have g4 := decide_eq_false g3
        go_wp2
        go_ret
        exact ⟨ret_int0 (HK.out.trans HR.out).symm, HB0.out.trans (HB.out.mono HPS.out)⟩
end Go.Proofs.YtcnecokamckfaaaGreatDoor

/- The key of a partial match in a set, as bytes: two have the same key just if they are 0 to each other by Compare; Compare is an order. No program in this text. -/
namespace Go.Proofs.YtcnecokamckfaaaGreatDoor
open Go Go.RowKit

theorem cut_at {c : UInt8} : ∀ (a b : List UInt8) {r s : List UInt8}, (∀ x ∈ a, x ≠ c) → (∀ x ∈ b, x ≠ c) → a ++ c :: r = b ++ c :: s → a = b ∧ r = s
  | [], [], _, _, _, _, h => by simpa using h
  | [], y :: b, _, _, _, hb, h => by
    simp only [List.nil_append, List.cons_append, List.cons.injEq] at h
    exact absurd h.1.symm (hb y List.mem_cons_self)
  | x :: a, [], _, _, ha, _, h => by
    simp only [List.nil_append, List.cons_append, List.cons.injEq] at h
    exact absurd h.1 (ha x List.mem_cons_self)
  | x :: a, y :: b, _, _, ha, hb, h => by
    simp only [List.cons_append, List.cons.injEq] at h
    obtain ⟨e1, e2⟩ := cut_at a b (fun z hz => ha z (List.mem_cons_of_mem _ hz)) (fun z hz => hb z (List.mem_cons_of_mem _ hz)) h.2
    exact ⟨by rw [h.1, e1], e2⟩
/-- What a row of digits says. -/
def digV (l : List UInt8) : Nat := l.foldl (fun a c => 10 * a + (c.toNat - 48)) 0
theorem digV_dec (u : Nat) : digV (Lib.decDigits u) = u ∧ ∀ c ∈ Lib.decDigits u, 48 ≤ c.toNat ∧ c.toNat ≤ 57 := by
  induction u using Nat.strongRecOn with
  | ind u ih =>
    rw [Lib.decDigits]
    by_cases h : u < 10
    · rw [dif_pos h]
      have e : (UInt8.ofNat (48 + u)).toNat = 48 + u := by rw [UInt8.toNat_ofNat']; omega
      refine ⟨by unfold digV; simp only [List.foldl_cons, List.foldl_nil, e]; omega, fun c hc => ?_⟩
      rw [List.mem_singleton] at hc
      rw [hc, e]; omega
    · rw [dif_neg h]
      obtain ⟨h1, h2⟩ := ih (u / 10) (by omega)
      have e : (UInt8.ofNat (48 + u % 10)).toNat = 48 + u % 10 := by rw [UInt8.toNat_ofNat']; omega
      refine ⟨?_, fun c hc => ?_⟩
      · unfold digV at h1 ⊢
        rw [List.foldl_append, h1]
        simp only [List.foldl_cons, List.foldl_nil, e]; omega
      · rcases List.mem_append.1 hc with hc | hc
        · exact h2 c hc
        · rw [List.mem_singleton] at hc
          rw [hc, e]; omega
theorem dec_inj {a b : Nat} (h : Lib.decDigits a = Lib.decDigits b) : a = b := by rw [← (digV_dec a).1, h, (digV_dec b).1]
theorem dec_ne {u : Nat} {c : UInt8} (hc : ¬ (48 ≤ c.toNat ∧ c.toNat ≤ 57)) : ∀ x ∈ Lib.decDigits u, x ≠ c := fun x hx e => hc (e ▸ (digV_dec u).2 x hx)
theorem itoa_ne {n : Int} {c : UInt8} (hc : ¬ (48 ≤ c.toNat ∧ c.toNat ≤ 57)) (h45 : c ≠ 45) : ∀ x ∈ Lib.itoa n, x ≠ c := fun x hx => by
  unfold Lib.itoa at hx
  split at hx
  · rcases List.mem_cons.1 hx with rfl | hx
    · exact h45.symm
    · exact dec_ne hc x hx
  · exact dec_ne hc x hx
theorem itoa_inj {a b : Int} (h : Lib.itoa a = Lib.itoa b) : a = b := by
  have hd : ∀ u v : Nat, 45 :: Lib.decDigits u ≠ Lib.decDigits v := fun u v e => by
    have := (digV_dec v).2 45 (by rw [← e]; exact List.mem_cons_self)
    revert this; decide
  unfold Lib.itoa at h
  split at h
  · split at h
    · have := dec_inj (List.cons.inj h).2; omega
    · exact absurd h (hd _ _)
  · split at h
    · exact absurd h.symm (hd _ _)
    · have := dec_inj h; omega
/-- What a bound adds to a key, and the key. -/
def keyB (b : Bd) : List UInt8 := Lib.itoa (b.var.data.toList.length : Int) ++ 58 :: (b.var.data.toList ++ (Lib.itoa b.ev.src ++ 46 :: (Lib.itoa b.ev.seq ++ [59])))
def keyL : List Bd → List UInt8
  | [] => []
  | b :: r => keyB b ++ keyL r
theorem keyL_append : ∀ a b : List Bd, keyL (a ++ b) = keyL a ++ keyL b
  | [], _ => rfl
  | x :: a, b => by rw [List.cons_append, keyL, keyL_append a b, keyL, List.append_assoc]
def idB (b : Bd) : ByteArray × Int × Int := (b.var, b.ev.src, b.ev.seq)
theorem keyB_inj {x y : Bd} {r s : List UInt8} (h : keyB x ++ r = keyB y ++ s) : idB x = idB y ∧ r = s := by
  unfold keyB at h
  simp only [List.append_assoc, List.cons_append, List.nil_append] at h
  obtain ⟨h1, h⟩ := cut_at _ _ (itoa_ne (by decide) (by decide)) (itoa_ne (by decide) (by decide)) h
  have hl : x.var.data.toList.length = y.var.data.toList.length := by have := itoa_inj h1; omega
  obtain ⟨h2, h⟩ := List.append_inj h hl
  obtain ⟨h3, h⟩ := cut_at _ _ (itoa_ne (by decide) (by decide)) (itoa_ne (by decide) (by decide)) h
  obtain ⟨h4, h⟩ := cut_at _ _ (itoa_ne (by decide) (by decide)) (itoa_ne (by decide) (by decide)) h
  have e : x.var = y.var := ba_ext2 (by rw [Lib.toList_data, Lib.toList_data]; exact h2)
  exact ⟨by unfold idB; rw [e, itoa_inj h3, itoa_inj h4], h⟩
theorem keyB_ne (x : Bd) : keyB x ≠ [] := by unfold keyB; simp
theorem keyL_inj : ∀ {a b : List Bd}, keyL a = keyL b → a.map idB = b.map idB
  | [], [], _ => rfl
  | [], y :: b, h => by rw [keyL, keyL] at h; exact absurd (List.append_eq_nil_iff.1 h.symm).1 (keyB_ne y)
  | x :: a, [], h => by rw [keyL, keyL] at h; exact absurd (List.append_eq_nil_iff.1 h).1 (keyB_ne x)
  | x :: a, y :: b, h => by
    rw [keyL, keyL] at h
    obtain ⟨h1, h2⟩ := keyB_inj h
    rw [List.map_cons, List.map_cons, h1, keyL_inj h2]
theorem keyB_id {x y : Bd} (h : idB x = idB y) : keyB x = keyB y := by
  unfold idB at h
  simp only [Prod.mk.injEq] at h
  unfold keyB; rw [h.1, h.2.1, h.2.2]
theorem keyL_id : ∀ {a b : List Bd}, a.map idB = b.map idB → keyL a = keyL b
  | [], [], _ => rfl
  | [], _ :: _, h => by cases h
  | _ :: _, [], h => by cases h
  | x :: a, y :: b, h => by
    rw [List.map_cons, List.map_cons, List.cons.injEq] at h
    rw [keyL, keyL, keyB_id h.1, keyL_id h.2]

theorem cmpI_zero {a b : Int} : cmpI a b = 0 ↔ a = b := by unfold cmpI; constructor <;> intro h <;> (try split at h) <;> (try split at h) <;> first | omega | (subst h; simp)
theorem cmpID_zero {s q s' q' : Int} : cmpID s q s' q' = 0 ↔ s = s' ∧ q = q' := by
  unfold cmpID
  by_cases h : cmpI s s' = 0
  · rw [if_pos h, cmpI_zero]; exact ⟨fun e => ⟨cmpI_zero.1 h, e⟩, fun e => e.2⟩
  · rw [if_neg h]; exact ⟨fun e => absurd e h, fun e => absurd (cmpI_zero.2 e.1) h⟩
theorem cmpBd_zero {x y : Bd} : cmpBd x y = 0 ↔ idB x = idB y := by
  unfold cmpBd orI idB
  simp only [Prod.mk.injEq]
  by_cases h : cbV x y = 0
  · rw [if_pos h, cmpID_zero]
    have e : x.var = y.var := ba_ext2 (by rw [Lib.toList_data, Lib.toList_data]; exact cb_zero _ _ h)
    exact ⟨fun hh => ⟨e, hh.1, hh.2⟩, fun hh => hh.2⟩
  · rw [if_neg h]
    refine ⟨fun e => absurd e h, fun e => absurd ?_ h⟩
    unfold cbV; rw [e.1]; exact cb_self _
theorem cmpL_zero : ∀ {a b : List Bd}, cmpL a b = 0 ↔ a.map idB = b.map idB
  | [], [] => ⟨fun _ => rfl, fun _ => rfl⟩
  | [], _ :: _ => ⟨fun h => (by rw [cmpL] at h; cases h), fun h => (by cases h)⟩
  | _ :: _, [] => ⟨fun h => (by rw [cmpL] at h; cases h), fun h => (by cases h)⟩
  | x :: a, y :: b => by
    rw [cmpL, List.map_cons, List.map_cons, List.cons.injEq]
    by_cases h : cmpBd x y = 0
    · rw [if_pos h, cmpL_zero]; exact ⟨fun e => ⟨cmpBd_zero.1 h, e⟩, fun e => e.2⟩
    · rw [if_neg h]; exact ⟨fun e => absurd e h, fun e => absurd (cmpBd_zero.2 e.1) h⟩
/-- Two have the same key just if they are 0 to each other by Compare. -/
theorem key_cmp {a b : List Bd} : keyL a = keyL b ↔ cmpL a b = 0 := ⟨fun h => cmpL_zero.2 (keyL_inj h), fun h => keyL_id (cmpL_zero.1 h)⟩

theorem cmpI_swap (a b : Int) : cmpI b a = -cmpI a b := by unfold cmpI; split <;> split <;> (try split) <;> (try split) <;> omega
theorem cmpID_swap (s q s' q' : Int) : cmpID s' q' s q = -cmpID s q s' q' := by
  unfold cmpID
  rw [cmpI_swap s s', cmpI_swap q q']
  by_cases h : cmpI s s' = 0
  · rw [if_pos h, if_pos (by omega)]
  · rw [if_neg h, if_neg (by omega)]
theorem cmpBd_swap (x y : Bd) : cmpBd y x = -cmpBd x y := by
  unfold cmpBd orI
  rw [cbV_swap x y, cmpID_swap x.ev.src x.ev.seq]
  by_cases h : cbV x y = 0
  · rw [if_pos h, if_pos (by omega)]
  · rw [if_neg h, if_neg (by omega)]
theorem cmpL_swap : ∀ a b : List Bd, cmpL b a = -cmpL a b
  | [], [] => rfl
  | [], _ :: _ => by rw [cmpL, cmpL]; rfl
  | _ :: _, [] => by rw [cmpL, cmpL]
  | x :: a, y :: b => by
    rw [cmpL, cmpL, cmpBd_swap x y, cmpL_swap a b]
    by_cases h : cmpBd x y = 0
    · rw [if_pos h, if_pos (by omega)]
    · rw [if_neg h, if_neg (by omega)]
theorem cmpI_trans {a b c : Int} (h1 : cmpI a b ≤ 0) (h2 : cmpI b c ≤ 0) : cmpI a c ≤ 0 ∧ (cmpI a b < 0 ∨ cmpI b c < 0 → cmpI a c < 0) := by
  unfold cmpI at *
  constructor
  · (repeat' split at h1) <;> (repeat' split at h2) <;> (repeat' split) <;> omega
  · intro h3
    (repeat' split at h1) <;> (repeat' split at h2) <;> (repeat' split) <;> (repeat' split at h3) <;> omega
/-- Two orders, the second asked where the first says 0. -/
theorem lex_trans {p q r p' q' r' : Int} (hp : p ≤ 0 → q ≤ 0 → r ≤ 0 ∧ (p < 0 ∨ q < 0 → r < 0)) (hz : p = 0 → q = 0 → r = 0) (hs : p' ≤ 0 → q' ≤ 0 → r' ≤ 0 ∧ (p' < 0 ∨ q' < 0 → r' < 0))
    (h1 : (if p = 0 then p' else p) ≤ 0) (h2 : (if q = 0 then q' else q) ≤ 0) : (if r = 0 then r' else r) ≤ 0 ∧ ((if p = 0 then p' else p) < 0 ∨ (if q = 0 then q' else q) < 0 → (if r = 0 then r' else r) < 0) := by
  by_cases e1 : p = 0 <;> by_cases e2 : q = 0
  · rw [if_pos e1] at h1; rw [if_pos e2] at h2
    rw [if_pos e1, if_pos e2, if_pos (hz e1 e2)]
    exact hs h1 h2
  all_goals
    have hp1 : p ≤ 0 := by first | exact (by rw [if_neg e1] at h1; exact h1) | omega
    have hq1 : q ≤ 0 := by first | exact (by rw [if_neg e2] at h2; exact h2) | omega
    have hr : r < 0 := (hp hp1 hq1).2 (by omega)
    rw [if_neg (show ¬ r = 0 by omega)]
    exact ⟨by omega, fun _ => hr⟩
theorem cmpID_trans {s q s' q' t u : Int} (h1 : cmpID s q s' q' ≤ 0) (h2 : cmpID s' q' t u ≤ 0) : cmpID s q t u ≤ 0 ∧ (cmpID s q s' q' < 0 ∨ cmpID s' q' t u < 0 → cmpID s q t u < 0) :=
  lex_trans cmpI_trans (fun e1 e2 => cmpI_zero.2 ((cmpI_zero.1 e1).trans (cmpI_zero.1 e2))) cmpI_trans h1 h2
theorem cmpBd_trans {x y z : Bd} (h1 : cmpBd x y ≤ 0) (h2 : cmpBd y z ≤ 0) : cmpBd x z ≤ 0 ∧ (cmpBd x y < 0 ∨ cmpBd y z < 0 → cmpBd x z < 0) :=
  lex_trans (cb_trans _ _ _) (fun e1 e2 => by unfold cbV at *; rw [cb_zero _ _ e1]; exact e2) cmpID_trans h1 h2
/-- Compare is an order. -/
theorem cmpL_trans : ∀ {a b c : List Bd}, cmpL a b ≤ 0 → cmpL b c ≤ 0 → cmpL a c ≤ 0 ∧ (cmpL a b < 0 ∨ cmpL b c < 0 → cmpL a c < 0)
  | [], [], _, _, h2 => ⟨h2, fun h => h.elim (fun h => (by rw [cmpL] at h; cases h)) id⟩
  | [], _ :: _, [], _, h2 => by rw [cmpL] at h2; cases h2
  | [], _ :: _, _ :: _, _, _ => by rw [cmpL]; exact ⟨by decide, fun _ => by decide⟩
  | _ :: _, [], _, h1, _ => by rw [cmpL] at h1; cases h1
  | _ :: _, _ :: _, [], _, h2 => by rw [cmpL] at h2; cases h2
  | x :: a, y :: b, z :: c, h1, h2 => by
    rw [cmpL] at h1 h2 ⊢
    rw [cmpL, cmpL]
    exact lex_trans cmpBd_trans (fun e1 e2 => cmpBd_zero.2 ((cmpBd_zero.1 e1).trans (cmpBd_zero.1 e2))) cmpL_trans h1 h2
theorem cmpL_self (a : List Bd) : cmpL a a = 0 := cmpL_zero.2 rfl
end Go.Proofs.YtcnecokamckfaaaGreatDoor
