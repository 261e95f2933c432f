/- Contracts: the document's Same. -/
import Derived.Test.YtppacelaeaaodaaCe0
namespace Go.Proofs.Ytppacelaeaaodaa
open Go Go.RowKit

set_option maxRecDepth 100000 in
set_option maxHeartbeats 6400000 in
theorem r10Same_any (B C : Nat) (ao : Option Addr) (n cap : Nat) (ao2 : Option Addr) (n2 cap2 : Nat) (cs bs : List Bd) (w : World) (h1 : BsV w B (.slice ao n cap) cs) (h2 : BsV w C (.slice ao2 n2 cap2) bs) (hB : B ≤ w.heap.size) (hC : C ≤ w.heap.size) :
    Calls Try.prog 16 #[.agg #[.slice ao n cap], .agg #[.slice ao2 n2 cap2]] w fun e w' => e = .returned (.bool (decide (cs = bs))) ∧ Below w.heap.size w w' := by
  obtain ⟨hn, hn63, _⟩ := h1.num
  obtain ⟨hm, hm63, _⟩ := h2.num
  have HN := Lib.hid hn; have HM := Lib.hid hm
  obtain ⟨P, hP⟩ : ∃ P, P = w.heap.size := ⟨_, rfl⟩
  obtain ⟨W, hW⟩ : ∃ W, W = (w.alloc (.cells #[.slice ao n cap] 24)).alloc (.cells #[.slice ao2 n2 cap2] 24) := ⟨_, rfl⟩
  have HB0 : Hid (Below P w W) := by rw [hW, hP]; exact ((Below.refl _ _).alloc (Nat.le_refl _) _).alloc (by simp) _
  have hPW : W.heap[P]? = some (.cells #[.slice ao n cap] 24 (0, 0)) := by rw [hW, hP]; exact heap_alloc_keeps (heap_alloc_new w _) _
  have hQW : W.heap[P + 1]? = some (.cells #[.slice ao2 n2 cap2] 24 (0, 0)) := by rw [hW, hP]; exact heap_alloc_at (by simp) rfl
  have hWs : W.heap.size = P + 2 := by rw [hW, hP]; simp
  have HW := Lib.hid hW; have HP := Lib.hid hP
  have HPS : Hid (P ≤ W.heap.size) := Lib.hid (by omega)
  have HPX := Lib.hid (fun u (hu : Below W.heap.size W u) => And.intro (cells_one0 ((hu.block P (by omega)).trans hPW)) (cells_one0 ((hu.block (P + 1) (by omega)).trans hQW)))
  have H1 := Lib.hid (h1.below HB0.out (by omega)); have H2 := Lib.hid (h2.below HB0.out (by omega))
  have HBB : Hid (B ≤ W.heap.size) := Lib.hid (by omega); have HCC : Hid (C ≤ W.heap.size) := Lib.hid (by omega)
  have HBR : Hid (Below W.heap.size W W) := Lib.hid (Below.refl _ _)
  obtain ⟨c0, d0⟩ := HPX.out _ HBR.out
  rw [← hP]
  clear h1 h2 hn hm hB hC hP hW hPW hQW hWs
  rcases Decidable.em (n = n2) with hnn | hnn
  case inr =>
    rw [show decide (cs = bs) = false from decide_eq_false fun e => hnn (by rw [HN.out, HM.out, e])]
    have e1 : ((n : Int) != (n2 : Int)) = true := by simp; omega
    have e2 : ((n : Int) == (n2 : Int)) = false := by simp; omega
    go_enter Try.func16, Try.ntmps16
    go_wp2
    go_ret
    exact ⟨rfl, by rw [← HW.out]; exact HB0.out⟩
  subst hnn
  go_enter Try.func16, Try.ntmps16
  go_wp2_with fail
  rw [← HW.out, ← HP.out]
  go_loopw [5] (fun iv wr => ∃ k : Nat, k ≤ n ∧ iv = .int .i64 k ∧ Hid (cs.take k = bs.take k) ∧ Hid (Below W.heap.size W wr)) (fun iv _ => n - (intOf iv).toNat)
  case atStart => exact ⟨0, Nat.zero_le _, rfl, Lib.hid rfl, HBR⟩
  case round =>
    obtain ⟨k, hk, rfl, HK, HB⟩ := hrel
    clear c0 d0
    obtain ⟨c0, d0⟩ := HPX.out _ HB.out
    by_cases hlt : k < n
    · obtain ⟨b, o, aa, ac, rfl, hbB, hkl, _, _, _, hav, hc⟩ := H1.out.at hlt
      obtain ⟨b2, o2, aa2, ac2, rfl, hbC, hkm, _, _, _, hav2, hc2⟩ := H2.out.at hlt
      obtain ⟨x0, x1, x2, x3, x4, x5⟩ := six_cells (hc _ (HB.out.mono HBB.out))
      obtain ⟨y0, y1, y2, y3, y4, y5⟩ := six_cells (hc2 _ (HB.out.mono HCC.out))
      have HT := Lib.hid (take_one hkl); have HT2 := Lib.hid (take_one hkm)
      have HS := Lib.hid (same_ne (b := bs) hkl (by rw [← HN.out, HM.out]))
      obtain ⟨x, hx⟩ : ∃ x, x = cs[k]! := ⟨_, rfl⟩
      obtain ⟨y, hy⟩ : ∃ y, y = bs[k]! := ⟨_, rfl⟩
      rw [← hx] at x0 x1 x2 x3 x4 x5 HT hav HS
      rw [← hy] at y0 y1 y2 y3 y4 y5 HT2 hav2 HS
      have CC := rg (w := wr) (fun u hu => r4Same_any x.ev y.ev B C aa _ ac aa2 _ ac2 u (hav.below (HB.out.trans (hu.mono HB.out.size)) HBB.out) (hav2.below (HB.out.trans (hu.mono HB.out.size)) HCC.out) (Nat.le_trans HBB.out (Nat.le_trans HB.out.size hu.size)) (Nat.le_trans HCC.out (Nat.le_trans HB.out.size hu.size)))
      unfold evV at CC
      have e1 : IntKind.i64.wrap ((k : Int) + 1) = (k : Int) + 1 := IntWalk.i64_in _ (by omega)
      have hk0 : (0 : Int) ≤ (k : Int) := by omega
      have hkn' : (k : Int) < (n : Int) := by omega
      have hsb : sameB x y = ((x.var.toList == y.var.toList) && sameE x.ev y.ev) := rfl
      have C0 := cell_regrown c0; have D0 := cell_regrown d0
      have X0 := cell_regrown x0; have X1 := cell_regrown x1; have X2 := cell_regrown x2; have X3 := cell_regrown x3; have X4 := cell_regrown x4; have X5 := cell_regrown x5
      have Y0 := cell_regrown y0; have Y1 := cell_regrown y1; have Y2 := cell_regrown y2; have Y3 := cell_regrown y3; have Y4 := cell_regrown y4; have Y5 := cell_regrown y5
      clear hx hy hc hc2 hkl hkm hav hav2
      cases hv : (x.var.toList == y.var.toList) with
      | false =>
        have HR := Lib.hid (HS.out (by rw [hsb, hv]; rfl))
        have hv2 : (x.var.toList != y.var.toList) = true := by unfold bne; rw [hv]; rfl
        clear CC hsb C0 D0 X0 X1 X2 X3 X4 X5 Y0 Y1 Y2 Y3 Y4 Y5
        go_wp2_with fail
        go_quiet (fail)
        go_wp2
        go_ret
        exact ⟨ret_bool0 HR.out.symm, HB0.out.trans ((Below.drewN' HB.out _).mono HPS.out)⟩
      | true =>
        have hv2 : (x.var.toList != y.var.toList) = false := by unfold bne; rw [hv]; rfl
        cases hs : sameE x.ev y.ev with
        | true =>
          have HR := Lib.hid (sameB_iff.1 (by rw [hsb, hv, hs]; rfl : sameB x y = true))
          rw [hs] at CC
          clear hsb hs
          go_wp2_with fail
          clear c0 d0 x0 x1 x2 x3 x4 x5 y0 y1 y2 y3 y4 y5
          refine wp_region_quiet_below (by kernel_rfl) (by kernel_rfl) ?_
          repeat (quiet_step (first | (with_reducible exact CC _ _)))
          refine wpQuiet_nil ?_
          intro _ hw'
          obtain ⟨⟨dq, osq⟩, hw''⟩ := hw'
          subst hw''
          have HBQ := Lib.hid (HB.out.trans ((below_regrown wr dq osq).mono HB.out.size))
          go_wp2
          go_roundw
          case rel => exact ⟨k + 1, by omega, by go_num, Lib.hid (by rw [HT.out, HT2.out, HK.out, HR.out]), HBQ⟩
          case measure => simp [intOf]; omega
        | false =>
          have HR := Lib.hid (HS.out (by rw [hsb, hv, hs]; rfl))
          rw [hs] at CC
          clear hsb hs
          go_wp2_with fail
          clear c0 d0 x0 x1 x2 x3 x4 x5 y0 y1 y2 y3 y4 y5
          refine wp_region_quiet_below (by kernel_rfl) (by kernel_rfl) ?_
          repeat (quiet_step (first | (with_reducible exact CC _ _)))
          refine wpQuiet_nil ?_
          intro _ hw'
          obtain ⟨⟨dq, osq⟩, hw''⟩ := hw'
          subst hw''
          have HBQ := Lib.hid (HB.out.trans ((below_regrown wr dq osq).mono HB.out.size))
          go_wp2
          go_ret
          exact ⟨ret_bool0 HR.out.symm, HB0.out.trans (HBQ.out.mono HPS.out)⟩
    · have HE : Hid (decide (cs = bs) = true) := Lib.hid (same_all (by rw [← HN.out, HM.out]) (by have := HK.out; rwa [show k = cs.length by have := HN.out; omega] at this))
      go_wp2
      go_ret
      exact ⟨ret_bool0 HE.out.symm, HB0.out.trans (HB.out.mono HPS.out)⟩
end Go.Proofs.Ytppacelaeaaodaa
