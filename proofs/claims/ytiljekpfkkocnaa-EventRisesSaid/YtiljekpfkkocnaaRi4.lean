/- The walk of EventRises. -/
import Derived.Test.YtiljekpfkkocnaaRi4a
import Derived.IntWalk
namespace Go.Proofs.Ytiljekpfkkocnaa
open Go Go.RowKit

set_option maxRecDepth 100000 in
set_option maxHeartbeats 3200000 in
theorem rises_walk (xs : List Op4) (v : Value) (W : World) (hx : Ov W W.heap.size v xs) :
    Calls Try.prog 9 #[v] W fun e w' => e = .returned (.bool true) ∧ Below W.heap.size W w' := by
  obtain ⟨ao, cap, rfl, hcap, hcap2, hrow⟩ := hx.row
  obtain ⟨B, hB⟩ : ∃ B, B = W.heap.size := ⟨_, rfl⟩
  have CN := eNew_ok 4 (by decide) (by decide) W
  obtain ⟨N, hN⟩ : ∃ N, N = xs.length := ⟨_, rfl⟩
  have hlen := hx.len
  rw [← hN] at hlen
  have HX := hide hx
  have HCN := hide CN; have HB := hide hB; have HN := hide hN; have HROW := hide hrow
  rw [← hN] at hcap ⊢
  clear hx hrow CN hB hN
  go_enter Try.func9, Try.ntmps9
  go_wp2_with fail
  refine HCN.out.mono ?_
  rw [← HB.out]
  rintro e w1 ⟨rfl, hs1, hb1⟩
  have HS1 := hide hs1; have HB1 := hide hb1
  clear hs1 hb1
  go_wp2_with fail
  refine (begun4_any w1).mono ?_
  rintro e w2 ⟨rfl, hb2⟩
  have HB2 := hide (HB1.out.trans (hb2.mono (by have := HB1.out.size; rw [HB.out]; exact this)))
  have HS2 := hide (HS1.out.below hb2)
  clear hb2
  go_wp2_with fail
  obtain ⟨n0, hn0⟩ : ∃ n, n = w2.heap.size := ⟨_, rfl⟩
  obtain ⟨w3, hw3⟩ : ∃ w3, w3 = (w2.alloc (.cells #[.int .i64 0, .int .i64 0, .int .i64 0, .int .i64 0] 86)).alloc (.cells #[.int .i64 0, .int .i64 0, .int .i64 0, .int .i64 0] 86) := ⟨_, rfl⟩
  have hB2 : B ≤ w2.heap.size := by have := HB2.out.size; rw [HB.out]; exact this
  have hBn : B < n0 := by rw [hn0]; exact HS2.out.flt B rfl
  have HRS : Hid (Rs W B n0 (n0 + 1) (fun b => b = B) sd0 [] w3) := by
    have hal : Below w2.heap.size w2 w3 := by rw [hw3]; exact ((Below.refl _ _).alloc (Nat.le_refl _) _).alloc (by simp) _
    refine hide ⟨by rw [← HB.out]; exact HB2.out.trans (hal.mono hB2), HS2.out.below hal, fun b hb => by rw [hb, HB.out]; exact Nat.le_refl _, by omega, by omega, by rw [← HB.out]; omega, by rw [← HB.out]; omega, by omega, ?_, ?_, fun j hj => ?_⟩
    · rw [hw3, hn0]; exact heap_alloc_keeps (heap_alloc_new w2 _) _
    · rw [hw3, hn0]; exact heap_alloc_at (by simp) rfl
    · match j, hj with
      | 0, _ => decide
      | 1, _ => decide
      | 2, _ => decide
      | 3, _ => decide
  rw [← hn0, ← hw3]
  clear hn0 hw3 hB2 hBn
  go_loopw [30] (fun i wr => ∃ (k : Nat) (F : Nat → Prop) (sd : List Sd) (evs : List Ev), k ≤ N ∧ i = .int .i64 (k : Int) ∧ Hid (Rs W B n0 (n0 + 1) F sd evs wr)) (fun i _ => N - (intOf i).toNat)
  case atStart => exact ⟨0, _, _, _, Nat.zero_le _, rfl, HRS⟩
  case round =>
    obtain ⟨k, F, sd, evs, hk, rfl, HRr⟩ := hrel
    by_cases hlt : k < N
    · have hkl : k < xs.length := by rw [← HN.out]; exact hlt
      obtain ⟨b, o, rfl, hb, hcell⟩ := HROW.out (by omega)
      obtain ⟨x, hx⟩ : ∃ x, x = xs[k]! := ⟨_, rfl⟩
      have hmem : x ∈ xs := by rw [hx, getElem!_pos xs k hkl]; exact List.getElem_mem _
      obtain ⟨hty, ⟨xo, xn, xc, hxv, hxav, hxnil⟩, hxn⟩ := HX.out.each x hmem
      have hcl : ∀ i u, (encO x)[i]? = some u → wr.cell? ⟨b, o + k * 7 + i, none⟩ = some u := fun i u hu => (HRr.out.below.cell hb).trans (hcell k hkl i u (by rw [← hx]; exact hu))
      have a0 : wr.cell? ⟨b, o + k * 7, none⟩ = some (.int .i64 x.do_) := hcl 0 _ rfl
      have a1 : wr.cell? ⟨b, o + k * 7 + 1, none⟩ = some (.int .i64 x.ev.src) := hcl 1 _ rfl
      have a2 : wr.cell? ⟨b, o + k * 7 + 2, none⟩ = some (.int .i64 x.ev.seq) := hcl 2 _ rfl
      have a3 : wr.cell? ⟨b, o + k * 7 + 3, none⟩ = some (.int .i64 x.ev.time) := hcl 3 _ rfl
      have a4 : wr.cell? ⟨b, o + k * 7 + 4, none⟩ = some (.string x.ev.ty) := hcl 4 _ rfl
      have a5 : wr.cell? ⟨b, o + k * 7 + 5, none⟩ = some x.v := hcl 5 _ rfl
      have a6 : wr.cell? ⟨b, o + k * 7 + 6, none⟩ = some (.int .i64 x.src) := hcl 6 _ rfl
      rw [hxv] at a5
      have HTY := hide hty; have HXV := hide hxv; have HXAV := hide hxav
      have hkz : (0 : Int) ≤ (k : Int) := by omega
      clear hty hxv hxav hxn hcl hcell hx hmem hb hkl hxnil
      go_wp2_with fail
      obtain ⟨P, hP⟩ : ∃ P, P = wr.heap.size := ⟨_, rfl⟩
      obtain ⟨w4, hw4⟩ : ∃ w4, w4 = (wr.alloc (.cells #[.int .i64 x.do_, .int .i64 x.ev.src, .int .i64 x.ev.seq, .int .i64 x.ev.time, .string x.ev.ty, .slice xo xn xc, .int .i64 x.src] 73)).alloc (.cells #[.int .i64 0, .int .i64 0, .int .i64 0, .int .i64 0] 86) := ⟨_, rfl⟩
      have hr := HRr.out
      have hal : Below wr.heap.size wr w4 := by rw [hw4]; exact ((Below.refl _ _).alloc (Nat.le_refl _) _).alloc (by simp) _
      have hn0lt := lt_of_block hr.bn; have hl0lt := lt_of_block hr.bl
      have HR4 : Hid (Rr W B n0 (n0 + 1) P x (fun _ => 0) F sd evs w4) := by
        refine hide ⟨hr.call hal, by rw [hP]; exact hr.below.size, by omega, by omega, by omega, by omega, ?_, ?_, fun hf => ?_, fun hf => ?_, ?_⟩
        · rw [hw4, hP]
          have e := heap_alloc_keeps (heap_alloc_new wr (.cells #[.int .i64 x.do_, .int .i64 x.ev.src, .int .i64 x.ev.seq, .int .i64 x.ev.time, .string x.ev.ty, .slice xo xn xc, .int .i64 x.src] 73)) (.cells #[.int .i64 0, .int .i64 0, .int .i64 0, .int .i64 0] 86)
          rw [e]; unfold encO; rw [HXV.out]
        · rw [hw4, hP]; exact heap_alloc_at (by simp) rfl
        · have := hr.st.flt _ hf; omega
        · have := hr.st.flt _ hf; omega
        · rw [HXV.out]; exact (HXAV.out.below hr.below (Nat.le_refl _)).below hal hr.below.size
      rw [← hP, ← hw4]
      clear hP hw4 hr hal hn0lt hl0lt a0 a1 a2 a3 a4 a5 a6
      go_loopw [34] (fun i wr => ∃ (k : Nat) (m : Nat → Int), k ≤ 4 ∧ i = .int .i64 (k : Int) ∧ (∀ j, j < k → m j = markI sd[j]!) ∧ Hid (Rr W B n0 (n0 + 1) P x m F sd evs wr)) (fun i _ => 4 - (intOf i).toNat)
      case atStart => exact ⟨0, _, Nat.zero_le _, rfl, fun j hj => by omega, HR4⟩
      case round =>
        obtain ⟨kk, m, hkk, rfl, hm, HRv⟩ := hrel
        have HM := hide hm
        by_cases hk4 : kk < 4
        · have CM := sMark_any F B 4 sd evs (kk : Int) wr HRv.out.rs.st
          rw [saidAt_nat hk4] at CM
          obtain ⟨M, hM⟩ : ∃ M, M = markI sd[kk]! := ⟨_, rfl⟩
          rw [← hM] at CM
          have HMM := hide hM
          have HCM := hide CM
          have hkz2 : (0 : Int) ≤ (kk : Int) := by omega
          have hk42 : (kk : Int) < 4 := by omega
          clear hm CM hM
          go_wp2_with fail
          refine HCM.out.mono ?_
          rintro e w5 ⟨rfl, hb5⟩
          have HR5 := hide (HRv.out.call hb5)
          clear hb5
          have c1 := cells4_at HR5.out.bw kk hk4
          have f1 := cells4_free HR5.out.bw kk
          go_wp2
          go_roundw
          case rel =>
            refine ⟨kk + 1, fun i => if i = kk then M else m i, by omega, by go_num, fun i hi => ?_, ?_⟩
            · show (if i = kk then M else m i) = _
              by_cases he : i = kk
              · rw [if_pos he, he]; exact HMM.out
              · rw [if_neg he]; exact HM.out i (by omega)
            · exact HR5.out.mark kk hk4 _
          case measure => simp [intOf]; omega
        · obtain rfl : kk = 4 := by omega
          have HB0 := HRv
          obtain ⟨o0, o1, o2, o3, o4, o5, o6⟩ := HRv.out.op
          rw [HXV.out] at o5
          clear hm hk4
          by_cases hdo : x.do_ = 1
          · rw [hdo] at o0
            have CC := sClose_any F B 4 sd evs x.src wr HRv.out.rs.st
            have HCC := hide CC
            clear CC
            go_wp2_with fail
            refine HCC.out.mono ?_
            rintro e w5 ⟨rfl, hs5, hc5⟩
            obtain ⟨sd', hsd'⟩ : ∃ sd', sd' = clsSd 4 sd x.src := ⟨_, rfl⟩
            have HMO : Hid (∀ j, j < 4 → m j ≤ markI sd'[j]!) := fun j hj => by rw [HM.out j hj, hsd']; exact clsSd_mark 4 sd x.src j (HRv.out.rs.ts j hj)
            have HRt := hide (HRv.out.turn hs5 hc5 (fun b hb => .inl hb) (fun j _ => (clsSd_same 4 sd x.src j).1) (fun j _ => (clsSd_same 4 sd x.src j).2))
            rw [← hsd'] at HRt
            obtain ⟨F', hF'⟩ : ∃ F', F' = F := ⟨_, rfl⟩
            obtain ⟨evs', hevs'⟩ : ∃ evs', evs' = evs := ⟨_, rfl⟩
            rw [← hF', ← hevs'] at HRt
            clear hs5 hc5 hsd' hF' hevs' o0 o1 o2 o3 o4 o5 o6 hdo HCC
            go_wp2_with fail
            go_loopw [109] (fun i wr => ∃ (k : Nat), k ≤ 4 ∧ i = .int .i64 (k : Int) ∧ Hid (Rr W B n0 (n0 + 1) P x m F' sd' evs' wr)) (fun i _ => 4 - (intOf i).toNat)
            case atStart => exact ⟨0, Nat.zero_le _, rfl, HRt⟩
            case round =>
              obtain ⟨kt, hkt, rfl, HRv⟩ := hrel
              by_cases hk4 : kt < 4
              · have CM := sMark_any F' B 4 sd' evs' (kt : Int) wr.drew HRv.out.drew.rs.st
                rw [saidAt_nat hk4] at CM
                have hmk := HMO.out kt hk4
                have c1 := cells4_at HRv.out.drew.bw kt hk4
                have c2 := fun (w' : World) (hb : Below wr.drew.heap.size wr.drew w') => cells4_at (HRv.out.drew.call hb).bw kt hk4
                obtain ⟨M, hM⟩ : ∃ M, M = markI sd'[kt]! := ⟨_, rfl⟩
                rw [← hM] at CM hmk
                have hlt3 : decide (M < m kt) = false := by simp; omega
                obtain ⟨mk, hmk2⟩ : ∃ mk, mk = m kt := ⟨_, rfl⟩
                rw [← hmk2] at hlt3 c1 c2
                have hkz3 : (0 : Int) ≤ (kt : Int) := by omega
                have hk43 : (kt : Int) < 4 := by omega
                have HCM := hide CM; have HC2 := hide c2
                clear CM hM hmk hmk2 c2
                go_wp2_with fail
                go_region_with (go_at_call 47; refine HCM.out.mono ?_; rintro e w5 ⟨rfl, hb5⟩; have HB5 := hide hb5; have c2 := HC2.out w5 hb5; clear hb5)
                all_goals
                  go_wp2
                  go_roundw
                  case rel => exact ⟨kt + 1, by omega, by go_num, HRv.out.drew.call HB5.out⟩
                  case measure => simp [intOf]; omega
              · go_wp2
                go_roundw
                case rel => exact ⟨k + 1, F', sd', evs', by omega, by go_num, HRv.out.rs⟩
                case measure => simp [intOf]; omega
          · have hdo2 : (x.do_ == 1) = false := by simp [hdo]
            by_cases hs0 : 0 ≤ x.ev.src
            · by_cases hs4 : x.ev.src < 4
              · obtain ⟨S, hS⟩ : ∃ S : Nat, x.ev.src = (S : Int) := ⟨x.ev.src.toNat, by omega⟩
                have hS4 : S < 4 := by omega
                have hd0 : decide (x.ev.src ≥ 0) = true := by simp; omega
                have hd1 : decide (x.ev.src < 4) = true := by simp; omega
                have CG := sClosed_any F B 4 sd evs x.ev.src wr HRv.out.rs.st
                rw [hS, saidAt_nat hS4] at CG
                have HCG := hide CG
                rw [hS] at o1 hd0 hd1
                clear CG hs0 hs4
                go_wp2_with fail
                refine HCG.out.mono ?_
                rintro e w5 ⟨rfl, hb5⟩
                have HR5 := hide (HRv.out.call hb5)
                clear hb5 o0 o1 o2 o3 o4 o5 o6
                obtain ⟨o0, o1, o2, o3, o4, o5, o6⟩ := HR5.out.op
                rw [HXV.out] at o5
                rw [hS] at o1
                have hav := HR5.out.av
                rw [HXV.out] at hav
                have HSS := hide hS
                by_cases hacc : accErr 4 sd evs.length x.ev = 0
                · have CA := sAccept_ok F B 4 sd evs x.ev W.heap.size xo xn xc w5 HR5.out.rs.st hav HR5.out.rs.below.size HTY.out (fun a ha hn hf => by
                    obtain ⟨b1, q1, e1, e2, _⟩ := HXAV.out.at hn
                    rw [ha] at e1
                    simp only [Option.some.injEq] at e1
                    have := HR5.out.rs.fB _ hf
                    rw [e1] at this
                    simp only at this
                    omega) hacc
                  unfold evV at CA
                  rw [hS] at CA
                  obtain ⟨z1, z2, z3, z4, z5, z6⟩ := accErr_zero hacc
                  obtain ⟨-, -, y3, y4, y5, y6⟩ := evB_parts (ckE_zero z1).1
                  have hSn : x.ev.src.toNat = S := by omega
                  rw [hSn] at z3 z4 z5
                  have HCA := hide CA; have HZ3 := hide z3; have HZ4 := hide z4; have HZ5 := hide z5; have HY6 := hide y6
                  rw [z3]
                  clear CA hav
                  go_wp2_with fail
                  refine HCA.out.mono ?_
                  rintro e w6 ⟨rfl, hp⟩
                  have bo6 := chg_low hp.2 HR5.out.bo HR5.out.no
                  have bw6 := chg_low hp.2 HR5.out.bw HR5.out.nw
                  have bn6 := chg_low hp.2 HR5.out.rs.bn HR5.out.rs.nn
                  have bl6 := chg_low hp.2 HR5.out.rs.bl HR5.out.rs.nl
                  have HP := hide hp
                  clear o0 o1 o2 o3 o4 o5 o6
                  obtain ⟨-, -, o2, o3, -, -, -⟩ := op_cells bo6
                  obtain ⟨-, -, p2, p3, -, -, -⟩ := op_cells (w := w6.drew) bo6
                  have cn := cells4_at bn6 S hS4; have cl := cells4_at bl6 S hS4; have cm := cells4_at bw6 S hS4
                  have dn := cells4_at (w := w6.drew) bn6 S hS4; have dl := cells4_at (w := w6.drew) bl6 S hS4; have dm := cells4_at (w := w6.drew) bw6 S hS4
                  have fn := cells4_free (w := w6.drew) bn6 S; have fl := cells4_free (w := w6.drew) bl6 S; have en := cells4_free bn6 S; have el := cells4_free bl6 S
                  have hmS : m S = sd[S]!.last := by rw [HM.out S hS4]; unfold markI; rw [HZ3.out]; rfl
                  rw [hmS] at cm dm
                  rw [HZ4.out] at cn dn
                  obtain ⟨L, hL⟩ : ∃ L, L = sd[S]!.last := ⟨_, rfl⟩
                  have hz5 := HZ5.out
                  rw [← hL] at cl dl cm dm hz5
                  have ht1 : decide (x.ev.time < L) = false := by simp; omega
                  have ht2 : (x.ev.seq != x.ev.seq) = false := by simp
                  have hn1 : P ≠ n0 := HR5.out.pn
                  have hn2 : P ≠ n0 + 1 := HR5.out.pl
                  have hSz : (0 : Int) ≤ (S : Int) := by omega
                  have hS4' : (S : Int) < 4 := by omega
                  clear hp bo6 bw6 bn6 bl6 hmS hL
                  go_wp2_with fail
                  go_quiet (fail)
                  go_wp2_with fail
                  have hp := HP.out.drewN nq
                  have HRt := hide (HR5.out.acc hS4 HSS.out (by have := HY6.out; omega) hp (x.ev.seq + 1) (by rw [HZ4.out]))
                  have hmo : ∀ j, j < 4 → m j ≤ markI (accSd sd x.ev)[j]! := fun j hj => by rw [HM.out j hj]; exact accSd_mark HSS.out (by have := HR5.out.rs.st.sdl; omega) HZ3.out HZ5.out j
                  obtain ⟨F', hF'⟩ : ∃ F', F' = Fnew F w5.heap.size (w6.drewN nq).heap.size := ⟨_, rfl⟩
                  obtain ⟨evs', hevs'⟩ : ∃ evs', evs' = evs ++ [x.ev] := ⟨_, rfl⟩
                  obtain ⟨sd', hsd'⟩ : ∃ sd', sd' = accSd sd x.ev := ⟨_, rfl⟩
                  rw [← hF', ← hevs', ← hsd'] at HRt
                  rw [← hsd'] at hmo
                  have HMO := hide hmo
                  clear hF' hevs' hsd' hmo hp o2 o3 p2 p3 cn cl cm dn dl dm fn fl en el ht1 ht2 hz5 hn1 hn2
                  go_loopw [109] (fun i wr => ∃ (k : Nat), k ≤ 4 ∧ i = .int .i64 (k : Int) ∧ Hid (Rr W B n0 (n0 + 1) P x m F' sd' evs' wr)) (fun i _ => 4 - (intOf i).toNat)
                  case atStart => exact ⟨0, Nat.zero_le _, rfl, HRt⟩
                  case round =>
                    obtain ⟨kt, hkt, rfl, HRv⟩ := hrel
                    by_cases hk4 : kt < 4
                    · have CM := sMark_any F' B 4 sd' evs' (kt : Int) wr.drew HRv.out.drew.rs.st
                      rw [saidAt_nat hk4] at CM
                      have hmk := HMO.out kt hk4
                      have c1 := cells4_at HRv.out.drew.bw kt hk4
                      have c2 := fun (w' : World) (hb : Below wr.drew.heap.size wr.drew w') => cells4_at (HRv.out.drew.call hb).bw kt hk4
                      obtain ⟨M, hM⟩ : ∃ M, M = markI sd'[kt]! := ⟨_, rfl⟩
                      rw [← hM] at CM hmk
                      have hlt3 : decide (M < m kt) = false := by simp; omega
                      obtain ⟨mk, hmk2⟩ : ∃ mk, mk = m kt := ⟨_, rfl⟩
                      rw [← hmk2] at hlt3 c1 c2
                      have hkz3 : (0 : Int) ≤ (kt : Int) := by omega
                      have hk43 : (kt : Int) < 4 := by omega
                      have HCM := hide CM; have HC2 := hide c2
                      clear CM hM hmk hmk2 c2
                      go_wp2_with fail
                      go_region_with (go_at_call 47; refine HCM.out.mono ?_; rintro e w5 ⟨rfl, hb5⟩; have HB5 := hide hb5; have c2 := HC2.out w5 hb5; clear hb5)
                      all_goals
                        go_wp2
                        go_roundw
                        case rel => exact ⟨kt + 1, by omega, by go_num, HRv.out.drew.call HB5.out⟩
                        case measure => simp [intOf]; omega
                    · go_wp2
                      go_roundw
                      case rel => exact ⟨k + 1, F', sd', evs', by omega, by go_num, HRv.out.rs⟩
                      case measure => simp [intOf]; omega
                · have CA := sAccept_err F B 4 sd evs x.ev W.heap.size xo xn xc w5 HR5.out.rs.st hav HR5.out.rs.below.size HTY.out hacc
                  unfold evV at CA
                  rw [hS] at CA
                  obtain ⟨c, hc⟩ : ∃ c, c = accErr 4 sd evs.length x.ev := ⟨_, rfl⟩
                  rw [← hc] at CA hacc
                  have b1 : (c == 0) = false := by simp [hacc]
                  have b2 : (c != 0) = true := by simp [hacc]
                  have HCA := hide CA
                  clear CA hc hav
                  go_wp2_with fail
                  refine HCA.out.mono ?_
                  rintro e w6 ⟨rfl, hb6⟩
                  have HRt := hide (HR5.out.call hb6)
                  clear hb6 o0 o1 o2 o3 o4 o5 o6
                  obtain ⟨F', hF'⟩ : ∃ F', F' = F := ⟨_, rfl⟩
                  obtain ⟨evs', hevs'⟩ : ∃ evs', evs' = evs := ⟨_, rfl⟩
                  obtain ⟨sd', hsd'⟩ : ∃ sd', sd' = sd := ⟨_, rfl⟩
                  have HMO : Hid (∀ j, j < 4 → m j ≤ markI sd'[j]!) := fun j hj => by rw [HM.out j hj, hsd']; exact Int.le_refl _
                  rw [← hF', ← hevs', ← hsd'] at HRt
                  clear hF' hevs' hsd'
                  go_wp2_with fail
                  go_loopw [109] (fun i wr => ∃ (k : Nat), k ≤ 4 ∧ i = .int .i64 (k : Int) ∧ Hid (Rr W B n0 (n0 + 1) P x m F' sd' evs' wr)) (fun i _ => 4 - (intOf i).toNat)
                  case atStart => exact ⟨0, Nat.zero_le _, rfl, HRt⟩
                  case round =>
                    obtain ⟨kt, hkt, rfl, HRv⟩ := hrel
                    by_cases hk4 : kt < 4
                    · have CM := sMark_any F' B 4 sd' evs' (kt : Int) wr.drew HRv.out.drew.rs.st
                      rw [saidAt_nat hk4] at CM
                      have hmk := HMO.out kt hk4
                      have c1 := cells4_at HRv.out.drew.bw kt hk4
                      have c2 := fun (w' : World) (hb : Below wr.drew.heap.size wr.drew w') => cells4_at (HRv.out.drew.call hb).bw kt hk4
                      obtain ⟨M, hM⟩ : ∃ M, M = markI sd'[kt]! := ⟨_, rfl⟩
                      rw [← hM] at CM hmk
                      have hlt3 : decide (M < m kt) = false := by simp; omega
                      obtain ⟨mk, hmk2⟩ : ∃ mk, mk = m kt := ⟨_, rfl⟩
                      rw [← hmk2] at hlt3 c1 c2
                      have hkz3 : (0 : Int) ≤ (kt : Int) := by omega
                      have hk43 : (kt : Int) < 4 := by omega
                      have HCM := hide CM; have HC2 := hide c2
                      clear CM hM hmk hmk2 c2
                      go_wp2_with fail
                      go_region_with (go_at_call 47; refine HCM.out.mono ?_; rintro e w5 ⟨rfl, hb5⟩; have HB5 := hide hb5; have c2 := HC2.out w5 hb5; clear hb5)
                      all_goals
                        go_wp2
                        go_roundw
                        case rel => exact ⟨kt + 1, by omega, by go_num, HRv.out.drew.call HB5.out⟩
                        case measure => simp [intOf]; omega
                    · go_wp2
                      go_roundw
                      case rel => exact ⟨k + 1, F', sd', evs', by omega, by go_num, HRv.out.rs⟩
                      case measure => simp [intOf]; omega
              · have hd0 : decide (x.ev.src ≥ 0) = true := by simp; omega
                have hd1 : decide (x.ev.src < 4) = false := by simp; omega
                have HRt := HRv
                obtain ⟨F', hF'⟩ : ∃ F', F' = F := ⟨_, rfl⟩
                obtain ⟨evs', hevs'⟩ : ∃ evs', evs' = evs := ⟨_, rfl⟩
                obtain ⟨sd', hsd'⟩ : ∃ sd', sd' = sd := ⟨_, rfl⟩
                have HMO : Hid (∀ j, j < 4 → m j ≤ markI sd'[j]!) := fun j hj => by rw [HM.out j hj, hsd']; exact Int.le_refl _
                rw [← hF', ← hevs', ← hsd'] at HRt
                clear hF' hevs' hsd'
                go_wp2_with fail
                clear o0 o1 o2 o3 o4 o5 o6
                go_loopw [109] (fun i wr => ∃ (k : Nat), k ≤ 4 ∧ i = .int .i64 (k : Int) ∧ Hid (Rr W B n0 (n0 + 1) P x m F' sd' evs' wr)) (fun i _ => 4 - (intOf i).toNat)
                case atStart => exact ⟨0, Nat.zero_le _, rfl, HRt⟩
                case round =>
                  obtain ⟨kt, hkt, rfl, HRv⟩ := hrel
                  by_cases hk4 : kt < 4
                  · have CM := sMark_any F' B 4 sd' evs' (kt : Int) wr.drew HRv.out.drew.rs.st
                    rw [saidAt_nat hk4] at CM
                    have hmk := HMO.out kt hk4
                    have c1 := cells4_at HRv.out.drew.bw kt hk4
                    have c2 := fun (w' : World) (hb : Below wr.drew.heap.size wr.drew w') => cells4_at (HRv.out.drew.call hb).bw kt hk4
                    obtain ⟨M, hM⟩ : ∃ M, M = markI sd'[kt]! := ⟨_, rfl⟩
                    rw [← hM] at CM hmk
                    have hlt3 : decide (M < m kt) = false := by simp; omega
                    obtain ⟨mk, hmk2⟩ : ∃ mk, mk = m kt := ⟨_, rfl⟩
                    rw [← hmk2] at hlt3 c1 c2
                    have hkz3 : (0 : Int) ≤ (kt : Int) := by omega
                    have hk43 : (kt : Int) < 4 := by omega
                    have HCM := hide CM; have HC2 := hide c2
                    clear CM hM hmk hmk2 c2
                    go_wp2_with fail
                    go_region_with (go_at_call 47; refine HCM.out.mono ?_; rintro e w5 ⟨rfl, hb5⟩; have HB5 := hide hb5; have c2 := HC2.out w5 hb5; clear hb5)
                    all_goals
                      go_wp2
                      go_roundw
                      case rel => exact ⟨kt + 1, by omega, by go_num, HRv.out.drew.call HB5.out⟩
                      case measure => simp [intOf]; omega
                  · go_wp2
                    go_roundw
                    case rel => exact ⟨k + 1, F', sd', evs', by omega, by go_num, HRv.out.rs⟩
                    case measure => simp [intOf]; omega
            · have hd0 : decide (x.ev.src ≥ 0) = false := by simp; omega
              have HRt := HRv
              obtain ⟨F', hF'⟩ : ∃ F', F' = F := ⟨_, rfl⟩
              obtain ⟨evs', hevs'⟩ : ∃ evs', evs' = evs := ⟨_, rfl⟩
              obtain ⟨sd', hsd'⟩ : ∃ sd', sd' = sd := ⟨_, rfl⟩
              have HMO : Hid (∀ j, j < 4 → m j ≤ markI sd'[j]!) := fun j hj => by rw [HM.out j hj, hsd']; exact Int.le_refl _
              rw [← hF', ← hevs', ← hsd'] at HRt
              clear hF' hevs' hsd'
              go_wp2_with fail
              clear o0 o1 o2 o3 o4 o5 o6
              go_loopw [109] (fun i wr => ∃ (k : Nat), k ≤ 4 ∧ i = .int .i64 (k : Int) ∧ Hid (Rr W B n0 (n0 + 1) P x m F' sd' evs' wr)) (fun i _ => 4 - (intOf i).toNat)
              case atStart => exact ⟨0, Nat.zero_le _, rfl, HRt⟩
              case round =>
                obtain ⟨kt, hkt, rfl, HRv⟩ := hrel
                by_cases hk4 : kt < 4
                · have CM := sMark_any F' B 4 sd' evs' (kt : Int) wr.drew HRv.out.drew.rs.st
                  rw [saidAt_nat hk4] at CM
                  have hmk := HMO.out kt hk4
                  have c1 := cells4_at HRv.out.drew.bw kt hk4
                  have c2 := fun (w' : World) (hb : Below wr.drew.heap.size wr.drew w') => cells4_at (HRv.out.drew.call hb).bw kt hk4
                  obtain ⟨M, hM⟩ : ∃ M, M = markI sd'[kt]! := ⟨_, rfl⟩
                  rw [← hM] at CM hmk
                  have hlt3 : decide (M < m kt) = false := by simp; omega
                  obtain ⟨mk, hmk2⟩ : ∃ mk, mk = m kt := ⟨_, rfl⟩
                  rw [← hmk2] at hlt3 c1 c2
                  have hkz3 : (0 : Int) ≤ (kt : Int) := by omega
                  have hk43 : (kt : Int) < 4 := by omega
                  have HCM := hide CM; have HC2 := hide c2
                  clear CM hM hmk hmk2 c2
                  go_wp2_with fail
                  go_region_with (go_at_call 47; refine HCM.out.mono ?_; rintro e w5 ⟨rfl, hb5⟩; have HB5 := hide hb5; have c2 := HC2.out w5 hb5; clear hb5)
                  all_goals
                    go_wp2
                    go_roundw
                    case rel => exact ⟨kt + 1, by omega, by go_num, HRv.out.drew.call HB5.out⟩
                    case measure => simp [intOf]; omega
                · go_wp2
                  go_roundw
                  case rel => exact ⟨k + 1, F', sd', evs', by omega, by go_num, HRv.out.rs⟩
                  case measure => simp [intOf]; omega

    · go_wp2
      go_ret
      exact ⟨rfl, HRr.out.below⟩
end Go.Proofs.Ytiljekpfkkocnaa
