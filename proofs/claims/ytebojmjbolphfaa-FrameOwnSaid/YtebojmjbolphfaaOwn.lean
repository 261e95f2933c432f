/- The walk of FrameOwn, step by step. -/
import Derived.Test.YtebojmjbolphfaaOwnw
namespace Go.Proofs.Ytebojmjbolphfaa
open Go Go.RowKit Crc

set_option maxRecDepth 100000 in
set_option maxHeartbeats 3200000 in
theorem own_walk (f t k s a : Int) (ao : Option Addr) (n cap : Nat) (x : List Nat) (w : World) (hx : Bv w w.heap.size (.slice ao n cap) x) :
    Calls Try.prog 9 #[.agg #[.int .i64 f, .int .i64 t, .int .i64 k, .int .i64 s, .int .i64 a, .slice ao n cap]] w fun e w' => e = .returned (.bool true) ∧ Below w.heap.size w w' := by
  have HB := hide (Bo.new (cs := #[.int .i64 f, .int .i64 t, .int .i64 k, .int .i64 s, .int .i64 a, .slice ao n cap]) hx)
  have hxn := hx.bytesIn.1
  have Hxs := hide hx.small; have Hxl := hide hx.len
  have HC1 := hide (fun (w' : World) (h1 : Bv w' w.heap.size (.slice ao n cap) x) (h3 : w.heap.size ≤ w'.heap.size) => r2Clone_any f t k s a ao n cap w.heap.size x w' h1 h3)
  have HC2 := hide (fun (w' : World) (h1 : Bv w' w.heap.size (.slice ao n cap) x) (h3 : w.heap.size ≤ w'.heap.size) => fClone_any f t k s a ao n cap w.heap.size x w' h1 h3)
  have hE0 : ckErr f t k s a n = 0 → decErr (encN f t k s a x) = 0 ∧ decF (encN f t k s a x) = f ∧ decT (encN f t k s a x) = t ∧ decK (encN f t k s a x) = k ∧ decS (encN f t k s a x) = s ∧ decA (encN f t k s a x) = a ∧ decX (encN f t k s a x) = x := fun h => by
    cases hc : ckB f t k s a n with
    | false => rw [ckErr_no hc] at h; omega
    | true => exact dec_enc hx.small (by rw [← hxn]; exact hc)
  have hCE := fun (w' : World) (h1 : Bv w' w.heap.size (.slice ao n cap) x) (h3 : w.heap.size ≤ w'.heap.size) => fEncode_any f t k s a ao n cap w.heap.size x w' h1 h3
  have hbs := enc_small f t k s a x
  have hbl := enc_len f t k s a x
  obtain ⟨b, hb0⟩ : ∃ b, b = encN f t k s a x := ⟨_, rfl⟩
  rw [← hb0] at hE0 hCE hbs hbl
  obtain ⟨er, her⟩ : ∃ er, er = ckErr f t k s a n := ⟨_, rfl⟩
  rw [← her] at hE0 hCE
  have hDec := fun (w' : World) (B : Nat) (v : Value) (h : Bv w' B v b) (h2 : B ≤ w'.heap.size) => fDecode_any B v b w' h h2
  unfold DecPost at hDec
  obtain ⟨de, hde⟩ : ∃ de, de = decErr b := ⟨_, rfl⟩
  obtain ⟨df, hdf⟩ : ∃ df, df = decF b := ⟨_, rfl⟩
  obtain ⟨dt, hdt⟩ : ∃ dt, dt = decT b := ⟨_, rfl⟩
  obtain ⟨dk, hdk⟩ : ∃ dk, dk = decK b := ⟨_, rfl⟩
  obtain ⟨ds, hds⟩ : ∃ ds, ds = decS b := ⟨_, rfl⟩
  obtain ⟨da, hda⟩ : ∃ da, da = decA b := ⟨_, rfl⟩
  obtain ⟨xs, hxs⟩ : ∃ xs, xs = decX b := ⟨_, rfl⟩
  rw [← hde, ← hdf, ← hdt, ← hdk, ← hds, ← hda, ← hxs] at hE0 hDec
  obtain ⟨nb, hnb⟩ : ∃ nb, nb = b.length := ⟨_, rfl⟩
  rw [← hnb] at hCE hbl
  obtain ⟨nx, hnx⟩ : ∃ nx, nx = xs.length := ⟨_, rfl⟩
  rw [← hnx] at hDec
  have HDec := hide hDec; have HNb := hide hnb; have HNx := hide hnx
  have HCE := hide hCE; have HE0 := hide hE0; have HBs := hide hbs; have HBl := hide hbl
  have HSame := hide (fun (f' t' k' s' a' : Int) (ao' ao2 : Option Addr) (n' cap' n2 cap2 B B' : Nat) (x' : List Nat) (w' : World) (h1 : Bv w' B (.slice ao' n' cap') x') (h2 : Bv w' B' (.slice ao2 n2 cap2) x') (h3 : B ≤ w'.heap.size) (h4 : B' ≤ w'.heap.size) => r2Same_any f' t' k' s' a' f' t' k' s' a' ao' ao2 n' cap' n2 cap2 B B' x' x' w' h1 h2 h3 h4)
  clear hx hxn hCE hE0 hb0 her hbs hbl hDec hde hdf hdt hdk hds hda hxs hnb hnx
  go_enter Try.func9, Try.ntmps9
  go_wp2_with fail
  refine (HC1.out _ HB.out.hx (Nat.le_of_lt HB.out.sz)).mono ?_
  rintro e w1 ⟨vw, rfl, ho, hb⟩
  obtain ⟨aw, capw, rfl⟩ := own_slice ho
  have hvw := Bv.of_own ho Hxs.out Hxl.out
  have hO := Oo.new (HB.out.call hb) #[.int .i64 f, .int .i64 t, .int .i64 k, .int .i64 s, .int .i64 a, .slice aw x.length capw] hvw
  obtain ⟨X, hX⟩ : ∃ X, X = x.length := ⟨_, rfl⟩
  rw [← hX] at hO ⊢
  have HX := hide hX
  have HO := hide hO
  clear ho hb hvw hO HB hX
  obtain ⟨Q, hQ⟩ : ∃ Q, Q = w1.heap.size := ⟨_, rfl⟩
  have HQ := hide hQ
  rw [← hQ] at HO
  obtain ⟨c0, c1, c2, c3, c4, c5⟩ := cell_of_six HO.out.bx
  go_wp2_with fail
  rw [← hQ]
  clear hQ c0 c1 c2 c3 c4 c5
  refine (HC2.out _ HO.out.hx HO.out.le).mono ?_
  rintro e w2 ⟨vc, rfl, ho, hb⟩
  obtain ⟨ac, capc, rfl⟩ := own_slice ho
  have HO := hide ((HO.out.call hb).alloc (.cells #[.int .i64 f, .int .i64 t, .int .i64 k, .int .i64 s, .int .i64 a, .slice ac x.length capc] 24))
  have hr := Row.new (ho.alloc (.cells #[.int .i64 f, .int .i64 t, .int .i64 k, .int .i64 s, .int .i64 a, .slice ac x.length capc] 24)) Hxs.out
  have hR := heap_alloc_new w2 (.cells #[.int .i64 f, .int .i64 t, .int .i64 k, .int .i64 s, .int .i64 a, .slice ac x.length capc] 24)
  have hq1 : Q + 1 ≤ (w1.alloc (.cells #[.int .i64 f, .int .i64 t, .int .i64 k, .int .i64 s, .int .i64 a, .slice aw X capw] 24)).heap.size := by rw [HQ.out]; simp
  obtain ⟨B1, hB1⟩ : ∃ B1, B1 = (w1.alloc (.cells #[.int .i64 f, .int .i64 t, .int .i64 k, .int .i64 s, .int .i64 a, .slice aw X capw] 24)).heap.size := ⟨_, rfl⟩
  rw [← hB1] at hr hq1
  clear ho hb hB1
  rw [← HX.out] at hr hR HO ⊢
  obtain ⟨R, hR0⟩ : ∃ R, R = w2.heap.size := ⟨_, rfl⟩
  obtain ⟨W3, hW3⟩ : ∃ W3, W3 = w2.alloc (.cells #[.int .i64 f, .int .i64 t, .int .i64 k, .int .i64 s, .int .i64 a, .slice ac X capc] 24) := ⟨_, rfl⟩
  rw [← hW3] at hr hR HO
  rw [← hR0] at hR
  have hRc := own_ne hr.own hR (by decide)
  obtain ⟨c0, c1, c2, c3, c4, c5⟩ := cell_of_six hR
  have HRw := hide hr; have HRR := hide hR; have HRc := hide hRc; have Hq1 := hide hq1
  rw [hW3, hR0] at c0 c1 c2 c3 c4 c5
  have HW3 := hide hW3; have HR0 := hide hR0
  clear hr hR hRc hq1 hW3 hR0
  go_wp2
  rw [← HW3.out, ← HR0.out]
  rw [← HW3.out, ← HR0.out] at c0 c1 c2 c3 c4 c5
  have hXb : X ≤ 140737488355328 := by rw [HX.out]; exact Hxl.out
  go_loopw [18] (fun i wr => ∃ (j : Nat) (ys : List Nat), j ≤ X ∧ i = .int .i64 j ∧ Row W3 B1 (.slice ac X capc) X ys wr) (fun i _ => X - (intOf i).toNat)
  case atStart => exact ⟨0, x, Nat.zero_le _, rfl, HRw.out⟩
  case round =>
    obtain ⟨j, ys, hj, rfl, hr⟩ := hrel
    have hRr := (hr.grown.block R (lt_of_block HRR.out) HRc.out).trans HRR.out
    clear c0 c1 c2 c3 c4 c5
    obtain ⟨c0, c1, c2, c3, c4, c5⟩ := cell_of_six hRr
    by_cases hlt : j < X
    · obtain ⟨g, rfl, hg, hcj, hfj, hsm, hst⟩ := hr.at hlt
      obtain ⟨c, hc⟩ : ∃ c, c = ys.getD j 0 := ⟨_, rfl⟩
      rw [← hc] at hcj hsm
      have HSt := hide hst
      have Hsm := hide hsm
      clear hst hr hRr hc hg hsm
      go_wp2_with fail
      go_roundw
      case rel =>
        have h := HSt.out ((c + 1) % 256) (by omega)
        rw [show (((c + 1) % 256 : Nat) : Int) = ((c : Int) + 1) % 256 by omega] at h
        exact ⟨j + 1, _, by omega, by go_num, h⟩
      case measure => simp [intOf]; omega
    · obtain rfl : j = X := by omega
      have HO := hide (HO.out.row hr (by have := Hq1.out; omega))
      clear hr hRr c0 c1 c2 c3 c4 c5
      obtain ⟨c0, c1, c2, c3, c4, c5⟩ := cell_of_six HO.out.bx
      go_wp2_with fail
      clear c0 c1 c2 c3 c4 c5
      refine (HCE.out _ HO.out.hx HO.out.le).mono ?_
      rintro e w5 ⟨vb, rfl, ho, hb⟩
      obtain ⟨ab, capb, rfl⟩ := own_slice ho
      have hQ2 := HO.out.sz
      obtain ⟨B2, hB2⟩ : ∃ B2, B2 = wr.heap.size := ⟨_, rfl⟩
      rw [← hB2] at ho hQ2
      have HQ2 := hide hQ2
      have HO := hide (HO.out.call hb)
      have hv : Bv w5 w5.heap.size (.slice ab nb capb) b := by
        rw [HNb.out] at ho ⊢
        exact Bv.of_own ho HBs.out (by have := HBl.out; have := HNb.out; omega)
      have HV := hide hv; have HOb := hide ho
      clear ho hb hB2 hQ2 hv
      go_wp2_with fail
      refine (HDec.out _ _ _ HV.out (Nat.le_refl _)).mono ?_
      rintro e w6 ⟨v6, rfl, ho, hb⟩
      obtain ⟨ax, capx, rfl⟩ := own_slice ho
      have HO := hide ((HO.out.call hb).alloc (.cells #[.int .i64 df, .int .i64 dt, .int .i64 dk, .int .i64 ds, .int .i64 da, .slice ax nx capx] 24))
      have hrb : Row (w6.alloc (.cells #[.int .i64 df, .int .i64 dt, .int .i64 dk, .int .i64 ds, .int .i64 da, .slice ax nx capx] 24)) B2 (.slice ab nb capb) nb b (w6.alloc (.cells #[.int .i64 df, .int .i64 dt, .int .i64 dk, .int .i64 ds, .int .i64 da, .slice ax nx capx] 24)) := by
        have h := (own_call HOb.out hb).alloc (.cells #[.int .i64 df, .int .i64 dt, .int .i64 dk, .int .i64 ds, .int .i64 da, .slice ax nx capx] 24)
        rw [HNb.out] at h ⊢
        exact Row.new h HBs.out
      have hox := ho.alloc (.cells #[.int .i64 df, .int .i64 dt, .int .i64 dk, .int .i64 ds, .int .i64 da, .slice ax nx capx] 24)
      have hS := heap_alloc_new w6 (.cells #[.int .i64 df, .int .i64 dt, .int .i64 dk, .int .i64 ds, .int .i64 da, .slice ax nx capx] 24)
      have hne : (Value.slice ax nx capx).ownBlock = none ∨ (Value.slice ax nx capx).ownBlock ≠ (Value.slice ab nb capb).ownBlock := by
        cases h1 : (Value.slice ax nx capx).ownBlock with
        | none => exact .inl rfl
        | some g1 =>
          refine .inr fun h2 => ?_
          have k1 := own_ge ho h1
          have k2 := own_ge HOb.out h2.symm
          omega
      have hSb := own_ne hrb.own hS (by decide)
      obtain ⟨W7, hW7⟩ : ∃ W7, W7 = w6.alloc (.cells #[.int .i64 df, .int .i64 dt, .int .i64 dk, .int .i64 ds, .int .i64 da, .slice ax nx capx] 24) := ⟨_, rfl⟩
      obtain ⟨S, hS0⟩ : ∃ S, S = w6.heap.size := ⟨_, rfl⟩
      rw [← hW7] at hrb hox hS HO
      rw [← hS0] at hS hSb
      have HW7 := hide hW7; have HS0 := hide hS0; have HRb := hide hrb; have HOx := hide hox; have HS := hide hS; have HNe := hide hne; have HSb := hide hSb
      have hNb : nb ≤ 140000 := HBl.out
      clear ho hb hrb hox hS hne hSb hW7 hS0
      go_wp2_with fail
      rw [← HW7.out, ← HS0.out]
      go_loopw [41] (fun i wr => ∃ (j : Nat) (ys : List Nat), j ≤ nb ∧ i = .int .i64 j ∧ Row W7 B2 (.slice ab nb capb) nb ys wr) (fun i _ => nb - (intOf i).toNat)
      case atStart => exact ⟨0, b, Nat.zero_le _, rfl, HRb.out⟩
      case round =>
        obtain ⟨j, ys, hj, rfl, hr⟩ := hrel
        by_cases hlt : j < nb
        · obtain ⟨g, rfl, hg, hcj, hfj, hsm, hst⟩ := hr.at hlt
          obtain ⟨c, hc⟩ : ∃ c, c = ys.getD j 0 := ⟨_, rfl⟩
          rw [← hc] at hcj hsm
          have HSt := hide hst
          have Hsm := hide hsm
          clear hst hr hc hg hsm
          go_wp2_with fail
          go_roundw
          case rel =>
            have h := HSt.out ((c + 1) % 256) (by omega)
            rw [show (((c + 1) % 256 : Nat) : Int) = ((c : Int) + 1) % 256 by omega] at h
            exact ⟨j + 1, _, by omega, by go_num, h⟩
          case measure => simp [intOf]; omega
        · obtain rfl : j = nb := by omega
          have HO := hide (HO.out.row hr (by have := HQ2.out; omega))
          have hox := HOx.out.kept hr.grown HNe.out
          have hS := (hr.grown.block S (lt_of_block HS.out) HSb.out).trans HS.out
          have HOx := hide hox; have HS := hide hS
          clear hr hox hS
          by_cases h0 : er = 0
          · obtain ⟨_, rfl, rfl, rfl, rfl, rfl, rfl⟩ := HE0.out h0
            subst h0
            have HV2 : Hid (Bv wr wr.heap.size (.slice ax nx capx) xs) := by
              have h := HOx.out
              rw [HNx.out] at h ⊢
              exact hide (Bv.of_own h Hxs.out Hxl.out)
            go_wp2_with fail
            refine (begun_any _).mono ?_
            rintro e w8 ⟨rfl, hb⟩
            have HO := hide (HO.out.call hb)
            have hS := (hb.block _ (lt_of_block HS.out)).trans HS.out
            have HV2 := hide ((HV2.out.below hb (Nat.le_refl _)).mono hb.size)
            obtain ⟨c0, c1, c2, c3, c4, c5⟩ := cell_of_six HO.out.bx
            obtain ⟨d0, d1, d2, d3, d4, d5⟩ := cell_of_six HO.out.bq
            have HS := hide hS
            clear hb hS
            go_wp2_with fail
            refine (HSame.out _ _ _ _ _ _ _ _ _ _ _ _ _ _ _ HO.out.hx HO.out.hw HO.out.le (Nat.le_of_lt HO.out.sz)).mono ?_
            rintro e w9 ⟨rfl, hb⟩
            rw [sameB_refl]
            have HO := hide (HO.out.call hb)
            have hS := (hb.block _ (lt_of_block HS.out)).trans HS.out
            have HV2 := hide ((HV2.out.below hb (Nat.le_refl _)).mono hb.size)
            clear hb c0 c1 c2 c3 c4 c5 d0 d1 d2 d3 d4 d5
            obtain ⟨c0, c1, c2, c3, c4, c5⟩ := cell_of_six hS
            obtain ⟨d0, d1, d2, d3, d4, d5⟩ := cell_of_six HO.out.bq
            clear hS
            go_wp2_with fail
            refine (HSame.out _ _ _ _ _ _ _ _ _ _ _ _ _ _ _ HV2.out HO.out.hw (Nat.le_refl _) (Nat.le_of_lt HO.out.sz)).mono ?_
            rintro e w10 ⟨rfl, hb⟩
            rw [sameB_refl]
            have HO := hide (HO.out.call hb)
            clear hb c0 c1 c2 c3 c4 c5 d0 d1 d2 d3 d4 d5
            go_wp2
            go_ret
            exact ⟨rfl, HO.out.below⟩
          · go_wp2_with fail
            refine (begun_any _).mono ?_
            rintro e w8 ⟨rfl, hb⟩
            have HO := hide (HO.out.call hb)
            obtain ⟨c0, c1, c2, c3, c4, c5⟩ := cell_of_six HO.out.bx
            obtain ⟨d0, d1, d2, d3, d4, d5⟩ := cell_of_six HO.out.bq
            clear hb
            go_wp2_with fail
            refine (HSame.out _ _ _ _ _ _ _ _ _ _ _ _ _ _ _ HO.out.hx HO.out.hw HO.out.le (Nat.le_of_lt HO.out.sz)).mono ?_
            rintro e w9 ⟨rfl, hb⟩
            rw [sameB_refl]
            have HO := hide (HO.out.call hb)
            clear hb c0 c1 c2 c3 c4 c5 d0 d1 d2 d3 d4 d5
            go_wp2
            go_ret
            exact ⟨rfl, HO.out.below⟩
end Go.Proofs.Ytebojmjbolphfaa
