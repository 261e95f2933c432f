/- Contract: Bytes of the document. -/
import Derived.Test.YtiljekpfkkocnaaForm4
import Derived.Test.YtiljekpfkkocnaaPut4
namespace Go.Proofs.Ytiljekpfkkocnaa
open Go Go.RowKit

theorem r4Form_any (ev : Ev) (B : Nat) (ao : Option Addr) (n cap : Nat) (w : World) (hB : B ≤ w.heap.size) (hv : Av w B (.slice ao n cap) ev.ats) (hok : EvOk ev) (hn : Wf ev.ats) :
    Calls Try.prog 25 #[evV ev (.slice ao n cap)] w fun e w' => ∃ v, e = .returned v ∧ Flags w' w.heap.size v (evBits ev) ∧ Below w.heap.size w w' := by
  obtain ⟨s, sq, t, ty, ats⟩ := ev
  have h1 := hok.src0; have h2 := hok.seq0; have h3 := hok.time0
  simp only at h1 h2 h3
  obtain ⟨S, rfl⟩ := Int.eq_ofNat_of_zero_le h1
  obtain ⟨Q, rfl⟩ := Int.eq_ofNat_of_zero_le h2
  obtain ⟨T, rfl⟩ := Int.eq_ofNat_of_zero_le h3
  exact r4Form_nat S Q T ty ats B ao n cap w hB hv hok hn (evBits_le _ hok (fun x hx => zig_ok (hn x hx)))

set_option maxRecDepth 100000 in
set_option maxHeartbeats 1600000 in
theorem r4Bytes_any (ev : Ev) (B : Nat) (ao : Option Addr) (n cap : Nat) (w : World) (hB : B ≤ w.heap.size)
    (hv : Av w B (.slice ao n cap) ev.ats) (hty : ev.ty.size ≤ maxLen) (hn : Wf ev.ats) :
    Calls Try.prog 20 #[evV ev (.slice ao n cap)] w
      fun e w' => ∃ v, e = .returned (.tuple #[v, .int .i64 (ckE ev)]) ∧ w'.ownsRow w.heap.size 5 1 v (evBytes ev).length (byteVs (evBytes ev)) ∧ Below w.heap.size w w' := by
  obtain ⟨P, hP⟩ : ∃ P, P = w.heap.size := ⟨_, rfl⟩
  obtain ⟨W, hW⟩ : ∃ W, W = w.alloc (.cells #[.int .i64 ev.src, .int .i64 ev.seq, .int .i64 ev.time, .string ev.ty, .slice ao n cap] 26) := ⟨_, rfl⟩
  have hbel : Below P w W := by rw [hW, hP]; exact (Below.refl _ _).alloc (Nat.le_refl _) _
  have hsz : P < W.heap.size := by rw [hW, hP]; simp
  have HPW := hide (by rw [hW, hP]; exact heap_alloc_new w _ : W.heap[P]? = some (.cells #[.int .i64 ev.src, .int .i64 ev.seq, .int .i64 ev.time, .string ev.ty, .slice ao n cap] 26 (0, 0)))
  have HBel := hide hbel; have HW := hide hW; have HP := hide hP
  have HBP := hide (show B ≤ P by omega)
  have HSZ := hide hsz
  have hav := hv.below hbel (show B ≤ P by omega)
  have CC := r4Check_any ev B ao n cap W hav (by omega) hty
  have HAV := hide hav
  rw [← hP]
  by_cases hck : ckE ev = 0
  · have hok := EvOk.of hck
    have hle := evBits_le ev hok (fun x hx => zig_ok (hn x hx))
    have CF := fun (w : World) (h : Av w B (.slice ao n cap) ev.ats) (hB : B ≤ w.heap.size) => r4Form_any ev B ao n cap w hB h hok hn
    rw [evBytes_ok hck]
    rw [hck] at CC ⊢
    have hpos : 0 < (evBits ev).length := by unfold evBits; rw [List.length_append, headE_len]; omega
    obtain ⟨l, hl⟩ : ∃ l, l = evBits ev := ⟨_, rfl⟩
    rw [← hl] at CF hle hpos ⊢
    have HCF := hide CF; have HCC := hide CC; have HLE := hide (show l.length ≤ 1048576 by omega); have HPOS := hide hpos
    unfold evV at HCF HCC ⊢
    obtain ⟨s, sq, t, ty, ats⟩ := ev
    simp only at *
    clear hbel hW hP CF CC hn hv hB hsz hck hok hle hl hty hav hpos
    obtain ⟨c0, c1, c2, c3, c4⟩ := cell_of_five HPW.out
    go_enter Try.func20, Try.ntmps20
    go_wp2_with fail
    rw [← HW.out, ← HP.out]
    refine HCC.out.mono ?_
    rintro e w1 ⟨rfl, hb1⟩
    have HP1 := hide ((hb1.block P HSZ.out).trans HPW.out)
    have HA1 := hide (HAV.out.below hb1 (by have := HBP.out; have := HSZ.out; omega))
    have HB1 := hide (HBel.out.trans (hb1.mono (Nat.le_of_lt HSZ.out)))
    have HZ1 := hide (show P ≤ w1.heap.size from Nat.le_of_lt (lt_of_block HP1.out))
    clear hb1 c0 c1 c2 c3 c4
    obtain ⟨c0, c1, c2, c3, c4⟩ := cell_of_five HP1.out
    go_wp2_with fail
    refine (HCF.out w1 HA1.out (Nat.le_trans HBP.out HZ1.out)).mono ?_
    rintro e w2 ⟨v2, rfl, hf2, hb2⟩
    obtain ⟨g2, k2, rfl⟩ := flags_pos hf2 HPOS.out
    have HF2 := hide hf2
    have HB2 := hide (HB1.out.trans (hb2.mono HZ1.out))
    have HZ2 := hide (Nat.le_trans HZ1.out hb2.size)
    clear hf2 hb2 c0 c1 c2 c3 c4
    go_wp2_with fail
    refine (rPack_any _ _ _ _ HLE.out HF2.out).mono ?_
    rintro e w3 ⟨v3, rfl, ho3, hb3⟩
    have HO3 := hide ho3
    have HB3 := hide (HB2.out.trans (hb3.mono HZ2.out))
    clear ho3 hb3
    go_wp2
    go_ret2
    exact ⟨_, rfl, ownsRow_lower HO3.out HZ2.out, HB3.out⟩
  · rw [evBytes_no hck]
    obtain ⟨c, hc⟩ : ∃ c, c = ckE ev := ⟨_, rfl⟩
    rw [← hc] at CC hck ⊢
    have b1 : (c == 0) = false := by simp [hck]
    have b2 : (c != 0) = true := by simp [hck]
    have HCC := hide CC
    unfold evV at HCC ⊢
    obtain ⟨s, sq, t, ty, ats⟩ := ev
    simp only at *
    clear hbel hW hP CC hn hv hB hsz hck hc hty hav
    obtain ⟨c0, c1, c2, c3, c4⟩ := cell_of_five HPW.out
    go_enter Try.func20, Try.ntmps20
    go_wp2_with fail
    rw [← HW.out, ← HP.out]
    refine HCC.out.mono ?_
    rintro e w1 ⟨rfl, hb1⟩
    have HB1 := hide (HBel.out.trans (hb1.mono (Nat.le_of_lt HSZ.out)))
    clear hb1 c0 c1 c2 c3 c4
    go_wp2
    go_ret2
    exact ⟨_, rfl, World.ownsRow_nil _ _ _ _, HB1.out⟩
end Go.Proofs.Ytiljekpfkkocnaa
