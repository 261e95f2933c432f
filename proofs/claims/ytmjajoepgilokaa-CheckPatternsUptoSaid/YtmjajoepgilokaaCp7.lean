/- CheckPatterns of eyrielaw07. -/
import Derived.Test.YtmjajoepgilokaaPr7
import Derived.Test.YtmjajoepgilokaaSf7
namespace Go.Proofs.Ytmjajoepgilokaa
open Go Go.RowKit

set_option maxRecDepth 100000 in
set_option maxHeartbeats 4000000 in
theorem patterns7_walk (p : Pt) (v : Value) (w : World) (hv : PtV w (fun x => x < w.heap.size) p v) (hsz : szP p ≤ 1048576) :
    Calls Try.prog 3 #[v] w fun e w' => e = .returned (.bool true) ∧ Below w.heap.size w w' := by
  obtain ⟨name, win, d, k, wh⟩ := p
  obtain ⟨ta, tc, ka, kc, wa, wc, rfl, ht, hk, hw⟩ := hv
  simp only at ht hk hw
  obtain ⟨P, hP⟩ : ∃ P, P = w.heap.size := ⟨_, rfl⟩
  obtain ⟨W1, hW1⟩ : ∃ W1, W1 = w.alloc (.cells #[.string name, .int .i64 win, .int .i64 d.kind, .string d.var, .string d.ty, .slice ta d.tests.length tc, .slice ka k.len kc, .slice wa wh.length wc] 27) := ⟨_, rfl⟩
  have hb1 : Below w.heap.size w W1 := by rw [hW1]; exact (Below.refl _ _).alloc (Nat.le_refl _) _
  have hr1 : W1.heap[P]? = some (.cells #[.string name, .int .i64 win, .int .i64 d.kind, .string d.var, .string d.ty, .slice ta d.tests.length tc, .slice ka k.len kc, .slice wa wh.length wc] 27 (0, 0)) := by rw [hW1, hP]; exact heap_alloc_new _ _
  have hz1 : W1.heap.size = P + 1 := by rw [hW1, hP]; simp
  have hK : ∀ u, Below W1.heap.size W1 u → Keep (fun x => x < w.heap.size) w u ∧ ∀ x, x < w.heap.size → x < u.heap.size := fun u hu =>
    ⟨fun x hx => (hu.block x (Nat.lt_of_lt_of_le hx hb1.size)).trans (hb1.block x hx), fun x hx => Nat.lt_of_lt_of_le hx (Nat.le_trans hb1.size hu.size)⟩
  have hnd : ∀ u, Below W1.heap.size W1 u → NdV u (fun x => x < u.heap.size) d k (.agg #[.int .i64 d.kind, .string d.var, .string d.ty, .slice ta d.tests.length tc, .slice ka k.len kc]) := fun u hu =>
    NdV.mono ⟨_, _, rfl, ht.keep (hK u hu).1, hk.keep (hK u hu).1⟩ (hK u hu).2
  have hpt : ∀ u, Below W1.heap.size W1 u → PtV u (fun x => x < u.heap.size) ⟨name, win, d, k, wh⟩ (.agg #[.string name, .int .i64 win, .int .i64 d.kind, .string d.var, .string d.ty, .slice ta d.tests.length tc, .slice ka k.len kc, .slice wa wh.length wc]) := fun u hu =>
    ⟨ta, tc, ka, kc, wa, wc, rfl, (ht.keep (hK u hu).1).mono (hK u hu).2, by
      obtain ⟨ka', kc', he, hh⟩ := hk.keep (hK u hu).1
      refine ⟨ka', kc', he, fun hn => ?_⟩
      obtain ⟨b, o, e, hb, hf⟩ := hh hn
      exact ⟨b, o, e, (hK u hu).2 b hb, hf.mono (hK u hu).2⟩, (hw.keep (hK u hu).1).mono (hK u hu).2⟩
  have hszn : szD d + szF k ≤ 1048576 := by simp only [szP] at hsz; omega
  have HX := Lib.hid (fun (u : World) (hu : Below W1.heap.size W1 u) => cell_of_eight ((hu.block P (by omega)).trans hr1))
  have HF := Lib.hid (fun (u : World) (hu : Below W1.heap.size W1 u) => fits7_any d k _ u (hnd u hu) hszn)
  have HC := Lib.hid (fun (u : World) (hu : Below W1.heap.size W1 u) => cPattern_any ⟨name, win, d, k, wh⟩ _ u (hpt u hu) hsz)
  have HR := Lib.hid (fun (u : World) (hu : Below W1.heap.size W1 u) => r7Pattern_any ⟨name, win, d, k, wh⟩ _ u (hpt u hu) hsz)
  have HE := Lib.hid (fun (u : World) (hu : Below W1.heap.size W1 u) => hb1.trans (hu.mono hb1.size))
  have HW := Lib.hid hW1; have HP := Lib.hid hP
  have B2 := Lib.hid (Below.refl W1.heap.size W1)
  clear ht hk hw hb1 hr1 hz1 hK hnd hpt hsz hszn hW1 hP
  generalize patE ⟨name, win, d, k, wh⟩ = E at HC HR
  have ee : (E == E) = true := by simp
  cases hf : fitsN k with
  | false =>
    rw [hf] at HF
    clear hf
    go_enter Try.func3, Try.ntmps3
    go_wp2_with fail
    rw [← HW.out, ← HP.out]
    obtain ⟨c0, c1, c2, c3, c4, c5, c6, c7⟩ := HX.out _ B2.out
    go_region_law (first
      | (go_simp; go_at_call 9; (with_reducible refine (live7_any _).mono ?_); rintro e w3 ⟨rfl, hb⟩; have B2 := Lib.hid (B2.out.drew.trans (hb.mono B2.out.drew.size)); clear hb c0 c1 c2 c3 c4 c5 c6 c7; obtain ⟨c0, c1, c2, c3, c4, c5, c6, c7⟩ := HX.out _ B2.out)
      | (go_simp; go_at_call 10; (with_reducible refine (HF.out _ B2.out).mono ?_); rintro e w4 ⟨rfl, hb⟩; have B2 := Lib.hid (B2.out.trans (hb.mono B2.out.size)); clear hb c0 c1 c2 c3 c4 c5 c6 c7; obtain ⟨c0, c1, c2, c3, c4, c5, c6, c7⟩ := HX.out _ B2.out))
    all_goals go_wp2
    all_goals go_ret
    all_goals exact ⟨rfl, HE.out _ B2.out⟩
  | true =>
    rw [hf] at HF
    clear hf
    go_enter Try.func3, Try.ntmps3
    go_wp2_with fail
    rw [← HW.out, ← HP.out]
    obtain ⟨c0, c1, c2, c3, c4, c5, c6, c7⟩ := HX.out _ B2.out
    go_region_law (first
      | (go_simp; go_at_call 9; (with_reducible refine (live7_any _).mono ?_); rintro e w3 ⟨rfl, hb⟩; have B2 := Lib.hid (B2.out.drew.trans (hb.mono B2.out.drew.size)); clear hb c0 c1 c2 c3 c4 c5 c6 c7; obtain ⟨c0, c1, c2, c3, c4, c5, c6, c7⟩ := HX.out _ B2.out)
      | (go_simp; go_at_call 10; (with_reducible refine (HF.out _ B2.out).mono ?_); rintro e w4 ⟨rfl, hb⟩; have B2 := Lib.hid (B2.out.trans (hb.mono B2.out.size)); clear hb c0 c1 c2 c3 c4 c5 c6 c7; obtain ⟨c0, c1, c2, c3, c4, c5, c6, c7⟩ := HX.out _ B2.out)
      | (go_simp; go_at_call 11; (with_reducible refine (HC.out _ B2.out).mono ?_); rintro e w4 ⟨rfl, hb⟩; have B2 := Lib.hid (B2.out.trans (hb.mono B2.out.size)); clear hb c0 c1 c2 c3 c4 c5 c6 c7; obtain ⟨c0, c1, c2, c3, c4, c5, c6, c7⟩ := HX.out _ B2.out)
      | (go_simp; go_at_call 12; (with_reducible refine (HR.out _ B2.out).mono ?_); rintro e w4 ⟨rfl, hb⟩; have B2 := Lib.hid (B2.out.trans (hb.mono B2.out.size)); clear hb c0 c1 c2 c3 c4 c5 c6 c7; obtain ⟨c0, c1, c2, c3, c4, c5, c6, c7⟩ := HX.out _ B2.out))
    all_goals go_wp2
    all_goals go_ret
    all_goals exact ⟨rfl, HE.out _ B2.out⟩
end Go.Proofs.Ytmjajoepgilokaa
