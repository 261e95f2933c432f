/- Streams.Clone: the same streams in new memory. Written by wip/gencl4.py. -/
import Derived.Test.YthjhbnfedelniaaCo4
import Derived.Test.YthjhbnfedelniaaSa
import Derived.Deep.RegionHeld3
namespace Go.Proofs.Ythjhbnfedelniaa
open Go Go.RowKit

theorem own_up {w : World} {base base' e size n : Nat} {v : Value} {xs : List Value} (h : w.ownsRow base e size v n xs) (hB : base' ≤ base) : w.ownsRow base' e size v n xs := row_base h hB
/-- What Collect told, in the block q as streams. -/
theorem StIs.of_collect {w2 : World} {B k : Nat} {sd : List Sd} {pre : List (Ev × Value)} {v : Value} (hBw : B ≤ w2.heap.size) (hk : 1 ≤ k) (hk16 : k ≤ 16) (hsd : sd.length = 16) (hm : pre.length ≤ 65536) (hty : ∀ x ∈ pre, x.1.ty.size ≤ maxLen)
    (hrow : w2.ownsRow B 35 5 v pre.length (rowCells (pre.map Prod.fst) (pre.map Prod.snd))) (hh : ∀ x ∈ pre, HC B x w2) :
    StIs (w2.alloc (.cells (stCells (k : Int) sd v).toArray 63)) (fun b => B ≤ b ∧ b < w2.heap.size + 1) w2.heap.size k sd (pre.map Prod.fst) := by
  have hn : ∀ i, i < pre.length → (pre.map Prod.fst)[i]! = (pre[i]!).1 ∧ (pre.map Prod.snd)[i]! = (pre[i]!).2 ∧ pre[i]! ∈ pre := fun i hi => by
    rw [getElem!_pos (pre.map Prod.fst) i (by simpa using hi), getElem!_pos (pre.map Prod.snd) i (by simpa using hi), getElem!_pos pre i hi]
    exact ⟨by simp, by simp, List.getElem_mem _⟩
  have hown : ∀ i, i < pre.length → w2.ownsRow B 57 4 (pre[i]!).2 (pre[i]!).1.ats.length ((pre[i]!).1.ats.flatMap enc4) := fun i hi => (hh _ (hn i hi).2.2).1
  have hinf : ∀ {e size n : Nat} {v : Value} {xs : List Value}, w2.ownsRow B e size v n xs → ∀ a n' c, v = .slice (some a) n' c → (B ≤ a.block ∧ a.block < w2.heap.size + 1) ∧ ∃ cs, w2.heap[a.block]? = some (.cells cs e (0, 0)) := fun {e size n v xs} h a n' c hv => by
    rcases h.2 with ⟨h1, _⟩ | ⟨g, cap, cur, h1, hB1, hg, _⟩
    · rw [h1] at hv; cases hv
    · rw [h1] at hv; cases hv
      have := (Array.getElem?_eq_some_iff.1 hg).1
      exact ⟨⟨hB1, by simp only; omega⟩, _, hg⟩
  refine ⟨v, pre.map Prod.snd, ⟨hBw, by omega⟩, fun b hb => by simp; exact hb.2, hk, hk16, hsd, by simpa using hm, fun e he => ?_, heap_alloc_new _ _, ?_, by simp, fun a n c e => (hinf hrow a n c e).1, fun i hi => ?_, fun i hi a n c e => ?_⟩
  · obtain ⟨x, hx, rfl⟩ := List.mem_map.1 he; exact hty x hx
  · rw [List.length_map]; exact (own_up hrow (Nat.zero_le _)).alloc _
  · have hi' : i < pre.length := by simpa using hi
    obtain ⟨e1, e2, e3⟩ := hn i hi'
    rw [e1, e2]
    have ho := hown i hi'
    obtain ⟨ao, c, hv⟩ := own_slice ho
    have hav : Av (w2.alloc (.cells (stCells (k : Int) sd v).toArray 63)) (w2.alloc (.cells (stCells (k : Int) sd v).toArray 63)).heap.size (pre[i]!).2 (pre[i]!).1.ats := Av.of_own (ho.alloc _) (hh _ e3).2.1 (hh _ e3).2.2
    refine ⟨ao, c, hv, ?_, hav, fun a n c e => (hinf ho a n c e).1⟩
    rintro rfl
    rcases ho.2 with ⟨h1, _⟩ | ⟨g, cap, cur, h1, _⟩
    · rw [hv] at h1; simp only [Value.slice.injEq] at h1; exact h1.2.2
    · rw [hv] at h1; cases h1
  · have hi' : i < pre.length := by simpa using hi
    obtain ⟨e1, e2, e3⟩ := hn i hi'
    rw [e2] at e
    obtain ⟨⟨_, _⟩, cs, hcs⟩ := hinf (hown i hi') a n c e
    refine ⟨fun e => ?_, fun e => ?_⟩
    · have := (Array.getElem?_eq_some_iff.1 hcs).1; omega
    · rcases hrow.2 with ⟨h1, _⟩ | ⟨g, cap, cur, h1, _, hg, _⟩
      · rw [h1] at e; simp [Value.ownBlock] at e
      · rw [h1] at e; simp [Value.ownBlock] at e; subst e; rw [hcs] at hg; cases hg

set_option maxRecDepth 100000 in
theorem st_built (k : Int) (cs : List Value) (h : cs.length = 48) (a : Option Addr) (n c : Nat) : Try.prog.built 63 [(0, .int .i64 k), (1, .agg cs.toArray), (2, .slice a n c)] = some (.int .i64 k :: (cs ++ [.slice a n c])).toArray := by
  obtain ⟨c0, c1, c2, c3, c4, c5, c6, c7, c8, c9, c10, c11, c12, c13, c14, c15, c16, c17, c18, c19, c20, c21, c22, c23, c24, c25, c26, c27, c28, c29, c30, c31, c32, c33, c34, c35, c36, c37, c38, c39, c40, c41, c42, c43, c44, c45, c46, c47, rfl⟩ : ∃ c0 c1 c2 c3 c4 c5 c6 c7 c8 c9 c10 c11 c12 c13 c14 c15 c16 c17 c18 c19 c20 c21 c22 c23 c24 c25 c26 c27 c28 c29 c30 c31 c32 c33 c34 c35 c36 c37 c38 c39 c40 c41 c42 c43 c44 c45 c46 c47, cs = [c0, c1, c2, c3, c4, c5, c6, c7, c8, c9, c10, c11, c12, c13, c14, c15, c16, c17, c18, c19, c20, c21, c22, c23, c24, c25, c26, c27, c28, c29, c30, c31, c32, c33, c34, c35, c36, c37, c38, c39, c40, c41, c42, c43, c44, c45, c46, c47] := by
    match cs, h with
    | c0 :: c1 :: c2 :: c3 :: c4 :: c5 :: c6 :: c7 :: c8 :: c9 :: c10 :: c11 :: c12 :: c13 :: c14 :: c15 :: c16 :: c17 :: c18 :: c19 :: c20 :: c21 :: c22 :: c23 :: c24 :: c25 :: c26 :: c27 :: c28 :: c29 :: c30 :: c31 :: c32 :: c33 :: c34 :: c35 :: c36 :: c37 :: c38 :: c39 :: c40 :: c41 :: c42 :: c43 :: c44 :: c45 :: c46 :: c47 :: [], _ => exact ⟨c0, c1, c2, c3, c4, c5, c6, c7, c8, c9, c10, c11, c12, c13, c14, c15, c16, c17, c18, c19, c20, c21, c22, c23, c24, c25, c26, c27, c28, c29, c30, c31, c32, c33, c34, c35, c36, c37, c38, c39, c40, c41, c42, c43, c44, c45, c46, c47, rfl⟩
  kernel_rfl

set_option maxRecDepth 100000 in
set_option maxHeartbeats 8000000 in
theorem sClone_ok (F : Nat → Prop) (q k : Nat) (sd : List Sd) (evs : List Ev) (w : World) (h : StIs w F q k sd evs) :
    Calls Try.prog 12 #[.pointer (some ⟨q, 0, none⟩)] w fun e w' => ∃ q', e = .returned (.pointer (some ⟨q', 0, none⟩)) ∧ StIs w' (fun b => w.heap.size ≤ b ∧ b < w'.heap.size) q' k sd evs ∧ Below w.heap.size w w' := by
  have HC := Lib.hid (sIsMadeS_any q k w h.num h.k0)
  have HA := Lib.hid (fun (W : World) (hb : Below w.heap.size w W) => sAll_any F q k sd evs W (h.below hb))
  have HK := Lib.hid h.k0; have HK16 := Lib.hid h.k16; have HM := Lib.hid h.many; have HW := Lib.hid h.wide
  have HSD := Lib.hid h.sdl
  obtain ⟨v, vs, hat⟩ := id h
  obtain ⟨va, vc, rfl⟩ := own_slice hat.own
  have hblk := hat.blk
  have hqlt := h.flt q h.fq
  have hsdl := h.sdl
  have HQ := Lib.hid (fun (W : World) (hb : Below w.heap.size w W) => (hb.block q hqlt).trans hblk)
  clear h hat hblk
  have HE : Hid (∀ W : World, Below w.heap.size w W → W.cell? ⟨q, 0, none⟩ = some (.int .i64 (k : Int)) ∧ W.rangeAt q 1 (sd.flatMap enc3)) := fun W hb => by
    have hq := HQ.out W hb
    refine ⟨by rw [cell_of_st hq]; rfl, fun j u hu => ?_⟩
    have hj : j < (sd.flatMap enc3).length := (List.getElem?_eq_some_iff.1 hu).1
    rw [cell_of_st hq, stCells, show 1 + j = j + 1 by omega, List.getElem?_cons_succ, List.getElem?_append_left hj]
    exact hu
  obtain ⟨e0, e1⟩ := HE.out w (Below.refl _ _)
  have hB0 : Below w.heap.size w w := Below.refl _ _
  have HB := Lib.hid hB0
  have hfl : (sd.flatMap enc3).length = 48 := by rw [flat3_len, hsdl]
  have hun := Try.underlying61
  have hin : (Try.prog.info? 61).map (·.size) = some (sd.flatMap enc3).length := by rw [hfl]; kernel_rfl
  obtain ⟨cs, hcs⟩ : ∃ cs, cs = sd.flatMap enc3 := ⟨_, rfl⟩
  rw [← hcs] at e1 hin HE
  have hcl : cs.length = 48 := by rw [hcs, hfl]
  have hbd : ∀ (a : Option Addr) (n c : Nat) (w : World), (Instr.build 63 #[(0, .int .i64 (k : Int)), (1, .agg cs.toArray), (2, .slice a n c)]).run Try.prog w = .ok (.agg (.int .i64 (k : Int) :: (cs ++ [.slice a n c])).toArray) w := fun a n c w => run_build w _ _ _ (st_built k cs hcl a n c)
  obtain ⟨c0, c1, c2, c3, c4, c5, c6, c7, c8, c9, c10, c11, c12, c13, c14, c15, c16, c17, c18, c19, c20, c21, c22, c23, c24, c25, c26, c27, c28, c29, c30, c31, c32, c33, c34, c35, c36, c37, c38, c39, c40, c41, c42, c43, c44, c45, c46, c47, rfl⟩ : ∃ c0 c1 c2 c3 c4 c5 c6 c7 c8 c9 c10 c11 c12 c13 c14 c15 c16 c17 c18 c19 c20 c21 c22 c23 c24 c25 c26 c27 c28 c29 c30 c31 c32 c33 c34 c35 c36 c37 c38 c39 c40 c41 c42 c43 c44 c45 c46 c47, cs = [c0, c1, c2, c3, c4, c5, c6, c7, c8, c9, c10, c11, c12, c13, c14, c15, c16, c17, c18, c19, c20, c21, c22, c23, c24, c25, c26, c27, c28, c29, c30, c31, c32, c33, c34, c35, c36, c37, c38, c39, c40, c41, c42, c43, c44, c45, c46, c47] := by
    have h := hcl
    match cs, h with
    | c0 :: c1 :: c2 :: c3 :: c4 :: c5 :: c6 :: c7 :: c8 :: c9 :: c10 :: c11 :: c12 :: c13 :: c14 :: c15 :: c16 :: c17 :: c18 :: c19 :: c20 :: c21 :: c22 :: c23 :: c24 :: c25 :: c26 :: c27 :: c28 :: c29 :: c30 :: c31 :: c32 :: c33 :: c34 :: c35 :: c36 :: c37 :: c38 :: c39 :: c40 :: c41 :: c42 :: c43 :: c44 :: c45 :: c46 :: c47 :: [], _ => exact ⟨c0, c1, c2, c3, c4, c5, c6, c7, c8, c9, c10, c11, c12, c13, c14, c15, c16, c17, c18, c19, c20, c21, c22, c23, c24, c25, c26, c27, c28, c29, c30, c31, c32, c33, c34, c35, c36, c37, c38, c39, c40, c41, c42, c43, c44, c45, c46, c47, rfl⟩
  have HCS := Lib.hid hcs
  clear hcl hbd
  clear hB0 hsdl HQ hfl hcs
  go_enter Try.func12, Try.ntmps12
  go_wp2_with (go_at_call 29; (with_reducible refine (HC.out).mono ?_); rintro e w1 ⟨rfl, rfl⟩)
  go_region_held3 (fun w' => w'.cell? ⟨q, 0, none⟩ = some (.int .i64 (k : Int)) ∧ w'.rangeAt q 1 [c0, c1, c2, c3, c4, c5, c6, c7, c8, c9, c10, c11, c12, c13, c14, c15, c16, c17, c18, c19, c20, c21, c22, c23, c24, c25, c26, c27, c28, c29, c30, c31, c32, c33, c34, c35, c36, c37, c38, c39, c40, c41, c42, c43, c44, c45, c46, c47]) (first | exact ⟨e0, e1⟩ | exact ⟨Lib.cell?_alloc_some _ e0, World.rangeAt_alloc e1 _⟩ | go_keep)
    (first
      | (go_at_call 21; (with_reducible refine (HA.out _ (by first | exact HB.out.drew | exact HB.out)).mono ?_); rintro e w2 ⟨Bc, rfl, hal, hb⟩; have HAL := Lib.hid (hal.up hb.size (Nat.le_refl _)); have HB := Lib.hid ((show Below w.heap.size w _ from (by first | exact HB.out.drew | exact HB.out)).trans (hb.mono (by have := HB.out.size; first | exact this | (simp; omega)))); clear hal hb e0 e1; obtain ⟨e0, e1⟩ := HE.out _ HB.out)
      | (go_at_call 35; (with_reducible refine (collect_any Bc evs _ HAL.out).mono ?_); rintro e w3 ⟨v3, pre, rfl, hpre, hrow, hh, hb⟩; obtain ⟨a3, k3, rfl⟩ := own_slice hrow; have HPRE := Lib.hid hpre; have HROW := Lib.hid hrow; have HH := Lib.hid hh; have HBC := Lib.hid HB.out.size; have HBZ := Lib.hid hb.size; have HB := Lib.hid (HB.out.trans (hb.mono HB.out.size)); clear hpre hrow hh hb e0 e1; obtain ⟨e0, e1⟩ := HE.out _ HB.out))
  all_goals go_wp2
  all_goals
    go_ret
    have hst : (#[.int .i64 (k : Int), c0, c1, c2, c3, c4, c5, c6, c7, c8, c9, c10, c11, c12, c13, c14, c15, c16, c17, c18, c19, c20, c21, c22, c23, c24, c25, c26, c27, c28, c29, c30, c31, c32, c33, c34, c35, c36, c37, c38, c39, c40, c41, c42, c43, c44, c45, c46, c47, .slice a3 pre.length k3] : Array Value) = (stCells (k : Int) sd (.slice a3 pre.length k3)).toArray := by unfold stCells; rw [← HCS.out]; rfl
    have hpl : pre.length ≤ 65536 := by have := HM.out; rw [← HPRE.out] at this; simpa using this
    have hz := HBZ.out
    have h := StIs.of_collect (w2 := w3) (k := k) (sd := sd) (Nat.le_trans hz (Nat.le_refl _)) HK.out HK16.out HSD.out hpl (fun x hx => HW.out _ (by rw [← HPRE.out]; exact List.mem_map.2 ⟨x, hx, rfl⟩)) HROW.out HH.out
    rw [HPRE.out, ← hst] at h
    have hsz : w.heap.size ≤ w3.heap.size := HB.out.size
    exact ⟨w3.heap.size, rfl, h.widen (fun b hb => ⟨Nat.le_trans HBC.out hb.1, by simpa using hb.2⟩) (fun b hb => hb.2), HB.out.alloc hsz _⟩
end Go.Proofs.Ythjhbnfedelniaa
