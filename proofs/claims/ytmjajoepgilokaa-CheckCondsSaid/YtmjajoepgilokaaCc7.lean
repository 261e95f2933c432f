/- CheckConds of eyrielaw07. -/
import Derived.Test.YtmjajoepgilokaaRo7
import Derived.Test.YtmjajoepgilokaaLi7
import Derived.Deep.RegionHeld3
namespace Go.Proofs.Ytmjajoepgilokaa
open Go Go.RowKit

set_option maxRecDepth 100000 in
set_option maxHeartbeats 2000000 in
theorem conds7_walk (c : Cnd) (G : Nat → Prop) (ao : Option Addr) (cap : Nat) (l : List Nm) (w : World) (hwd : wdC c) (hG : ∀ b, G b → b < w.heap.size) (hl : l.length ≤ 140737488355328) (hv : SsV w G (.slice ao l.length cap) l) :
    Calls Try.prog 5 #[cdV c, .slice ao l.length cap] w fun e w' => e = .returned (.bool true) ∧ Below w.heap.size w w' := by
  obtain ⟨⟨lv, la, lk, ln, ls⟩, rel, ⟨rv, ra, rk, rn, rs⟩⟩ := c
  obtain ⟨W, hW⟩ : ∃ W, W = w.alloc (.cells #[.string lv, .string la, .int .i64 lk, .int .i64 ln, .string ls, .int .i64 rel, .string rv, .string ra, .int .i64 rk, .int .i64 rn, .string rs] 43) := ⟨_, rfl⟩
  have hq := heap_alloc_new w (.cells #[.string lv, .string la, .int .i64 lk, .int .i64 ln, .string ls, .int .i64 rel, .string rv, .string ra, .int .i64 rk, .int .i64 rn, .string rs] 43)
  have hb0 : Below w.heap.size w W := by rw [hW]; exact (Below.refl _ _).alloc (Nat.le_refl _) _
  rw [← hW] at hq
  have hz : W.heap.size = w.heap.size + 1 := by rw [hW]; simp
  obtain ⟨P, hP⟩ : ∃ P, P = w.heap.size := ⟨_, rfl⟩
  have hk : ∀ u : World, Below W.heap.size W u → SsV u G (.slice ao l.length cap) l ∧ ∀ b, G b → b < u.heap.size := fun u hu =>
    ⟨hv.keep (fun b hb => (hu.block b (Nat.lt_of_lt_of_le (hG b hb) hb0.size)).trans (hb0.block b (hG b hb))), fun b hb => Nat.lt_of_lt_of_le (hG b hb) (Nat.le_trans hb0.size hu.size)⟩
  rw [← hP] at hq hz
  have HC := Lib.hid (fun (u : World) (hu : Below W.heap.size W u) => cCond_any ⟨⟨lv, la, lk, ln, ls⟩, rel, ⟨rv, ra, rk, rn, rs⟩⟩ G ao cap l u hwd (hk u hu).2 (by omega) (hk u hu).1)
  have HR := Lib.hid (fun (u : World) (hu : Below W.heap.size W u) => r7Cond_any ⟨⟨lv, la, lk, ln, ls⟩, rel, ⟨rv, ra, rk, rn, rs⟩⟩ G ao cap l u hwd (hk u hu).2 hl (hk u hu).1)
  have HX := Lib.hid (fun (u : World) (hu : Below W.heap.size W u) => cell_of_eleven ((hu.block P (by omega)).trans hq))
  have HB0 := Lib.hid hb0; have HW := Lib.hid hW; have HP := Lib.hid hP
  have B2 := Lib.hid (Below.refl W.heap.size W)
  have HE := Lib.hid (fun (u : World) (hu : Below W.heap.size W u) => hb0.trans (hu.mono hb0.size))
  clear hwd hG hl hv hq hb0 hz hk hW hP
  unfold cdV at HC HR ⊢
  simp only at HC HR ⊢
  generalize condE _ l = E at HC HR
  have ee : (E == E) = true := by simp
  go_enter Try.func5, Try.ntmps5
  go_wp2_with fail
  rw [← HW.out, ← HP.out]
  obtain ⟨c0, c1, c2, c3, c4, c5, c6, c7, c8, c9, c10⟩ := HX.out _ B2.out
  go_region_held3 (fun u => u.cell? ⟨P, 0, none⟩ = some (.string lv) ∧ u.cell? ⟨P, 1, none⟩ = some (.string la) ∧ u.cell? ⟨P, 2, none⟩ = some (.int .i64 lk) ∧ u.cell? ⟨P, 3, none⟩ = some (.int .i64 ln) ∧ u.cell? ⟨P, 4, none⟩ = some (.string ls) ∧ u.cell? ⟨P, 5, none⟩ = some (.int .i64 rel) ∧ u.cell? ⟨P, 6, none⟩ = some (.string rv) ∧ u.cell? ⟨P, 7, none⟩ = some (.string ra) ∧ u.cell? ⟨P, 8, none⟩ = some (.int .i64 rk) ∧ u.cell? ⟨P, 9, none⟩ = some (.int .i64 rn) ∧ u.cell? ⟨P, 10, none⟩ = some (.string rs)) (first | exact ⟨c0, c1, c2, c3, c4, c5, c6, c7, c8, c9, c10⟩ | go_keep)
    (first
      | (go_at_call 9; (with_reducible refine (live7_any _).mono ?_); rintro e w3 ⟨rfl, hb⟩; have B2 := Lib.hid (B2.out.drew.trans (hb.mono B2.out.drew.size)); clear hb c0 c1 c2 c3 c4 c5 c6 c7 c8 c9 c10; obtain ⟨c0, c1, c2, c3, c4, c5, c6, c7, c8, c9, c10⟩ := HX.out _ B2.out)
      | (go_at_call 28; (with_reducible refine (HC.out _ B2.out).mono ?_); rintro e w4 ⟨rfl, hb⟩; have B2 := Lib.hid (B2.out.trans (hb.mono B2.out.size)); clear hb c0 c1 c2 c3 c4 c5 c6 c7 c8 c9 c10; obtain ⟨c0, c1, c2, c3, c4, c5, c6, c7, c8, c9, c10⟩ := HX.out _ B2.out)
      | (go_at_call 29; (with_reducible refine (HR.out _ B2.out).mono ?_); rintro e w5 ⟨rfl, hb⟩; have B2 := Lib.hid (B2.out.trans (hb.mono B2.out.size)); clear hb c0 c1 c2 c3 c4 c5 c6 c7 c8 c9 c10; obtain ⟨c0, c1, c2, c3, c4, c5, c6, c7, c8, c9, c10⟩ := HX.out _ B2.out))
  all_goals go_wp2
  all_goals go_ret
  all_goals exact ⟨rfl, HE.out _ B2.out⟩
end Go.Proofs.Ytmjajoepgilokaa
