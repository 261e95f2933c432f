/- Contracts: which conditions are ready: the program's calls. -/
import Derived.Test.YtpbloplbpkedcaaNm9
import Derived.Test.YtpbloplbpkedcaaCo9
namespace Go.Proofs.Ytpbloplbpkedcaa
open Go Go.RowKit Go.Sort

def knB (kn : ByteArray → Bool) (o : Opd) : Bool := decide (o.attr = em) || kn o.var
def rdyB (kn : ByteArray → Bool) (c : Cnd) : Bool := knB kn c.left && knB kn c.right
theorem rdy_in (l : List Nm) (c : Cnd) : rdyB (fun x => decide (nb x ∈ l)) c = readyB c l := rfl
set_option maxRecDepth 100000 in
theorem pReady1_any (x : ByteArray) (ao : Option Addr) (cap : Nat) (l : List Nm) (q : Nat) (w : World) (h : SsV w (fun b => b < w.heap.size) (.slice ao l.length cap) l) (hn : l.length ≤ 9223372036854775807)
    (hq : w.heap[q]? = some (.cells #[.slice ao l.length cap] 49 (0, 0))) :
    Calls Try.prog 82 #[.string x, .pointer (some ⟨q, 0, none⟩)] w fun e w' => e = .returned (.bool (decide (nb x ∈ l))) ∧ Below w.heap.size w w' := by
  have HC := Lib.hid (ContainsStr_any w _ ao cap l x h hn)
  have c0 := cell_of_one hq
  clear h hn hq
  go_enter Try.func82, Try.ntmps82
  go_wp2_with (first | (go_at_call 83; (with_reducible refine HC.out.mono ?_); rintro e u2 ⟨rfl, rfl⟩))
  go_ret
  exact ⟨rfl, Below.refl _ _⟩
set_option maxRecDepth 100000 in
set_option maxHeartbeats 2000000 in
theorem pKnown_any (gf : Nat) (cp : Value) (kn : ByteArray → Bool) (c : Cnd) (w : World) (eg : ∀ args w, (callFunc gf args).run Try.prog w = .ok (.enter gf args) w)
    (HFl : ∀ u : World, Below w.heap.size w u → Calls Try.prog gf #[.string c.left.var, cp] u fun e w' => e = .returned (.bool (kn c.left.var)) ∧ Below u.heap.size u w')
    (HFr : ∀ u : World, Below w.heap.size w u → Calls Try.prog gf #[.string c.right.var, cp] u fun e w' => e = .returned (.bool (kn c.right.var)) ∧ Below u.heap.size u w') :
    Calls Try.prog 51 #[cdV c, .func (.func gf) #[] #[cp]] w fun e w' => e = .returned (.bool (rdyB kn c)) ∧ Below w.heap.size w w' := by
  obtain ⟨P, hP⟩ : ∃ P, P = w.heap.size := ⟨_, rfl⟩
  obtain ⟨W, hW⟩ : ∃ W, W = w.alloc (.cells #[.string c.left.var, .string c.left.attr, .int .i64 c.left.vk, .int .i64 c.left.vn, .string c.left.vs, .int .i64 c.rel, .string c.right.var, .string c.right.attr, .int .i64 c.right.vk, .int .i64 c.right.vn, .string c.right.vs] 27) := ⟨_, rfl⟩
  have hq : W.heap[P]? = some (.cells #[.string c.left.var, .string c.left.attr, .int .i64 c.left.vk, .int .i64 c.left.vn, .string c.left.vs, .int .i64 c.rel, .string c.right.var, .string c.right.attr, .int .i64 c.right.vk, .int .i64 c.right.vn, .string c.right.vs] 27 (0, 0)) := by rw [hW, hP]; exact heap_alloc_new _ _
  have hb : Below P w W := by rw [hW, hP]; exact (Below.refl _ _).alloc (Nat.le_refl _) _
  have hs : P + 1 ≤ W.heap.size := lt_of_block hq
  have HX := Lib.hid (fun (u : World) (hu : Below W.heap.size W u) => cell_of_eleven ((hu.block P (by omega)).trans hq))
  have HCL := (fun (u : World) (hu : Below W.heap.size W u) => HFl u (by rw [← hP]; exact hb.trans (hu.mono (by omega))))
  have HCR := (fun (u : World) (hu : Below W.heap.size W u) => HFr u (by rw [← hP]; exact hb.trans (hu.mono (by omega))))
  have CL := Lib.hid (fun u : World => pConst_any c.left.var c.left.attr c.left.vk c.left.vn c.left.vs u)
  have CR := Lib.hid (fun u : World => pConst_any c.right.var c.right.attr c.right.vk c.right.vn c.right.vs u)
  have HP := Lib.hid hP; have HW := Lib.hid hW; have HB := Lib.hid hb; have HS := Lib.hid hs
  have B2 := Lib.hid (Below.refl W.heap.size W)
  clear HFl HFr hP hW hq hb hs
  unfold cdV rdyB knB
  cases hl : decide (c.left.attr = em) <;> cases hr : decide (c.right.attr = em) <;> cases hkl : kn c.left.var <;> cases hkr : kn c.right.var
  all_goals
      rw [hl] at CL
      rw [hr] at CR
      simp only [hkl] at HCL
      simp only [hkr] at HCR
      have HFL := Lib.hid HCL; have HFR := Lib.hid HCR
      clear HCL HCR hl hr hkl hkr
      go_enter Try.func51, Try.ntmps51
      go_wp2_with fail
      rw [← HW.out, ← HP.out]
      obtain ⟨c0, c1, c2, c3, c4, c5, c6, c7, c8, c9, c10⟩ := HX.out _ B2.out
      go_wp2_with (first
        | (go_at_call 44; (with_reducible refine (CL.out _).mono ?_); rintro e u1 ⟨rfl, hb⟩; have B2 := Lib.hid (B2.out.trans (hb.mono B2.out.size)); clear hb c0 c1 c2 c3 c4 c5 c6 c7 c8 c9 c10; obtain ⟨c0, c1, c2, c3, c4, c5, c6, c7, c8, c9, c10⟩ := HX.out _ B2.out)
        | (go_at_call 44; (with_reducible refine (CR.out _).mono ?_); rintro e u1 ⟨rfl, hb⟩; have B2 := Lib.hid (B2.out.trans (hb.mono B2.out.size)); clear hb c0 c1 c2 c3 c4 c5 c6 c7 c8 c9 c10; obtain ⟨c0, c1, c2, c3, c4, c5, c6, c7, c8, c9, c10⟩ := HX.out _ B2.out)
        | (go_at_fn gf; (with_reducible refine (HFL.out _ B2.out).mono ?_); rintro e u1 ⟨rfl, hb⟩; have B2 := Lib.hid (B2.out.trans (hb.mono B2.out.size)); clear hb c0 c1 c2 c3 c4 c5 c6 c7 c8 c9 c10; obtain ⟨c0, c1, c2, c3, c4, c5, c6, c7, c8, c9, c10⟩ := HX.out _ B2.out)
        | (go_at_fn gf; (with_reducible refine (HFR.out _ B2.out).mono ?_); rintro e u1 ⟨rfl, hb⟩; have B2 := Lib.hid (B2.out.trans (hb.mono B2.out.size)); clear hb c0 c1 c2 c3 c4 c5 c6 c7 c8 c9 c10; obtain ⟨c0, c1, c2, c3, c4, c5, c6, c7, c8, c9, c10⟩ := HX.out _ B2.out))
      go_ret
      rw [← HP.out]
      exact ⟨by simp, HB.out.trans (B2.out.mono (by have := HS.out; omega))⟩
set_option maxRecDepth 100000 in
set_option maxHeartbeats 2000000 in
theorem pReady_any (c : Cnd) (ao : Option Addr) (cap : Nat) (l : List Nm) (w : World) (h : SsV w (fun b => b < w.heap.size) (.slice ao l.length cap) l) (hn : l.length ≤ 9223372036854775807) :
    Calls Try.prog 48 #[cdV c, .slice ao l.length cap] w fun e w' => e = .returned (.bool (readyB c l)) ∧ Below w.heap.size w w' := by
  obtain ⟨P, hP⟩ : ∃ P, P = w.heap.size := ⟨_, rfl⟩
  obtain ⟨W, hW⟩ : ∃ W, W = (w.alloc (.cells #[.string c.left.var, .string c.left.attr, .int .i64 c.left.vk, .int .i64 c.left.vn, .string c.left.vs, .int .i64 c.rel, .string c.right.var, .string c.right.attr, .int .i64 c.right.vk, .int .i64 c.right.vn, .string c.right.vs] 27)).alloc (.cells #[.slice ao l.length cap] 49) := ⟨_, rfl⟩
  have hq0 : W.heap[P]? = some (.cells #[.string c.left.var, .string c.left.attr, .int .i64 c.left.vk, .int .i64 c.left.vn, .string c.left.vs, .int .i64 c.rel, .string c.right.var, .string c.right.attr, .int .i64 c.right.vk, .int .i64 c.right.vn, .string c.right.vs] 27 (0, 0)) := by rw [hW, hP, heap_alloc_old _ _ (by simp)]; exact heap_alloc_new _ _
  have hq1 : W.heap[P + 1]? = some (.cells #[.slice ao l.length cap] 49 (0, 0)) := by
    rw [hW, hP]
    have := heap_alloc_new (w.alloc (.cells #[.string c.left.var, .string c.left.attr, .int .i64 c.left.vk, .int .i64 c.left.vn, .string c.left.vs, .int .i64 c.rel, .string c.right.var, .string c.right.attr, .int .i64 c.right.vk, .int .i64 c.right.vn, .string c.right.vs] 27)) (.cells #[.slice ao l.length cap] 49)
    simpa using this
  have hb : Below P w W := by rw [hW, hP]; exact ((Below.refl _ _).alloc (Nat.le_refl _) _).alloc (by simp) _
  have hs : P + 2 ≤ W.heap.size := lt_of_block hq1
  have eg := enters_of Try.func82 (by kernel_rfl) rfl
  have hK : ∀ u, Below W.heap.size W u → SsV u (fun b => b < u.heap.size) (.slice ao l.length cap) l := fun u hu =>
    (h.keep (fun b hbb => (hu.block b (by omega)).trans (hb.block b (by omega)))).mono (fun b hbb => by have := hu.size; omega)
  have HK := Lib.hid (pKnown_any 82 (.pointer (some ⟨P + 1, 0, none⟩)) (fun x => decide (nb x ∈ l)) c W eg (fun u hu => pReady1_any _ ao cap l (P + 1) u (hK u hu) hn ((hu.block _ (by omega)).trans hq1)) (fun u hu => pReady1_any _ ao cap l (P + 1) u (hK u hu) hn ((hu.block _ (by omega)).trans hq1)))
  obtain ⟨c0, c1, c2, c3, c4, c5, c6, c7, c8, c9, c10⟩ := cell_of_eleven hq0
  have HP := Lib.hid hP; have HW := Lib.hid hW; have HB := Lib.hid hb; have HS := Lib.hid hs
  clear h hn hP hW hq0 hq1 hb hs hK
  unfold cdV at HK ⊢
  rw [← rdy_in]
  go_enter Try.func48, Try.ntmps48
  go_wp2_with fail
  rw [← HW.out, ← HP.out]
  go_wp2_with (first | (go_at_call 51; (with_reducible refine HK.out.mono ?_); rintro e u2 ⟨rfl, hb2⟩))
  go_ret
  rw [← HP.out]
  exact ⟨rfl, HB.out.trans (hb2.mono (by have := HS.out; omega))⟩
end Go.Proofs.Ytpbloplbpkedcaa
