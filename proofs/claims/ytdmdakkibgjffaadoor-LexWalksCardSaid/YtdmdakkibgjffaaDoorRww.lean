/- The walk of LexWalks. -/
import Derived.Test.YtdmdakkibgjffaaDoorRwk
namespace Go.Proofs.YtdmdakkibgjffaaDoor
open Go Go.RowKit Go.Shelf

theorem Tv.mono {w : World} {B B' : Nat} {v : Value} {ts : List Tok} (h : Tv w B v ts) (hB : B ≤ B') : Tv w B' v ts := by
  obtain ⟨ao, cap, rfl, h2⟩ := h
  exact ⟨ao, cap, rfl, fun h0 => by
    obtain ⟨g, a, h3, h4, h5⟩ := h2 h0
    exact ⟨g, a, h3, Nat.lt_of_lt_of_le h4 hB, h5⟩⟩
theorem walk_step {w0 W w2 : World} {v : Value} {ts : List Tok} {s : ByteArray} (hw2 : w2 = W.alloc (.cells #[.string s] 9)) (hB : Below w0.heap.size w0 W) (hT : Tv W W.heap.size v ts) :
    Below w0.heap.size w0 w2 ∧ Tv w2 w2.heap.size v ts ∧ w2.heap[W.heap.size]? = some (.cells #[.string s] 9 (0, 0)) := by
  subst hw2
  have hba : Below W.heap.size W (W.alloc (.cells #[.string s] 9)) := (Below.refl _ _).alloc (Nat.le_refl _) _
  exact ⟨hB.alloc hB.size _, (hT.later hba (Nat.le_refl _)).mono hba.size, heap_alloc_new _ _⟩
theorem inW_wf {n : Int} (h : (Lit.int .i64 n).wf = true) : inW n := by
  simpa [inW, Lit.wf, IntKind.min, IntKind.max, IntKind.signed, IntKind.bits] using h
theorem tells_walk (s : ByteArray) (hs : s.size ≤ 140737488355328) (_ : s.size ≤ 4096) (ts : List Tok) (en : Nat) (hw : Wds s.data.toList (nx s.data.toList 0) ts en) (hlen : ts.length ≤ 4096) (ao : Option Addr) (cap : Nat) (stop : Int) (W : World) (Bt : Nat) (hE : ErrV W)
    (hBt : W.heap[Bt]? = some (.cells #[.string s] 9 (0, 0))) (hT : Tv W W.heap.size (.slice ao ts.length cap) ts) :
    Calls Tryd.prog 12 #[.func (.func 24) #[] #[.pointer (some ⟨Bt, 0, none⟩)], .slice ao ts.length cap, .int .i64 stop] W fun e w' => e = .returned (.bool true) ∧ Below W.heap.size W w' := by
  have hlt : Bt < W.heap.size := (Array.getElem?_eq_some_iff.1 hBt).1
  exact tells5_any _ _ Bt ts hlen ao cap stop W hlt hT (enters_of Tryd.func24 (by kernel_rfl) rfl) fun W2 hb =>
    walk_stops s hs ts en hw 5 (by omega) _ Bt W hE rfl W2 hb hb.size ((hb.block Bt hlt).trans hBt)
theorem tells_none (stop : Int) (W : World) (h0 : 0 < W.heap.size) :
    Calls Tryd.prog 12 #[.func (.func 23) #[] #[], .slice none 0 0, .int .i64 stop] W fun e w' => e = .returned (.bool true) ∧ Below W.heap.size W w' :=
  tells5_any _ _ 0 [] (by simp) none 0 stop W h0 ⟨none, 0, rfl, fun h => absurd h (by simp)⟩ (enters_of Tryd.func23 (by kernel_rfl) rfl) fun W2 _ =>
    walk1_stops _ _ _ 5 _ W2

set_option maxRecDepth 100000 in
set_option maxHeartbeats 4000000 in
theorem walks_walk (s : ByteArray) (hs : s.size ≤ 140737488355328) (stop p : Int) (hp : (Lit.int .i64 p).wf = true) (w : World) (hE : ErrV w) :
    Calls Tryd.prog 4 #[.string s, .int .i64 stop, .int .i64 p] w fun e w' => e = .returned (.bool true) ∧ Below w.heap.size w w' := by
  have HE := Lib.hid hE
  have HB1 := Lib.hid (fun w => lBlank_any s hs p (inW_wf hp) w)
  have HB2 := Lib.hid (fun w => r5Blank_any s hs p (inW_wf hp) w)
  have HY1 := Lib.hid (fun w => lSymbol_any s w)
  have HY2 := Lib.hid (fun w => r5Symbol_any s w)
  generalize blkI s.data.toList p = q at HB1 HB2
  generalize symB s.data.toList = y at HY1 HY2
  have bq : (q == q) = true := by simp
  have byy : (y == y) = true := by simp
  by_cases hlong : 4096 < s.size
  · have hd : ¬ (s.size : Int) ≤ 4096 := by omega
    have HWk := Lib.hid (fun w => (lWalk_any s w).mono (R' := fun e w' => w' = w.alloc (.cells #[.string s] 9) ∧ e = .returned (.func (.func 23) #[] #[])) (fun e w' h => ⟨h.1, h.2.1 hlong⟩))
    have B0 := Lib.hid (Below.refl w.heap.size w)
    clear hE hs hp hlong
    go_enter Tryd.func4, Tryd.ntmps4
    go_wp2_with (first
      | (go_at_call 9; (with_reducible refine (live5_any _ (HE.out.keep B0.out)).mono ?_); rintro e w1 ⟨rfl, hb1⟩; have B0 := Lib.hid (B0.out.trans (hb1.mono B0.out.size)); clear hb1)
      | (go_at_call 13; (with_reducible refine (HWk.out _).mono ?_); rintro e w2 ⟨hw2, rfl⟩; have B0 := Lib.hid (show Below w.heap.size w w2 from by rw [hw2]; exact B0.out.alloc B0.out.size _); have HZ := Lib.hid (show 0 < w2.heap.size from by rw [hw2]; simp); clear hw2)
      | (go_at_call 12; (with_reducible refine (tells_none _ _ HZ.out).mono ?_); rintro e w3 ⟨rfl, hb3⟩; have B0 := Lib.hid (B0.out.trans (hb3.mono B0.out.size)); clear hb3)
      | (go_at_call 14; (with_reducible refine (HB1.out _).mono ?_); rintro e w4 ⟨rfl, rfl⟩)
      | (go_at_call 15; (with_reducible refine (HB2.out _).mono ?_); rintro e w4 ⟨rfl, rfl⟩)
      | (go_at_call 16; (with_reducible refine (HY1.out _).mono ?_); rintro e w4 ⟨rfl, rfl⟩)
      | (go_at_call 17; (with_reducible refine (HY2.out _).mono ?_); rintro e w5 ⟨rfl, hb5⟩; have B0 := Lib.hid (B0.out.trans (hb5.mono B0.out.size)); clear hb5))
    go_ret
    exact ⟨rfl, B0.out⟩
  · obtain ⟨ts, en, hw⟩ := Wds.all s.data.toList
    have hsl : s.data.toList.length = s.size := (Lib.size_eq s).symm
    have hlen0 : ts.length ≤ s.size := by rw [← hsl]; exact Nat.le_trans (Nat.le_add_right _ _) hw.len
    have hlen : ts.length ≤ 4096 := by omega
    have hd : (s.size : Int) ≤ 4096 := by omega
    have HWk := Lib.hid (fun w => (lWalk_any s w).mono (R' := fun e w' => w' = w.alloc (.cells #[.string s] 9) ∧ e = .returned (.func (.func 24) #[] #[.pointer (some ⟨w.heap.size, 0, none⟩)])) (fun e w' h => ⟨h.1, h.2.2 (by omega)⟩))
    have HWd := Lib.hid ((r5Words_any s (by omega) (by omega) ts en hw w).mono (R' := fun e w' => ∃ ao cap, e = .returned (.tuple #[.slice ao ts.length cap, .int .i64 (en : Int)]) ∧ Tv w' w'.heap.size (.slice ao ts.length cap) ts ∧ Below w.heap.size w w') (fun e w' h => by
      obtain ⟨⟨v, he, hrow⟩, hb⟩ := h
      have ht := Tv.of_row hrow
      obtain ⟨ao, cap, rfl, _⟩ := id ht
      exact ⟨ao, cap, he, ht, hb⟩))
    have HTL := Lib.hid (fun ao cap stop W Bt hE hBt hT => tells_walk s hs (by omega) ts en hw hlen ao cap stop W Bt hE hBt hT)
    clear hE hs hp hlong hw hsl hlen hlen0
    go_enter Tryd.func4, Tryd.ntmps4
    go_wp2_with (first
      | (go_at_call 11; refine HWd.out.mono ?_; rintro e w0 ⟨ao, cap, rfl, ht0, hb0⟩; have T0 := Lib.hid ht0; have B0 := Lib.hid hb0; clear ht0 hb0)
      | (go_at_call 9; (with_reducible refine (live5_any _ (HE.out.keep B0.out)).mono ?_); rintro e w1 ⟨rfl, hb1⟩; have T0 := Lib.hid ((T0.out.later hb1 (Nat.le_refl _)).mono hb1.size); have B0 := Lib.hid (B0.out.trans (hb1.mono B0.out.size)); clear hb1)
      | (go_at_call 13; (with_reducible refine (HWk.out _).mono ?_); rintro e w2 ⟨hw2, rfl⟩; obtain ⟨x1, x2, x3⟩ := walk_step hw2 B0.out T0.out; have B0 := Lib.hid x1; have T0 := Lib.hid x2; have HBX := Lib.hid x3; clear x1 x2 x3 hw2)
      | (go_at_call 12; (with_reducible refine (HTL.out _ _ _ _ _ (HE.out.keep B0.out) HBX.out T0.out).mono ?_); rintro e w3 ⟨rfl, hb3⟩; have T0 := Lib.hid ((T0.out.later hb3 (Nat.le_refl _)).mono hb3.size); have B0 := Lib.hid (B0.out.trans (hb3.mono B0.out.size)); clear hb3)
      | (go_at_call 14; (with_reducible refine (HB1.out _).mono ?_); rintro e w4 ⟨rfl, rfl⟩)
      | (go_at_call 15; (with_reducible refine (HB2.out _).mono ?_); rintro e w4 ⟨rfl, rfl⟩)
      | (go_at_call 16; (with_reducible refine (HY1.out _).mono ?_); rintro e w4 ⟨rfl, rfl⟩)
      | (go_at_call 17; (with_reducible refine (HY2.out _).mono ?_); rintro e w5 ⟨rfl, hb5⟩; have B0 := Lib.hid (B0.out.trans (hb5.mono B0.out.size)); clear hb5))
    go_ret
    exact ⟨rfl, B0.out⟩
end Go.Proofs.YtdmdakkibgjffaaDoor
