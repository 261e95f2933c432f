/- The program's Walk, as it is ranged over. -/
import Derived.RangeFuncBox
import Derived.RangeFuncNested
import Derived.RangeFuncBound
import Derived.RangeFuncCalls
import Derived.RangeFuncLeaves
import Derived.Shelf.Abstract
import Derived.Shelf.RegionOpen
import Derived.WalkKit
import Derived.OwnWalkIn
import Derived.TacticsInMore
import Derived.LoopNIn
import Derived.LoopIn
import Derived.Test.YtdmdakkibgjffaaDoorLv
import Derived.Test.YtdmdakkibgjffaaDoorRl5
namespace Go.Proofs.YtdmdakkibgjffaaDoor
open Go Go.RowKit Go.Shelf
attribute [local go_sem] Oper.semAt_some

theorem lIsLong_any (s : ByteArray) (w : World) : Calls Tryd.prog 21 #[.string s] w fun e w' => e = .returned (.bool (decide (4096 < (s.size : Int)))) ∧ w = w' := by
  go_enter Tryd.func21, Tryd.ntmps21
  go_wp2
  go_ret
  exact ⟨rfl, rfl⟩

/-- What a round keeps: what lay below n₀, the text's box, and all cells laid at or beyond d. -/
def KpT (n₀ Bt d : Nat) (A B : World) : Prop := Below n₀ A B ∧ ∀ (k : Nat) (cs : Array Value) (t : Nat) (fr : Nat × Nat), (k = Bt ∨ d ≤ k) → A.heap[k]? = some (.cells cs t fr) → B.heap[k]? = some (.cells cs t fr)
theorem KpT.trans {n₀ Bt d : Nat} {A B C : World} (h : KpT n₀ Bt d A B) (k : KpT n₀ Bt d B C) : KpT n₀ Bt d A C := ⟨h.1.trans k.1, fun i cs t fr hi hc => k.2 i cs t fr hi (h.2 i cs t fr hi hc)⟩
theorem KpT.put {n₀ Bt : Nat} {w : World} (hn : n₀ ≤ w.heap.size) (d : Nat) (W : World) (l : Nat) (o o' : Obj) (hl : w.heap.size ≤ l) (h : W.heap[l]? = some o) (hc : o.isCells = false) (hw : o.isWalk = false) : KpT n₀ Bt d W (W.putObj l o') := by
  refine ⟨belowK_b hn W l o o' hl h hc hw, fun i cs t fr _ hb => ?_⟩
  have : i ≠ l := by rintro rfl; rw [h] at hb; cases hb; cases hc
  exact (World.putObj_heap_other this).trans hb

theorem blk_nx {L : List UInt8} {k : Nat} (h : k ≤ L.length) : blkI L (k : Int) = (nx L k : Nat) := by rw [blkI_at h]; rfl
theorem inW_nat {a b N : Nat} (h : a + b ≤ N) (hN : N ≤ 140737488355328) : inW ((a : Int) + (b : Int)) := by unfold inW; omega
theorem wr_nat {a b N : Nat} (h : a + b ≤ N) (hN : N ≤ 140737488355328) : wrap64 ((a : Int) + (b : Int)) = (a : Int) + (b : Int) := by unfold wrap64; omega
theorem take_mid {α : Type} (pre rest : List α) (x : α) : (pre ++ x :: rest).take (pre.length + 1) = pre ++ [x] := by
  rw [show pre ++ x :: rest = (pre ++ [x]) ++ rest by simp, List.take_left' (by simp)]
theorem pre_len {α : Type} {ts pre rest : List α} {x : α} (h : ts = pre ++ x :: rest) : pre.length < ts.length := by rw [h]; simp

set_option maxRecDepth 100000 in
set_option maxHeartbeats 4000000 in
theorem walk2_in (s : ByteArray) (hs : s.size ≤ 140737488355328) (ts : List Tok) (e : Nat) (hw : Wds s.data.toList (nx s.data.toList 0) ts e) (n : Nat) (hn : 1 ≤ n) (l n₀ Bt : Nat) (w0 : World) (hE : ErrV w0) (hn₀ : w0.heap.size = n₀) (J Jx : List Tok → World → Prop)
    (W : World) (hJ : OwnFrom W.heap.size J) (hb0 : Below n₀ w0 W) (hnW : n₀ ≤ W.heap.size)
    (hY : ∀ pre x V W1, J pre V → Below V.heap.size V W1 → x ∈ ts → pre.length < ts.length → YieldAt Fence.wide (n - 1) Tryd.prog l #[tokV x] W1 fun e W' =>
      (e = .returned (.bool true) ∧ J (pre ++ [x]) W' ∧ KpT n₀ Bt V.heap.size W1 W') ∨ (e = .returned (.bool false) ∧ Jx (pre ++ [x]) W'))
    (hB : W.heap[Bt]? = some (.cells #[.string s] 9 (0, 0))) (h0 : J [] W) :
    CallsIn Fence.wide n Tryd.prog 24 #[.func (.yield l) #[] #[], .pointer (some ⟨Bt, 0, none⟩)] W fun e W' => (∃ v, e = .returned v) ∧
      (J ts W' ∨ (∃ k, k ≤ ts.length ∧ Jx (ts.take k) W')) := by
  refine callsIn_of_wp Tryd.func24 rfl trivial ?_ rfl
  simp only [Tryd.ntmps24, List.size_toArray, List.length_cons, List.length_nil, Nat.reduceAdd, Nat.reduceSub, Array.replicate_succ, Array.replicate_zero, List.push_toArray, List.append_toArray, List.nil_append, List.cons_append]
  have hsl : s.data.toList.length = s.size := (Lib.size_eq s).symm
  have hz : blkI s.data.toList 0 = ((nx s.data.toList 0 : Nat) : Int) := blk_nx (k := 0) (Nat.zero_le _)
  have cB : W.cell? ⟨Bt, 0, none⟩ = some (.string s) := by simp [World.cell?, hB]
  have hin0 : inW 0 := by unfold inW; omega
  have hC0 := fun w => lBlank_any s hs 0 hin0 w
  rw [hz] at hC0
  have hx0 : nx s.data.toList 0 ≤ s.size := by rw [← hsl]; exact nx_le (Nat.zero_le _)
  generalize nx s.data.toList 0 = p0 at hw hC0 hx0 hz
  clear hz hin0
  gi_wp2_with (refine ⟨trivial, ?_⟩; gi_at_call 14; refine (callsIn_wide.2 (hC0 _)).mono ?_; rintro e1 w1 ⟨rfl, rfl⟩)
  gi_loopw [3] (fun i wr => ∃ (pre rest : List Tok) (p : Nat), ts = pre ++ rest ∧ Wds s.data.toList p rest e ∧ p ≤ s.size ∧ i = .int .i64 p ∧ J pre wr ∧ Below n₀ w0 wr ∧ wr.heap[Bt]? = some (.cells #[.string s] 9 (0, 0)) ∧ n₀ ≤ wr.heap.size)
    (fun i _ => s.size - (intOf i).toNat)
  case atStart => exact ⟨[], ts, p0, rfl, hw, hx0, rfl, h0, hb0, hB, hnW⟩
  case round =>
    obtain ⟨pre, rest, p, hts, hwd, hps, rfl, hJs, hbn, hBr, hsz⟩ := hrel
    have cBr : wr.cell? ⟨Bt, 0, none⟩ = some (.string s) := by simp [World.cell?, hBr]
    have hltB : Bt < wr.heap.size := (Array.getElem?_eq_some_iff.1 hBr).1
    have hEr : ErrV wr := hE.keep (hn₀ ▸ hbn)
    have hJn : ∀ W2, Below wr.heap.size wr W2 → J pre W2 := fun W2 h => hJ pre wr W2 none hJs ⟨h.os, h.tape, h.output, h.size, fun k hk _ => h.block k hk⟩ (fun r e => by cases e)
    rcases hwd.inv with ⟨hp, rfl, _⟩ | ⟨h, rfl, _, hwn⟩ | ⟨t, r, rfl, h, hwt, hr⟩
    · have hnl : ¬ ((p : Int) < (s.size : Int)) := by omega
      rw [List.append_nil] at hts
      subst hts
      gi_wp2
      go_end0
      exact ⟨⟨_, rfl⟩, .inl hJs⟩
    · have hlt : p < s.size := by omega
      have hC := fun w hE => lWord_any s hs p hlt none hwn w hE
      rw [List.append_nil] at hts
      subst hts
      gi_wp2_with (refine ⟨trivial, ?_⟩; gi_at_call 25; refine (callsIn_wide.2 (hC _ hEr)).mono ?_; rintro e1 w1 ⟨⟨t, ok, rfl, _, hno⟩, hb1⟩; obtain rfl := hno rfl; have hJ1 := hJn _ (hb1.alloc hb1.size (.cells #[.int .i64 t.kind, .string t.text, .int .i64 t.vk, .int .i64 t.vn, .string t.vs, .int .i64 t.pl] 42)); unfold tokV)
      refine ⟨fun _ h => (by cases h), ?_⟩
      gi_wp2
      refine bodyPost_ret (results_none rfl _ _ _) rfl ?_
      exact ⟨⟨_, rfl⟩, .inl hJ1⟩
    · have hlt : p < s.size := by rw [← hsl]; exact h
      have hfit := Wd.fits h hwt
      have hC := fun w hE => lWord_any s hs p hlt (some t) hwt w hE
      have hmt : t ∈ ts := by rw [hts]; simp
      have hlen := pre_len hts
      have hYY := fun (W2 : World) (hb2 : Below wr.heap.size wr W2) => hY pre t wr W2 hJs hb2 hmt hlen
      have hfs : p + t.text.size ≤ s.size := by rw [← hsl]; exact hfit.2
      have hadd := wr_nat hfs hs
      have hbl := fun w => lBlank_any s hs ((p : Int) + (t.text.size : Int)) (inW_nat hfs hs) w
      rw [show (p : Int) + (t.text.size : Int) = ((p + t.text.size : Nat) : Int) by omega, blk_nx hfit.2] at hbl
      rw [show ((p + t.text.size : Nat) : Int) = (p : Int) + (t.text.size : Int) by omega] at hbl
      have hnx := nx_le (L := s.data.toList) (b := p + t.text.size) hfit.2
      have hng := nx_ge s.data.toList (p + t.text.size)
      generalize nx s.data.toList (p + t.text.size) = p' at hbl hnx hng hr
      unfold tokV at hYY
      gi_wp2_with (first
        | (refine ⟨trivial, ?_⟩; gi_at_call 25; refine (callsIn_wide.2 (hC _ hEr)).mono ?_; rintro e1 w1 ⟨⟨t', ok, rfl, hyes, _⟩, hb1⟩; obtain ⟨rfl, rfl⟩ := hyes t rfl; have hb2 := hb1.alloc hb1.size (.cells #[.int .i64 t'.kind, .string t'.text, .int .i64 t'.vk, .int .i64 t'.vn, .string t'.vs, .int .i64 t'.pl] 42); obtain ⟨fn, tmps, assign, body, hy, hR⟩ := hYY _ hb2; unfold tokV)
        | (refine ⟨trivial, ?_⟩; gi_at_call 14; refine (callsIn_wide.2 (hbl _)).mono ?_; rintro e1 w4 ⟨rfl, rfl⟩))
      refine hR.mono ?_
      rintro e3 W3 (⟨rfl, hJ3, hk3⟩ | ⟨rfl, hJx3⟩)
      · have hB3 := hk3.2 Bt _ _ _ (.inl rfl) ((hb2.block Bt hltB).trans hBr)
        have cB3 : W3.cell? ⟨Bt, 0, none⟩ = some (.string s) := by simp [World.cell?, hB3]
        obtain ⟨_, d1, _, _, _, _⟩ := cell_of_six (hk3.2 w1.heap.size _ _ _ (.inr hb1.size) (heap_alloc_new w1 _))
        have HRel : Hid (∃ (pre rest : List Tok) (p : Nat), ts = pre ++ rest ∧ Wds s.data.toList p rest e ∧ p ≤ s.size ∧ Value.int .i64 (p' : Int) = .int .i64 p ∧ J pre W3 ∧ Below n₀ w0 W3 ∧ W3.heap[Bt]? = some (.cells #[.string s] 9 (0, 0)) ∧ n₀ ≤ W3.heap.size) :=
          ⟨pre ++ [t'], r, p', by rw [hts]; simp, hr, hsl ▸ hnx, rfl, hJ3, (hbn.trans (hb2.mono hsz)).trans hk3.1, hB3, Nat.le_trans hsz (Nat.le_trans hb2.size hk3.1.size)⟩
        have hmeas : s.size - p' < s.size - p := Nat.sub_lt_sub_left hlt (Nat.lt_of_lt_of_le (Nat.lt_add_of_pos_right hfit.1) hng)
        clear hB3 hJ3 hk3 hb2 hb1 hR hy hYY hlen hmt hts hr hwt hC hJs hbn hBr hsz cBr hltB hEr hJn hY hJ hb0 hnW hB cB h0 hw hE
        gi_wp2_with (refine ⟨trivial, ?_⟩; gi_at_call 14; refine (callsIn_wide.2 (hbl _)).mono ?_; rintro e1 w4 ⟨rfl, rfl⟩)
        go_roundw
        case rel => exact HRel.out
        case measure => simpa [intOf] using hmeas
      · gi_wp2
        refine bodyPost_ret (results_none rfl _ _ _) rfl ?_
        refine ⟨⟨_, rfl⟩, .inr ⟨pre.length + 1, hlen, ?_⟩⟩
        rw [hts, take_mid]
        exact hJx3

theorem walk_stops (s : ByteArray) (hs : s.size ≤ 140737488355328) (ts : List Tok) (e : Nat) (hw : Wds s.data.toList (nx s.data.toList 0) ts e) (n : Nat) (hn : 1 ≤ n) (n₀ Bt : Nat) (w0 : World) (hE : ErrV w0) (hn₀ : w0.heap.size = n₀) (w : World) (hb0 : Below n₀ w0 w) (hnW : n₀ ≤ w.heap.size)
    (hB : w.heap[Bt]? = some (.cells #[.string s] 9 (0, 0))) :
    SeqStopsV Fence.wide n Tryd.prog 24 #[.pointer (some ⟨Bt, 0, none⟩)] (fun x : Tok => #[tokV x]) (fun x _ => x ∈ ts) (KpT n₀ Bt) (fun ys => ys = ts) (fun pre => pre <+: ts) ts.length w := fun l J Jx W hW hJ hJx hY h0 => by
  have hlt : Bt < w.heap.size := (Array.getElem?_eq_some_iff.1 hB).1
  refine (walk2_in s hs ts e hw n hn l n₀ Bt w0 hE hn₀ J Jx W hJ (hb0.trans (hW.mono hnW)) (Nat.le_trans hnW hW.size) (fun pre x V W1 hj hb hm hl => (hY pre x V W1 hj hb hm hl).mono (fun e W' h => h.imp (fun ⟨a, b, c, _⟩ => ⟨a, b, c⟩) (fun ⟨a, b, _⟩ => ⟨a, b⟩))) ((hW.block Bt hlt).trans hB) h0).mono ?_
  rintro e W' ⟨he, hj | ⟨k, hk, hj⟩⟩
  · exact ⟨he, .inl ⟨_, rfl, hj⟩⟩
  · exact ⟨he, .inr ⟨_, List.take_prefix _ _, hj⟩⟩
set_option maxRecDepth 100000 in
theorem walk1_stops {α : Type} (encs : α → Array Value) (H : α → World → Prop) (Kp : Nat → World → World → Prop) (n : Nat) (N : Nat) (w : World) :
    SeqStopsV Fence.wide n Tryd.prog 23 #[] encs H Kp (fun ys => ys = []) (fun pre => pre <+: []) N w := fun l J Jx W hW hJ hJx hY h0 => by
  refine callsIn_of_wp Tryd.func23 rfl trivial ?_ rfl
  simp only [Tryd.ntmps23, List.size_toArray, List.length_cons, List.length_nil, Nat.reduceAdd, Nat.reduceSub, Array.replicate_succ, Array.replicate_zero, List.push_toArray, List.append_toArray, List.nil_append, List.cons_append]
  gi_wp2
  go_end0
  exact ⟨⟨_, rfl⟩, .inl ⟨[], rfl, h0⟩⟩
theorem lWalk_any (s : ByteArray) (w : World) : Calls Tryd.prog 13 #[.string s] w fun e w' => w' = w.alloc (.cells #[.string s] 9) ∧
    (4096 < s.size → e = .returned (.func (.func 23) #[] #[])) ∧ (s.size ≤ 4096 → e = .returned (.func (.func 24) #[] #[.pointer (some ⟨w.heap.size, 0, none⟩)])) := by
  by_cases h : 4096 < s.size
  · have h2 : (4096 : Int) < s.size := by omega
    go_enter Tryd.func13, Tryd.ntmps13
    go_wp2_with (go_at_call 21; (with_reducible refine (lIsLong_any _ _).mono ?_); rintro e w' ⟨rfl, rfl⟩)
    go_ret
    exact ⟨rfl, fun _ => rfl, fun h' => absurd h (Nat.not_lt.2 h')⟩
  · have h2 : ¬ (4096 : Int) < s.size := by omega
    go_enter Tryd.func13, Tryd.ntmps13
    go_wp2_with (go_at_call 21; (with_reducible refine (lIsLong_any _ _).mono ?_); rintro e w' ⟨rfl, rfl⟩)
    go_ret
    exact ⟨rfl, fun h' => absurd h' h, fun _ => rfl⟩
end Go.Proofs.YtdmdakkibgjffaaDoor
