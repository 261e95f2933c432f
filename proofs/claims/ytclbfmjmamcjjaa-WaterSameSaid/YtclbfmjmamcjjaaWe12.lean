/- Contracts: From, Clone, Same. Written by wip/genwe12.py. -/
import Derived.Test.YtclbfmjmamcjjaaBg12
import Derived.Laws.StructEq
import Derived.DeepKeys
namespace Go.Proofs.Ytclbfmjmamcjjaa
open Go Go.RowKit

/-- Which numbers may be marks. -/
def okF (ms : List Int) : Bool := newB ms.length && ms.all mayB
theorem may_of {t : Int} (h : mayB t = true) : 0 ≤ t ∧ t ≤ 1099511627777 := by unfold mayB at h; rw [Bool.and_eq_true, decide_eq_true_iff, decide_eq_true_iff] at h; exact h
theorem newB_of {n : Nat} (h : newB n = true) : 1 ≤ n ∧ n ≤ 12 := by unfold newB at h; rw [Bool.and_eq_true, decide_eq_true_iff, decide_eq_true_iff] at h; omega
/-- The marks while From lays them. -/
def partL (ms : List Int) (k : Nat) : List Int := ms.take k ++ List.replicate (ms.length - k) 0
theorem partL_zero (ms : List Int) : partL ms 0 = List.replicate ms.length 0 := by unfold partL; simp
theorem partL_all (ms : List Int) : partL ms ms.length = ms := by unfold partL; simp
theorem partL_len {ms : List Int} {k : Nat} (h : k ≤ ms.length) : (partL ms k).length = ms.length := by unfold partL; simp; omega
theorem partL_set {ms : List Int} {k : Nat} (h : k < ms.length) : (partL ms k).set k ms[k]! = partL ms (k + 1) := by
  unfold partL
  rw [List.set_append_right _ _ (by rw [List.length_take]; omega), take_one h, List.append_assoc]
  congr 1
  rw [show k - (ms.take k).length = 0 by rw [List.length_take]; omega, show ms.length - k = (ms.length - (k + 1)) + 1 by omega, List.replicate_succ]
  rfl

set_option maxRecDepth 100000 in
set_option maxHeartbeats 3200000 in
theorem wFrom_any (C : Nat) (v : Value) (ms : List Int) (w : World) (h : Nv w C v ms) (hC : C ≤ w.heap.size) :
    Calls Try.prog 9 #[v] w fun e w' => ((okF ms = true ∧ e = .returned (.tuple #[.pointer (some ⟨w.heap.size, 0, none⟩), .int .i64 0]) ∧ WtIs w' w.heap.size ms) ∨ (okF ms = false ∧ e = .returned (.tuple #[.pointer none, .int .i64 1]))) ∧ Below w.heap.size w w' := by
  obtain ⟨ao, cap, rfl, hcap, hcap2, hrow⟩ := h.row
  cases hn : newB ms.length with
  | false =>
    have HC0 := Lib.hid (wNew_err (ms.length : Int) hn w)
    have HF : Hid (okF ms = false) := by unfold okF; rw [hn]; rfl
    generalize ms.length = n at HC0 ⊢
    clear hn hrow h hcap hcap2
    go_enter Try.func9, Try.ntmps9
    go_wp2_with (go_at_call 7; (with_reducible refine HC0.out.mono ?_); rintro e w1 ⟨rfl, rfl⟩)
    go_ret2
    exact ⟨.inr ⟨HF.out, rfl⟩, Below.refl _ _⟩
  | true =>
    obtain ⟨h1, h2⟩ := newB_of hn
    have HC0 := Lib.hid (wNew_ok ms.length h1 h2 w)
    obtain ⟨q, hq⟩ : ∃ q, q = w.heap.size := ⟨_, rfl⟩
    obtain ⟨n, hN⟩ : ∃ n, n = ms.length := ⟨_, rfl⟩
    have HQ := Lib.hid hq; have HN := Lib.hid hN; have HROW := Lib.hid hrow
    have H12 : Hid (n ≤ 12) := by rw [hN]; exact h2
    have HNB : Hid (newB ms.length = true) := hn
    rw [← hq, ← hN] at HC0
    rw [← hq, ← hN]
    clear hq hN hrow h hcap hcap2 h1 h2 hn
    go_enter Try.func9, Try.ntmps9
    go_wp2_with fail
    (with_reducible refine HC0.out.mono ?_)
    rintro e w1 ⟨rfl, hi, hb⟩
    have H1 : Hid (WtIs w1 q (partL ms 0)) := by rw [partL_zero, ← HN.out]; exact hi
    have B1 := Lib.hid hb
    clear hi hb
    go_wp2_with fail
    go_loopw [19] (fun iv wr => ∃ k : Nat, k ≤ n ∧ iv = .int .i64 (k : Int) ∧ Hid (WtIs wr q (partL ms k)) ∧ Hid (Below q w wr) ∧ Hid (∀ t ∈ ms.take k, mayB t = true)) (fun iv _ => n - (intOf iv).toNat)
    case atStart => exact ⟨0, Nat.zero_le _, rfl, H1, B1, Lib.hid (fun t ht => by simp at ht)⟩
    case round =>
      obtain ⟨k, hk, rfl, HR, HB, HM⟩ := hrel
      by_cases hlt : k < n
      · obtain ⟨b, o, rfl, hbC, hcell⟩ := HROW.out (by have := HN.out; omega)
        have hkm : k < ms.length := by have := HN.out; omega
        have c1 := (HB.out.cell (p := ⟨b, o + k, none⟩) (show b < q by have := HQ.out; omega)).trans (hcell k hkm)
        have f1 := HR.out.free (1 + k)
        have hs := HR.out.at k (by rw [partL_len (by omega)]; exact hkm)
        have hset := partL_set hkm
        have HMK := Lib.hid (fun (ht : mayB ms[k]! = true) => HR.out.mark k (by rw [partL_len (by omega)]; exact hkm) ms[k]! (may_of ht))
        rw [hset] at HMK
        have HTK := Lib.hid (take_one hkm)
        have HBD : Hid (mayB ms[k]! = false → okF ms = false) := fun ht => by
          unfold okF
          rw [HNB.out, Bool.true_and, List.all_eq_false]
          exact ⟨ms[k]!, by rw [getElem!_pos ms k hkm]; exact List.getElem_mem _, by rw [ht]; decide⟩
        generalize ms[k]! = x at c1 HMK HTK HBD
        generalize (partL ms k)[k]! = x0 at hs
        have hk0 : (0 : Int) ≤ (k : Int) := by omega
        have hk12 : (k : Int) < 12 := by have := H12.out; omega
        have e1 : IntKind.i64.wrap ((k : Int) + 1) = (k : Int) + 1 := IntWalk.i64_in _ (by omega)
        have HC1 := Lib.hid (wIsMark_any x wr)
        clear hcell hset hkm hbC
        cases hm : mayB x with
        | false =>
          rw [hm] at HC1
          have HM0 := Lib.hid (HBD.out hm)
          clear hm
          go_wp2_with (go_at_call 25; (with_reducible refine HC1.out.mono ?_); rintro e w2 ⟨rfl, rfl⟩)
          go_ret2
          exact ⟨.inr ⟨HM0.out, rfl⟩, HB.out⟩
        | true =>
          rw [hm] at HC1
          have HM1 := Lib.hid (HMK.out hm); have HM2 := Lib.hid hm
          clear hm
          go_wp2_with (go_at_call 25; (with_reducible refine HC1.out.mono ?_); rintro e w2 ⟨rfl, rfl⟩)
          go_roundw
          case rel => exact ⟨k + 1, by omega, by go_num, HM1, Lib.hid (HB.out.setCell (p := ⟨q, 1 + k, none⟩) (Nat.le_refl _) _), Lib.hid (fun t ht => by rw [HTK.out] at ht; rcases List.mem_append.1 ht with ht | ht; exact HM.out t ht; rw [List.mem_singleton.1 ht]; exact HM2.out)⟩
          case measure => simp [intOf]; omega
      · have HKN : Hid (k = ms.length) := by have := HN.out; unfold Hid; omega
        have HX : Hid (okF ms = true ∧ WtIs wr q ms) := by
          have h1 := HR.out
          have h2 := HM.out
          rw [HKN.out] at h1 h2
          rw [partL_all] at h1
          rw [List.take_length] at h2
          refine ⟨?_, h1⟩
          unfold okF
          rw [HNB.out, Bool.true_and, List.all_eq_true]
          exact h2
        go_wp2
        go_ret2
        exact ⟨.inl ⟨HX.out.1, rfl, HX.out.2⟩, HB.out⟩

theorem twelve {α : Type} (l : List α) (h : l.length = 12) : ∃ x0 x1 x2 x3 x4 x5 x6 x7 x8 x9 x10 x11, l = [x0, x1, x2, x3, x4, x5, x6, x7, x8, x9, x10, x11] := by
  match l, h with
  | [x0, x1, x2, x3, x4, x5, x6, x7, x8, x9, x10, x11], _ => exact ⟨x0, x1, x2, x3, x4, x5, x6, x7, x8, x9, x10, x11, rfl⟩
/-- The cells of marks, letter by letter. -/
theorem WtIs.letters {w : World} {q : Nat} {ms : List Int} (h : WtIs w q ms) : ∃ x0 x1 x2 x3 x4 x5 x6 x7 x8 x9 x10 x11, ms ++ List.replicate (12 - ms.length) 0 = [x0, x1, x2, x3, x4, x5, x6, x7, x8, x9, x10, x11] ∧ w.heap[q]? = some (.cells #[.int .i64 (ms.length : Int), .int .i64 x0, .int .i64 x1, .int .i64 x2, .int .i64 x3, .int .i64 x4, .int .i64 x5, .int .i64 x6, .int .i64 x7, .int .i64 x8, .int .i64 x9, .int .i64 x10, .int .i64 x11] 50 (0, 0)) := by
  obtain ⟨x0, x1, x2, x3, x4, x5, x6, x7, x8, x9, x10, x11, he⟩ := twelve (ms ++ List.replicate (12 - ms.length) 0) (by have := h.k12; simp; omega)
  refine ⟨x0, x1, x2, x3, x4, x5, x6, x7, x8, x9, x10, x11, he, ?_⟩
  have hb := h.blk
  unfold wtCells at hb
  rw [he] at hb
  exact hb
theorem cells13 {w : World} {q : Nat} {c0 c1 c2 c3 c4 c5 c6 c7 c8 c9 c10 c11 c12 : Value} {t : Nat} {fr : Nat × Nat} (h : w.heap[q]? = some (.cells #[c0, c1, c2, c3, c4, c5, c6, c7, c8, c9, c10, c11, c12] t fr)) : w.cell? ⟨q, 0, none⟩ = some c0 ∧ w.cell? ⟨q, 1, none⟩ = some c1 ∧ w.cell? ⟨q, 2, none⟩ = some c2 ∧ w.cell? ⟨q, 3, none⟩ = some c3 ∧ w.cell? ⟨q, 4, none⟩ = some c4 ∧ w.cell? ⟨q, 5, none⟩ = some c5 ∧ w.cell? ⟨q, 6, none⟩ = some c6 ∧ w.cell? ⟨q, 7, none⟩ = some c7 ∧ w.cell? ⟨q, 8, none⟩ = some c8 ∧ w.cell? ⟨q, 9, none⟩ = some c9 ∧ w.cell? ⟨q, 10, none⟩ = some c10 ∧ w.cell? ⟨q, 11, none⟩ = some c11 ∧ w.cell? ⟨q, 12, none⟩ = some c12 := by
  refine ⟨?_, ?_, ?_, ?_, ?_, ?_, ?_, ?_, ?_, ?_, ?_, ?_, ?_⟩ <;> simp [World.cell?, h]

set_option maxRecDepth 100000 in
set_option maxHeartbeats 1600000 in
theorem wClone_any (q : Nat) (ms : List Int) (w : World) (h : WtIs w q ms) :
    Calls Try.prog 12 #[.pointer (some ⟨q, 0, none⟩)] w fun e w' => e = .returned (.pointer (some ⟨w.heap.size, 0, none⟩)) ∧ WtIs w' w.heap.size ms ∧ Below w.heap.size w w' := by
  have C1 := wIsMade_any q ms.length w h.num
  rw [h.posB] at C1
  obtain ⟨x0, x1, x2, x3, x4, x5, x6, x7, x8, x9, x10, x11, he, hblk⟩ := h.letters
  obtain ⟨e0, e1, e2, e3, e4, e5, e6, e7, e8, e9, e10, e11, e12⟩ := cells13 hblk
  have HC1 := Lib.hid C1; have HH := Lib.hid h; have HE := Lib.hid he
  clear C1 h he hblk
  go_enter Try.func12, Try.ntmps12
  go_wp2_with (go_at_call 27; (with_reducible refine HC1.out.mono ?_); rintro e w1 ⟨rfl, rfl⟩)
  go_ret
  refine ⟨rfl, ⟨HH.out.k0, HH.out.k12, HH.out.may, ?_⟩, (Below.refl _ _).alloc (Nat.le_refl _) _⟩
  rw [heap_alloc_new]
  unfold wtCells
  rw [HE.out]
  rfl
theorem wClone_not (x : Value) (w : World) (C1 : Calls Try.prog 27 #[x] w fun e w' => e = .returned (.bool false) ∧ w = w') :
    Calls Try.prog 12 #[x] w fun e w' => e = .returned (.pointer none) ∧ w = w' := by
  have HC1 := Lib.hid C1
  clear C1
  go_enter Try.func12, Try.ntmps12
  go_wp2_with (go_at_call 27; (with_reducible refine HC1.out.mono ?_); rintro e w1 ⟨rfl, rfl⟩)
  go_ret
  exact ⟨rfl, rfl⟩

theorem eqItems_at (d : Nat) (f g : Nat → Int) (xs ys : Array Value) (w : World) : ∀ (is : List Nat), (∀ i ∈ is, (part 2 xs (i * 1)).run Try.prog w = .ok (.int .i64 (f i)) w ∧ (part 2 ys (i * 1)).run Try.prog w = .ok (.int .i64 (g i)) w) →
    (Op.eqItems (d + 1) 2 1 xs ys is).run Try.prog w = .ok (is.all fun i => f i == g i) w
  | [], _ => by simp [Op.eqItems]
  | i :: is, h => by
    obtain ⟨h1, h2⟩ := h i (List.mem_cons_self ..)
    have ih := eqItems_at d f g xs ys w is (fun j hj => h j (List.mem_cons_of_mem _ hj))
    simp only [Op.eqItems, Sem.run_bind, h1, h2, Result.andThen_ok, run_equalIn_int w d 2 .i64 .i64 (f i) (g i) Try.underlying2, List.all_cons]
    cases f i == g i
    · simp
    · simpa using ih
/-- Marks are held against each other, number by number. -/
theorem wt_eq (k k' x0 x1 x2 x3 x4 x5 x6 x7 x8 x9 x10 x11 y0 y1 y2 y3 y4 y5 y6 y7 y8 y9 y10 y11 : Int) (w : World) : (Op.equalIn 10000 50 (.agg #[.int .i64 k, .int .i64 x0, .int .i64 x1, .int .i64 x2, .int .i64 x3, .int .i64 x4, .int .i64 x5, .int .i64 x6, .int .i64 x7, .int .i64 x8, .int .i64 x9, .int .i64 x10, .int .i64 x11]) (.agg #[.int .i64 k', .int .i64 y0, .int .i64 y1, .int .i64 y2, .int .i64 y3, .int .i64 y4, .int .i64 y5, .int .i64 y6, .int .i64 y7, .int .i64 y8, .int .i64 y9, .int .i64 y10, .int .i64 y11])).run Try.prog w = .ok (decide (k = k' ∧ [x0, x1, x2, x3, x4, x5, x6, x7, x8, x9, x10, x11] = [y0, y1, y2, y3, y4, y5, y6, y7, y8, y9, y10, y11])) w := by
  have hS : Try.prog.underlying 50 = some (.struct (Try.prog.fieldsOf 50)) := by kernel_rfl
  have hp : Try.prog.stoodInHeld 50 = false := by kernel_rfl
  have h12 : ∀ i ∈ List.range 12, (part 2 #[.int .i64 x0, .int .i64 x1, .int .i64 x2, .int .i64 x3, .int .i64 x4, .int .i64 x5, .int .i64 x6, .int .i64 x7, .int .i64 x8, .int .i64 x9, .int .i64 x10, .int .i64 x11] (i * 1)).run Try.prog w = .ok (.int .i64 ([x0, x1, x2, x3, x4, x5, x6, x7, x8, x9, x10, x11].getD i 0)) w ∧ (part 2 #[.int .i64 y0, .int .i64 y1, .int .i64 y2, .int .i64 y3, .int .i64 y4, .int .i64 y5, .int .i64 y6, .int .i64 y7, .int .i64 y8, .int .i64 y9, .int .i64 y10, .int .i64 y11] (i * 1)).run Try.prog w = .ok (.int .i64 ([y0, y1, y2, y3, y4, y5, y6, y7, y8, y9, y10, y11].getD i 0)) w := fun i hi => by
    have hi := List.mem_range.1 hi
    match i, hi with
    | 0, _ => exact ⟨by kernel_rfl, by kernel_rfl⟩
    | 1, _ => exact ⟨by kernel_rfl, by kernel_rfl⟩
    | 2, _ => exact ⟨by kernel_rfl, by kernel_rfl⟩
    | 3, _ => exact ⟨by kernel_rfl, by kernel_rfl⟩
    | 4, _ => exact ⟨by kernel_rfl, by kernel_rfl⟩
    | 5, _ => exact ⟨by kernel_rfl, by kernel_rfl⟩
    | 6, _ => exact ⟨by kernel_rfl, by kernel_rfl⟩
    | 7, _ => exact ⟨by kernel_rfl, by kernel_rfl⟩
    | 8, _ => exact ⟨by kernel_rfl, by kernel_rfl⟩
    | 9, _ => exact ⟨by kernel_rfl, by kernel_rfl⟩
    | 10, _ => exact ⟨by kernel_rfl, by kernel_rfl⟩
    | 11, _ => exact ⟨by kernel_rfl, by kernel_rfl⟩
  have ha : (Op.equalIn 9999 48 (.agg #[.int .i64 x0, .int .i64 x1, .int .i64 x2, .int .i64 x3, .int .i64 x4, .int .i64 x5, .int .i64 x6, .int .i64 x7, .int .i64 x8, .int .i64 x9, .int .i64 x10, .int .i64 x11]) (.agg #[.int .i64 y0, .int .i64 y1, .int .i64 y2, .int .i64 y3, .int .i64 y4, .int .i64 y5, .int .i64 y6, .int .i64 y7, .int .i64 y8, .int .i64 y9, .int .i64 y10, .int .i64 y11])).run Try.prog w = .ok (decide ([x0, x1, x2, x3, x4, x5, x6, x7, x8, x9, x10, x11] = [y0, y1, y2, y3, y4, y5, y6, y7, y8, y9, y10, y11])) w := by
    obtain ⟨i0, hi, _⟩ := infoI64'
    have hc : Try.prog.cellsOf 2 = 1 := by kernel_rfl
    rw [show (9999 : Nat) = 9998 + 1 from rfl, run_equalIn_array w 9998 _ _ Try.underlying48 hi, hc, eqItems_at 9997 (fun i => [x0, x1, x2, x3, x4, x5, x6, x7, x8, x9, x10, x11].getD i 0) (fun i => [y0, y1, y2, y3, y4, y5, y6, y7, y8, y9, y10, y11].getD i 0) _ _ w (List.range 12) h12]
    congr 1
    rw [Bool.eq_iff_iff, decide_eq_true_iff]
    simp [List.range, List.range.loop]
  rw [show (10000 : Nat) = 9999 + 1 from rfl, run_equalIn_agg w 9999 50 _ _ hS hp]
  simp only [Program.fieldsOf, Try.underlying50]
  go_simp
  generalize (decide (x0 = y0) && (decide (x1 = y1) && (decide (x2 = y2) && (decide (x3 = y3) && (decide (x4 = y4) && (decide (x5 = y5) && (decide (x6 = y6) && (decide (x7 = y7) && (decide (x8 = y8) && (decide (x9 = y9) && (decide (x10 = y10) && (decide (x11 = y11))))))))))))) = r
  by_cases hk : k = k' <;> cases r <;> simp [hk]

theorem same_letters {ms ns : List Int} (h1 : ms.length ≤ 12) (h2 : ns.length ≤ 12) : ((ms.length : Int) = (ns.length : Int) ∧ ms ++ List.replicate (12 - ms.length) 0 = ns ++ List.replicate (12 - ns.length) 0) ↔ ms = ns := by
  constructor
  · rintro ⟨hl, he⟩
    exact (List.append_inj he (by omega)).1
  · rintro rfl; exact ⟨rfl, rfl⟩
theorem QC.gen {f : Nat} {args : Array Value} {v : Value} {w : World} (I : World → Prop) (hI : ∀ n, I (w.drewN n)) (h : ∀ W, I W → Calls Try.prog f args W fun e w' => e = .returned v ∧ ∃ m, w' = W.drewN m) : QC f args v w := QC.of fun n => h _ (hI n)
set_option maxRecDepth 100000 in
set_option maxHeartbeats 3200000 in
theorem wSame_any (q q' : Nat) (ms ns : List Int) (w : World) (h : WtIs w q ms) (h' : WtIs w q' ns) : QC 13 #[.pointer (some ⟨q, 0, none⟩), .pointer (some ⟨q', 0, none⟩)] (.bool (decide (ms = ns))) w := by
  refine QC.gen (fun W => WtIs W q ms ∧ WtIs W q' ns) (fun n => ⟨h.drewN n, h'.drewN n⟩) fun W ⟨h, h'⟩ => ?_
  have D1 : ∀ n, Calls Try.prog 27 #[.pointer (some ⟨q, 0, none⟩)] ((W.drewN n)) fun e w' => e = .returned (.bool true) ∧ ∃ m, w' = W.drewN m := fun n => by
    have := wIsMade_any q ms.length (W.drewN n) (h.drewN n).num
    rw [h.posB] at this
    exact this.mono fun _ _ ⟨h1, h2⟩ => ⟨h1, n, h2.symm⟩
  have D2 : ∀ n, Calls Try.prog 27 #[.pointer (some ⟨q', 0, none⟩)] ((W.drewN n)) fun e w' => e = .returned (.bool true) ∧ ∃ m, w' = W.drewN m := fun n => by
    have := wIsMade_any q' ns.length (W.drewN n) (h'.drewN n).num
    rw [h'.posB] at this
    exact this.mono fun _ _ ⟨h1, h2⟩ => ⟨h1, n, h2.symm⟩
  obtain ⟨x0, x1, x2, x3, x4, x5, x6, x7, x8, x9, x10, x11, he, hblk⟩ := h.letters
  obtain ⟨e0, e1, e2, e3, e4, e5, e6, e7, e8, e9, e10, e11, e12⟩ := cells13 hblk
  obtain ⟨y0, y1, y2, y3, y4, y5, y6, y7, y8, y9, y10, y11, he', hblk'⟩ := h'.letters
  obtain ⟨g0, g1, g2, g3, g4, g5, g6, g7, g8, g9, g10, g11, g12⟩ := cells13 hblk'
  have heq := wt_eq (ms.length : Int) (ns.length : Int) x0 x1 x2 x3 x4 x5 x6 x7 x8 x9 x10 x11 y0 y1 y2 y3 y4 y5 y6 y7 y8 y9 y10 y11
  have hgd : ∀ (op : BinOp) (x y : Operand) (xs ys : Array Value) (w : World), (eqGuard op 50 x y (.agg xs) (.agg ys)).run Try.prog w = .ok () w := fun op x y xs ys w => run_eqGuard_agg w op 50 x y xs ys (by kernel_rfl)
  have hdec : decide ((ms.length : Int) = (ns.length : Int) ∧ [x0, x1, x2, x3, x4, x5, x6, x7, x8, x9, x10, x11] = [y0, y1, y2, y3, y4, y5, y6, y7, y8, y9, y10, y11]) = decide (ms = ns) := decide_eq_decide.2 (by rw [← he, ← he']; exact same_letters h.k12 h'.k12)
  rw [hdec] at heq
  generalize decide (ms = ns) = r at heq ⊢
  have HD1 := Lib.hid D1; have HD2 := Lib.hid D2
  clear D1 D2 he he' hblk hblk' h h' hdec
  go_enter Try.func13, Try.ntmps13
  go_wp2_with fail
  go_quiet (first | (with_reducible exact HD1.out _) | (with_reducible exact HD2.out _))
  go_wp2
  go_ret
  exact ⟨rfl, _, rfl⟩
theorem wSame_not (x y : Value) (w : World) (C1 : ∀ n, Calls Try.prog 27 #[x] (w.drewN n) fun e w' => e = .returned (.bool false) ∧ w.drewN n = w') : QC 13 #[x, y] (.bool false) w := by
  refine QC.gen (fun W => ∀ n, Calls Try.prog 27 #[x] (W.drewN n) fun e w' => e = .returned (.bool false) ∧ W.drewN n = w') (fun n k => by rw [World.drewN_drewN]; exact C1 _) fun W C1 => ?_
  have HD1 : Hid (∀ n, Calls Try.prog 27 #[x] (W.drewN n) fun e w' => e = .returned (.bool false) ∧ ∃ m, w' = W.drewN m) := fun n => (C1 n).mono fun _ _ ⟨h1, h2⟩ => ⟨h1, n, h2.symm⟩
  clear C1
  go_enter Try.func13, Try.ntmps13
  go_wp2_with fail
  go_quiet (with_reducible exact HD1.out _)
  go_wp2
  go_ret
  exact ⟨rfl, _, rfl⟩
theorem wSame_not2 (q : Nat) (ms : List Int) (y : Value) (w : World) (h : WtIs w q ms) (C1 : ∀ n, Calls Try.prog 27 #[y] (w.drewN n) fun e w' => e = .returned (.bool false) ∧ w.drewN n = w') : QC 13 #[.pointer (some ⟨q, 0, none⟩), y] (.bool false) w := by
  refine QC.gen (fun W => WtIs W q ms ∧ ∀ n, Calls Try.prog 27 #[y] (W.drewN n) fun e w' => e = .returned (.bool false) ∧ W.drewN n = w') (fun n => ⟨h.drewN n, fun k => by rw [World.drewN_drewN]; exact C1 _⟩) fun W ⟨h, C1⟩ => ?_
  have HD1 : Hid (∀ n, Calls Try.prog 27 #[.pointer (some ⟨q, 0, none⟩)] ((W.drewN n)) fun e w' => e = .returned (.bool true) ∧ ∃ m, w' = W.drewN m) := fun n => by
    have := wIsMade_any q ms.length (W.drewN n) (h.drewN n).num
    rw [h.posB] at this
    exact this.mono fun _ _ ⟨h1, h2⟩ => ⟨h1, n, h2.symm⟩
  have HD2 : Hid (∀ n, Calls Try.prog 27 #[y] (W.drewN n) fun e w' => e = .returned (.bool false) ∧ ∃ m, w' = W.drewN m) := fun n => (C1 n).mono fun _ _ ⟨h1, h2⟩ => ⟨h1, n, h2.symm⟩
  clear C1 h
  go_enter Try.func13, Try.ntmps13
  go_wp2_with fail
  go_quiet (first | (with_reducible exact HD1.out _) | (with_reducible exact HD2.out _))
  go_wp2
  go_ret
  exact ⟨rfl, _, rfl⟩
end Go.Proofs.Ytclbfmjmamcjjaa
