/- The program's shelf: Take. -/
import Derived.Test.YtehdimaihkckkaaSf13
import Derived.Test.YtehdimaihkckkaaShelf
namespace Go.Proofs.Ytehdimaihkckkaa
open Go Go.RowKit Go.Sort

theorem bin_nil (x : Int) (a : Option Addr) (c : Nat) (w : World) : Calls Try.prog 41 #[.slice a 0 c, .int .i64 x] w fun e w' => e = .returned (.tuple #[.int .i64 0, .bool false]) ∧ ∃ q, w' = w.drewN q := by
  go_enter Try.func41, Try.ntmps41
  go_wp2
  go_loop [7, 8] (fun i j => i = .int .i64 0 ∧ j = .int .i64 0) (fun _ _ => 0)
  case atStart => exact ⟨rfl, rfl⟩
  case round =>
    obtain ⟨rfl, rfl⟩ := hrel
    go_wp2
    go_ret2
    exact ⟨rfl, 0, rfl⟩
/-- The numbers of the things that go, while Take looks for them: the box at P holds the slice v. -/
structure TkS (w : World) (P : Nat) (v : Value) (l : List Int) (wr : World) : Prop where
  box : wr.heap[P]? = some (.cells #[v] 78 (0, 0))
  own : wr.ownsRow (P + 1) 2 1 v l.length (l.map (fun x => Value.int .i64 x))
  below : Below P w wr
theorem TkS.call {w : World} {P : Nat} {v : Value} {l : List Int} {wr u : World} (h : TkS w P v l wr) (hb : Below wr.heap.size wr u) : TkS w P v l u :=
  ⟨(hb.block P (lt_of_block h.box)).trans h.box, own_call0 h.own hb, h.below.trans (hb.mono (Nat.le_of_lt (lt_of_block h.box)))⟩
theorem TkS.next {w : World} {P : Nat} {v v' : Value} {l : List Int} {x : Int} {wr w4 : World} {o : Obj} (h : TkS w P v l wr) (hown : w4.ownsRow (P + 1) 2 1 v' (l.length + 1) (l.map (fun x => Value.int .i64 x) ++ [.int .i64 x])) (hg : (wr.alloc o).grownBy w4 v.ownBlock) :
    w4.heap[P]? = some (.cells #[v] 78 (0, 0)) ∧ TkS w P v' (l ++ [x]) (w4.setCell ⟨P, 0, none⟩ v') := by
  have hl := lt_of_block h.box
  have hne : some P ≠ v.ownBlock := fun e => by have := (h.own.lt P e.symm).1; omega
  have hb4 : w4.heap[P]? = some (.cells #[v] 78 (0, 0)) := by
    rw [hg.block P (by simp; omega) hne, Below.heap_alloc _ _ _ hl]; exact h.box
  refine ⟨hb4, set1 hb4 v', ?_, ?_⟩
  · rw [List.length_append, List.map_append]
    exact ownsRow_setCell_typed (a := ⟨P, 0, none⟩) hown hb4 (by decide) _
  · exact ((h.below.alloc (Nat.le_of_lt hl) o).grown hg (by simp; omega) (fun k hk => by have := (h.own.lt k hk).1; omega)).setCell (p := ⟨P, 0, none⟩) (Nat.le_refl _) _
theorem num_inj {ts : List Tg} (h : (ts.map Tg.num).Pairwise (· < ·)) : ∀ {a b : Tg}, a ∈ ts → b ∈ ts → a.num = b.num → a = b := by
  induction ts with
  | nil => intro a b ha; cases ha
  | cons x r ih =>
    rw [List.map_cons, List.pairwise_cons] at h
    intro a b ha hb he
    rcases List.mem_cons.1 ha with ha1 | ha1 <;> rcases List.mem_cons.1 hb with hb1 | hb1
    · rw [ha1, hb1]
    · have := h.1 b.num (List.mem_map_of_mem hb1); rw [ha1] at he; omega
    · have := h.1 a.num (List.mem_map_of_mem ha1); rw [hb1] at he; omega
    · exact ih h.2 ha1 hb1 he
theorem num_mem {ts : List Tg} (h : (ts.map Tg.num).Pairwise (· < ·)) (p : Tg → Bool) {t : Tg} (ht : t ∈ ts) : ((ts.filter p).map Tg.num).contains t.num = p t := by
  rw [Bool.eq_iff_iff, List.contains_iff_mem]
  constructor
  · intro hm
    obtain ⟨t', h1, h2⟩ := List.mem_map.1 hm
    rw [List.mem_filter] at h1
    rw [num_inj h ht h1.1 h2.symm]; exact h1.2
  · intro hp
    exact List.mem_map_of_mem (List.mem_filter.2 ⟨ht, hp⟩)
theorem num_sorted {ts : List Tg} (h : (ts.map Tg.num).Pairwise (· < ·)) (p : Tg → Bool) : ((ts.filter p).map Tg.num).Pairwise (· ≤ ·) :=
  (h.sublist ((List.filter_sublist (p := p)).map _)).imp (fun h => Int.le_of_lt h)

set_option maxRecDepth 100000 in
set_option maxHeartbeats 1600000 in
theorem hTake1_any (t : Tg) (P : Nat) (v : Value) (l : List Int) (w w0 : World) (hs : TkS w0 P v l w) (hl : l.length ≤ 16384) (ho : l.Pairwise (· ≤ ·)) :
    Calls Try.prog 40 #[tgV t, .pointer (some ⟨P, 0, none⟩)] w fun e w' => e = .returned (.bool (l.contains t.num)) ∧ Below w.heap.size w w' := by
  obtain ⟨X, hX⟩ : ∃ X, X = w.alloc (.cells #[.int .i64 t.num, .int .i64 t.beg, .int .i64 t.fin, .string t.txt] 81) := ⟨_, rfl⟩
  have hbX : Below w.heap.size w X := by rw [hX]; exact (Below.refl _ _).alloc (Nat.le_refl _) _
  have hsX := hs.call hbX
  have hC : Calls Try.prog 41 #[v, .int .i64 t.num] X fun e w' => ∃ i, e = .returned (.tuple #[.int .i64 i, .bool (l.contains t.num)]) ∧ ∃ q, w' = X.drewN q := by
    rcases hsX.own.2 with ⟨rfl, h0⟩ | ⟨g, cap, cur, rfl, _⟩
    · obtain rfl : l = [] := List.eq_nil_of_length_eq_zero h0
      exact (bin_nil t.num none 0 X).mono fun e w' h => ⟨0, h.1, h.2⟩
    · refine (Try.slices_BinarySearch_int g 0 l.length cap l t.num X (Nat.le_refl _) (by omega) (fun j hj => ?_) (by rw [List.take_length]; exact ho)).mono fun e w' h => by
        obtain ⟨h1, h2⟩ := h
        rw [List.take_length] at h1
        exact ⟨_, h1, h2⟩
      rw [Nat.zero_add]
      have := hsX.own.cellAt j (by omega)
      rw [this, List.getElem?_map, List.getElem?_eq_getElem hj, List.getD_eq_getElem?_getD, List.getElem?_eq_getElem hj]; rfl
  generalize l.contains t.num = b at hC ⊢
  have c1 := cells_one0 hs.box
  have c1 := cell_alloc13 (.cells #[.int .i64 t.num, .int .i64 t.beg, .int .i64 t.fin, .string t.txt] 81) c1
  obtain ⟨a, c, rfl⟩ := own_slice hs.own
  have HC := Lib.hid hC; have HB := Lib.hid hbX; have HX := Lib.hid hX
  rw [hX] at HC
  unfold tgV
  clear hX hbX hC hsX hs hl ho
  go_enter Try.func40, Try.ntmps40
  go_wp2_with (go_at_call 41; (with_reducible refine (HC.out).mono ?_); rintro e w2 ⟨i, rfl, m, rfl⟩)
  go_ret
  have h2 := HB.out
  rw [HX.out] at h2
  exact ⟨rfl, ⟨h2.os, h2.tape, h2.output, h2.size, h2.block⟩⟩

set_option maxRecDepth 100000 in
set_option maxHeartbeats 3200000 in
/-- Take: the function gf, which has captured cp, tells of each thing p of it. -/
theorem hTake_any (gf : Nat) (cp : Value) (p : Tg → Bool) (F : Nat → Prop) (q most nx : Nat) (ts : List Tg) (w : World) (hr : ShIs w F q most nx ts) (eg : ∀ args w, (callFunc gf args).run Try.prog w = .ok (.enter gf args) w)
    (HF : ∀ t ∈ ts, ∀ u : World, Below w.heap.size w u → Calls Try.prog gf #[.agg #[.int .i64 t.beg, .int .i64 t.fin], .string t.txt, cp] u fun e w' => e = .returned (.bool (p t)) ∧ Below u.heap.size u w') :
    Calls Try.prog 11 #[.pointer (some ⟨q, 0, none⟩), .func (.func gf) #[] #[cp]] w fun r w' => r = .returned (.int .i64 ((ts.length : Int) - ((ts.filter fun t => !p t).length : Int))) ∧ ShIs w' (grF F w w') q most nx (ts.filter fun t => !p t) ∧ Chg F w w' := by
  have hnf : ∀ w : World, (binOp BinOp.eql 61 (.func (.func gf) #[] #[cp]) .nilFunc).run Try.prog w = .ok (.bool false) w := fun w => by kernel_rfl
  obtain ⟨i0, hi, hz0, hz1, hz2⟩ := info_parts13 infoI64
  obtain ⟨v, hv⟩ := hr
  obtain ⟨va, vc, rfl⟩ := hv.slice
  obtain ⟨P, hP⟩ : ∃ P, P = w.heap.size := ⟨_, rfl⟩
  obtain ⟨W, hW⟩ : ∃ W, W = w.alloc (.cells #[.slice none 0 0] 78) := ⟨_, rfl⟩
  have hb0 : Below w.heap.size w W := by rw [hW]; exact (Below.refl _ _).alloc (Nat.le_refl _) _
  have hpW : W.heap[P]? = some (.cells #[.slice none 0 0] 78 (0, 0)) := by rw [hW, hP]; exact heap_alloc_new w _
  obtain ⟨n, hn⟩ : ∃ n, n = ts.length := ⟨_, rfl⟩
  have hC1 := hList_any q va ts.length vc W (cells_three (hv.below hb0).blk).2.2.1
  rw [← hn] at hC1
  have HC1 := Lib.hid hC1
  have HH := Lib.hid hv; have HN := Lib.hid hn
  have hm := hv.m2
  have hlen : n ≤ 16384 := by rw [hn]; exact Nat.le_trans hv.len hm
  have HQ : Hid (∀ u, Below P w u → ∀ k, k < n → ∃ g, va = some ⟨g, 0, none⟩ ∧ u.cell? ⟨g, k * 4, none⟩ = some (.int .i64 ts[k]!.num) ∧ u.cell? ⟨g, k * 4 + 1, none⟩ = some (.int .i64 ts[k]!.beg) ∧ u.cell? ⟨g, k * 4 + 2, none⟩ = some (.int .i64 ts[k]!.fin) ∧ u.cell? ⟨g, k * 4 + 3, none⟩ = some (.string ts[k]!.txt)) := Lib.hid (fun u hu k hk => by
    rw [hP] at hu
    obtain ⟨g, cap, e, _, hc⟩ := (hv.below hu).at (by omega)
    have hk' : k < ts.length := by omega
    simp only [Value.slice.injEq] at e
    exact ⟨g, e.1, (hc k hk').1, (hc k hk').2.1, (hc k hk').2.2.2.1, (hc k hk').2.2.2.2⟩)
  have H0 : Hid (TkS w P (.slice none 0 0) (((ts.take 0).filter p).map Tg.num) W) := Lib.hid ⟨hpW, World.ownsRow_nil _ _ _ _, by rw [hP]; exact hb0⟩
  have HNU : Hid (∀ k, (((ts.take k).filter p).map Tg.num).length + 1 ≤ maxLen ∧ ((((ts.take k).filter p).map Tg.num).length + 1) * 8 ≤ 140737488355328) := Lib.hid (fun k => by rw [List.length_map]; have := filter_len p ts k; unfold maxLen; omega)
  have HFF := Lib.hid (fun (t : Tg) (ht : t ∈ ts) (u : World) (hu : Below P w u) => HF t ht u (by rw [← hP]; exact hu))
  have HP := Lib.hid hP; have HW := Lib.hid hW
  rw [← hn]
  clear hv hn hP hW hb0 hpW hC1 HF hm
  go_enter Try.func11, Try.ntmps11
  go_wp2_with fail
  rw [← HW.out, ← HP.out]
  go_wp2_with (go_at_call 37; (with_reducible refine (HC1.out).mono ?_); rintro r w1 ⟨rfl, rfl⟩)
  go_loopw [13] (fun iv wr => ∃ (k m : Nat) (a : Option Addr) (c : Nat), k ≤ n ∧ iv = .int .i64 (k : Int) ∧ Hid (m = (((ts.take k).filter p).map Tg.num).length) ∧ Hid (TkS w P (.slice a m c) (((ts.take k).filter p).map Tg.num) wr)) (fun iv _ => n - (intOf iv).toNat)
  case atStart => exact ⟨0, 0, none, 0, Nat.zero_le _, rfl, rfl, H0⟩
  case round =>
    obtain ⟨k, m, a, c, hk, rfl, HM, HT⟩ := hrel
    have e1 : IntKind.i64.wrap ((k : Int) + 1) = (k : Int) + 1 := IntWalk.i64_in _ (by omega)
    by_cases hlt : k < n
    · obtain ⟨g, rfl, x0, x1, x2, x3⟩ := HQ.out wr HT.out.below k hlt
      have hki : (k : Int) < (n : Int) := by omega
      have hk0 : (0 : Int) ≤ (k : Int) := by omega
      have HFT := Lib.hid (filter_take p (ts := ts) (k := k) (by have := HN.out; omega))
      have hmem : ts[k]! ∈ ts := by rw [getElem!_pos ts k (by have := HN.out; omega)]; exact List.getElem_mem _
      have hHk := fun (u : World) (hu : Below P w u) => HFF.out _ hmem u hu
      clear hmem
      generalize ts[k]! = x at x0 x1 x2 x3 HFT hHk
      obtain ⟨X, hX⟩ : ∃ X, X = wr.alloc (.cells #[.int .i64 x.num, .int .i64 x.beg, .int .i64 x.fin, .string x.txt] 81) := ⟨_, rfl⟩
      have hbX : Below wr.heap.size wr X := by rw [hX]; exact (Below.refl _ _).alloc (Nat.le_refl _) _
      have hXn : X.heap[wr.heap.size]? = some (.cells #[.int .i64 x.num, .int .i64 x.beg, .int .i64 x.fin, .string x.txt] 81 (0, 0)) := by rw [hX]; exact heap_alloc_new wr _
      have HTX := Lib.hid (HT.out.call hbX)
      have hXl : wr.heap.size < X.heap.size := lt_of_block hXn
      have hPX : P ≤ X.heap.size := Nat.le_of_lt (lt_of_block HTX.out.box)
      have hHX := hSays_any gf cp x (p x) X eg (fun u hu => hHk u (HTX.out.below.trans (hu.mono hPX)))
      have HTU : Hid (∀ u, Below X.heap.size X u → TkS w P (.slice a m c) (((ts.take k).filter p).map Tg.num) u ∧ u.heap[wr.heap.size]? = some (.cells #[.int .i64 x.num, .int .i64 x.beg, .int .i64 x.fin, .string x.txt] 81 (0, 0))) := Lib.hid (fun u hu => ⟨HTX.out.call hu, (hu.block _ hXl).trans hXn⟩)
      obtain ⟨y0, y1, y2, y3⟩ := cell_of_four hXn
      unfold tgV at hHX
      have HX := Lib.hid hX
      clear hbX hXn hXl hHk hX HTX hPX
      cases hb : p x with
      | false =>
        rw [hb] at hHX
        have HHX := Lib.hid hHX
        have HFT' : Hid ((ts.take (k + 1)).filter p = (ts.take k).filter p) := Lib.hid (by have := HFT.out; rw [hb] at this; simpa using this)
        clear hHX HFT hb
        go_wp2_with fail
        rw [← HX.out]
        go_wp2_with (go_at_call 38; (with_reducible refine (HHX.out).mono ?_); rintro e w2 ⟨rfl, hb2⟩; have HT2 := Lib.hid (HTU.out w2 hb2).1; clear hb2)
        go_roundw
        case rel => exact ⟨k + 1, m, a, c, by omega, by go_num, by rw [HFT'.out]; exact HM, by rw [HFT'.out]; exact HT2⟩
        case measure => simp [intOf]; omega
      | true =>
        rw [hb] at hHX
        have HHX := Lib.hid hHX
        have HFT' : Hid ((ts.take (k + 1)).filter p = (ts.take k).filter p ++ [x]) := Lib.hid (by have := HFT.out; rw [hb] at this; simpa using this)
        have HNK : Hid (m + 1 ≤ maxLen ∧ (m + 1) * 8 ≤ 140737488355328) := by have := HNU.out k; rw [← HM.out] at this; exact this
        clear hHX HFT hb
        go_wp2_with fail
        rw [← HX.out]
        go_wp2_with (first
          | (go_at_call 38; (with_reducible refine (HHX.out).mono ?_); rintro e w2 ⟨rfl, hb2⟩; obtain ⟨ht2, hx2⟩ := HTU.out w2 hb2; obtain ⟨z0, z1, z2, z3⟩ := cell_of_four hx2; have p0 := cells_one0 ht2.box; have HT2 := Lib.hid ht2; have HXN := Lib.hid (World.news_of_block (heap_alloc_new w2 (.cells #[.int .i64 x.num] 2))); have HO : Hid ((w2.alloc (.cells #[.int .i64 x.num] 2)).ownsRow (P + 1) 2 1 (.slice a m c) m ((((ts.take k).filter p).map Tg.num).map (fun x => Value.int .i64 x))) := Lib.hid (by have h := own_call0 ht2.own ((Below.refl w2.heap.size w2).alloc (Nat.le_refl _) (.cells #[.int .i64 x.num] 2)); rw [← HM.out] at h; exact h); have HBS : Hid (P + 1 ≤ (w2.alloc (.cells #[.int .i64 x.num] 2)).heap.size) := Lib.hid (by have := lt_of_block ht2.box; simp; omega); clear hb2 ht2 hx2)
          | (at_builtin; refine wpList_append_own _ rfl _ _ 78 rfl (P + 1) 2 i0 (.int .i64 0) 1 8 Try.underlying78 hi hz0 hz1 hz2 rfl (by decide) (.slice a m c) m ((((ts.take k).filter p).map Tg.num).map (fun x => Value.int .i64 x)) rfl HO.out ⟨w2.heap.size, 0, none⟩ 1 1 [.int .i64 x.num] rfl rfl HXN.out (by simp [Value.oneCell']) HNK.out.1 HNK.out.2 HBS.out ?_; intro v4 w4 hown4 hg4 hnil4; obtain ⟨a4, c4, rfl⟩ := own_slice hown4; obtain ⟨hp4, ht4⟩ := HT2.out.next (by rw [← HM.out]; exact hown4) hg4; have f4 := free1 hp4; have p4 := cells_one0 hp4; have HT4 := Lib.hid ht4; clear hown4 hg4 hnil4 ht4 hp4))
        go_roundw
        case rel => exact ⟨k + 1, m + 1, a4, c4, by omega, by go_num, Lib.hid (by rw [HFT'.out, List.map_append, List.length_append, ← HM.out]; rfl), by rw [HFT'.out, List.map_append]; exact HT4⟩
        case measure => simp [intOf]; omega
    · obtain rfl : k = n := by omega
      have ht : ts.take k = ts := List.take_of_length_le (by have := HN.out; omega)
      rw [ht] at HT
      have hbP : Below w.heap.size w wr := by rw [← HP.out]; exact HT.out.below
      have hD := hDrop_any 40 (.pointer (some ⟨P, 0, none⟩)) p F q most nx ts wr ⟨_, HH.out.below hbP⟩ (enters_of Try.func40 (by kernel_rfl) rfl)
        (fun t ht u hu => by
          have := hTake1_any t P (.slice a m c) _ u w (HT.out.call hu) (by rw [List.length_map]; have h1 := List.length_filter_le p ts; have h2 := HN.out; omega) (num_sorted HH.out.num p)
          rwa [num_mem HH.out.num p ht] at this)
      rw [← HN.out] at hD
      have HD := Lib.hid hD
      have HBP := Lib.hid hbP
      clear hD hbP ht
      go_wp2_with (go_at_call 39; (with_reducible refine (HD.out).mono ?_); rintro r w1 ⟨rfl, hs, hc⟩; have HS := Lib.hid hs; have HC2 := Lib.hid hc; clear hs hc)
      go_ret
      have hsz := HBP.out.size
      refine ⟨rfl, ShIs.widen HS.out (fun b hb => ?_) (grF_lt HH.out.flt (Nat.le_trans hsz HC2.out.size)), (Chg.of_below HBP.out).trans HC2.out (fun j hj => .inl hj)⟩
      rcases hb with hb | hb
      · exact .inl hb
      · exact .inr ⟨Nat.le_trans hsz hb.1, hb.2⟩
set_option maxRecDepth 100000 in
/-- Take of nothing. -/
theorem hTake_nil (p : Value) (w : World) : Calls Try.prog 11 #[p, .nilFunc] w fun e w' => e = .returned (.int .i64 0) ∧ w = w' := by
  have hnf : ∀ w : World, (binOp BinOp.eql 61 .nilFunc .nilFunc).run Try.prog w = .ok (.bool true) w := fun w => by kernel_rfl
  go_enter Try.func11, Try.ntmps11
  go_wp2
  go_ret
  exact ⟨rfl, rfl⟩
set_option maxRecDepth 100000 in
/-- Take of a shelf that no call made. -/
theorem hTake_no (p : Value) (gf : Nat) (w : World) (h1 : ∀ u, Below w.heap.size w u → Calls Try.prog 42 #[p] u fun e w' => e = .returned (.bool false) ∧ u = w') (h2 : ∀ u, Below w.heap.size w u → Calls Try.prog 37 #[p] u fun e w' => e = .returned (.slice none 0 0) ∧ u = w') :
    Calls Try.prog 11 #[p, .func (.func gf) #[] #[]] w fun e w' => e = .returned (.int .i64 0) ∧ Below w.heap.size w w' := by
  have hnf : ∀ w : World, (binOp BinOp.eql 61 (.func (.func gf) #[] #[]) .nilFunc).run Try.prog w = .ok (.bool false) w := fun w => by kernel_rfl
  obtain ⟨W, hW⟩ : ∃ W, W = w.alloc (.cells #[.slice none 0 0] 78) := ⟨_, rfl⟩
  have hb0 : Below w.heap.size w W := by rw [hW]; exact (Below.refl _ _).alloc (Nat.le_refl _) _
  have HC := Lib.hid (h2 W hb0); have HW := Lib.hid hW; have HB := Lib.hid hb0
  have HD := Lib.hid (fun f hf => hDrop_no p f hf W (h1 W hb0))
  clear hW hb0 h1 h2
  go_enter Try.func11, Try.ntmps11
  go_wp2_with fail
  rw [← HW.out]
  go_wp2_with (go_at_call 37; (with_reducible refine (HC.out).mono ?_); rintro r w1 ⟨rfl, rfl⟩)
  go_loopw [13] (fun iv wr => iv = .int .i64 0 ∧ wr = W) (fun _ _ => 0)
  case atStart => exact ⟨rfl, rfl⟩
  case round =>
    obtain ⟨rfl, rfl⟩ := hrel
    go_wp2_with (go_at_call 39; (with_reducible refine (HD.out _ ⟨_, _, _, rfl⟩).mono ?_); rintro r w1 ⟨rfl, rfl⟩)
    go_ret
    exact ⟨rfl, HB.out⟩
end Go.Proofs.Ytehdimaihkckkaa
