/- The document's shelf: Clear, Drop, Ending, Beginning, Oldest, Clone. -/
import Derived.Test.YtehdimaihkckkaaSb13
namespace Go.Proofs.Ytehdimaihkckkaa
open Go Go.RowKit

/-- A row of the call's own, from block B on, of what f makes of l; below B nothing has turned. -/
structure FS {α : Type} (f : α → List Value) (W : World) (B : Nat) (e size : Nat) (v : Value) (l : List α) (w : World) : Prop where
  own : w.ownsRow B e size v l.length (l.flatMap f)
  below : Below B W w
theorem FS.next {α : Type} {f : α → List Value} {W : World} {B e size : Nat} {v v' : Value} {l : List α} {w w1 : World} {x : α} {o : Obj} (h : FS f W B e size v l w) (hB : B ≤ w.heap.size) (hf : f x = f x)
    (hown : w1.ownsRow B e size v' (l.length + 1) (l.flatMap f ++ f x)) (hg : (w.alloc o).grownBy w1 v.ownBlock) : FS f W B e size v' (l ++ [x]) w1 := by
  refine ⟨by rw [List.length_append, List.flatMap_append]; simpa using hown, ?_⟩
  refine (h.below.alloc hB o).grown hg (by simp; omega) (fun k hk => (h.own.lt k hk).1)
theorem FS.news {α : Type} (f : α → List Value) (w : World) (x : α) (t : Nat) : ∀ j u, (f x)[j]? = some u → (w.alloc (.cells (f x).toArray t)).cell? ((⟨w.heap.size, 0, none⟩ : Addr).add j) = some u :=
  fun j u hu => World.news_of_block (heap_alloc_new w _) j u (by simpa using hu)
theorem filter_take {α : Type} [Inhabited α] (p : α → Bool) {ts : List α} {k : Nat} (hk : k < ts.length) : (ts.take (k + 1)).filter p = if p ts[k]! = true then (ts.take k).filter p ++ [ts[k]!] else (ts.take k).filter p := by
  rw [take_one hk, List.filter_append]
  rw [List.filter_cons, List.filter_nil]
  cases h : p ts[k]! <;> simp only [Bool.false_eq_true, if_false, if_true, List.append_nil]
theorem filter_len {α : Type} (p : α → Bool) (ts : List α) (k : Nat) : ((ts.take k).filter p).length ≤ ts.length := Nat.le_trans (List.length_filter_le _ _) (by rw [List.length_take]; omega)

/-- Behind a list that is laid anew. -/
theorem RsAt.anew {w w1 : World} {F : Nat → Prop} {q most : Nat} {ts ts' : List Tg} {v v' : Value} (h : RsAt w F q most ts v) (hb : Below w.heap.size w w1) (hl : ts'.length ≤ most) (hown : w1.ownsRow w.heap.size 47 3 v' ts'.length (dgRow ts')) :
    RsIs (w1.setCell ⟨q, 0, none⟩ v') (grF F w (w1.setCell ⟨q, 0, none⟩ v')) q most ts' ∧ Chg F w (w1.setCell ⟨q, 0, none⟩ v') := by
  have hql := h.flt q h.fq
  have hq1 := (hb.block q hql).trans h.blk
  have hs := hb.size
  refine ⟨⟨v', .inl h.fq, grF_lt h.flt (by simp only [World.size_setCell]; omega), h.m2, hl, ?_, own_lower0 (ownsRow_setCell_typed (a := ⟨q, 0, none⟩) hown hq1 (by decide) _) (Nat.zero_le _), fun g hg => ?_⟩, (Chg.of_below hb).setCell (p := ⟨q, 0, none⟩) h.fq _⟩
  · rw [heap_setCell_same hq1 _]; simp
  · have h1 := hown.lt g hg
    exact ⟨.inr ⟨h1.1, by simp only [World.size_setCell]; exact h1.2⟩, by omega⟩

/-- Texts, each a cell. -/
def txCells (t : Tg) : List Value := [.string t.txt]
/-- A row of texts of the call's own. -/
structure TxO (w : World) (B : Nat) (v : Value) (ts : List Tg) : Prop where
  len : ts.length ≤ 16384
  own : w.ownsRow B 9 1 v ts.length (ts.flatMap txCells)

set_option maxRecDepth 100000 in
set_option maxHeartbeats 1600000 in
theorem r13Clear_any (F : Nat → Prop) (q most : Nat) (ts : List Tg) (h : Int) (w : World) (hr : RsIs w F q most ts) :
    Calls Try.prog 31 #[.pointer (some ⟨q, 0, none⟩), .int .i64 h] w fun r w' => r = .returned (.int .i64 ((ts.length : Int) - ((ts.filter fun t => decide (t.beg ≥ h)).length : Int))) ∧ RsIs w' (grF F w w') q most (ts.filter fun t => decide (t.beg ≥ h)) ∧ Chg F w w' := by
  obtain ⟨i0, hi, hz0, hz1, hz2⟩ := info_parts13 infoRThg
  obtain ⟨v, hv⟩ := hr
  obtain ⟨va, vc, rfl⟩ := hv.slice
  obtain ⟨n, hn⟩ : ∃ n, n = ts.length := ⟨_, rfl⟩
  obtain ⟨p, hp⟩ : ∃ p : Tg → Bool, p = fun t => decide (t.beg ≥ h) := ⟨_, rfl⟩
  have HH := Lib.hid hv; have HN := Lib.hid hn
  have hm := hv.m2
  have hlen : n ≤ 16384 := by rw [hn]; exact Nat.le_trans hv.len hm
  have HQ : Hid (∀ u, Below w.heap.size w u → u.heap[q]? = some (.cells #[.slice va n vc, .int .i64 (most : Int)] 74 (0, 0)) ∧ (∀ k, k < n → ∃ g, va = some ⟨g, 0, none⟩ ∧ u.cell? ⟨g, k * 3, none⟩ = some (.int .i64 ts[k]!.beg) ∧ u.cell? ⟨g, k * 3 + 1, none⟩ = some (.int .i64 ts[k]!.fin) ∧ u.cell? ⟨g, k * 3 + 2, none⟩ = some (.string ts[k]!.txt))) := Lib.hid (fun u hu => by
    have hu2 := hv.below hu
    rw [hn]
    refine ⟨hu2.blk, fun k hk => ?_⟩
    obtain ⟨g, cap, e, _, hc⟩ := hu2.at (by omega)
    simp only [Value.slice.injEq] at e
    exact ⟨g, e.1, hc k hk⟩)
  rw [← hp, ← hn]
  have HP := Lib.hid hp
  have HNU : Hid (∀ k, ((ts.take k).filter p).length + 1 ≤ maxLen ∧ (((ts.take k).filter p).length + 1) * 32 ≤ 140737488355328) := Lib.hid (fun k => by have := filter_len p ts k; unfold maxLen; omega)
  have H0 : Hid (FS dgCells w w.heap.size 47 3 (.slice none 0 0) ((ts.take 0).filter p) w) := Lib.hid ⟨World.ownsRow_nil _ _ _ _, Below.refl _ _⟩
  clear hv hn hp hm
  go_enter Try.func31, Try.ntmps31
  go_wp2
  go_loopw [5, 6] (fun ov iv wr => ∃ (k m : Nat) (a : Option Addr) (c : Nat), k ≤ n ∧ iv = .int .i64 (k : Int) ∧ ov = .slice a m c ∧ Hid (m = ((ts.take k).filter p).length) ∧ Hid (FS dgCells w w.heap.size 47 3 (.slice a m c) ((ts.take k).filter p) wr)) (fun _ iv _ => n - (intOf iv).toNat)
  case atStart => exact ⟨0, 0, none, 0, Nat.zero_le _, rfl, rfl, rfl, H0⟩
  case round =>
    obtain ⟨k, m, a, c, hk, rfl, rfl, HM, HF⟩ := hrel
    obtain ⟨c0, c1, fz⟩ := cells_two (HQ.out wr HF.out.below).1
    have e1 : IntKind.i64.wrap ((k : Int) + 1) = (k : Int) + 1 := IntWalk.i64_in _ (by omega)
    by_cases hlt : k < n
    · obtain ⟨g, rfl, x0, x1, x2⟩ := (HQ.out wr HF.out.below).2 k hlt
      have hki : (k : Int) < (n : Int) := by omega
      have hk0 : (0 : Int) ≤ (k : Int) := by omega
      have HFT := Lib.hid (filter_take p (ts := ts) (k := k) (by have := HN.out; omega))
      have hpx : p ts[k]! = decide (ts[k]!.beg ≥ h) := by rw [HP.out]
      generalize ts[k]! = x at x0 x1 x2 HFT hpx
      cases hb : p x with
      | true =>
        rw [hb] at hpx
        have d1 := hpx.symm
        have HFT' : Hid ((ts.take (k + 1)).filter p = (ts.take k).filter p ++ [x]) := by have := HFT.out; rw [hb, if_pos rfl] at this; exact this
        have HX := Lib.hid (FS.news dgCells wr x 47)
        have HO : Hid ((wr.alloc (.cells (dgCells x).toArray 47)).ownsRow w.heap.size 47 3 (.slice a m c) m (((ts.take k).filter p).flatMap dgCells)) := by
          have h := own_call0 HF.out.own ((Below.refl wr.heap.size wr).alloc (Nat.le_refl _) (.cells (dgCells x).toArray 47))
          rw [← HM.out] at h
          exact h
        have HNK : Hid (m + 1 ≤ maxLen ∧ (m + 1) * 32 ≤ 140737488355328) := by have := HNU.out k; rw [← HM.out] at this; exact this
        have HBS : Hid (w.heap.size ≤ (wr.alloc (.cells (dgCells x).toArray 47)).heap.size) := by have := HF.out.below.size; unfold Hid; simp; omega
        clear fz hpx HFT hb
        go_wp2_with (at_builtin; refine wpList_append_own _ rfl _ _ 42 rfl w.heap.size 47 i0 (.agg #[.int .i64 0, .int .i64 0, .string ⟨#[]⟩]) 3 32 Try.underlying42 hi hz0 hz1 hz2 rfl (by decide) (.slice a m c) m (((ts.take k).filter p).flatMap dgCells) rfl HO.out ⟨wr.heap.size, 0, none⟩ 1 1 (dgCells x) rfl rfl HX.out (by simp [dgCells, Value.oneCell']) HNK.out.1 HNK.out.2 HBS.out ?_; intro v4 w4 hown4 hg4 hnil4; obtain ⟨a4, c4, rfl⟩ := own_slice hown4; have HF4 : Hid (FS dgCells w w.heap.size 47 3 (.slice a4 (m + 1) c4) ((ts.take k).filter p ++ [x]) w4) := Lib.hid (FS.next HF.out HF.out.below.size rfl (by rw [← HM.out]; exact hown4) hg4); clear hown4 hg4 hnil4 x0 x1 x2 c0 c1)
        go_roundw
        case rel => exact ⟨k + 1, m + 1, a4, c4, by omega, by go_num, rfl, Lib.hid (by rw [HFT'.out, List.length_append, ← HM.out]; rfl), by rw [HFT'.out]; exact HF4⟩
        case measure => simp [intOf]; omega
      | false =>
        rw [hb] at hpx
        have d1 := hpx.symm
        have HFT' : Hid ((ts.take (k + 1)).filter p = (ts.take k).filter p) := by have := HFT.out; rw [hb, if_neg (by decide)] at this; exact this
        clear fz hpx HFT hb
        go_wp2
        go_roundw
        case rel => exact ⟨k + 1, m, a, c, by omega, by go_num, rfl, by rw [HFT'.out]; exact HM, by rw [HFT'.out]; exact HF⟩
        case measure => simp [intOf]; omega
    · obtain rfl : k = n := by omega
      have hmn : m ≤ k := by have h1 := HM.out; have h2 := List.length_filter_le p (ts.take k); rw [List.length_take, ← h1] at h2; omega
      have e2 : IntKind.i64.wrap ((k : Int) - (m : Int)) = (k : Int) - (m : Int) := IntWalk.i64_in _ (by omega)
      have fz0 := fz 0
      clear fz hmn
      go_wp2
      go_ret
      have ht : ts.take k = ts := List.take_of_length_le (by have := HN.out; omega)
      have hM := HM.out
      rw [ht] at hM
      have hFS := HF.out
      rw [ht] at hFS
      have hlm : (ts.filter p).length ≤ most := Nat.le_trans (List.length_filter_le _ _) HH.out.len
      have hA := RsAt.anew HH.out hFS.below hlm hFS.own
      exact ⟨by rw [← hM]; rfl, hA.1, hA.2⟩

set_option maxRecDepth 100000 in
set_option maxHeartbeats 1600000 in
theorem r13Drop_any (F : Nat → Prop) (q most : Nat) (ts : List Tg) (y : ByteArray) (w : World) (hr : RsIs w F q most ts) :
    Calls Try.prog 33 #[.pointer (some ⟨q, 0, none⟩), .string y] w fun r w' => r = .returned (.int .i64 ((ts.length : Int) - ((ts.filter fun t => !decide (t.txt = y)).length : Int))) ∧ RsIs w' (grF F w w') q most (ts.filter fun t => !decide (t.txt = y)) ∧ Chg F w w' := by
  obtain ⟨i0, hi, hz0, hz1, hz2⟩ := info_parts13 infoRThg
  obtain ⟨v, hv⟩ := hr
  obtain ⟨va, vc, rfl⟩ := hv.slice
  obtain ⟨n, hn⟩ : ∃ n, n = ts.length := ⟨_, rfl⟩
  obtain ⟨p, hp⟩ : ∃ p : Tg → Bool, p = fun t => !decide (t.txt = y) := ⟨_, rfl⟩
  have HH := Lib.hid hv; have HN := Lib.hid hn
  have hm := hv.m2
  have hlen : n ≤ 16384 := by rw [hn]; exact Nat.le_trans hv.len hm
  have HQ : Hid (∀ u, Below w.heap.size w u → u.heap[q]? = some (.cells #[.slice va n vc, .int .i64 (most : Int)] 74 (0, 0)) ∧ (∀ k, k < n → ∃ g, va = some ⟨g, 0, none⟩ ∧ u.cell? ⟨g, k * 3, none⟩ = some (.int .i64 ts[k]!.beg) ∧ u.cell? ⟨g, k * 3 + 1, none⟩ = some (.int .i64 ts[k]!.fin) ∧ u.cell? ⟨g, k * 3 + 2, none⟩ = some (.string ts[k]!.txt))) := Lib.hid (fun u hu => by
    have hu2 := hv.below hu
    rw [hn]
    refine ⟨hu2.blk, fun k hk => ?_⟩
    obtain ⟨g, cap, e, _, hc⟩ := hu2.at (by omega)
    simp only [Value.slice.injEq] at e
    exact ⟨g, e.1, hc k hk⟩)
  rw [← hp, ← hn]
  have HP := Lib.hid hp
  have HNU : Hid (∀ k, ((ts.take k).filter p).length + 1 ≤ maxLen ∧ (((ts.take k).filter p).length + 1) * 32 ≤ 140737488355328) := Lib.hid (fun k => by have := filter_len p ts k; unfold maxLen; omega)
  have H0 : Hid (FS dgCells w w.heap.size 47 3 (.slice none 0 0) ((ts.take 0).filter p) w) := Lib.hid ⟨World.ownsRow_nil _ _ _ _, Below.refl _ _⟩
  clear hv hn hp hm
  go_enter Try.func33, Try.ntmps33
  go_wp2
  go_loopw [5, 6] (fun ov iv wr => ∃ (k m : Nat) (a : Option Addr) (c : Nat), k ≤ n ∧ iv = .int .i64 (k : Int) ∧ ov = .slice a m c ∧ Hid (m = ((ts.take k).filter p).length) ∧ Hid (FS dgCells w w.heap.size 47 3 (.slice a m c) ((ts.take k).filter p) wr)) (fun _ iv _ => n - (intOf iv).toNat)
  case atStart => exact ⟨0, 0, none, 0, Nat.zero_le _, rfl, rfl, rfl, H0⟩
  case round =>
    obtain ⟨k, m, a, c, hk, rfl, rfl, HM, HF⟩ := hrel
    obtain ⟨c0, c1, fz⟩ := cells_two (HQ.out wr HF.out.below).1
    have e1 : IntKind.i64.wrap ((k : Int) + 1) = (k : Int) + 1 := IntWalk.i64_in _ (by omega)
    by_cases hlt : k < n
    · obtain ⟨g, rfl, x0, x1, x2⟩ := (HQ.out wr HF.out.below).2 k hlt
      have hki : (k : Int) < (n : Int) := by omega
      have hk0 : (0 : Int) ≤ (k : Int) := by omega
      have HFT := Lib.hid (filter_take p (ts := ts) (k := k) (by have := HN.out; omega))
      have hpx : p ts[k]! = !decide (ts[k]!.txt = y) := by rw [HP.out]
      generalize ts[k]! = x at x0 x1 x2 HFT hpx
      cases hb : p x with
      | true =>
        rw [hb] at hpx
        have d1 : (x.txt.toList == y.toList) = false := by rw [txt_beq, decide_eq_false_iff_not]; simpa using hpx.symm
        have HFT' : Hid ((ts.take (k + 1)).filter p = (ts.take k).filter p ++ [x]) := by have := HFT.out; rw [hb, if_pos rfl] at this; exact this
        have HX := Lib.hid (FS.news dgCells wr x 47)
        have HO : Hid ((wr.alloc (.cells (dgCells x).toArray 47)).ownsRow w.heap.size 47 3 (.slice a m c) m (((ts.take k).filter p).flatMap dgCells)) := by
          have h := own_call0 HF.out.own ((Below.refl wr.heap.size wr).alloc (Nat.le_refl _) (.cells (dgCells x).toArray 47))
          rw [← HM.out] at h
          exact h
        have HNK : Hid (m + 1 ≤ maxLen ∧ (m + 1) * 32 ≤ 140737488355328) := by have := HNU.out k; rw [← HM.out] at this; exact this
        have HBS : Hid (w.heap.size ≤ (wr.alloc (.cells (dgCells x).toArray 47)).heap.size) := by have := HF.out.below.size; unfold Hid; simp; omega
        clear fz hpx HFT hb
        go_wp2_with (at_builtin; refine wpList_append_own _ rfl _ _ 42 rfl w.heap.size 47 i0 (.agg #[.int .i64 0, .int .i64 0, .string ⟨#[]⟩]) 3 32 Try.underlying42 hi hz0 hz1 hz2 rfl (by decide) (.slice a m c) m (((ts.take k).filter p).flatMap dgCells) rfl HO.out ⟨wr.heap.size, 0, none⟩ 1 1 (dgCells x) rfl rfl HX.out (by simp [dgCells, Value.oneCell']) HNK.out.1 HNK.out.2 HBS.out ?_; intro v4 w4 hown4 hg4 hnil4; obtain ⟨a4, c4, rfl⟩ := own_slice hown4; have HF4 : Hid (FS dgCells w w.heap.size 47 3 (.slice a4 (m + 1) c4) ((ts.take k).filter p ++ [x]) w4) := Lib.hid (FS.next HF.out HF.out.below.size rfl (by rw [← HM.out]; exact hown4) hg4); clear hown4 hg4 hnil4 x0 x1 x2 c0 c1)
        go_roundw
        case rel => exact ⟨k + 1, m + 1, a4, c4, by omega, by go_num, rfl, Lib.hid (by rw [HFT'.out, List.length_append, ← HM.out]; rfl), by rw [HFT'.out]; exact HF4⟩
        case measure => simp [intOf]; omega
      | false =>
        rw [hb] at hpx
        have d1 : (x.txt.toList == y.toList) = true := by rw [txt_beq, decide_eq_true_eq]; simpa using hpx.symm
        have HFT' : Hid ((ts.take (k + 1)).filter p = (ts.take k).filter p) := by have := HFT.out; rw [hb, if_neg (by decide)] at this; exact this
        clear fz hpx HFT hb
        go_wp2
        go_roundw
        case rel => exact ⟨k + 1, m, a, c, by omega, by go_num, rfl, by rw [HFT'.out]; exact HM, by rw [HFT'.out]; exact HF⟩
        case measure => simp [intOf]; omega
    · obtain rfl : k = n := by omega
      have hmn : m ≤ k := by have h1 := HM.out; have h2 := List.length_filter_le p (ts.take k); rw [List.length_take, ← h1] at h2; omega
      have e2 : IntKind.i64.wrap ((k : Int) - (m : Int)) = (k : Int) - (m : Int) := IntWalk.i64_in _ (by omega)
      have fz0 := fz 0
      clear fz hmn
      go_wp2
      go_ret
      have ht : ts.take k = ts := List.take_of_length_le (by have := HN.out; omega)
      have hM := HM.out
      rw [ht] at hM
      have hFS := HF.out
      rw [ht] at hFS
      have hlm : (ts.filter p).length ≤ most := Nat.le_trans (List.length_filter_le _ _) HH.out.len
      have hA := RsAt.anew HH.out hFS.below hlm hFS.own
      exact ⟨by rw [← hM]; rfl, hA.1, hA.2⟩

set_option maxRecDepth 100000 in
set_option maxHeartbeats 1600000 in
theorem r13Ending_any (F : Nat → Prop) (q most : Nat) (ts : List Tg) (h : Int) (w : World) (hr : RsIs w F q most ts) :
    Calls Try.prog 35 #[.pointer (some ⟨q, 0, none⟩), .int .i64 h] w fun r w' => ∃ v', r = .returned v' ∧ TxO w' w.heap.size v' (ts.filter fun t => decide (t.fin < h)) ∧ Below w.heap.size w w' := by
  obtain ⟨i0, hi, hz0, hz1, hz2⟩ := info_parts13 infoStr
  obtain ⟨v, hv⟩ := hr
  obtain ⟨va, vc, rfl⟩ := hv.slice
  obtain ⟨n, hn⟩ : ∃ n, n = ts.length := ⟨_, rfl⟩
  obtain ⟨p, hp⟩ : ∃ p : Tg → Bool, p = fun t => decide (t.fin < h) := ⟨_, rfl⟩
  have HH := Lib.hid hv; have HN := Lib.hid hn
  have hm := hv.m2
  have hlen : n ≤ 16384 := by rw [hn]; exact Nat.le_trans hv.len hm
  have HQ : Hid (∀ u, Below w.heap.size w u → u.heap[q]? = some (.cells #[.slice va n vc, .int .i64 (most : Int)] 74 (0, 0)) ∧ (∀ k, k < n → ∃ g, va = some ⟨g, 0, none⟩ ∧ u.cell? ⟨g, k * 3, none⟩ = some (.int .i64 ts[k]!.beg) ∧ u.cell? ⟨g, k * 3 + 1, none⟩ = some (.int .i64 ts[k]!.fin) ∧ u.cell? ⟨g, k * 3 + 2, none⟩ = some (.string ts[k]!.txt))) := Lib.hid (fun u hu => by
    have hu2 := hv.below hu
    rw [hn]
    refine ⟨hu2.blk, fun k hk => ?_⟩
    obtain ⟨g, cap, e, _, hc⟩ := hu2.at (by omega)
    simp only [Value.slice.injEq] at e
    exact ⟨g, e.1, hc k hk⟩)
  rw [← hp]
  have HP := Lib.hid hp
  have HNU : Hid (∀ k, ((ts.take k).filter p).length + 1 ≤ maxLen ∧ (((ts.take k).filter p).length + 1) * 16 ≤ 140737488355328) := Lib.hid (fun k => by have := filter_len p ts k; unfold maxLen; omega)
  have H0 : Hid (FS txCells w w.heap.size 9 1 (.slice none 0 0) ((ts.take 0).filter p) w) := Lib.hid ⟨World.ownsRow_nil _ _ _ _, Below.refl _ _⟩
  clear hv hn hp hm
  go_enter Try.func35, Try.ntmps35
  go_wp2
  go_loopw [5, 6] (fun ov iv wr => ∃ (k m : Nat) (a : Option Addr) (c : Nat), k ≤ n ∧ iv = .int .i64 (k : Int) ∧ ov = .slice a m c ∧ Hid (m = ((ts.take k).filter p).length) ∧ Hid (FS txCells w w.heap.size 9 1 (.slice a m c) ((ts.take k).filter p) wr)) (fun _ iv _ => n - (intOf iv).toNat)
  case atStart => exact ⟨0, 0, none, 0, Nat.zero_le _, rfl, rfl, rfl, H0⟩
  case round =>
    obtain ⟨k, m, a, c, hk, rfl, rfl, HM, HF⟩ := hrel
    obtain ⟨c0, c1, fz⟩ := cells_two (HQ.out wr HF.out.below).1
    have e1 : IntKind.i64.wrap ((k : Int) + 1) = (k : Int) + 1 := IntWalk.i64_in _ (by omega)
    by_cases hlt : k < n
    · obtain ⟨g, rfl, x0, x1, x2⟩ := (HQ.out wr HF.out.below).2 k hlt
      have hki : (k : Int) < (n : Int) := by omega
      have hk0 : (0 : Int) ≤ (k : Int) := by omega
      have HFT := Lib.hid (filter_take p (ts := ts) (k := k) (by have := HN.out; omega))
      have hpx : p ts[k]! = decide (ts[k]!.fin < h) := by rw [HP.out]
      generalize ts[k]! = x at x0 x1 x2 HFT hpx
      cases hb : p x with
      | true =>
        rw [hb] at hpx
        have d1 := hpx.symm
        have HFT' : Hid ((ts.take (k + 1)).filter p = (ts.take k).filter p ++ [x]) := by have := HFT.out; rw [hb, if_pos rfl] at this; exact this
        have HX := Lib.hid (FS.news txCells wr x 9)
        have HO : Hid ((wr.alloc (.cells (txCells x).toArray 9)).ownsRow w.heap.size 9 1 (.slice a m c) m (((ts.take k).filter p).flatMap txCells)) := by
          have h := own_call0 HF.out.own ((Below.refl wr.heap.size wr).alloc (Nat.le_refl _) (.cells (txCells x).toArray 9))
          rw [← HM.out] at h
          exact h
        have HNK : Hid (m + 1 ≤ maxLen ∧ (m + 1) * 16 ≤ 140737488355328) := by have := HNU.out k; rw [← HM.out] at this; exact this
        have HBS : Hid (w.heap.size ≤ (wr.alloc (.cells (txCells x).toArray 9)).heap.size) := by have := HF.out.below.size; unfold Hid; simp; omega
        clear fz hpx HFT hb
        go_wp2_with (at_builtin; refine wpList_append_own _ rfl _ _ 75 rfl w.heap.size 9 i0 (.string ⟨#[]⟩) 1 16 Try.underlying75 hi hz0 hz1 hz2 rfl (by decide) (.slice a m c) m (((ts.take k).filter p).flatMap txCells) rfl HO.out ⟨wr.heap.size, 0, none⟩ 1 1 (txCells x) rfl rfl HX.out (by simp [txCells, Value.oneCell']) HNK.out.1 HNK.out.2 HBS.out ?_; intro v4 w4 hown4 hg4 hnil4; obtain ⟨a4, c4, rfl⟩ := own_slice hown4; have HF4 : Hid (FS txCells w w.heap.size 9 1 (.slice a4 (m + 1) c4) ((ts.take k).filter p ++ [x]) w4) := Lib.hid (FS.next HF.out HF.out.below.size rfl (by rw [← HM.out]; exact hown4) hg4); clear hown4 hg4 hnil4 x0 x1 x2 c0 c1)
        go_roundw
        case rel => exact ⟨k + 1, m + 1, a4, c4, by omega, by go_num, rfl, Lib.hid (by rw [HFT'.out, List.length_append, ← HM.out]; rfl), by rw [HFT'.out]; exact HF4⟩
        case measure => simp [intOf]; omega
      | false =>
        rw [hb] at hpx
        have d1 := hpx.symm
        have HFT' : Hid ((ts.take (k + 1)).filter p = (ts.take k).filter p) := by have := HFT.out; rw [hb, if_neg (by decide)] at this; exact this
        clear fz hpx HFT hb
        go_wp2
        go_roundw
        case rel => exact ⟨k + 1, m, a, c, by omega, by go_num, rfl, by rw [HFT'.out]; exact HM, by rw [HFT'.out]; exact HF⟩
        case measure => simp [intOf]; omega
    · obtain rfl : k = n := by omega
      clear fz
      go_wp2
      go_ret
      have ht : ts.take k = ts := List.take_of_length_le (by have := HN.out; omega)
      have hM := HM.out
      rw [ht] at hM
      have hFS := HF.out
      rw [ht] at hFS
      exact ⟨_, rfl, ⟨by have h1 := List.length_filter_le p ts; have h2 := HN.out; omega, hFS.own⟩, hFS.below⟩

set_option maxRecDepth 100000 in
set_option maxHeartbeats 1600000 in
theorem r13Beginning_any (F : Nat → Prop) (q most : Nat) (ts : List Tg) (h : Int) (w : World) (hr : RsIs w F q most ts) :
    Calls Try.prog 36 #[.pointer (some ⟨q, 0, none⟩), .int .i64 h] w fun r w' => ∃ v', r = .returned v' ∧ TxO w' w.heap.size v' (ts.filter fun t => decide (t.beg > h)) ∧ Below w.heap.size w w' := by
  obtain ⟨i0, hi, hz0, hz1, hz2⟩ := info_parts13 infoStr
  obtain ⟨v, hv⟩ := hr
  obtain ⟨va, vc, rfl⟩ := hv.slice
  obtain ⟨n, hn⟩ : ∃ n, n = ts.length := ⟨_, rfl⟩
  obtain ⟨p, hp⟩ : ∃ p : Tg → Bool, p = fun t => decide (t.beg > h) := ⟨_, rfl⟩
  have HH := Lib.hid hv; have HN := Lib.hid hn
  have hm := hv.m2
  have hlen : n ≤ 16384 := by rw [hn]; exact Nat.le_trans hv.len hm
  have HQ : Hid (∀ u, Below w.heap.size w u → u.heap[q]? = some (.cells #[.slice va n vc, .int .i64 (most : Int)] 74 (0, 0)) ∧ (∀ k, k < n → ∃ g, va = some ⟨g, 0, none⟩ ∧ u.cell? ⟨g, k * 3, none⟩ = some (.int .i64 ts[k]!.beg) ∧ u.cell? ⟨g, k * 3 + 1, none⟩ = some (.int .i64 ts[k]!.fin) ∧ u.cell? ⟨g, k * 3 + 2, none⟩ = some (.string ts[k]!.txt))) := Lib.hid (fun u hu => by
    have hu2 := hv.below hu
    rw [hn]
    refine ⟨hu2.blk, fun k hk => ?_⟩
    obtain ⟨g, cap, e, _, hc⟩ := hu2.at (by omega)
    simp only [Value.slice.injEq] at e
    exact ⟨g, e.1, hc k hk⟩)
  rw [← hp]
  have HP := Lib.hid hp
  have HNU : Hid (∀ k, ((ts.take k).filter p).length + 1 ≤ maxLen ∧ (((ts.take k).filter p).length + 1) * 16 ≤ 140737488355328) := Lib.hid (fun k => by have := filter_len p ts k; unfold maxLen; omega)
  have H0 : Hid (FS txCells w w.heap.size 9 1 (.slice none 0 0) ((ts.take 0).filter p) w) := Lib.hid ⟨World.ownsRow_nil _ _ _ _, Below.refl _ _⟩
  clear hv hn hp hm
  go_enter Try.func36, Try.ntmps36
  go_wp2
  go_loopw [5, 6] (fun ov iv wr => ∃ (k m : Nat) (a : Option Addr) (c : Nat), k ≤ n ∧ iv = .int .i64 (k : Int) ∧ ov = .slice a m c ∧ Hid (m = ((ts.take k).filter p).length) ∧ Hid (FS txCells w w.heap.size 9 1 (.slice a m c) ((ts.take k).filter p) wr)) (fun _ iv _ => n - (intOf iv).toNat)
  case atStart => exact ⟨0, 0, none, 0, Nat.zero_le _, rfl, rfl, rfl, H0⟩
  case round =>
    obtain ⟨k, m, a, c, hk, rfl, rfl, HM, HF⟩ := hrel
    obtain ⟨c0, c1, fz⟩ := cells_two (HQ.out wr HF.out.below).1
    have e1 : IntKind.i64.wrap ((k : Int) + 1) = (k : Int) + 1 := IntWalk.i64_in _ (by omega)
    by_cases hlt : k < n
    · obtain ⟨g, rfl, x0, x1, x2⟩ := (HQ.out wr HF.out.below).2 k hlt
      have hki : (k : Int) < (n : Int) := by omega
      have hk0 : (0 : Int) ≤ (k : Int) := by omega
      have HFT := Lib.hid (filter_take p (ts := ts) (k := k) (by have := HN.out; omega))
      have hpx : p ts[k]! = decide (ts[k]!.beg > h) := by rw [HP.out]
      generalize ts[k]! = x at x0 x1 x2 HFT hpx
      cases hb : p x with
      | true =>
        rw [hb] at hpx
        have d1 := hpx.symm
        have HFT' : Hid ((ts.take (k + 1)).filter p = (ts.take k).filter p ++ [x]) := by have := HFT.out; rw [hb, if_pos rfl] at this; exact this
        have HX := Lib.hid (FS.news txCells wr x 9)
        have HO : Hid ((wr.alloc (.cells (txCells x).toArray 9)).ownsRow w.heap.size 9 1 (.slice a m c) m (((ts.take k).filter p).flatMap txCells)) := by
          have h := own_call0 HF.out.own ((Below.refl wr.heap.size wr).alloc (Nat.le_refl _) (.cells (txCells x).toArray 9))
          rw [← HM.out] at h
          exact h
        have HNK : Hid (m + 1 ≤ maxLen ∧ (m + 1) * 16 ≤ 140737488355328) := by have := HNU.out k; rw [← HM.out] at this; exact this
        have HBS : Hid (w.heap.size ≤ (wr.alloc (.cells (txCells x).toArray 9)).heap.size) := by have := HF.out.below.size; unfold Hid; simp; omega
        clear fz hpx HFT hb
        go_wp2_with (at_builtin; refine wpList_append_own _ rfl _ _ 75 rfl w.heap.size 9 i0 (.string ⟨#[]⟩) 1 16 Try.underlying75 hi hz0 hz1 hz2 rfl (by decide) (.slice a m c) m (((ts.take k).filter p).flatMap txCells) rfl HO.out ⟨wr.heap.size, 0, none⟩ 1 1 (txCells x) rfl rfl HX.out (by simp [txCells, Value.oneCell']) HNK.out.1 HNK.out.2 HBS.out ?_; intro v4 w4 hown4 hg4 hnil4; obtain ⟨a4, c4, rfl⟩ := own_slice hown4; have HF4 : Hid (FS txCells w w.heap.size 9 1 (.slice a4 (m + 1) c4) ((ts.take k).filter p ++ [x]) w4) := Lib.hid (FS.next HF.out HF.out.below.size rfl (by rw [← HM.out]; exact hown4) hg4); clear hown4 hg4 hnil4 x0 x1 x2 c0 c1)
        go_roundw
        case rel => exact ⟨k + 1, m + 1, a4, c4, by omega, by go_num, rfl, Lib.hid (by rw [HFT'.out, List.length_append, ← HM.out]; rfl), by rw [HFT'.out]; exact HF4⟩
        case measure => simp [intOf]; omega
      | false =>
        rw [hb] at hpx
        have d1 := hpx.symm
        have HFT' : Hid ((ts.take (k + 1)).filter p = (ts.take k).filter p) := by have := HFT.out; rw [hb, if_neg (by decide)] at this; exact this
        clear fz hpx HFT hb
        go_wp2
        go_roundw
        case rel => exact ⟨k + 1, m, a, c, by omega, by go_num, rfl, by rw [HFT'.out]; exact HM, by rw [HFT'.out]; exact HF⟩
        case measure => simp [intOf]; omega
    · obtain rfl : k = n := by omega
      clear fz
      go_wp2
      go_ret
      have ht : ts.take k = ts := List.take_of_length_le (by have := HN.out; omega)
      have hM := HM.out
      rw [ht] at hM
      have hFS := HF.out
      rw [ht] at hFS
      exact ⟨_, rfl, ⟨by have h1 := List.length_filter_le p ts; have h2 := HN.out; omega, hFS.own⟩, hFS.below⟩

end Go.Proofs.Ytehdimaihkckkaa
