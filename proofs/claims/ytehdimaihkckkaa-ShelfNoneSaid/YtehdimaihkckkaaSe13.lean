/- The program's shelf: slices.Clone of things, Clone; drop, with whatever function is handed over; Clear. -/
import Derived.Test.YtehdimaihkckkaaSd13
import Derived.Shelf.AbstractIn
import Derived.Shelf.Abstract
import Derived.Lib.Hide
import Derived.Lib.SliceRun
namespace Go.Proofs.Ytehdimaihkckkaa
open Go Go.RowKit Go.Sort

/-- Behind a list that is laid anew. -/
theorem ShAt.anew {w w1 : World} {F : Nat → Prop} {q most nx : Nat} {ts ts' : List Tg} {v v' : Value} (h : ShAt w F q most nx ts v) (hb : Below w.heap.size w w1) (hsub : ts'.Sublist ts) (hown : w1.ownsRow w.heap.size 81 4 v' ts'.length (tgRow ts')) :
    ShIs (w1.setCell ⟨q, 2, none⟩ v') (grF F w (w1.setCell ⟨q, 2, none⟩ v')) q most nx ts' ∧ Chg F w (w1.setCell ⟨q, 2, none⟩ v') := by
  have hql := h.flt q h.fq
  have hq1 := (hb.block q hql).trans h.blk
  have hs := hb.size
  refine ⟨⟨v', .inl h.fq, grF_lt h.flt (by simp only [World.size_setCell]; omega), h.m1, h.m2, Nat.le_trans hsub.length_le h.len, h.num.sublist (hsub.map _), fun t ht => h.numlt t (hsub.subset ht), fun t ht => h.may t (hsub.subset ht), ?_, own_lower0 (ownsRow_setCell_typed (a := ⟨q, 2, none⟩) hown hq1 (by decide) _) (Nat.zero_le _), fun g hg => ?_⟩, (Chg.of_below hb).setCell (p := ⟨q, 2, none⟩) h.fq _⟩
  · rw [heap_setCell_same hq1 _]; simp
  · have h1 := hown.lt g hg
    exact ⟨.inr ⟨h1.1, by simp only [World.size_setCell]; exact h1.2⟩, by omega⟩
theorem FS.call {α : Type} {f : α → List Value} {W : World} {B e size : Nat} {v : Value} {l : List α} {w w1 : World} (h : FS f W B e size v l w) (hB : B ≤ w.heap.size) (hb : Below w.heap.size w w1) : FS f W B e size v l w1 := ⟨own_call0 h.own hb, h.below.trans (hb.mono hB)⟩

set_option maxRecDepth 100000 in
set_option maxHeartbeats 1600000 in
theorem CloneThg_any (F : Nat → Prop) (q most nx : Nat) (ts : List Tg) (va : Option Addr) (vc : Nat) (w : World) (h : ShAt w F q most nx ts (.slice va ts.length vc)) :
    Calls Try.prog 44 #[.slice va ts.length vc] w fun e w' => ∃ v', e = .returned v' ∧ w'.ownsRow w.heap.size 81 4 v' ts.length (tgRow ts) ∧ Below w.heap.size w w' := by
  obtain ⟨i0, hi, hz0, hz1, hz2⟩ := info_parts13 infoThg
  have q := fun (w : World) (a : Option Addr) (n c n' c' : Nat) => Lib.run_eql_slice_nil w 50 81 a n c n' c' Try.underlying50
  have hm := h.m2
  have hlen := h.len
  have hown := h.own
  cases va with
  | none =>
    have hz : vc = 0 ∧ ts.length = 0 := by
      rcases hown.2 with ⟨e, h0⟩ | ⟨g, cap, cur, e, _⟩
      · simp only [Value.slice.injEq] at e; exact ⟨e.2.2, h0⟩
      · simp at e
    obtain ⟨rfl, h0⟩ := hz
    obtain rfl : ts = [] := List.eq_nil_of_length_eq_zero h0
    clear h hm hlen hown h0
    go_enter Try.func44, Try.ntmps44
    go_wp2
    go_ret
    exact ⟨_, rfl, World.ownsRow_nil _ _ _ _, Below.refl _ _⟩
  | some ad =>
    have hba : Below w.heap.size w (w.alloc (.cells #[] 81)) := (Below.refl _ _).alloc (Nat.le_refl _) _
    have HC : Hid (∀ j u, (tgRow ts)[j]? = some u → (w.alloc (.cells #[] 81)).cell? (ad.add j) = some u) := Lib.hid (fun j u hj => by
      have hn : 0 < ts.length := by
        rcases Nat.eq_zero_or_pos ts.length with h0 | h0
        · rw [List.eq_nil_of_length_eq_zero h0] at hj; simp [tgRow] at hj
        · exact h0
      obtain ⟨ad', e, hc⟩ := own_news (own_call0 hown hba) (by decide) hn
      cases e; exact hc j u hj)
    have HL := Lib.hid (tgRow_len ts); have H1 := Lib.hid (tgRow_one ts)
    have HN : Hid (ts.length ≤ maxLen ∧ ts.length * 40 ≤ 140737488355328) := by unfold Hid maxLen; omega
    clear h hm hlen hown hba
    go_enter Try.func44, Try.ntmps44
    go_wp2_with (at_builtin; refine wpList_append_own _ rfl _ _ 50 rfl w.heap.size 81 i0 (.agg #[.int .i64 0, .int .i64 0, .int .i64 0, .string ⟨#[]⟩]) 4 40 Try.underlying50 hi hz0 hz1 hz2 rfl (by decide) _ _ _ rfl (World.ownsRow_made w #[] 0 (Nat.le_refl _) (Nat.zero_le _) (by simp)) ad ts.length vc (tgRow ts) rfl HL.out (fun j u hj => HC.out j u hj) H1.out (by have := HN.out; omega) (by have := HN.out; omega) (by simp) ?_; intro v' w1 hown hgrow hnil; clear hnil; have HO := Lib.hid hown; have HG := Lib.hid hgrow; clear hown hgrow)
    go_ret
    refine ⟨_, rfl, by have := HO.out; simpa using this, ?_⟩
    exact ((Below.refl _ w).alloc (Nat.le_refl _) _).grown HG.out (by simp) (fun k hk => ((World.ownsRow_made (base := w.heap.size) (e := 81) (size := 4) w #[] 0 (Nat.le_refl _) (Nat.zero_le _) (by simp)).lt k hk).1)

set_option maxRecDepth 100000 in
set_option maxHeartbeats 1600000 in
theorem hClone_any (F : Nat → Prop) (q most nx : Nat) (ts : List Tg) (w : World) (hr : ShIs w F q most nx ts) :
    Calls Try.prog 13 #[.pointer (some ⟨q, 0, none⟩)] w fun r w' => ∃ q', r = .returned (.pointer (some ⟨q', 0, none⟩)) ∧ ShIs w' (fun b => w.heap.size ≤ b ∧ b < w'.heap.size) q' most nx ts ∧ Below w.heap.size w w' := by
  obtain ⟨v, hv⟩ := hr
  obtain ⟨va, vc, rfl⟩ := hv.slice
  have hC1 := hIsMade_any q most w (cells_three hv.blk).1
  rw [decide_eq_true (by have := hv.m1; omega : 0 < most)] at hC1
  have HC1 := Lib.hid hC1
  have hwd : Below w.heap.size w w.drew := (Below.refl _ _).drew
  have HC2 := Lib.hid (CloneThg_any F q most nx ts va vc w.drew (hv.below hwd))
  have HB : Hid (∀ u, Below w.heap.size w u → u.heap[q]? = some (.cells #[.int .i64 (most : Int), .int .i64 (nx : Int), .slice va ts.length vc] 52 (0, 0))) := Lib.hid (fun u hu => (hv.below hu).blk)
  obtain ⟨c0, c1, c2, -⟩ := cells_three hv.blk
  have HF : Hid (∀ v' w1, w1.ownsRow w.drew.heap.size 81 4 v' ts.length (tgRow ts) → Below w.drew.heap.size w.drew w1 → ShIs (w1.alloc (.cells #[.int .i64 (most : Int), .int .i64 (nx : Int), v'] 52)) (fun b => w.heap.size ≤ b ∧ b < (w1.alloc (.cells #[.int .i64 (most : Int), .int .i64 (nx : Int), v'] 52)).heap.size) w1.heap.size most nx ts ∧ Below w.heap.size w (w1.alloc (.cells #[.int .i64 (most : Int), .int .i64 (nx : Int), v'] 52))) := Lib.hid (fun v' w1 ho hb => by
    have hb1 : Below w.heap.size w w1 := hwd.trans hb
    have hs := hb1.size
    have hba : Below w1.heap.size w1 (w1.alloc (.cells #[.int .i64 (most : Int), .int .i64 (nx : Int), v'] 52)) := (Below.refl _ _).alloc (Nat.le_refl _) _
    refine ⟨⟨v', ⟨hs, by simp⟩, fun b hb => hb.2, hv.m1, hv.m2, hv.len, hv.num, hv.numlt, hv.may, heap_alloc_new w1 _, own_lower0 (own_call0 ho hba) (Nat.zero_le _), fun g hg => ?_⟩, hb1.trans (hba.mono hs)⟩
    have h1 := ho.lt g hg
    exact ⟨⟨h1.1, by simp; omega⟩, by omega⟩)
  clear hv hwd hC1
  go_enter Try.func13, Try.ntmps13
  go_wp2_with (go_at_call 42; (with_reducible refine (HC1.out).mono ?_); rintro r w1 ⟨rfl, rfl⟩)
  go_region_held3 (fun w' => w'.cell? ⟨q, 0, none⟩ = some (.int .i64 (most : Int)) ∧ w'.cell? ⟨q, 1, none⟩ = some (.int .i64 (nx : Int)) ∧ w'.cell? ⟨q, 2, none⟩ = some (.slice va ts.length vc))
    (first | (with_reducible exact ⟨c0, c1, c2⟩) | (with_reducible exact ⟨t0, t1, t2⟩) | go_keep)
    ((go_at_call 44; (with_reducible refine (HC2.out).mono ?_); rintro r w1 ⟨v1, rfl, hown, hb1⟩; obtain ⟨a1, k1, rfl⟩ := own_slice hown; have hq1 := HB.out w1 (((Below.refl w.heap.size w).drew).trans hb1); obtain ⟨t0, t1, t2, -⟩ := cells_three hq1; have HF1 := Lib.hid (HF.out _ w1 hown hb1); clear hown hb1 hq1))
  all_goals go_wp2
  all_goals go_ret
  all_goals exact ⟨_, rfl, HF1.out.1, HF1.out.2⟩

set_option maxRecDepth 100000 in
set_option maxHeartbeats 1600000 in
/-- drop: the function g, which has captured cp, tells of each thing whether it goes. -/
theorem hDrop_any (gf : Nat) (cp : Value) (p : Tg → Bool) (F : Nat → Prop) (q most nx : Nat) (ts : List Tg) (w : World) (hr : ShIs w F q most nx ts) (eg : ∀ args w, (callFunc gf args).run Try.prog w = .ok (.enter gf args) w)
    (HF : ∀ t ∈ ts, ∀ u : World, Below w.heap.size w u → Calls Try.prog gf #[tgV t, cp] u fun e w' => e = .returned (.bool (p t)) ∧ Below u.heap.size u w') :
    Calls Try.prog 39 #[.pointer (some ⟨q, 0, none⟩), .func (.func gf) #[] #[cp]] w fun r w' => r = .returned (.int .i64 ((ts.length : Int) - ((ts.filter fun t => !p t).length : Int))) ∧ ShIs w' (grF F w w') q most nx (ts.filter fun t => !p t) ∧ Chg F w w' := by
  obtain ⟨i0, hi, hz0, hz1, hz2⟩ := info_parts13 infoThg
  obtain ⟨v, hv⟩ := hr
  obtain ⟨va, vc, rfl⟩ := hv.slice
  have hC1 := hIsMade_any q most w (cells_three hv.blk).1
  rw [decide_eq_true (by have := hv.m1; omega : 0 < most)] at hC1
  have HC1 := Lib.hid hC1
  obtain ⟨n, hn⟩ : ∃ n, n = ts.length := ⟨_, rfl⟩
  obtain ⟨np, hp⟩ : ∃ np : Tg → Bool, np = fun t => !p t := ⟨_, rfl⟩
  have HH := Lib.hid hv; have HN := Lib.hid hn
  have hm := hv.m2
  have hlen : n ≤ 16384 := by rw [hn]; exact Nat.le_trans hv.len hm
  have HQ : Hid (∀ u, Below w.heap.size w u → u.heap[q]? = some (.cells #[.int .i64 (most : Int), .int .i64 (nx : Int), .slice va n vc] 52 (0, 0)) ∧ (∀ k, k < n → ∃ g, va = some ⟨g, 0, none⟩ ∧ u.cell? ⟨g, k * 4, none⟩ = some (.int .i64 ts[k]!.num) ∧ u.cell? ⟨g, k * 4 + 1, none⟩ = some (.int .i64 ts[k]!.beg) ∧ u.cell? ⟨g, k * 4 + 2, none⟩ = some (.int .i64 ts[k]!.fin) ∧ u.cell? ⟨g, k * 4 + 3, none⟩ = some (.string ts[k]!.txt))) := Lib.hid (fun u hu => by
    have hu2 := hv.below hu
    rw [hn]
    refine ⟨hu2.blk, fun k hk => ?_⟩
    obtain ⟨g, cap, e, _, hc⟩ := hu2.at (by omega)
    simp only [Value.slice.injEq] at e
    exact ⟨g, e.1, (hc k hk).1, (hc k hk).2.1, (hc k hk).2.2.2.1, (hc k hk).2.2.2.2⟩)
  rw [← hp, ← hn]
  have HP := Lib.hid hp
  have HNU : Hid (∀ k, ((ts.take k).filter np).length + 1 ≤ maxLen ∧ (((ts.take k).filter np).length + 1) * 40 ≤ 140737488355328) := Lib.hid (fun k => by have := filter_len np ts k; unfold maxLen; omega)
  have H0 : Hid (FS tgCells w w.heap.size 81 4 (.slice none 0 0) ((ts.take 0).filter np) w) := Lib.hid ⟨World.ownsRow_nil _ _ _ _, Below.refl _ _⟩
  obtain ⟨c0, c1, c2, -⟩ := cells_three (HQ.out w (Below.refl _ _)).1
  have HFF := Lib.hid HF
  clear hv hn hp hm hC1 HF
  go_enter Try.func39, Try.ntmps39
  go_wp2_with (go_at_call 42; (with_reducible refine (HC1.out).mono ?_); rintro r w1 ⟨rfl, rfl⟩)
  clear c0 c1 c2
  go_loopw [5, 17] (fun ov iv wr => ∃ (k m : Nat) (a : Option Addr) (c : Nat), k ≤ n ∧ iv = .int .i64 (k : Int) ∧ ov = .slice a m c ∧ Hid (m = ((ts.take k).filter np).length) ∧ Hid (FS tgCells w w.heap.size 81 4 (.slice a m c) ((ts.take k).filter np) wr)) (fun _ iv _ => n - (intOf iv).toNat)
  case atStart => exact ⟨0, 0, none, 0, Nat.zero_le _, rfl, rfl, rfl, H0⟩
  case round =>
    obtain ⟨k, m, a, c, hk, rfl, rfl, HM, HF⟩ := hrel
    have e1 : IntKind.i64.wrap ((k : Int) + 1) = (k : Int) + 1 := IntWalk.i64_in _ (by omega)
    by_cases hlt : k < n
    · obtain ⟨g, rfl, x0, x1, x2, x3⟩ := (HQ.out wr HF.out.below).2 k hlt
      have hki : (k : Int) < (n : Int) := by omega
      have hk0 : (0 : Int) ≤ (k : Int) := by omega
      have HFT := Lib.hid (filter_take np (ts := ts) (k := k) (by have := HN.out; omega))
      have hmem : ts[k]! ∈ ts := by rw [getElem!_pos ts k (by have := HN.out; omega)]; exact List.getElem_mem _
      have hnp : np ts[k]! = !p ts[k]! := by rw [HP.out]
      have hHk := fun (u : World) (hu : Below w.heap.size w u) => HFF.out _ hmem u hu
      clear hmem
      generalize ts[k]! = x at x0 x1 x2 x3 HFT hHk hnp
      obtain ⟨X, hX⟩ : ∃ X, X = wr.alloc (.cells #[.int .i64 x.num, .int .i64 x.beg, .int .i64 x.fin, .string x.txt] 81) := ⟨_, rfl⟩
      have hbX : Below wr.heap.size wr X := by rw [hX]; exact (Below.refl _ _).alloc (Nat.le_refl _) _
      have hXn : X.heap[wr.heap.size]? = some (.cells #[.int .i64 x.num, .int .i64 x.beg, .int .i64 x.fin, .string x.txt] 81 (0, 0)) := by rw [hX]; exact heap_alloc_new wr _
      have HFX := Lib.hid (HF.out.call HF.out.below.size hbX)
      have hXl : wr.heap.size < X.heap.size := lt_of_block hXn
      have hHX := hHk X HFX.out.below
      have HFU : Hid (∀ u, Below X.heap.size X u → FS tgCells w w.heap.size 81 4 (.slice a m c) ((ts.take k).filter np) u ∧ u.heap[wr.heap.size]? = some (.cells #[.int .i64 x.num, .int .i64 x.beg, .int .i64 x.fin, .string x.txt] 81 (0, 0))) := Lib.hid (fun u hu => ⟨HFX.out.call HFX.out.below.size hu, (hu.block _ hXl).trans hXn⟩)
      have y0 : X.cell? ⟨wr.heap.size, 0, none⟩ = _ := (cell_of_four hXn).1
      have y1 : X.cell? ⟨wr.heap.size, 1, none⟩ = _ := (cell_of_four hXn).2.1
      have y2 : X.cell? ⟨wr.heap.size, 2, none⟩ = _ := (cell_of_four hXn).2.2.1
      have y3 : X.cell? ⟨wr.heap.size, 3, none⟩ = _ := (cell_of_four hXn).2.2.2
      unfold tgV at hHX
      have HX := Lib.hid hX
      clear hbX hXn hXl hHk hX HFX
      cases hb : p x with
      | true =>
        rw [hb] at hHX hnp
        have HHX := Lib.hid hHX
        have HFT' : Hid ((ts.take (k + 1)).filter np = (ts.take k).filter np) := Lib.hid (by have := HFT.out; rw [hnp] at this; simpa using this)
        clear hHX hnp HFT hb
        go_wp2_with fail
        rw [← HX.out]
        go_wp2_with (go_at_fn gf; (with_reducible refine (HHX.out).mono ?_); rintro e w2 ⟨rfl, hb2⟩; have HF2 := Lib.hid (HFU.out w2 hb2).1; clear hb2)
        go_roundw
        case rel => exact ⟨k + 1, m, a, c, by omega, by go_num, rfl, by rw [HFT'.out]; exact HM, by rw [HFT'.out]; exact HF2⟩
        case measure => simp [intOf]; omega
      | false =>
        rw [hb] at hHX hnp
        have HHX := Lib.hid hHX
        have HFT' : Hid ((ts.take (k + 1)).filter np = (ts.take k).filter np ++ [x]) := Lib.hid (by have := HFT.out; rw [hnp] at this; simpa using this)
        have HNK : Hid (m + 1 ≤ maxLen ∧ (m + 1) * 40 ≤ 140737488355328) := by have := HNU.out k; rw [← HM.out] at this; exact this
        clear hHX hnp HFT hb
        go_wp2_with fail
        rw [← HX.out]
        go_wp2_with (first
          | (go_at_fn gf; (with_reducible refine (HHX.out).mono ?_); rintro e w2 ⟨rfl, hb2⟩; obtain ⟨hf2, hx2⟩ := HFU.out w2 hb2; obtain ⟨z0, z1, z2, z3⟩ := cell_of_four hx2; have HF2 := Lib.hid hf2; have HXN := Lib.hid (FS.news tgCells w2 x 81); have HO : Hid ((w2.alloc (.cells (tgCells x).toArray 81)).ownsRow w.heap.size 81 4 (.slice a m c) m (((ts.take k).filter np).flatMap tgCells)) := (by
              have h := own_call0 hf2.own ((Below.refl w2.heap.size w2).alloc (Nat.le_refl _) (.cells (tgCells x).toArray 81))
              rw [← HM.out] at h
              exact h); have HBS : Hid (w.heap.size ≤ (w2.alloc (.cells (tgCells x).toArray 81)).heap.size) := (by have := hf2.below.size; unfold Hid; simp; omega); clear hb2 hf2 hx2)
          | (at_builtin; refine wpList_append_own _ rfl _ _ 50 rfl w.heap.size 81 i0 (.agg #[.int .i64 0, .int .i64 0, .int .i64 0, .string ⟨#[]⟩]) 4 40 Try.underlying50 hi hz0 hz1 hz2 rfl (by decide) (.slice a m c) m (((ts.take k).filter np).flatMap tgCells) rfl HO.out ⟨w2.heap.size, 0, none⟩ 1 1 (tgCells x) rfl rfl HXN.out (by simp [tgCells, Value.oneCell']) HNK.out.1 HNK.out.2 HBS.out ?_; intro v4 w4 hown4 hg4 hnil4; obtain ⟨a4, c4, rfl⟩ := own_slice hown4; have HF4 : Hid (FS tgCells w w.heap.size 81 4 (.slice a4 (m + 1) c4) ((ts.take k).filter np ++ [x]) w4) := Lib.hid (FS.next HF2.out HF2.out.below.size rfl (by rw [← HM.out]; exact hown4) hg4); clear hown4 hg4 hnil4))
        go_roundw
        case rel => exact ⟨k + 1, m + 1, a4, c4, by omega, by go_num, rfl, Lib.hid (by rw [HFT'.out, List.length_append, ← HM.out]; rfl), by rw [HFT'.out]; exact HF4⟩
        case measure => simp [intOf]; omega
    · obtain rfl : k = n := by omega
      have hmn : m ≤ k := by have h1 := HM.out; have h2 := List.length_filter_le np (ts.take k); rw [List.length_take, ← h1] at h2; omega
      have e2 : IntKind.i64.wrap ((k : Int) - (m : Int)) = (k : Int) - (m : Int) := IntWalk.i64_in _ (by omega)
      obtain ⟨c0, c1, c2, fz⟩ := cells_three (HQ.out wr HF.out.below).1
      have fz2 := fz 2
      clear fz hmn
      go_wp2
      go_ret
      have ht : ts.take k = ts := List.take_of_length_le (by have := HN.out; omega)
      have hM := HM.out
      rw [ht] at hM
      have hFS := HF.out
      rw [ht] at hFS
      have hA := ShAt.anew HH.out hFS.below (List.filter_sublist (p := np)) hFS.own
      exact ⟨by rw [← hM]; rfl, by rw [hM] at *; exact hA.1, hA.2⟩
end Go.Proofs.Ytehdimaihkckkaa
