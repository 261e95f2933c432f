/- Contract of the document's Check of a word. -/
import Derived.Test.YtdagkhofndeekaaGreatDoorLck
namespace Go.Proofs.YtdagkhofndeekaaGreatDoor
open Go Go.RowKit

theorem OkT.of2 {x y : Tok} {en : Nat} (h : Wds x.text.data.toList (nx x.text.data.toList 0) [y] en) (he : ({ y with pl := x.pl } : Tok) = x) (hs : x.text.size ≤ 4096) : OkT x := by
  have hy : y = { x with pl := y.pl } := by cases y; rw [← he]
  have hyt : y.text = x.text := by rw [← he]
  rcases id h.inv with ⟨_, h2, _⟩ | ⟨_, h2, _⟩ | ⟨t, r, h2, hp, hw, hr⟩
  · cases h2
  · cases h2
  · obtain ⟨rfl, rfl⟩ := List.cons.inj h2
    have hf := Wd.fits hp hw
    rw [hyt, ← Lib.size_eq] at hf
    have h00 : nx x.text.data.toList 0 = 0 := by omega
    have hpl : y.pl = 0 := by rw [hw.of.1, h00]; rfl
    rw [hpl] at hy
    rw [hy] at h
    exact OkT.of h hs
set_option maxRecDepth 100000 in
set_option maxHeartbeats 2000000 in
theorem r5Check_walk (x : Tok) (w : World) (T : List Tok) (P E r : Int) (hm : T.length ≤ 4096)
    (hS : ∀ w1, Below w.heap.size w w1 → Calls Tryz.prog 12 #[.string x.text] w1 fun e w' => ∃ ao cap, e = .returned (.tuple #[.slice ao T.length cap, .int .i64 P, .int .i64 E]) ∧ w'.ownsRow w1.heap.size 30 6 (.slice ao T.length cap) T.length (T.flatMap encT) ∧ Below w1.heap.size w1 w')
    (hr : (E ≠ 0 ∧ r = 50) ∨ (E = 0 ∧ T.length ≠ 1 ∧ r = 50) ∨ (E = 0 ∧ ∃ y, T = [y] ∧ r = if tEq { y with pl := x.pl } x then 0 else 50)) :
    Calls Tryz.prog 7 #[tokV x] w fun e w' => e = .returned (.int .i64 r) ∧ Below w.heap.size w w' := by
  have hb0 : Below w.heap.size w (w.alloc (.cells #[.int .i64 x.kind, .string x.text, .int .i64 x.vk, .int .i64 x.vn, .string x.vs, .int .i64 x.pl] 30)) := (Below.refl _ _).alloc (Nat.le_refl _) _
  have HS := Lib.hid (hS _ hb0)
  have HB0 := Lib.hid hb0
  have HQ := Lib.hid (heap_alloc_new w (.cells #[.int .i64 x.kind, .string x.text, .int .i64 x.vk, .int .i64 x.vn, .string x.vs, .int .i64 x.pl] 30))
  clear hS hb0
  rcases hr with ⟨hE, rfl⟩ | ⟨rfl, hT, rfl⟩ | ⟨rfl, y, rfl, rfl⟩
  · have hbe : (E == 0) = false := by simpa using hE
    have hbn : decide (E = 0) = false := by simpa using hE
    unfold tokV
    go_enter Tryz.func7, Tryz.ntmps7
    go_wp2_with (go_at_call 12; refine HS.out.mono ?_; rintro e w2 ⟨ao, cap, rfl, ht, hb⟩; have hq := (hb.block w.heap.size (by simp)).trans HQ.out; obtain ⟨c0, c1, c2, c3, c4, c5⟩ := cell_of_six hq; obtain ⟨f0, f1, f2, f3, f4, f5⟩ := free_of_six hq; have HB := Lib.hid (HB0.out.trans (hb.mono (by simp))); clear ht hb hq)
    go_ret
    exact ⟨rfl, HB.out⟩
  · have hbe : ((T.length : Int) == 1) = false := by simp; omega
    have hbn : ¬ ((T.length : Int) = 1) := by omega
    have hbm : decide (T.length = 1) = false := by simpa using hT
    unfold tokV
    go_enter Tryz.func7, Tryz.ntmps7
    go_wp2_with (go_at_call 12; refine HS.out.mono ?_; rintro e w2 ⟨ao, cap, rfl, ht, hb⟩; have hq := (hb.block w.heap.size (by simp)).trans HQ.out; obtain ⟨c0, c1, c2, c3, c4, c5⟩ := cell_of_six hq; obtain ⟨f0, f1, f2, f3, f4, f5⟩ := free_of_six hq; have HB := Lib.hid (HB0.out.trans (hb.mono (by simp))); clear ht hb hq)
    go_ret
    exact ⟨rfl, HB.out⟩
  · have he := fun w => tNe_run ⟨y.kind, y.text, y.vk, y.vn, y.vs, x.pl⟩ x w
    have hgd := fun (op : BinOp) (a b : Operand) (w : World) => tGuard op a b ⟨y.kind, y.text, y.vk, y.vn, y.vs, x.pl⟩ x w
    show Calls Tryz.prog 7 #[tokV x] w fun e w' => e = .returned (.int .i64 (if tEq ⟨y.kind, y.text, y.vk, y.vn, y.vs, x.pl⟩ x = true then 0 else 50)) ∧ Below w.heap.size w w'
    simp only at he hgd
    simp only [List.length_cons, List.length_nil, Nat.zero_add] at HS
    unfold tokV
    cases hxy : tEq ⟨y.kind, y.text, y.vk, y.vn, y.vs, x.pl⟩ x with
    | true =>
      simp only [hxy, Bool.not_true] at he
      go_enter Tryz.func7, Tryz.ntmps7
      go_wp2_with (go_at_call 12; refine HS.out.mono ?_; rintro e w2 ⟨ao, cap, rfl, ht, hb⟩; have hq := (hb.block w.heap.size (by simp)).trans HQ.out; obtain ⟨c0, c1, c2, c3, c4, c5⟩ := cell_of_six hq; obtain ⟨f0, f1, f2, f3, f4, f5⟩ := free_of_six hq; have HB := Lib.hid (HB0.out.trans (hb.mono (by simp))); obtain ⟨g, cap2, hsl, hgb, _⟩ := ht.form (by decide); obtain rfl : ao = some ⟨g, 0, none⟩ := (by cases hsl; rfl); have hgw : g ≠ w.heap.size := (by have h1 := hgb; simp at h1; omega); have hwg : w.heap.size ≠ g := Ne.symm hgw; have d0 := row_cell ht 0 _ rfl; have d1 := row_cell ht 1 _ rfl; have d2 := row_cell ht 2 _ rfl; have d3 := row_cell ht 3 _ rfl; have d4 := row_cell ht 4 _ rfl; have d5 := row_cell ht 5 _ rfl; have fz := ht.frozenAt 5; have HGE := Lib.hid (show w.heap.size ≤ g from by have h1 := hgb; simp at h1; omega); clear hsl hgb; clear ht hb hq)
      go_quiet (fail)
      all_goals go_wp2
      all_goals go_ret
      all_goals exact ⟨rfl, by first | exact below_drewN (HB.out.setCell (p := ⟨g, 5, none⟩) HGE.out _) _ | exact HB.out.setCell (p := ⟨g, 5, none⟩) HGE.out _⟩
    | false =>
      simp only [hxy, Bool.not_false] at he
      go_enter Tryz.func7, Tryz.ntmps7
      go_wp2_with (go_at_call 12; refine HS.out.mono ?_; rintro e w2 ⟨ao, cap, rfl, ht, hb⟩; have hq := (hb.block w.heap.size (by simp)).trans HQ.out; obtain ⟨c0, c1, c2, c3, c4, c5⟩ := cell_of_six hq; obtain ⟨f0, f1, f2, f3, f4, f5⟩ := free_of_six hq; have HB := Lib.hid (HB0.out.trans (hb.mono (by simp))); obtain ⟨g, cap2, hsl, hgb, _⟩ := ht.form (by decide); obtain rfl : ao = some ⟨g, 0, none⟩ := (by cases hsl; rfl); have hgw : g ≠ w.heap.size := (by have h1 := hgb; simp at h1; omega); have hwg : w.heap.size ≠ g := Ne.symm hgw; have d0 := row_cell ht 0 _ rfl; have d1 := row_cell ht 1 _ rfl; have d2 := row_cell ht 2 _ rfl; have d3 := row_cell ht 3 _ rfl; have d4 := row_cell ht 4 _ rfl; have d5 := row_cell ht 5 _ rfl; have fz := ht.frozenAt 5; have HGE := Lib.hid (show w.heap.size ≤ g from by have h1 := hgb; simp at h1; omega); clear hsl hgb; clear ht hb hq)
      go_quiet (fail)
      all_goals go_wp2
      all_goals go_ret
      all_goals exact ⟨rfl, by first | exact below_drewN (HB.out.setCell (p := ⟨g, 5, none⟩) HGE.out _) _ | exact HB.out.setCell (p := ⟨g, 5, none⟩) HGE.out _⟩

theorem r5Check_ok (x : Tok) (h : OkT x) (w : World) (_hE : ErrV w) : Calls Tryz.prog 7 #[tokV x] w fun e w' => e = .returned (.int .i64 0) ∧ Below w.heap.size w w' := by
  obtain ⟨hz, hw⟩ := h.words
  have hs := h.2.2
  have hsl : x.text.data.toList.length = x.text.size := (Lib.size_eq _).symm
  rw [hsl] at hw
  have e1 : sT x.text [{ x with pl := 0 }] x.text.size = [{ x with pl := 0 }] := by unfold sT; rw [if_neg (by omega), if_neg (by omega)]
  have e2 : sE x.text x.text.size = 0 := by unfold sE; rw [if_neg (by omega), if_neg (by omega)]
  refine r5Check_walk x w (sT x.text [{ x with pl := 0 }] x.text.size) (sP x.text x.text.size) (sE x.text x.text.size) 0 (by rw [e1]; simp)
    (fun w1 hb => (r5Scan_any x.text (by omega) _ _ (by rw [hz]; exact hw) w1).mono fun e w' h => h.own (Nat.le_refl _)) (.inr (.inr ⟨e2, _, e1, by rw [show ({ x with pl := x.pl } : Tok) = x from rfl, tEq_refl]; rfl⟩))
theorem r5Check_no (x : Tok) (hm : x.text.size ≤ 140737488355328) (h : ¬ OkT x) (w : World) (hE : ErrV w) : Calls Tryz.prog 7 #[tokV x] w fun e w' => e = .returned (.int .i64 50) ∧ Below w.heap.size w w' := by
  obtain ⟨ts, en, hw⟩ := Wds.all x.text.data.toList
  have hsl : x.text.data.toList.length = x.text.size := (Lib.size_eq _).symm
  have hen : en ≤ x.text.size := by rw [← hsl]; exact hw.le.2
  have hlen : ts.length ≤ x.text.size := by rw [← hsl]; exact Nat.le_trans (Nat.le_add_right _ _) hw.len
  refine r5Check_walk x w (sT x.text ts en) (sP x.text en) (sE x.text en) 50 (sT_len hlen)
    (fun w1 hb => (r5Scan_any x.text hm _ _ hw w1).mono fun e w' h => h.own hen) ?_
  unfold sE sT
  by_cases hl : 4096 < x.text.size
  · simp only [if_pos hl]; exact .inl ⟨by decide, by trivial⟩
  · simp only [if_neg hl]
    by_cases hf : en < x.text.size
    · simp only [if_pos hf]; exact .inl ⟨by decide, by trivial⟩
    · simp only [if_neg hf]
      match ts, hw with
      | [], _ => exact .inr (.inl ⟨by trivial, by decide, by trivial⟩)
      | [y], hw =>
        refine .inr (.inr ⟨by trivial, y, rfl, ?_⟩)
        cases hxy : tEq { y with pl := x.pl } x with
        | false => rfl
        | true => exact absurd (OkT.of2 hw (tEq_iff.1 hxy) (by omega)) h
      | y :: z :: r, _ => exact .inr (.inl ⟨by trivial, by simp, by trivial⟩)
end Go.Proofs.YtdagkhofndeekaaGreatDoor
