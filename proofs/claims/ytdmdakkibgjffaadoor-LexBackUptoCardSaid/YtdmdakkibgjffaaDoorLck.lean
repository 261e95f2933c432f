/- Contract of the program's Check of a word. -/
import Derived.Test.YtdmdakkibgjffaaDoorLxb
import Derived.Test.YtdmdakkibgjffaaDoorRsa
import Derived.BigQuiet
import Derived.Deep.QuietTactic
namespace Go.Proofs.YtdmdakkibgjffaaDoor
open Go Go.RowKit

/-- A word that may be. -/
def OkT (x : Tok) : Prop := Alone x ∧ x.text.data.toList ≠ [] ∧ x.text.size ≤ 4096
theorem OkT.words {x : Tok} (h : OkT x) : nx x.text.data.toList 0 = 0 ∧ Wds x.text.data.toList 0 [{ x with pl := 0 }] x.text.data.toList.length := by
  obtain ⟨h1, h2, _⟩ := h
  have hw := jn_words [x] [] (by simp) (fun y hy => by rw [List.mem_singleton.1 hy]; exact ⟨h1, h2⟩)
  obtain ⟨c, r, he, hb, h35⟩ := h1.ne h2
  refine ⟨?_, hw⟩
  rw [he]
  exact nx_at [] c r hb h35
theorem OkT.of {x : Tok} {en : Nat} (h : Wds x.text.data.toList (nx x.text.data.toList 0) [{ x with pl := 0 }] en) (hs : x.text.size ≤ 4096) : OkT x := by
  rcases h.inv with ⟨_, h2, _⟩ | ⟨_, h2, _⟩ | ⟨t, r, h2, hp, hw, hr⟩
  · cases h2
  · cases h2
  · obtain ⟨rfl, rfl⟩ := List.cons.inj h2
    have h0 : ((0 : Int)) = ((nx x.text.data.toList 0 : Nat) : Int) := hw.of.1
    have h00 : nx x.text.data.toList 0 = 0 := by omega
    rw [h00] at hw hp
    refine ⟨hw, fun he => ?_, hs⟩
    rw [he] at hp; simp at hp

set_option maxRecDepth 100000 in
set_option maxHeartbeats 2000000 in
theorem lCheck_walk (x : Tok) (w : World) (T : List Tok) (P E r : Int) (hm : T.length ≤ 4096)
    (hS : ∀ w1, Below w.heap.size w w1 → Calls Tryd.prog 7 #[.string x.text] w1 fun e w' => ∃ ao cap, e = .returned (.tuple #[.slice ao T.length cap, .int .i64 P, .int .i64 E]) ∧ w'.ownsRow w1.heap.size 42 6 (.slice ao T.length cap) T.length (T.flatMap encT) ∧ Below w1.heap.size w1 w')
    (hr : (E ≠ 0 ∧ r = 50) ∨ (E = 0 ∧ T.length ≠ 1 ∧ r = 50) ∨ (E = 0 ∧ ∃ y, T = [y] ∧ r = if tEq y { x with pl := 0 } then 0 else 50)) :
    Calls Tryd.prog 19 #[tokV x] w fun e w' => e = .returned (.int .i64 r) ∧ Below w.heap.size w w' := by
  have hb0 : Below w.heap.size w (w.alloc (.cells #[.int .i64 x.kind, .string x.text, .int .i64 x.vk, .int .i64 x.vn, .string x.vs, .int .i64 x.pl] 42)) := (Below.refl _ _).alloc (Nat.le_refl _) _
  have HS := Lib.hid (hS _ hb0)
  have HB0 := Lib.hid hb0
  have HQ := Lib.hid (heap_alloc_new w (.cells #[.int .i64 x.kind, .string x.text, .int .i64 x.vk, .int .i64 x.vn, .string x.vs, .int .i64 x.pl] 42))
  clear hS hb0
  rcases hr with ⟨hE, rfl⟩ | ⟨rfl, hT, rfl⟩ | ⟨rfl, y, rfl, rfl⟩
  · have hbe : (E == 0) = false := by simpa using hE
    have hbn : decide (E = 0) = false := by simpa using hE
    unfold tokV
    go_enter Tryd.func19, Tryd.ntmps19
    go_wp2_with (go_at_call 7; refine HS.out.mono ?_; rintro e w2 ⟨ao, cap, rfl, ht, hb⟩; have hq := (hb.block w.heap.size (by simp)).trans HQ.out; obtain ⟨c0, c1, c2, c3, c4, c5⟩ := cell_of_six hq; obtain ⟨f0, f1, f2, f3, f4, f5⟩ := free_of_six hq; have HB := Lib.hid (HB0.out.trans (hb.mono (by simp))); clear ht hb hq)
    go_quiet (fail)
    all_goals go_wp2
    all_goals go_ret
    all_goals exact ⟨rfl, by first | exact below_drewN (HB.out.setCell (p := ⟨w.heap.size, 5, none⟩) (Nat.le_refl _) _) _ | exact (HB.out.setCell (p := ⟨w.heap.size, 5, none⟩) (Nat.le_refl _) _).drew | exact HB.out.drew.setCell (p := ⟨w.heap.size, 5, none⟩) (Nat.le_refl _) _ | exact HB.out.setCell (p := ⟨w.heap.size, 5, none⟩) (Nat.le_refl _) _⟩
  · have hbe : ((T.length : Int) == 1) = false := by simp; omega
    have hbn : ¬ ((T.length : Int) = 1) := by omega
    have hbm : decide (T.length = 1) = false := by simpa using hT
    unfold tokV
    go_enter Tryd.func19, Tryd.ntmps19
    go_wp2_with (go_at_call 7; refine HS.out.mono ?_; rintro e w2 ⟨ao, cap, rfl, ht, hb⟩; have hq := (hb.block w.heap.size (by simp)).trans HQ.out; obtain ⟨c0, c1, c2, c3, c4, c5⟩ := cell_of_six hq; obtain ⟨f0, f1, f2, f3, f4, f5⟩ := free_of_six hq; have HB := Lib.hid (HB0.out.trans (hb.mono (by simp))); clear ht hb hq)
    go_quiet (fail)
    all_goals go_wp2
    all_goals go_ret
    all_goals exact ⟨rfl, by first | exact below_drewN (HB.out.setCell (p := ⟨w.heap.size, 5, none⟩) (Nat.le_refl _) _) _ | exact (HB.out.setCell (p := ⟨w.heap.size, 5, none⟩) (Nat.le_refl _) _).drew | exact HB.out.drew.setCell (p := ⟨w.heap.size, 5, none⟩) (Nat.le_refl _) _ | exact HB.out.setCell (p := ⟨w.heap.size, 5, none⟩) (Nat.le_refl _) _⟩
  · have he := fun w => tNe_run y ⟨x.kind, x.text, x.vk, x.vn, x.vs, 0⟩ w
    have hgd := fun (op : BinOp) (a b : Operand) (w : World) => tGuard op a b y ⟨x.kind, x.text, x.vk, x.vn, x.vs, 0⟩ w
    show Calls Tryd.prog 19 #[tokV x] w fun e w' => e = .returned (.int .i64 (if tEq y ⟨x.kind, x.text, x.vk, x.vn, x.vs, 0⟩ = true then 0 else 50)) ∧ Below w.heap.size w w'
    simp only at he hgd
    simp only [List.length_cons, List.length_nil, Nat.zero_add] at HS
    unfold tokV
    cases hxy : tEq y ⟨x.kind, x.text, x.vk, x.vn, x.vs, 0⟩ with
    | true =>
      simp only [hxy, Bool.not_true] at he
      go_enter Tryd.func19, Tryd.ntmps19
      go_wp2_with (go_at_call 7; refine HS.out.mono ?_; rintro e w2 ⟨ao, cap, rfl, ht, hb⟩; have hq := (hb.block w.heap.size (by simp)).trans HQ.out; obtain ⟨c0, c1, c2, c3, c4, c5⟩ := cell_of_six hq; obtain ⟨f0, f1, f2, f3, f4, f5⟩ := free_of_six hq; have HB := Lib.hid (HB0.out.trans (hb.mono (by simp))); have TT := Lib.hid ht; clear ht hb hq)
      obtain ⟨g, cap2, hsl, hgb, _⟩ := TT.out.form (by decide)
      obtain rfl : ao = some ⟨g, 0, none⟩ := by cases hsl; rfl
      have hgw : g ≠ w.heap.size := by have h1 := hgb; simp at h1; omega
      have hwg : w.heap.size ≠ g := Ne.symm hgw
      have d0 := row_cell TT.out 0 _ rfl
      have d1 := row_cell TT.out 1 _ rfl
      have d2 := row_cell TT.out 2 _ rfl
      have d3 := row_cell TT.out 3 _ rfl
      have d4 := row_cell TT.out 4 _ rfl
      have d5 := row_cell TT.out 5 _ rfl
      clear hsl hgb
      go_wp2_with fail
      go_quiet (fail)
      all_goals go_wp2
      all_goals go_ret
      all_goals exact ⟨rfl, by first | exact below_drewN (HB.out.setCell (p := ⟨w.heap.size, 5, none⟩) (Nat.le_refl _) _) _ | exact (HB.out.setCell (p := ⟨w.heap.size, 5, none⟩) (Nat.le_refl _) _).drew | exact HB.out.drew.setCell (p := ⟨w.heap.size, 5, none⟩) (Nat.le_refl _) _ | exact HB.out.setCell (p := ⟨w.heap.size, 5, none⟩) (Nat.le_refl _) _⟩
    | false =>
      simp only [hxy, Bool.not_false] at he
      go_enter Tryd.func19, Tryd.ntmps19
      go_wp2_with (go_at_call 7; refine HS.out.mono ?_; rintro e w2 ⟨ao, cap, rfl, ht, hb⟩; have hq := (hb.block w.heap.size (by simp)).trans HQ.out; obtain ⟨c0, c1, c2, c3, c4, c5⟩ := cell_of_six hq; obtain ⟨f0, f1, f2, f3, f4, f5⟩ := free_of_six hq; have HB := Lib.hid (HB0.out.trans (hb.mono (by simp))); have TT := Lib.hid ht; clear ht hb hq)
      obtain ⟨g, cap2, hsl, hgb, _⟩ := TT.out.form (by decide)
      obtain rfl : ao = some ⟨g, 0, none⟩ := by cases hsl; rfl
      have hgw : g ≠ w.heap.size := by have h1 := hgb; simp at h1; omega
      have hwg : w.heap.size ≠ g := Ne.symm hgw
      have d0 := row_cell TT.out 0 _ rfl
      have d1 := row_cell TT.out 1 _ rfl
      have d2 := row_cell TT.out 2 _ rfl
      have d3 := row_cell TT.out 3 _ rfl
      have d4 := row_cell TT.out 4 _ rfl
      have d5 := row_cell TT.out 5 _ rfl
      clear hsl hgb
      go_wp2_with fail
      go_quiet (fail)
      all_goals go_wp2
      all_goals go_ret
      all_goals exact ⟨rfl, by first | exact below_drewN (HB.out.setCell (p := ⟨w.heap.size, 5, none⟩) (Nat.le_refl _) _) _ | exact (HB.out.setCell (p := ⟨w.heap.size, 5, none⟩) (Nat.le_refl _) _).drew | exact HB.out.drew.setCell (p := ⟨w.heap.size, 5, none⟩) (Nat.le_refl _) _ | exact HB.out.setCell (p := ⟨w.heap.size, 5, none⟩) (Nat.le_refl _) _⟩

theorem ScanP.own {s : ByteArray} {ts : List Tok} {en : Nat} {w w' : World} {e : Ending} (h : ScanP s ts en w e w') (hen : en ≤ s.size) :
    ∃ ao cap, e = .returned (.tuple #[.slice ao (sT s ts en).length cap, .int .i64 (sP s en), .int .i64 (sE s en)]) ∧ w'.ownsRow w.heap.size 42 6 (.slice ao (sT s ts en).length cap) (sT s ts en).length ((sT s ts en).flatMap encT) ∧ Below w.heap.size w w' := by
  obtain ⟨h1, h2, h3, h4⟩ := h
  unfold sT sP sE
  by_cases hl : 4096 < s.size
  · simp only [if_pos hl]
    exact ⟨none, 0, h1 hl, World.ownsRow_nil _ _ _ _, h4⟩
  · simp only [if_neg hl]
    by_cases hf : en < s.size
    · simp only [if_pos hf]
      exact ⟨none, 0, h2 (by omega) hf, World.ownsRow_nil _ _ _ _, h4⟩
    · simp only [if_neg hf]
      obtain ⟨v, he, hrow⟩ := h3 (by omega) (by omega)
      have ht := Tv.of_row hrow
      obtain ⟨ao, cap, rfl, _⟩ := id ht
      exact ⟨ao, cap, he, hrow, h4⟩
theorem lCheck_ok (x : Tok) (h : OkT x) (w : World) (hE : ErrV w) : Calls Tryd.prog 19 #[tokV x] w fun e w' => e = .returned (.int .i64 0) ∧ Below w.heap.size w w' := by
  obtain ⟨hz, hw⟩ := h.words
  have hs := h.2.2
  have hsl : x.text.data.toList.length = x.text.size := (Lib.size_eq _).symm
  rw [hsl] at hw
  have e1 : sT x.text [{ x with pl := 0 }] x.text.size = [{ x with pl := 0 }] := by unfold sT; rw [if_neg (by omega), if_neg (by omega)]
  have e2 : sE x.text x.text.size = 0 := by unfold sE; rw [if_neg (by omega), if_neg (by omega)]
  refine lCheck_walk x w (sT x.text [{ x with pl := 0 }] x.text.size) (sP x.text x.text.size) (sE x.text x.text.size) 0 (by rw [e1]; simp)
    (fun w1 hb => (lScan_any x.text (by omega) _ _ (by rw [hz]; exact hw) w1 (hE.keep hb)).mono fun e w' h => h.own (Nat.le_refl _)) (.inr (.inr ⟨e2, _, e1, by rw [tEq_refl]; rfl⟩))
theorem lCheck_no (x : Tok) (hm : x.text.size ≤ 140737488355328) (h : ¬ OkT x) (w : World) (hE : ErrV w) : Calls Tryd.prog 19 #[tokV x] w fun e w' => e = .returned (.int .i64 50) ∧ Below w.heap.size w w' := by
  obtain ⟨ts, en, hw⟩ := Wds.all x.text.data.toList
  have hsl : x.text.data.toList.length = x.text.size := (Lib.size_eq _).symm
  have hen : en ≤ x.text.size := by rw [← hsl]; exact hw.le.2
  have hlen : ts.length ≤ x.text.size := by rw [← hsl]; exact Nat.le_trans (Nat.le_add_right _ _) hw.len
  refine lCheck_walk x w (sT x.text ts en) (sP x.text en) (sE x.text en) 50 (sT_len hlen)
    (fun w1 hb => (lScan_any x.text hm _ _ hw w1 (hE.keep hb)).mono fun e w' h => h.own hen) ?_
  unfold sE sT
  by_cases hl : 4096 < x.text.size
  · simp only [if_pos hl]; exact .inl ⟨by decide, by trivial⟩
  · simp only [if_neg hl]
    by_cases hf : en < x.text.size
    · simp only [if_pos hf]; exact .inl ⟨by decide, by trivial⟩
    · simp only [if_neg hf]
      match ts, hw with
      | [], _ => exact .inr (.inl ⟨by trivial, by decide, by trivial⟩)
      | [y], hw =>
        refine .inr (.inr ⟨by trivial, y, rfl, ?_⟩)
        cases hxy : tEq y { x with pl := 0 } with
        | false => rfl
        | true =>
          rw [tEq_iff.1 hxy] at hw
          exact absurd (OkT.of hw (by omega)) h
      | y :: z :: r, _ => exact .inr (.inl ⟨by trivial, by simp, by trivial⟩)
end Go.Proofs.YtdmdakkibgjffaaDoor
