/- Contract of the document's own Parse. Written by wip/genpd.py. -/
import Derived.Test.YthmdnlcinlmjkaaDoorTa
import Derived.Test.YthmdnlcinlmjkaaDoorRq
import Derived.Lib.BufferMore
namespace Go.Proofs.YthmdnlcinlmjkaaDoor
open Go Go.RowKit

theorem head_of_size {s : ByteArray} (h : 0 < s.size) : ∃ c r, s.data.toList = c :: r ∧ c = s[0]'h := by
  have hl : s.data.toList.length = s.size := (Lib.size_eq s).symm
  have h0 : s.data.toList[0]'(by omega) = s[0]'h := rfl
  cases he : s.data.toList with
  | nil => rw [he] at hl; simp at hl; omega
  | cons c r => exact ⟨c, r, rfl, by rw [← h0]; simp [he]⟩

/-- How things stand in Parse: the result's box lies at P, untouched; the value's box behind it. -/
structure Pw (w0 : World) (P : Nat) (k n : Int) (t : ByteArray) (w : World) : Prop where
  below : Below P w0 w
  lt : P + 1 < w.heap.size
  bz : w.heap[P]? = some (.cells #[.int .i64 0, .int .i64 0, .string ⟨#[]⟩] 23 (0, 0))
  bv : w.heap[P + 1]? = some (.cells #[.int .i64 k, .int .i64 n, .string t] 23 (0, 0))
theorem Pw.start (w : World) (k n : Int) (t : ByteArray) : Pw w w.heap.size k n t ((w.alloc (.cells #[.int .i64 0, .int .i64 0, .string ⟨#[]⟩] 23)).alloc (.cells #[.int .i64 k, .int .i64 n, .string t] 23)) :=
  ⟨((Below.refl _ _).alloc (Nat.le_refl _) _).alloc (by simp) _, by simp, (Below.heap_alloc _ _ _ (by simp)).trans (heap_alloc_new _ _), by
    have h := heap_alloc_new (w.alloc (.cells #[.int .i64 0, .int .i64 0, .string ⟨#[]⟩] 23)) (.cells #[.int .i64 k, .int .i64 n, .string t] 23)
    simpa using h⟩
theorem Pw.call {w0 : World} {P : Nat} {k n : Int} {t : ByteArray} {w w' : World} (h : Pw w0 P k n t w) (hb : Below w.heap.size w w') : Pw w0 P k n t w' :=
  ⟨h.below.trans (hb.mono (by have := h.lt; omega)), Nat.lt_of_lt_of_le h.lt hb.size, (hb.block P (by have := h.lt; omega)).trans h.bz, (hb.block (P + 1) h.lt).trans h.bv⟩
theorem Pw.set3 {w0 : World} {P : Nat} {k n : Int} {t : ByteArray} {w : World} (h : Pw w0 P k n t w) (k' n' : Int) (t' : ByteArray) :
    Pw w0 P k' n' t' (((w.setCell ⟨P + 1, 0, none⟩ (.int .i64 k')).setCell ⟨P + 1, 1, none⟩ (.int .i64 n')).setCell ⟨P + 1, 2, none⟩ (.string t')) := by
  refine ⟨((h.below.setCell (p := ⟨P + 1, 0, none⟩) (Nat.le_succ _) _).setCell (p := ⟨P + 1, 1, none⟩) (Nat.le_succ _) _).setCell (p := ⟨P + 1, 2, none⟩) (Nat.le_succ _) _, by have := h.lt; simpa using this, ?_, ?_⟩
  · rw [Below.heap_setCell _ _ _ _ (by show P ≠ P + 1; omega), Below.heap_setCell _ _ _ _ (by show P ≠ P + 1; omega), Below.heap_setCell _ _ _ _ (by show P ≠ P + 1; omega)]; exact h.bz
  · exact Lib.heap_setCell_same (i := 2) (Lib.heap_setCell_same (i := 1) (Lib.heap_setCell_same (i := 0) h.bv _) _) _
theorem ParseZ.yes {l : List UInt8} {k n : Int} {t : ByteArray} (hn : inI n) (hck : ckB k n t.data.toList = true) (hl : l = textL k n t.data.toList)
    (ha : ∀ (k' n' : Int) (t' : List UInt8), ckB k' n' t' = true → inI n' → l = textL k' n' t' → k = k' ∧ n = n' ∧ t.data.toList = t') :
    ParseZ l (.returned (.tuple #[.agg #[.int .i64 k, .int .i64 n, .string t], .bool true])) :=
  ⟨k, n, t, true, rfl, hn, fun _ => ⟨hck, hl⟩, fun k' n' t' h1 h2 h3 => ⟨(ha k' n' t' h1 h2 h3).1, (ha k' n' t' h1 h2 h3).2.1, (ha k' n' t' h1 h2 h3).2.2, rfl⟩, fun h => nomatch h⟩
theorem noParse {l : List UInt8} {k n : Int} {t : ByteArray} (ha : ∀ (k' n' : Int) (t' : List UInt8), ckB k' n' t' = true → inI n' → l = textL k' n' t' → k = k' ∧ n = n' ∧ t.data.toList = t')
    (hno : ckB k n t.data.toList = false ∨ l ≠ textL k n t.data.toList) : ParseZ l (.returned (.tuple #[.agg #[.int .i64 0, .int .i64 0, .string ⟨#[]⟩], .bool false])) :=
  ParseZ.no fun k' n' t' h1 h2 h3 => by
    obtain ⟨rfl, rfl, rfl⟩ := ha k' n' t' h1 h2 h3
    rcases hno with h | h
    · rw [h] at h1; cases h1
    · exact h h3
theorem haQ {s : ByteArray} (h0 : 0 < s.size) (h34 : s[0]'h0 = 34) {t : ByteArray} (ha : ∀ t' : List UInt8, s.data.toList = 34 :: (t'.flatMap escL ++ [34]) → t.data.toList = t') :
    ∀ (k' n' : Int) (t' : List UInt8), ckB k' n' t' = true → inI n' → s.data.toList = textL k' n' t' → 2 = k' ∧ 0 = n' ∧ t.data.toList = t' := by
  intro k' n' t' h1 h2 h3
  rcases ck_ways h1 with ⟨rfl, _⟩ | ⟨rfl, rfl, _⟩
  · obtain ⟨c, r, e, hc⟩ := itoa_head n'
    obtain ⟨c2, r2, e2, hc2⟩ := head_of_size h0
    rw [h3] at e2
    have e3 : Lib.itoa n' = c2 :: r2 := e2
    rw [e] at e3
    injection e3 with e4 _
    exact absurd (by rw [e4, hc2, h34]) hc
  · exact ⟨rfl, rfl, ha t' (by rw [h3]; rfl)⟩
theorem haN {s : ByteArray} (hq : ¬ ∃ h : 1 < s.size, s[0]'(Nat.lt_trans Nat.zero_lt_one h) = 34) {n : Int} {ok : Bool} (ha : ∀ n' : Int, (-9223372036854775808 ≤ n' ∧ n' ≤ 9223372036854775807) → s.data.toList = Lib.itoa n' → n = n' ∧ ok = true) :
    ∀ (k' n' : Int) (t' : List UInt8), ckB k' n' t' = true → inI n' → s.data.toList = textL k' n' t' → (1 = k' ∧ n = n' ∧ (⟨#[]⟩ : ByteArray).data.toList = t') ∧ ok = true := by
  intro k' n' t' h1 h2 h3
  rcases ck_ways h1 with ⟨rfl, rfl⟩ | ⟨rfl, rfl, _⟩
  · obtain ⟨h4, h5⟩ := ha n' h2 h3
    exact ⟨⟨rfl, h4, rfl⟩, h5⟩
  · have h4 : s.data.toList = 34 :: (t'.flatMap escL ++ [34]) := h3
    have hl : s.data.toList.length = s.size := (Lib.size_eq s).symm
    have h5 : 1 < s.size := by rw [← hl, h4]; simp
    obtain ⟨c2, r2, e2, hc2⟩ := head_of_size (s := s) (by omega)
    rw [h4] at e2
    injection e2 with e3 _
    exact absurd ⟨h5, by rw [← hc2, ← e3]⟩ hq

set_option maxHeartbeats 4000000 in
set_option maxRecDepth 100000 in
theorem r3ParseQ (s : ByteArray) (hmax : 4 * s.size + 2 ≤ 140737488355328) (h1 : 1 < s.size) (h0 : 0 < s.size) (h34 : s[0]'h0 = 34) (w : World) :
    Calls Tryd.prog 6 #[.string s] w fun e w' => ParseZ s.data.toList e ∧ Below w.heap.size w w' := by
  have b34 : (((s[0]'h0).toNat : Int) == 34) = true := by rw [h34]; rfl
  have HQ := Lib.hid (fun w => r3quoted_any s h1 (by omega) w)
  have HH := Lib.hid (fun (t : ByteArray) => haQ (t := t) h0 h34)
  have HM := Lib.hid hmax
  have V0 := Lib.hid (Pw.start w 1 0 ⟨#[]⟩)
  clear h34 hmax
  go_enter Tryd.func6, Tryd.ntmps6
  go_wp2_with (go_at_call 13; refine (HQ.out _).mono ?_; rintro e w1 ⟨⟨t, rfl, ht, ha⟩, hb⟩; have V1 := Lib.hid (V0.out.call hb); have HA := Lib.hid (HH.out t ha); have HS := Lib.hid ht; obtain ⟨v0, v1, v2⟩ := cell_of_three V1.out.bv; obtain ⟨f0, f1, f2⟩ := free_of_three V1.out.bv; clear ha ht hb)
  have V2 := Lib.hid (V1.out.set3 2 0 t)
  clear v0 v1 v2 f0 f1 f2
  generalize (((w1.setCell ⟨w.heap.size + 1, 0, none⟩ (.int .i64 2)).setCell ⟨w.heap.size + 1, 1, none⟩ (.int .i64 0)).setCell ⟨w.heap.size + 1, 2, none⟩ (.string t)) = W2 at V2 ⊢
  have HN := Lib.hid (show inI 0 by unfold inI; omega)
  have HZ := Lib.hid (show 4 * t.size + 2 ≤ 140737488355328 by have := HM.out; have := HS.out; omega)
  have hZ := HZ.out
  have HC := Lib.hid (fun w => r3Check_any 2 0 t w (by unfold maxLen; omega))
  clear hZ
  obtain ⟨v0, v1, v2⟩ := cell_of_three V2.out.bv
  obtain ⟨T, hT⟩ : ∃ T : ByteArray, T = ⟨(textL 2 0 t.data.toList).toArray⟩ := ⟨_, rfl⟩
  have HX := Lib.hid (fun w => r3Text_any 2 0 t HN.out HZ.out w)
  rw [← hT] at HX
  have HTL := Lib.hid (show T.data.toList = textL 2 0 t.data.toList by rw [hT])
  clear hT
  by_cases heq : T = s
  · subst heq
    have hse : (T.toList == T.toList) = true := by simp
    cases hck : ckB 2 0 t.data.toList with
    | false =>
      have HNO := Lib.hid (noParse HA.out (.inl hck))
      rw [ckI_no hck] at HC
      clear hck
      go_wp2_with (first
        | (go_at_call 9; refine (HX.out _).mono ?_; rintro e w3 ⟨rfl, hb⟩; have V3 := Lib.hid (V2.out.call hb); clear v0 v1 v2; obtain ⟨v0, v1, v2⟩ := cell_of_three V3.out.bv; clear hb)
        | (go_at_call 10; refine (HC.out _).mono ?_; rintro e w4 ⟨rfl, hb⟩; have V4 := Lib.hid (V3.out.call hb); clear v0 v1 v2; obtain ⟨q0, q1, q2⟩ := cell_of_three V4.out.bz; obtain ⟨f0, f1, f2⟩ := free_of_three V4.out.bz; clear hb))
      refine bodyPost_ret (v := .tuple #[.agg #[.int .i64 0, .int .i64 0, .string ⟨#[]⟩], .bool false]) (by simp [results, Tryd.results6, go_sem, q0, q1, q2]) rfl ⟨HNO.out, ?_⟩
      repeat (first | exact V4.out.below | refine Below.drew ?_ | refine Below.setCell ?_ (by first | exact Nat.le_refl _ | (simp; done)) _)
    | true =>
      have HYE := Lib.hid (ParseZ.yes HN.out hck HTL.out HA.out)
      rw [ckI_ok hck] at HC
      clear hck
      go_wp2_with (first
        | (go_at_call 9; refine (HX.out _).mono ?_; rintro e w3 ⟨rfl, hb⟩; have V3 := Lib.hid (V2.out.call hb); clear v0 v1 v2; obtain ⟨v0, v1, v2⟩ := cell_of_three V3.out.bv; clear hb)
        | (go_at_call 10; refine (HC.out _).mono ?_; rintro e w4 ⟨rfl, hb⟩; have V4 := Lib.hid (V3.out.call hb); clear v0 v1 v2; obtain ⟨v0, v1, v2⟩ := cell_of_three V4.out.bv; obtain ⟨q0, q1, q2⟩ := cell_of_three V4.out.bz; obtain ⟨f0, f1, f2⟩ := free_of_three V4.out.bz; clear hb))
      refine bodyPost_ret (v := .tuple #[.agg #[.int .i64 2, .int .i64 0, .string t], .bool true]) (by simp [results, Tryd.results6, go_sem, q0, q1, q2]) rfl ⟨HYE.out, ?_⟩
      repeat (first | exact V4.out.below | refine Below.drew ?_ | refine Below.setCell ?_ (by first | exact Nat.le_refl _ | (simp; done)) _)
  · have hnl : (T.toList == s.toList) = false := by
      cases hh : T.toList == s.toList with
      | false => rfl
      | true => exact absurd (ba_ext2 (by simpa using hh)) heq
    have HNO := Lib.hid (noParse HA.out (.inr (fun h => heq (ba_ext2 (by rw [Lib.toList_data, Lib.toList_data, HTL.out, h])))))
    clear heq
    go_wp2_with (go_at_call 9; refine (HX.out _).mono ?_; rintro e w3 ⟨rfl, hb⟩; have V3 := Lib.hid (V2.out.call hb); clear v0 v1 v2; obtain ⟨q0, q1, q2⟩ := cell_of_three V3.out.bz; obtain ⟨f0, f1, f2⟩ := free_of_three V3.out.bz; clear hb)
    refine bodyPost_ret (v := .tuple #[.agg #[.int .i64 0, .int .i64 0, .string ⟨#[]⟩], .bool false]) (by simp [results, Tryd.results6, go_sem, q0, q1, q2]) rfl ⟨HNO.out, ?_⟩
    repeat (first | exact V3.out.below | refine Below.drew ?_ | refine Below.setCell ?_ (by first | exact Nat.le_refl _ | (simp; done)) _)

set_option maxHeartbeats 4000000 in
set_option maxRecDepth 100000 in
theorem r3ParseN (s : ByteArray) (hmax : 4 * s.size + 2 ≤ 140737488355328) (hq : ¬ ∃ h : 1 < s.size, s[0]'(Nat.lt_trans Nat.zero_lt_one h) = 34) (hx : decide ((1 : Int) < (s.size : Int)) = false ∨ ∃ h0 : 0 < s.size, decide ((1 : Int) < (s.size : Int)) = true ∧ (((s[0]'h0).toNat : Int) == 34) = false) (w : World) :
    Calls Tryd.prog 6 #[.string s] w fun e w' => ParseZ s.data.toList e ∧ Below w.heap.size w w' := by
  have HQ := Lib.hid (fun w => r3number_any s (by omega) w)
  have HH := Lib.hid (fun (n : Int) (ok : Bool) => haN (n := n) (ok := ok) hq)
  have V0 := Lib.hid (Pw.start w 1 0 ⟨#[]⟩)
  have HZ := Lib.hid (show 4 * (⟨#[]⟩ : ByteArray).size + 2 ≤ 140737488355328 by decide)
  clear hmax hq
  rcases hx with hb1 | ⟨h0, hb1, hb2⟩
  · go_enter Tryd.func6, Tryd.ntmps6
    go_wp2_with (go_at_call 14; refine (HQ.out _).mono ?_; rintro e w1 ⟨⟨n, ok, rfl, hn, ha⟩, rfl⟩; have HA1 := Lib.hid (HH.out n ok ha); have HN1 := Lib.hid hn; obtain ⟨v0, v1, v2⟩ := cell_of_three V0.out.bv; obtain ⟨f0, f1, f2⟩ := free_of_three V0.out.bv; clear ha hn; cases ok)
    · have HN := Lib.hid (show inI 0 by unfold inI; omega)
      have HA := Lib.hid (show ∀ (k' n' : Int) (t' : List UInt8), ckB k' n' t' = true → inI n' → s.data.toList = textL k' n' t' → 1 = k' ∧ 0 = n' ∧ (⟨#[]⟩ : ByteArray).data.toList = t' from fun k' n' t' h1 h2 h3 => nomatch (HA1.out k' n' t' h1 h2 h3).2)
      clear v0 v1 v2 f0 f1 f2
      generalize ((w.alloc (.cells #[.int .i64 0, .int .i64 0, .string ⟨#[]⟩] 23)).alloc (.cells #[.int .i64 1, .int .i64 0, .string ⟨#[]⟩] 23)) = W2 at V0 ⊢
      have hZ := HZ.out
      have HC := Lib.hid (fun w => r3Check_any 1 0 ⟨#[]⟩ w (by unfold maxLen; omega))
      clear hZ
      obtain ⟨v0, v1, v2⟩ := cell_of_three V0.out.bv
      obtain ⟨T, hT⟩ : ∃ T : ByteArray, T = ⟨(textL 1 0 (⟨#[]⟩ : ByteArray).data.toList).toArray⟩ := ⟨_, rfl⟩
      have HX := Lib.hid (fun w => r3Text_any 1 0 ⟨#[]⟩ HN.out HZ.out w)
      rw [← hT] at HX
      have HTL := Lib.hid (show T.data.toList = textL 1 0 (⟨#[]⟩ : ByteArray).data.toList by rw [hT])
      clear hT
      by_cases heq : T = s
      · subst heq
        have hse : (T.toList == T.toList) = true := by simp
        cases hck : ckB 1 0 (⟨#[]⟩ : ByteArray).data.toList with
        | false =>
          have HNO := Lib.hid (noParse HA.out (.inl hck))
          rw [ckI_no hck] at HC
          clear hck
          go_wp2_with (first
            | (go_at_call 9; refine (HX.out _).mono ?_; rintro e w3 ⟨rfl, hb⟩; have V3 := Lib.hid (V0.out.call hb); clear v0 v1 v2; obtain ⟨v0, v1, v2⟩ := cell_of_three V3.out.bv; clear hb)
            | (go_at_call 10; refine (HC.out _).mono ?_; rintro e w4 ⟨rfl, hb⟩; have V4 := Lib.hid (V3.out.call hb); clear v0 v1 v2; obtain ⟨q0, q1, q2⟩ := cell_of_three V4.out.bz; obtain ⟨f0, f1, f2⟩ := free_of_three V4.out.bz; clear hb))
          refine bodyPost_ret (v := .tuple #[.agg #[.int .i64 0, .int .i64 0, .string ⟨#[]⟩], .bool false]) (by simp [results, Tryd.results6, go_sem, q0, q1, q2]) rfl ⟨HNO.out, ?_⟩
          repeat (first | exact V4.out.below | refine Below.drew ?_ | refine Below.setCell ?_ (by first | exact Nat.le_refl _ | (simp; done)) _)
        | true =>
          have HYE := Lib.hid (ParseZ.yes HN.out hck HTL.out HA.out)
          rw [ckI_ok hck] at HC
          clear hck
          go_wp2_with (first
            | (go_at_call 9; refine (HX.out _).mono ?_; rintro e w3 ⟨rfl, hb⟩; have V3 := Lib.hid (V0.out.call hb); clear v0 v1 v2; obtain ⟨v0, v1, v2⟩ := cell_of_three V3.out.bv; clear hb)
            | (go_at_call 10; refine (HC.out _).mono ?_; rintro e w4 ⟨rfl, hb⟩; have V4 := Lib.hid (V3.out.call hb); clear v0 v1 v2; obtain ⟨v0, v1, v2⟩ := cell_of_three V4.out.bv; obtain ⟨q0, q1, q2⟩ := cell_of_three V4.out.bz; obtain ⟨f0, f1, f2⟩ := free_of_three V4.out.bz; clear hb))
          refine bodyPost_ret (v := .tuple #[.agg #[.int .i64 1, .int .i64 0, .string ⟨#[]⟩], .bool true]) (by simp [results, Tryd.results6, go_sem, q0, q1, q2]) rfl ⟨HYE.out, ?_⟩
          repeat (first | exact V4.out.below | refine Below.drew ?_ | refine Below.setCell ?_ (by first | exact Nat.le_refl _ | (simp; done)) _)
      · have hnl : (T.toList == s.toList) = false := by
          cases hh : T.toList == s.toList with
          | false => rfl
          | true => exact absurd (ba_ext2 (by simpa using hh)) heq
        have HNO := Lib.hid (noParse HA.out (.inr (fun h => heq (ba_ext2 (by rw [Lib.toList_data, Lib.toList_data, HTL.out, h])))))
        clear heq
        go_wp2_with (go_at_call 9; refine (HX.out _).mono ?_; rintro e w3 ⟨rfl, hb⟩; have V3 := Lib.hid (V0.out.call hb); clear v0 v1 v2; obtain ⟨q0, q1, q2⟩ := cell_of_three V3.out.bz; obtain ⟨f0, f1, f2⟩ := free_of_three V3.out.bz; clear hb)
        refine bodyPost_ret (v := .tuple #[.agg #[.int .i64 0, .int .i64 0, .string ⟨#[]⟩], .bool false]) (by simp [results, Tryd.results6, go_sem, q0, q1, q2]) rfl ⟨HNO.out, ?_⟩
        repeat (first | exact V3.out.below | refine Below.drew ?_ | refine Below.setCell ?_ (by first | exact Nat.le_refl _ | (simp; done)) _)
    · have HN := Lib.hid (show inI n from HN1.out)
      have HA := Lib.hid (show ∀ (k' n' : Int) (t' : List UInt8), ckB k' n' t' = true → inI n' → s.data.toList = textL k' n' t' → 1 = k' ∧ n = n' ∧ (⟨#[]⟩ : ByteArray).data.toList = t' from fun k' n' t' h1 h2 h3 => (HA1.out k' n' t' h1 h2 h3).1)
      have V2 := Lib.hid (Pw.start w 1 n ⟨#[]⟩)
      clear v0 v1 v2 f0 f1 f2
      generalize ((w.alloc (.cells #[.int .i64 0, .int .i64 0, .string ⟨#[]⟩] 23)).alloc (.cells #[.int .i64 1, .int .i64 n, .string ⟨#[]⟩] 23)) = W2 at V2 ⊢
      have hZ := HZ.out
      have HC := Lib.hid (fun w => r3Check_any 1 n ⟨#[]⟩ w (by unfold maxLen; omega))
      clear hZ
      obtain ⟨v0, v1, v2⟩ := cell_of_three V2.out.bv
      obtain ⟨T, hT⟩ : ∃ T : ByteArray, T = ⟨(textL 1 n (⟨#[]⟩ : ByteArray).data.toList).toArray⟩ := ⟨_, rfl⟩
      have HX := Lib.hid (fun w => r3Text_any 1 n ⟨#[]⟩ HN.out HZ.out w)
      rw [← hT] at HX
      have HTL := Lib.hid (show T.data.toList = textL 1 n (⟨#[]⟩ : ByteArray).data.toList by rw [hT])
      clear hT
      by_cases heq : T = s
      · subst heq
        have hse : (T.toList == T.toList) = true := by simp
        cases hck : ckB 1 n (⟨#[]⟩ : ByteArray).data.toList with
        | false =>
          have HNO := Lib.hid (noParse HA.out (.inl hck))
          rw [ckI_no hck] at HC
          clear hck
          go_wp2_with (first
            | (go_at_call 9; refine (HX.out _).mono ?_; rintro e w3 ⟨rfl, hb⟩; have V3 := Lib.hid (V2.out.call hb); clear v0 v1 v2; obtain ⟨v0, v1, v2⟩ := cell_of_three V3.out.bv; clear hb)
            | (go_at_call 10; refine (HC.out _).mono ?_; rintro e w4 ⟨rfl, hb⟩; have V4 := Lib.hid (V3.out.call hb); clear v0 v1 v2; obtain ⟨q0, q1, q2⟩ := cell_of_three V4.out.bz; obtain ⟨f0, f1, f2⟩ := free_of_three V4.out.bz; clear hb))
          refine bodyPost_ret (v := .tuple #[.agg #[.int .i64 0, .int .i64 0, .string ⟨#[]⟩], .bool false]) (by simp [results, Tryd.results6, go_sem, q0, q1, q2]) rfl ⟨HNO.out, ?_⟩
          repeat (first | exact V4.out.below | refine Below.drew ?_ | refine Below.setCell ?_ (by first | exact Nat.le_refl _ | (simp; done)) _)
        | true =>
          have HYE := Lib.hid (ParseZ.yes HN.out hck HTL.out HA.out)
          rw [ckI_ok hck] at HC
          clear hck
          go_wp2_with (first
            | (go_at_call 9; refine (HX.out _).mono ?_; rintro e w3 ⟨rfl, hb⟩; have V3 := Lib.hid (V2.out.call hb); clear v0 v1 v2; obtain ⟨v0, v1, v2⟩ := cell_of_three V3.out.bv; clear hb)
            | (go_at_call 10; refine (HC.out _).mono ?_; rintro e w4 ⟨rfl, hb⟩; have V4 := Lib.hid (V3.out.call hb); clear v0 v1 v2; obtain ⟨v0, v1, v2⟩ := cell_of_three V4.out.bv; obtain ⟨q0, q1, q2⟩ := cell_of_three V4.out.bz; obtain ⟨f0, f1, f2⟩ := free_of_three V4.out.bz; clear hb))
          refine bodyPost_ret (v := .tuple #[.agg #[.int .i64 1, .int .i64 n, .string ⟨#[]⟩], .bool true]) (by simp [results, Tryd.results6, go_sem, q0, q1, q2]) rfl ⟨HYE.out, ?_⟩
          repeat (first | exact V4.out.below | refine Below.drew ?_ | refine Below.setCell ?_ (by first | exact Nat.le_refl _ | (simp; done)) _)
      · have hnl : (T.toList == s.toList) = false := by
          cases hh : T.toList == s.toList with
          | false => rfl
          | true => exact absurd (ba_ext2 (by simpa using hh)) heq
        have HNO := Lib.hid (noParse HA.out (.inr (fun h => heq (ba_ext2 (by rw [Lib.toList_data, Lib.toList_data, HTL.out, h])))))
        clear heq
        go_wp2_with (go_at_call 9; refine (HX.out _).mono ?_; rintro e w3 ⟨rfl, hb⟩; have V3 := Lib.hid (V2.out.call hb); clear v0 v1 v2; obtain ⟨q0, q1, q2⟩ := cell_of_three V3.out.bz; obtain ⟨f0, f1, f2⟩ := free_of_three V3.out.bz; clear hb)
        refine bodyPost_ret (v := .tuple #[.agg #[.int .i64 0, .int .i64 0, .string ⟨#[]⟩], .bool false]) (by simp [results, Tryd.results6, go_sem, q0, q1, q2]) rfl ⟨HNO.out, ?_⟩
        repeat (first | exact V3.out.below | refine Below.drew ?_ | refine Below.setCell ?_ (by first | exact Nat.le_refl _ | (simp; done)) _)
  · go_enter Tryd.func6, Tryd.ntmps6
    go_wp2_with (go_at_call 14; refine (HQ.out _).mono ?_; rintro e w1 ⟨⟨n, ok, rfl, hn, ha⟩, rfl⟩; have HA1 := Lib.hid (HH.out n ok ha); have HN1 := Lib.hid hn; obtain ⟨v0, v1, v2⟩ := cell_of_three V0.out.bv; obtain ⟨f0, f1, f2⟩ := free_of_three V0.out.bv; clear ha hn; cases ok)
    · have HN := Lib.hid (show inI 0 by unfold inI; omega)
      have HA := Lib.hid (show ∀ (k' n' : Int) (t' : List UInt8), ckB k' n' t' = true → inI n' → s.data.toList = textL k' n' t' → 1 = k' ∧ 0 = n' ∧ (⟨#[]⟩ : ByteArray).data.toList = t' from fun k' n' t' h1 h2 h3 => nomatch (HA1.out k' n' t' h1 h2 h3).2)
      clear v0 v1 v2 f0 f1 f2
      generalize ((w.alloc (.cells #[.int .i64 0, .int .i64 0, .string ⟨#[]⟩] 23)).alloc (.cells #[.int .i64 1, .int .i64 0, .string ⟨#[]⟩] 23)) = W2 at V0 ⊢
      have hZ := HZ.out
      have HC := Lib.hid (fun w => r3Check_any 1 0 ⟨#[]⟩ w (by unfold maxLen; omega))
      clear hZ
      obtain ⟨v0, v1, v2⟩ := cell_of_three V0.out.bv
      obtain ⟨T, hT⟩ : ∃ T : ByteArray, T = ⟨(textL 1 0 (⟨#[]⟩ : ByteArray).data.toList).toArray⟩ := ⟨_, rfl⟩
      have HX := Lib.hid (fun w => r3Text_any 1 0 ⟨#[]⟩ HN.out HZ.out w)
      rw [← hT] at HX
      have HTL := Lib.hid (show T.data.toList = textL 1 0 (⟨#[]⟩ : ByteArray).data.toList by rw [hT])
      clear hT
      by_cases heq : T = s
      · subst heq
        have hse : (T.toList == T.toList) = true := by simp
        cases hck : ckB 1 0 (⟨#[]⟩ : ByteArray).data.toList with
        | false =>
          have HNO := Lib.hid (noParse HA.out (.inl hck))
          rw [ckI_no hck] at HC
          clear hck
          go_wp2_with (first
            | (go_at_call 9; refine (HX.out _).mono ?_; rintro e w3 ⟨rfl, hb⟩; have V3 := Lib.hid (V0.out.call hb); clear v0 v1 v2; obtain ⟨v0, v1, v2⟩ := cell_of_three V3.out.bv; clear hb)
            | (go_at_call 10; refine (HC.out _).mono ?_; rintro e w4 ⟨rfl, hb⟩; have V4 := Lib.hid (V3.out.call hb); clear v0 v1 v2; obtain ⟨q0, q1, q2⟩ := cell_of_three V4.out.bz; obtain ⟨f0, f1, f2⟩ := free_of_three V4.out.bz; clear hb))
          refine bodyPost_ret (v := .tuple #[.agg #[.int .i64 0, .int .i64 0, .string ⟨#[]⟩], .bool false]) (by simp [results, Tryd.results6, go_sem, q0, q1, q2]) rfl ⟨HNO.out, ?_⟩
          repeat (first | exact V4.out.below | refine Below.drew ?_ | refine Below.setCell ?_ (by first | exact Nat.le_refl _ | (simp; done)) _)
        | true =>
          have HYE := Lib.hid (ParseZ.yes HN.out hck HTL.out HA.out)
          rw [ckI_ok hck] at HC
          clear hck
          go_wp2_with (first
            | (go_at_call 9; refine (HX.out _).mono ?_; rintro e w3 ⟨rfl, hb⟩; have V3 := Lib.hid (V0.out.call hb); clear v0 v1 v2; obtain ⟨v0, v1, v2⟩ := cell_of_three V3.out.bv; clear hb)
            | (go_at_call 10; refine (HC.out _).mono ?_; rintro e w4 ⟨rfl, hb⟩; have V4 := Lib.hid (V3.out.call hb); clear v0 v1 v2; obtain ⟨v0, v1, v2⟩ := cell_of_three V4.out.bv; obtain ⟨q0, q1, q2⟩ := cell_of_three V4.out.bz; obtain ⟨f0, f1, f2⟩ := free_of_three V4.out.bz; clear hb))
          refine bodyPost_ret (v := .tuple #[.agg #[.int .i64 1, .int .i64 0, .string ⟨#[]⟩], .bool true]) (by simp [results, Tryd.results6, go_sem, q0, q1, q2]) rfl ⟨HYE.out, ?_⟩
          repeat (first | exact V4.out.below | refine Below.drew ?_ | refine Below.setCell ?_ (by first | exact Nat.le_refl _ | (simp; done)) _)
      · have hnl : (T.toList == s.toList) = false := by
          cases hh : T.toList == s.toList with
          | false => rfl
          | true => exact absurd (ba_ext2 (by simpa using hh)) heq
        have HNO := Lib.hid (noParse HA.out (.inr (fun h => heq (ba_ext2 (by rw [Lib.toList_data, Lib.toList_data, HTL.out, h])))))
        clear heq
        go_wp2_with (go_at_call 9; refine (HX.out _).mono ?_; rintro e w3 ⟨rfl, hb⟩; have V3 := Lib.hid (V0.out.call hb); clear v0 v1 v2; obtain ⟨q0, q1, q2⟩ := cell_of_three V3.out.bz; obtain ⟨f0, f1, f2⟩ := free_of_three V3.out.bz; clear hb)
        refine bodyPost_ret (v := .tuple #[.agg #[.int .i64 0, .int .i64 0, .string ⟨#[]⟩], .bool false]) (by simp [results, Tryd.results6, go_sem, q0, q1, q2]) rfl ⟨HNO.out, ?_⟩
        repeat (first | exact V3.out.below | refine Below.drew ?_ | refine Below.setCell ?_ (by first | exact Nat.le_refl _ | (simp; done)) _)
    · have HN := Lib.hid (show inI n from HN1.out)
      have HA := Lib.hid (show ∀ (k' n' : Int) (t' : List UInt8), ckB k' n' t' = true → inI n' → s.data.toList = textL k' n' t' → 1 = k' ∧ n = n' ∧ (⟨#[]⟩ : ByteArray).data.toList = t' from fun k' n' t' h1 h2 h3 => (HA1.out k' n' t' h1 h2 h3).1)
      have V2 := Lib.hid (Pw.start w 1 n ⟨#[]⟩)
      clear v0 v1 v2 f0 f1 f2
      generalize ((w.alloc (.cells #[.int .i64 0, .int .i64 0, .string ⟨#[]⟩] 23)).alloc (.cells #[.int .i64 1, .int .i64 n, .string ⟨#[]⟩] 23)) = W2 at V2 ⊢
      have hZ := HZ.out
      have HC := Lib.hid (fun w => r3Check_any 1 n ⟨#[]⟩ w (by unfold maxLen; omega))
      clear hZ
      obtain ⟨v0, v1, v2⟩ := cell_of_three V2.out.bv
      obtain ⟨T, hT⟩ : ∃ T : ByteArray, T = ⟨(textL 1 n (⟨#[]⟩ : ByteArray).data.toList).toArray⟩ := ⟨_, rfl⟩
      have HX := Lib.hid (fun w => r3Text_any 1 n ⟨#[]⟩ HN.out HZ.out w)
      rw [← hT] at HX
      have HTL := Lib.hid (show T.data.toList = textL 1 n (⟨#[]⟩ : ByteArray).data.toList by rw [hT])
      clear hT
      by_cases heq : T = s
      · subst heq
        have hse : (T.toList == T.toList) = true := by simp
        cases hck : ckB 1 n (⟨#[]⟩ : ByteArray).data.toList with
        | false =>
          have HNO := Lib.hid (noParse HA.out (.inl hck))
          rw [ckI_no hck] at HC
          clear hck
          go_wp2_with (first
            | (go_at_call 9; refine (HX.out _).mono ?_; rintro e w3 ⟨rfl, hb⟩; have V3 := Lib.hid (V2.out.call hb); clear v0 v1 v2; obtain ⟨v0, v1, v2⟩ := cell_of_three V3.out.bv; clear hb)
            | (go_at_call 10; refine (HC.out _).mono ?_; rintro e w4 ⟨rfl, hb⟩; have V4 := Lib.hid (V3.out.call hb); clear v0 v1 v2; obtain ⟨q0, q1, q2⟩ := cell_of_three V4.out.bz; obtain ⟨f0, f1, f2⟩ := free_of_three V4.out.bz; clear hb))
          refine bodyPost_ret (v := .tuple #[.agg #[.int .i64 0, .int .i64 0, .string ⟨#[]⟩], .bool false]) (by simp [results, Tryd.results6, go_sem, q0, q1, q2]) rfl ⟨HNO.out, ?_⟩
          repeat (first | exact V4.out.below | refine Below.drew ?_ | refine Below.setCell ?_ (by first | exact Nat.le_refl _ | (simp; done)) _)
        | true =>
          have HYE := Lib.hid (ParseZ.yes HN.out hck HTL.out HA.out)
          rw [ckI_ok hck] at HC
          clear hck
          go_wp2_with (first
            | (go_at_call 9; refine (HX.out _).mono ?_; rintro e w3 ⟨rfl, hb⟩; have V3 := Lib.hid (V2.out.call hb); clear v0 v1 v2; obtain ⟨v0, v1, v2⟩ := cell_of_three V3.out.bv; clear hb)
            | (go_at_call 10; refine (HC.out _).mono ?_; rintro e w4 ⟨rfl, hb⟩; have V4 := Lib.hid (V3.out.call hb); clear v0 v1 v2; obtain ⟨v0, v1, v2⟩ := cell_of_three V4.out.bv; obtain ⟨q0, q1, q2⟩ := cell_of_three V4.out.bz; obtain ⟨f0, f1, f2⟩ := free_of_three V4.out.bz; clear hb))
          refine bodyPost_ret (v := .tuple #[.agg #[.int .i64 1, .int .i64 n, .string ⟨#[]⟩], .bool true]) (by simp [results, Tryd.results6, go_sem, q0, q1, q2]) rfl ⟨HYE.out, ?_⟩
          repeat (first | exact V4.out.below | refine Below.drew ?_ | refine Below.setCell ?_ (by first | exact Nat.le_refl _ | (simp; done)) _)
      · have hnl : (T.toList == s.toList) = false := by
          cases hh : T.toList == s.toList with
          | false => rfl
          | true => exact absurd (ba_ext2 (by simpa using hh)) heq
        have HNO := Lib.hid (noParse HA.out (.inr (fun h => heq (ba_ext2 (by rw [Lib.toList_data, Lib.toList_data, HTL.out, h])))))
        clear heq
        go_wp2_with (go_at_call 9; refine (HX.out _).mono ?_; rintro e w3 ⟨rfl, hb⟩; have V3 := Lib.hid (V2.out.call hb); clear v0 v1 v2; obtain ⟨q0, q1, q2⟩ := cell_of_three V3.out.bz; obtain ⟨f0, f1, f2⟩ := free_of_three V3.out.bz; clear hb)
        refine bodyPost_ret (v := .tuple #[.agg #[.int .i64 0, .int .i64 0, .string ⟨#[]⟩], .bool false]) (by simp [results, Tryd.results6, go_sem, q0, q1, q2]) rfl ⟨HNO.out, ?_⟩
        repeat (first | exact V3.out.below | refine Below.drew ?_ | refine Below.setCell ?_ (by first | exact Nat.le_refl _ | (simp; done)) _)

theorem r3Parse_any (s : ByteArray) (hmax : 4 * s.size + 2 ≤ 140737488355328) (w : World) :
    Calls Tryd.prog 6 #[.string s] w fun e w' => ParseZ s.data.toList e ∧ Below w.heap.size w w' := by
  by_cases hq : ∃ h : 1 < s.size, s[0]'(Nat.lt_trans Nat.zero_lt_one h) = 34
  · obtain ⟨h1, h34⟩ := hq
    exact r3ParseQ s hmax h1 _ h34 w
  · refine r3ParseN s hmax hq ?_ w
    by_cases h1 : 1 < s.size
    · refine .inr ⟨by omega, by simp; omega, ?_⟩
      cases hh : (((s[0]'(by omega)).toNat : Int) == 34) with
      | false => rfl
      | true =>
        refine absurd ⟨h1, UInt8.toNat_inj.1 ?_⟩ hq
        have := eq_of_beq hh
        show _ = 34
        omega
    · exact .inl (by simp; omega)
end Go.Proofs.YthmdnlcinlmjkaaDoor
