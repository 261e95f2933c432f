/- Contract of Parse: the value that Text writes so. -/
import Derived.Test.YthmdnlcinlmjkaaDoorTx
import Derived.Test.YthmdnlcinlmjkaaDoorVc
import Derived.Test.YthmdnlcinlmjkaaDoorAe
namespace Go.Proofs.YthmdnlcinlmjkaaDoor
open Go Go.RowKit

def inI (n : Int) : Prop := -9223372036854775808 ≤ n ∧ n ≤ 9223372036854775807
def ParsePost (l : List UInt8) (e : Ending) : Prop := ∃ (k n : Int) (t : ByteArray) (ok : Bool), e = .returned (.tuple #[.agg #[.int .i64 k, .int .i64 n, .string t], .bool ok]) ∧ inI n ∧
  (ok = true → ckB k n t.data.toList = true ∧ l = textL k n t.data.toList) ∧
  ∀ (k' n' : Int) (t' : List UInt8), ckB k' n' t' = true → inI n' → l = textL k' n' t' → k = k' ∧ n = n' ∧ t.data.toList = t' ∧ ok = true
/-- As above; and beside `false` lies the zero value. -/
def ParseZ (l : List UInt8) (e : Ending) : Prop := ∃ (k n : Int) (t : ByteArray) (ok : Bool), e = .returned (.tuple #[.agg #[.int .i64 k, .int .i64 n, .string t], .bool ok]) ∧ inI n ∧
  (ok = true → ckB k n t.data.toList = true ∧ l = textL k n t.data.toList) ∧
  (∀ (k' n' : Int) (t' : List UInt8), ckB k' n' t' = true → inI n' → l = textL k' n' t' → k = k' ∧ n = n' ∧ t.data.toList = t' ∧ ok = true) ∧
  (ok = false → k = 0 ∧ n = 0 ∧ t = ⟨#[]⟩)
theorem ParseZ.post {l : List UInt8} {e : Ending} (h : ParseZ l e) : ParsePost l e := by
  obtain ⟨k, n, t, ok, h1, h2, h3, h4, _⟩ := h
  exact ⟨k, n, t, ok, h1, h2, h3, h4⟩
theorem ParseZ.no {l : List UInt8} (h : ∀ (k' n' : Int) (t' : List UInt8), ckB k' n' t' = true → inI n' → l = textL k' n' t' → False) : ParseZ l (.returned (.tuple #[.agg #[.int .i64 0, .int .i64 0, .string ⟨#[]⟩], .bool false])) :=
  ⟨0, 0, ⟨#[]⟩, false, rfl, by unfold inI; omega, (fun h => nomatch h), fun k' n' t' h1 h2 h3 => absurd (h k' n' t' h1 h2 h3) id, fun _ => ⟨rfl, rfl, rfl⟩⟩
theorem ParseZ.one {l : List UInt8} {e e' : Ending} (h : ParseZ l e) (h' : ParseZ l e') : e = e' := by
  obtain ⟨k, n, t, ok, rfl, h2, h3, h4, h5⟩ := h
  obtain ⟨k', n', t', ok', rfl, g2, g3, g4, g5⟩ := h'
  cases ok with
  | true =>
    obtain ⟨rfl, rfl, h6, rfl⟩ := g4 _ _ _ (h3 rfl).1 h2 (h3 rfl).2
    rw [ba_ext2 (a := t') (b := t) (by rw [Lib.toList_data, Lib.toList_data]; exact h6)]
  | false =>
    cases ok' with
    | true => cases (h4 _ _ _ (g3 rfl).1 g2 (g3 rfl).2).2.2.2
    | false =>
      obtain ⟨rfl, rfl, rfl⟩ := h5 rfl
      obtain ⟨rfl, rfl, rfl⟩ := g5 rfl
      rfl

set_option maxHeartbeats 4000000 in
set_option maxRecDepth 100000 in
theorem vParse_anyZ (s : ByteArray) (hmax : s.size ≤ 140737488355328) (w : World) (hE : ErrV w) :
    Calls Tryd.prog 5 #[.string s] w fun e w' => ParseZ s.data.toList e ∧ Below w.heap.size w w' := by
  have hR := fun w hE => vRead_any s hmax w hE
  have hb0 : Below w.heap.size w (w.alloc (.cells #[.int .i64 0, .int .i64 0, .string ⟨#[]⟩] 23)) := (Below.refl _ _).alloc (Nat.le_refl _) _
  have hc0 : (w.alloc (.cells #[.int .i64 0, .int .i64 0, .string ⟨#[]⟩] 23)).heap[w.heap.size]? = some (.cells #[.int .i64 0, .int .i64 0, .string ⟨#[]⟩] 23 (0, 0)) := heap_alloc_new _ _
  have HE := Lib.hid (hE.keep hb0); have HB0 := Lib.hid hb0; have HC0 := Lib.hid hc0
  clear hE hb0 hc0
  go_enter Tryd.func5, Tryd.ntmps5
  go_wp2_with (go_at_call 12; refine (hR _ HE.out).mono ?_; rintro e w1 ⟨⟨k, n, t, ok, rfl, ht, hn, ha⟩, hb⟩; have hqb := (hb.block w.heap.size (by simp)).trans HC0.out; have HQB := Lib.hid hqb; have HE1 := Lib.hid (HE.out.keep hb); have HB1 := Lib.hid (HB0.out.trans (hb.mono (by simp))); have hs1 : w.heap.size < w1.heap.size := (by have := hb.size; simp at this; omega); obtain ⟨q0, q1, q2⟩ := cell_of_three hqb; obtain ⟨f0, f1, f2⟩ := free_of_three hqb; have hne1 : w.heap.size ≠ w1.heap.size := (by omega); clear hb hqb; have HA := Lib.hid ha; have HT := Lib.hid ht; clear ha ht hR; cases ok)
  · refine bodyPost_ret (v := .tuple #[.agg #[.int .i64 0, .int .i64 0, .string ⟨#[]⟩], .bool false]) (by simp [results, Tryd.results5, go_sem, q0, q1, q2, hs1]) rfl ⟨?_, ?_⟩
    · refine ⟨0, 0, ⟨#[]⟩, false, rfl, by unfold inI; omega, (fun h => nomatch h), fun k' n' t' h1 h2 h3 => ?_, fun _ => ⟨rfl, rfl, rfl⟩⟩
      cases (HA.out k' n' t' h1 h2 h3).2.2.2
    · repeat (first | exact HB1.out | refine Below.drew ?_ | refine Below.alloc ?_ (by simp; omega) _ | refine Below.setCell ?_ (by first | exact Nat.le_refl _ | (simp; done) | (simp; omega)) _)
  · have hmx : t.size ≤ maxLen := by have := HT.out; rw [← Lib.size_eq] at this; unfold maxLen; omega
    have hC := fun w => vCheck_any k n t w hmx
    have HZ : Hid ((w1.alloc (.cells #[.int .i64 k, .int .i64 n, .string t] 23)).heap[w.heap.size]? = some (.cells #[.int .i64 0, .int .i64 0, .string ⟨#[]⟩] 23 (0, 0))) := Lib.hid ((Below.heap_alloc _ _ _ hs1).trans HQB.out)
    have HV : Hid ((w1.alloc (.cells #[.int .i64 k, .int .i64 n, .string t] 23)).heap[w1.heap.size]? = some (.cells #[.int .i64 k, .int .i64 n, .string t] 23 (0, 0))) := Lib.hid (heap_alloc_new _ _)
    have HB2 : Hid (Below w.heap.size w (w1.alloc (.cells #[.int .i64 k, .int .i64 n, .string t] 23))) := Lib.hid (HB1.out.alloc (by omega) _)
    have HE2 : Hid (ErrV (w1.alloc (.cells #[.int .i64 k, .int .i64 n, .string t] 23))) := Lib.hid (HE1.out.keep ((Below.refl _ _).alloc (Nat.le_refl _) _))
    clear q0 q1 q2 f0 f1 f2
    cases hck : ckB k n t.data.toList with
    | false =>
      rw [ckI_no hck] at hC
      have HCK := Lib.hid hck
      clear hck
      go_wp2_with (go_at_call 11; refine (hC _).mono ?_; rintro e w2 ⟨rfl, hb2⟩; have hqb := (hb2.block w.heap.size (by simp; omega)).trans HZ.out; obtain ⟨q0, q1, q2⟩ := cell_of_three hqb; obtain ⟨f0, f1, f2⟩ := free_of_three hqb; have hs2 : w.heap.size < w2.heap.size := (by have := hb2.size; simp at this; omega); have HB3 := Lib.hid (HB2.out.trans (hb2.mono (by simp; omega))); clear hb2 hqb)
      refine bodyPost_ret (v := .tuple #[.agg #[.int .i64 0, .int .i64 0, .string ⟨#[]⟩], .bool false]) (by simp [results, Tryd.results5, go_sem, q0, q1, q2]) rfl ⟨?_, ?_⟩
      · refine ⟨0, 0, ⟨#[]⟩, false, rfl, by unfold inI; omega, (fun h => nomatch h), fun k' n' t' h1 h2 h3 => ?_, fun _ => ⟨rfl, rfl, rfl⟩⟩
        obtain ⟨rfl, rfl, rfl, _⟩ := HA.out k' n' t' h1 h2 h3
        rw [HCK.out] at h1; cases h1
      · repeat (first | exact HB3.out | refine Below.drew ?_ | refine Below.alloc ?_ (by simp; omega) _ | refine Below.setCell ?_ (by first | exact Nat.le_refl _ | (simp; done) | (simp; omega)) _)
    | true =>
      rw [ckI_ok hck] at hC
      have hX := fun w hE => vTextC_any k n t hck hn w hE
      have HCK := Lib.hid hck
      clear hck
      obtain ⟨T, hT⟩ : ∃ T : ByteArray, T = ⟨(textL k n t.data.toList).toArray⟩ := ⟨_, rfl⟩
      rw [← hT] at hX
      have hTl : T.data.toList = textL k n t.data.toList := by rw [hT]
      have HTL := Lib.hid hTl
      clear hT hTl
      by_cases heq : T = s
      · subst heq
        go_wp2_with (first
          | (go_at_call 11; refine (hC _).mono ?_; rintro e w2 ⟨rfl, hb2⟩; have hqb := (hb2.block w.heap.size (by simp; omega)).trans HZ.out; have hvb := (hb2.block w1.heap.size (by simp)).trans HV.out; have HQ2 := Lib.hid hqb; have HV2 := Lib.hid hvb; obtain ⟨v0, v1, v2⟩ := cell_of_three hvb; have hs2 : w1.heap.size < w2.heap.size := (by have := hb2.size; simp at this; omega); have HB3 := Lib.hid (HB2.out.trans (hb2.mono (by simp; omega))); have HE3 := Lib.hid (HE2.out.keep hb2); clear hb2 hqb hvb)
          | (go_at_call 8; refine (hX _ HE3.out).mono ?_; rintro e w3 ⟨rfl, hb3⟩; have hqb := (hb3.block w.heap.size (by omega)).trans HQ2.out; have hvb := (hb3.block w1.heap.size (by omega)).trans HV2.out; obtain ⟨q0, q1, q2⟩ := cell_of_three hqb; obtain ⟨f0, f1, f2⟩ := free_of_three hqb; clear v0 v1 v2; obtain ⟨v0, v1, v2⟩ := cell_of_three hvb; have hs3 : w1.heap.size < w3.heap.size := (by have := hb3.size; omega); have HB4 := Lib.hid (HB3.out.trans (hb3.mono (by omega))); clear hb3 hqb hvb))
        have hs4 : w.heap.size < w3.heap.size := by omega
        refine bodyPost_ret (v := .tuple #[.agg #[.int .i64 k, .int .i64 n, .string t], .bool true]) (by simp [results, Tryd.results5, go_sem, q0, q1, q2]) rfl ⟨?_, ?_⟩
        · refine ⟨k, n, t, true, rfl, hn, fun _ => ⟨HCK.out, HTL.out⟩, fun k' n' t' h1 h2 h3 => ?_, fun h => nomatch h⟩
          obtain ⟨h4, h5, h6, _⟩ := HA.out k' n' t' h1 h2 h3
          exact ⟨h4, h5, h6, rfl⟩
        · repeat (first | exact HB4.out | refine Below.drew ?_ | refine Below.alloc ?_ (by simp; omega) _ | refine Below.setCell ?_ (by first | exact Nat.le_refl _ | (simp; done) | (simp; omega)) _)
      · have hnl : (T.toList == s.toList) = false := by
          cases hh : T.toList == s.toList with
          | false => rfl
          | true => exact absurd (ba_ext2 (by simpa using hh)) heq
        go_wp2_with (first
          | (go_at_call 11; refine (hC _).mono ?_; rintro e w2 ⟨rfl, hb2⟩; have hqb := (hb2.block w.heap.size (by simp; omega)).trans HZ.out; have hvb := (hb2.block w1.heap.size (by simp)).trans HV.out; have HQ2 := Lib.hid hqb; have HV2 := Lib.hid hvb; obtain ⟨v0, v1, v2⟩ := cell_of_three hvb; have hs2 : w1.heap.size < w2.heap.size := (by have := hb2.size; simp at this; omega); have HB3 := Lib.hid (HB2.out.trans (hb2.mono (by simp; omega))); have HE3 := Lib.hid (HE2.out.keep hb2); clear hb2 hqb hvb)
          | (go_at_call 8; refine (hX _ HE3.out).mono ?_; rintro e w3 ⟨rfl, hb3⟩; have hqb := (hb3.block w.heap.size (by omega)).trans HQ2.out; have hvb := (hb3.block w1.heap.size (by omega)).trans HV2.out; obtain ⟨q0, q1, q2⟩ := cell_of_three hqb; obtain ⟨f0, f1, f2⟩ := free_of_three hqb; clear v0 v1 v2; obtain ⟨v0, v1, v2⟩ := cell_of_three hvb; have hs3 : w1.heap.size < w3.heap.size := (by have := hb3.size; omega); have HB4 := Lib.hid (HB3.out.trans (hb3.mono (by omega))); clear hb3 hqb hvb))
        have hs4 : w.heap.size < w3.heap.size := by omega
        refine bodyPost_ret (v := .tuple #[.agg #[.int .i64 0, .int .i64 0, .string ⟨#[]⟩], .bool false]) (by simp [results, Tryd.results5, go_sem, q0, q1, q2]) rfl ⟨?_, ?_⟩
        · refine ⟨0, 0, ⟨#[]⟩, false, rfl, by unfold inI; omega, (fun h => nomatch h), fun k' n' t' h1 h2 h3 => ?_, fun _ => ⟨rfl, rfl, rfl⟩⟩
          obtain ⟨rfl, rfl, rfl, _⟩ := HA.out k' n' t' h1 h2 h3
          rw [← HTL.out] at h3
          exact absurd (ba_ext2 (by rw [Lib.toList_data, Lib.toList_data]; exact h3.symm)) heq
        · repeat (first | exact HB4.out | refine Below.drew ?_ | refine Below.alloc ?_ (by simp; omega) _ | refine Below.setCell ?_ (by first | exact Nat.le_refl _ | (simp; done) | (simp; omega)) _)
theorem vParse_any (s : ByteArray) (hmax : s.size ≤ 140737488355328) (w : World) (hE : ErrV w) :
    Calls Tryd.prog 5 #[.string s] w fun e w' => ParsePost s.data.toList e ∧ Below w.heap.size w w' :=
  (vParse_anyZ s hmax w hE).mono fun _ _ h => ⟨h.1.post, h.2⟩
end Go.Proofs.YthmdnlcinlmjkaaDoor
