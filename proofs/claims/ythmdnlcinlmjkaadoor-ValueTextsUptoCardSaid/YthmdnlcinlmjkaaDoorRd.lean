/- Contract of read: what a text says. -/
import Derived.Test.YthmdnlcinlmjkaaDoorUq
import Derived.Test.YthmdnlcinlmjkaaDoorPi
namespace Go.Proofs.YthmdnlcinlmjkaaDoor
open Go Go.RowKit

/-- What read may answer of a text. -/
def ReadPost (l : List UInt8) (e : Ending) : Prop := ∃ (k n : Int) (t : ByteArray) (ok : Bool), e = .returned (.tuple #[.agg #[.int .i64 k, .int .i64 n, .string t], .bool ok]) ∧ t.size ≤ l.length ∧ (-9223372036854775808 ≤ n ∧ n ≤ 9223372036854775807) ∧
  ∀ (k' n' : Int) (t' : List UInt8), ckB k' n' t' = true → (-9223372036854775808 ≤ n' ∧ n' ≤ 9223372036854775807) → l = textL k' n' t' → k = k' ∧ n = n' ∧ t.data.toList = t' ∧ ok = true
theorem ck_ways {k n : Int} {t : List UInt8} (h : ckB k n t = true) : (k = 1 ∧ t = []) ∨ (k = 2 ∧ n = 0 ∧ t.length ≤ 64) := by
  unfold ckB at h
  split at h
  · exact .inl ⟨by assumption, by simpa using h⟩
  · split at h
    · rename_i h2
      simp at h
      exact .inr ⟨h2, by omega, by omega⟩
    · cases h

theorem own_b {w w' : World} {e : TypeId} (h : w' = w ∨ ∃ t, w' = Lib.bytesWorld w e t) : Below w.heap.size w w' := by
  rcases h with rfl | ⟨t, rfl⟩
  · exact Below.refl _ _
  · exact Lib.bytesWorld_below _ _ _

set_option maxHeartbeats 4000000 in
set_option maxRecDepth 100000 in
theorem vRead_any (s : ByteArray) (hmax : s.size ≤ 140737488355328) (w : World) (hE : ErrV w) :
    Calls Tryd.prog 12 #[.string s] w fun e w' => ReadPost s.data.toList e ∧ Below w.heap.size w w' := by
  have hP := fun w => Tryd.strings_HasPrefix s ⟨#[34]⟩ w
  obtain ⟨W, hW⟩ : ∃ W, W = w.alloc (.cells #[.int .i64 0, .int .i64 0, .string ⟨#[]⟩] 23) := ⟨_, rfl⟩
  have hWb : Below w.heap.size w W := by rw [hW]; exact (Below.refl _ _).alloc (Nat.le_refl _) _
  have hWz : W.heap.size = w.heap.size + 1 := by rw [hW]; simp
  have hWc : W.heap[w.heap.size]? = some (.cells #[.int .i64 0, .int .i64 0, .string ⟨#[]⟩] 23 (0, 0)) := by rw [hW]; exact heap_alloc_new _ _
  have HWC := Lib.hid hWc
  have HWB := Lib.hid hWb
  have hE := hE.keep hWb
  clear hWc hWb
  have hsz : s.data.toList.length = s.size := (Lib.size_eq s).symm
  cases hs : Lib.hasPrefix s.data.toList [34] with
  | true =>
    simp only [hs] at hP
    obtain ⟨x, hx⟩ : ∃ x, s.data.toList = 34 :: x := by
      obtain ⟨b, hb⟩ := List.isPrefixOf_iff_prefix.1 hs
      exact ⟨b, hb.symm⟩
    have hU := vUnquote_any s (by rw [← hsz, hx]; simp) hmax W hE
    rw [hx, show (34 :: x).drop 1 = x from rfl] at hU
    have hlen : x.length + 1 = s.size := by rw [← hsz, hx]; simp
    have HU := Lib.hid hU; have HX := Lib.hid hx
    clear hU hs hx hsz hE
    subst hW
    go_enter Tryd.func12, Tryd.ntmps12
    go_wp2_with (first
      | (go_at_call 21; (with_reducible refine (hP _).mono ?_); rintro e w' ⟨rfl, hw⟩; obtain rfl := hw.symm)
      | (go_at_call 22; refine HU.out.mono ?_; rintro e w1 ⟨⟨t, ok, rfl, ht, ha⟩, hb⟩; have hqb := (hb.block w.heap.size (by simp)).trans HWC.out; obtain ⟨q0, q1, q2⟩ := cell_of_three hqb; obtain ⟨f0, f1, f2⟩ := free_of_three hqb; have hQw : w.heap.size < w1.heap.size := (by have := hb.size; simp at this; omega)))
    refine bodyPost_ret (v := .tuple #[.agg #[.int .i64 2, .int .i64 0, .string t], .bool ok]) (by simp [results, Tryd.results12, go_sem, q0, q1, q2]) rfl ⟨?_, by have hbb := HWB.out.trans (hb.mono (by simp)); first | exact ((hbb.setCell (Nat.le_refl _) _).setCell (Nat.le_refl _) _).setCell (Nat.le_refl _) _ | exact (((hbb.setCell (Nat.le_refl _) _).setCell (Nat.le_refl _) _).setCell (Nat.le_refl _) _).drew⟩
    refine ⟨2, 0, t, ok, rfl, ?_, by omega, ?_⟩
    · rw [HX.out]; simp only [List.length_cons]; omega
    · intro k' n' t' hck hn' hl
      rw [HX.out] at hl
      rcases ck_ways hck with ⟨rfl, rfl⟩ | ⟨rfl, rfl, _⟩
      · obtain ⟨c, r, h1, h2⟩ := itoa_head n'
        simp only [textL, if_true] at hl
        rw [h1] at hl
        exact absurd (List.cons.inj hl).1.symm h2
      · have hl : 34 :: x = 34 :: (t'.flatMap escL ++ [34]) := hl
        obtain ⟨a, b⟩ := ha t' (List.cons.inj hl).2
        exact ⟨rfl, rfl, a, b⟩
  | false =>
    simp only [hs] at hP
    have hq : ∀ t' : List UInt8, s.data.toList ≠ quoL t' := by
      intro t' h
      rw [h] at hs
      have : Lib.hasPrefix (quoL t') [34] = true := List.isPrefixOf_iff_prefix.2 ⟨_, rfl⟩
      rw [this] at hs; cases hs
    have HQ := Lib.hid hq
    cases hp : Lib.parseIntB 64 s.data.toList with
    | ok v =>
      have hv := Lib.parseIntB_bounds hp
      have hI := Tryd.strconv_ParseInt_10_at64_ok s (by omega) v hp W
      have HV := Lib.hid hv; have HPP := Lib.hid hp
      clear hv hp hq hs hE hsz
      subst hW
      go_enter Tryd.func12, Tryd.ntmps12
      go_wp2_with (first
        | (go_at_call 21; (with_reducible refine (hP _).mono ?_); rintro e w' ⟨rfl, hw⟩; obtain rfl := hw.symm)
        | (go_at_call 23; refine hI.mono ?_; rintro e w1 ⟨rfl, hw⟩; have hb := own_b hw; clear hw; have hqb := (hb.block w.heap.size (by simp)).trans HWC.out; obtain ⟨q0, q1, q2⟩ := cell_of_three hqb; obtain ⟨f0, f1, f2⟩ := free_of_three hqb; have hQw : w.heap.size < w1.heap.size := (by have := hb.size; simp at this; omega)))
      go_region_held3 (fun w' => True) (trivial) (fail)
      go_wp2
      refine bodyPost_ret (v := .tuple #[.agg #[.int .i64 1, .int .i64 v, .string ⟨#[]⟩], .bool true]) (by simp [results, Tryd.results12, go_sem, q0, q1, q2]) rfl ⟨?_, by have hbb := HWB.out.trans (hb.mono (by simp)); first | exact ((hbb.setCell (Nat.le_refl _) _).setCell (Nat.le_refl _) _).setCell (Nat.le_refl _) _ | exact (((hbb.setCell (Nat.le_refl _) _).setCell (Nat.le_refl _) _).setCell (Nat.le_refl _) _).drew⟩
      refine ⟨1, v, ⟨#[]⟩, true, rfl, Nat.zero_le _, ?_, ?_⟩
      · have := HV.out; simp only [Nat.reducePow, Nat.reduceSub] at this; omega
      · intro k' n' t' hck hn' hl
        rcases ck_ways hck with ⟨rfl, rfl⟩ | ⟨rfl, rfl, _⟩
        · simp only [textL, if_true] at hl
          have := HPP.out
          rw [hl, intB_itoa n' hn'.1 hn'.2] at this
          cases this
          exact ⟨rfl, rfl, rfl, rfl⟩
        · exact absurd hl (HQ.out t')
    | range =>
      obtain ⟨ev, hv, hev⟩ := hE.ran
      have hI := Tryd.strconv_ParseInt_10_at64_range s (by omega) hp ev W hv hev
      have hsat : -9223372036854775808 ≤ Lib.intSat 64 s.data.toList ∧ Lib.intSat 64 s.data.toList ≤ 9223372036854775807 := by
        unfold Lib.intSat; split <;> simp only [Nat.reducePow, Nat.reduceSub] <;> omega
      generalize Lib.intSat 64 s.data.toList = sat at hI hsat
      have HPP := Lib.hid hp
      clear hv hev hp hq hs hE hsz
      subst hW
      go_enter Tryd.func12, Tryd.ntmps12
      go_wp2_with (first
        | (go_at_call 21; (with_reducible refine (hP _).mono ?_); rintro e w' ⟨rfl, hw⟩; obtain rfl := hw.symm)
        | (go_at_call 23; refine hI.mono ?_; rintro e w1 ⟨N, rfl, _, _, hb⟩; have hqb := (hb.block w.heap.size (by simp)).trans HWC.out; obtain ⟨q0, q1, q2⟩ := cell_of_three hqb; obtain ⟨f0, f1, f2⟩ := free_of_three hqb; have hQw : w.heap.size < w1.heap.size := (by have := hb.size; simp at this; omega)))
      go_region_held3 (fun w' => True) (trivial) (fail)
      go_wp2
      refine bodyPost_ret (v := .tuple #[.agg #[.int .i64 1, .int .i64 sat, .string ⟨#[]⟩], .bool false]) (by simp [results, Tryd.results12, go_sem, q0, q1, q2]) rfl ⟨?_, by have hbb := HWB.out.trans (hb.mono (by simp)); first | exact ((hbb.setCell (Nat.le_refl _) _).setCell (Nat.le_refl _) _).setCell (Nat.le_refl _) _ | exact (((hbb.setCell (Nat.le_refl _) _).setCell (Nat.le_refl _) _).setCell (Nat.le_refl _) _).drew⟩
      refine ⟨1, sat, ⟨#[]⟩, false, rfl, Nat.zero_le _, hsat, ?_⟩
      intro k' n' t' hck hn' hl
      rcases ck_ways hck with ⟨rfl, rfl⟩ | ⟨rfl, rfl, _⟩
      · simp only [textL, if_true] at hl
        have := HPP.out
        rw [hl, intB_itoa n' hn'.1 hn'.2] at this
        cases this
      · exact absurd hl (HQ.out t')
    | _ =>
      obtain ⟨ev, hv, hev⟩ := hE.syn
      have hI := Tryd.strconv_ParseInt_10_at64_else s (by omega) (fun v h => by rw [hp] at h; cases h) (fun h => by rw [hp] at h; cases h) ev W hv hev
      have HPP := Lib.hid hp
      clear hv hev hp hq hs hE hsz
      subst hW
      go_enter Tryd.func12, Tryd.ntmps12
      go_wp2_with (first
        | (go_at_call 21; (with_reducible refine (hP _).mono ?_); rintro e w' ⟨rfl, hw⟩; obtain rfl := hw.symm)
        | (go_at_call 23; refine hI.mono ?_; rintro e w1 ⟨N, rfl, _, _, hb⟩; have hqb := (hb.block w.heap.size (by simp)).trans HWC.out; obtain ⟨q0, q1, q2⟩ := cell_of_three hqb; obtain ⟨f0, f1, f2⟩ := free_of_three hqb; have hQw : w.heap.size < w1.heap.size := (by have := hb.size; simp at this; omega)))
      go_region_held3 (fun w' => True) (trivial) (fail)
      go_wp2
      refine bodyPost_ret (v := .tuple #[.agg #[.int .i64 1, .int .i64 0, .string ⟨#[]⟩], .bool false]) (by simp [results, Tryd.results12, go_sem, q0, q1, q2]) rfl ⟨?_, by have hbb := HWB.out.trans (hb.mono (by simp)); first | exact ((hbb.setCell (Nat.le_refl _) _).setCell (Nat.le_refl _) _).setCell (Nat.le_refl _) _ | exact (((hbb.setCell (Nat.le_refl _) _).setCell (Nat.le_refl _) _).setCell (Nat.le_refl _) _).drew⟩
      refine ⟨1, 0, ⟨#[]⟩, false, rfl, Nat.zero_le _, by omega, ?_⟩
      intro k' n' t' hck hn' hl
      rcases ck_ways hck with ⟨rfl, rfl⟩ | ⟨rfl, rfl, _⟩
      · simp only [textL, if_true] at hl
        have := HPP.out
        rw [hl, intB_itoa n' hn'.1 hn'.2] at this
        cases this
      · exact absurd hl (HQ.out t')
end Go.Proofs.YthmdnlcinlmjkaaDoor
