/- The walk of MatchMerges. -/
import Derived.Test.YtppacelaeaaodaaBe0
import Derived.Test.YtppacelaeaaodaaSr0
import Derived.Test.YtppacelaeaaodaaRm0
namespace Go.Proofs.Ytppacelaeaaodaa
open Go Go.RowKit

theorem Bx.start2 (w : World) {va vb : Value} {a b : List Bd} (ha : BsV w w.heap.size va a) (hb : BsV w w.heap.size vb b) :
    Bx w w.heap.size [(w.heap.size + 1, vb, b), (w.heap.size, va, a)] ((w.alloc (.cells #[va] 24)).alloc (.cells #[vb] 24)) := by
  have h1 := (Bx.nil (w := w)).new (v := va) (bs := a) (.inl ha)
  have h2 := h1.new (v := vb) (bs := b) (.inl (hb.below h1.below (Nat.le_refl _)))
  simpa using h2
theorem sameR (n n2 : Nat) (ao : Option Addr) (cap : Nat) (ao2 : Option Addr) (cap2 : Nat) (m : List Bd) (u : World) (h1 : BsV u u.heap.size (.slice ao n cap) m) (h2 : BsV u u.heap.size (.slice ao2 n2 cap2) m) :
    Calls Try.prog 16 #[.agg #[.slice ao n cap], .agg #[.slice ao2 n2 cap2]] u fun e w' => e = .returned (.bool true) ∧ Below u.heap.size u w' := by
  have := r10Same_any u.heap.size u.heap.size ao n cap ao2 n2 cap2 m m u h1 h2 (Nat.le_refl _) (Nat.le_refl _)
  rwa [decide_eq_true rfl] at this
theorem rmergeS {cs bs m : List Bd} (hm : mergeO cs bs = some m) {N : Nat} (hN : m.length = N) (ao : Option Addr) (n cap : Nat) (ao2 : Option Addr) (n2 cap2 : Nat) (u : World) (h1 : BsV u u.heap.size (.slice ao n cap) cs) (h2 : BsV u u.heap.size (.slice ao2 n2 cap2) bs) :
    Calls Try.prog 28 #[.agg #[.slice ao n cap], .agg #[.slice ao2 n2 cap2]] u fun e w' => ∃ ao c, e = .returned (.tuple #[.agg #[.slice ao N c], .bool true]) ∧ BsO w' u.heap.size (.slice ao N c) m ∧ Below u.heap.size u w' := by
  have h := r10Merge_any u.heap.size u.heap.size ao n cap ao2 n2 cap2 cs bs u h1 h2 (Nat.le_refl _) (Nat.le_refl _)
  rw [hm] at h
  refine h.mono ?_
  rintro e w' ⟨v', rfl, ho, hb⟩
  obtain ⟨ao, c, rfl⟩ := ho.shape
  rw [show ((some m).getD []).length = N from hN] at ho ⊢
  exact ⟨ao, c, rfl, ho, hb⟩
theorem rmergeN {cs bs : List Bd} (hm : mergeO cs bs = none) (ao : Option Addr) (n cap : Nat) (ao2 : Option Addr) (n2 cap2 : Nat) (u : World) (h1 : BsV u u.heap.size (.slice ao n cap) cs) (h2 : BsV u u.heap.size (.slice ao2 n2 cap2) bs) :
    Calls Try.prog 28 #[.agg #[.slice ao n cap], .agg #[.slice ao2 n2 cap2]] u fun e w' => ∃ ao c, e = .returned (.tuple #[.agg #[.slice ao 0 c], .bool false]) ∧ BsO w' u.heap.size (.slice ao 0 c) [] ∧ Below u.heap.size u w' := by
  have h := r10Merge_any u.heap.size u.heap.size ao n cap ao2 n2 cap2 cs bs u h1 h2 (Nat.le_refl _) (Nat.le_refl _)
  rw [hm] at h
  refine h.mono ?_
  rintro e w' ⟨v', rfl, ho, hb⟩
  obtain ⟨ao, c, rfl⟩ := ho.shape
  exact ⟨ao, c, rfl, ho, hb⟩

set_option maxRecDepth 100000 in
set_option maxHeartbeats 6400000 in
theorem merges_walk (a b : List Bd) (aoa : Option Addr) (na capa : Nat) (aob : Option Addr) (nb capb : Nat) (w : World) (ha : BsV w w.heap.size (.slice aoa na capa) a) (hb : BsV w w.heap.size (.slice aob nb capb) b) :
    Calls Try.prog 4 #[.agg #[.slice aoa na capa], .agg #[.slice aob nb capb]] w fun e w' => e = .returned (.bool true) ∧ Below w.heap.size w w' := by
  have hk := Bx.start2 w ha hb
  obtain ⟨P, hP⟩ : ∃ P, P = w.heap.size := ⟨_, rfl⟩
  obtain ⟨W, hW⟩ : ∃ W, W = (w.alloc (.cells #[.slice aoa na capa] 24)).alloc (.cells #[.slice aob nb capb] 24) := ⟨_, rfl⟩
  rw [← hP, ← hW] at hk
  rw [← hP]
  have HK := Lib.hid hk
  have l0 := hk.cell (.tail _ (.head _)); have l1 := hk.cell (.head _)
  rw [hW] at l0 l1
  have HP := Lib.hid hP; have HW := Lib.hid hW
  clear hk hP hW ha hb
  cases h1 : mergeO a b with
  | none =>
    have H1 := Lib.hid (mergeN h1); have H2 := Lib.hid (rmergeN h1)
    clear h1
    go_enter Try.func4, Try.ntmps4
    go_wp2_with fail
    rw [← HW.out, ← HP.out]
    clear l0 l1
    have hv0 := HK.out.bsv (.tail _ (.head _))
    have hv1 := HK.out.bsv (.head _)
    (with_reducible refine (H1.out _ _ _ _ _ _ _ hv0 hv1).mono ?_)
    clear hv0 hv1
    rintro e w1 ⟨a1, k1, rfl, ho, hb⟩
    have HK := Lib.hid ((HK.out.call hb).new (.inr (ho.lower HK.out.sz)))
    clear ho hb
    have l0 := HK.out.cell (.tail _ (.tail _ (.head _)))
    have l1 := HK.out.cell (.tail _ (.head _))
    go_wp2_with fail
    clear l0 l1
    generalize hW1 : w1.alloc (.cells #[.slice a1 0 k1] 24) = W1 at HK ⊢
    clear hW1
    generalize hq1 : w1.heap.size = q1 at HK ⊢
    clear hq1
    have hv0 := HK.out.bsv (.tail _ (.tail _ (.head _)))
    have hv1 := HK.out.bsv (.tail _ (.head _))
    (with_reducible refine (H2.out _ _ _ _ _ _ _ hv0 hv1).mono ?_)
    clear hv0 hv1
    rintro e w2 ⟨a2, k2, rfl, ho, hb⟩
    have HK := Lib.hid ((HK.out.call hb).new (.inr (ho.lower HK.out.sz)))
    clear ho hb
    go_wp2_with fail
    generalize hW2 : w2.alloc (.cells #[.slice a2 0 k2] 24) = W2 at HK ⊢
    clear hW2
    generalize hq2 : w2.heap.size = q2 at HK ⊢
    clear hq2
    (with_reducible refine (begun10_any _).mono ?_)
    rintro e w0 ⟨rfl, hb⟩
    have HK := Lib.hid (HK.out.call hb)
    clear hb
    have l0 := HK.out.cell (.tail _ (.head _))
    have l1 := HK.out.cell (.head _)
    go_wp2_with fail
    clear l0 l1
    have hv0 := HK.out.bsv (.tail _ (.head _))
    have hv1 := HK.out.bsv (.head _)
    (with_reducible refine (sameR _ _ _ _ _ _ _ _ hv0 hv1).mono ?_)
    clear hv0 hv1
    rintro e w3 ⟨rfl, hb⟩
    have HK := Lib.hid (HK.out.call hb)
    clear hb
    go_wp2
    go_ret
    exact ⟨rfl, HK.out.below⟩
  | some m =>
    obtain ⟨Nm, hNm⟩ : ∃ N, m.length = N := ⟨_, rfl⟩
    have H1 := Lib.hid (mergeS h1 hNm); have H2 := Lib.hid (rmergeS h1 hNm)
    clear h1 hNm
    go_enter Try.func4, Try.ntmps4
    go_wp2_with fail
    rw [← HW.out, ← HP.out]
    clear l0 l1
    have hv0 := HK.out.bsv (.tail _ (.head _))
    have hv1 := HK.out.bsv (.head _)
    (with_reducible refine (H1.out _ _ _ _ _ _ _ hv0 hv1).mono ?_)
    clear hv0 hv1
    rintro e w1 ⟨a1, k1, rfl, ho, hb⟩
    have HK := Lib.hid ((HK.out.call hb).new (.inr (ho.lower HK.out.sz)))
    clear ho hb
    have l0 := HK.out.cell (.tail _ (.tail _ (.head _)))
    have l1 := HK.out.cell (.tail _ (.head _))
    go_wp2_with fail
    clear l0 l1
    generalize hW1 : w1.alloc (.cells #[.slice a1 Nm k1] 24) = W1 at HK ⊢
    clear hW1
    generalize hq1 : w1.heap.size = q1 at HK ⊢
    clear hq1
    have hv0 := HK.out.bsv (.tail _ (.tail _ (.head _)))
    have hv1 := HK.out.bsv (.tail _ (.head _))
    (with_reducible refine (H2.out _ _ _ _ _ _ _ hv0 hv1).mono ?_)
    clear hv0 hv1
    rintro e w2 ⟨a2, k2, rfl, ho, hb⟩
    have HK := Lib.hid ((HK.out.call hb).new (.inr (ho.lower HK.out.sz)))
    clear ho hb
    go_wp2_with fail
    generalize hW2 : w2.alloc (.cells #[.slice a2 Nm k2] 24) = W2 at HK ⊢
    clear hW2
    generalize hq2 : w2.heap.size = q2 at HK ⊢
    clear hq2
    (with_reducible refine (begun10_any _).mono ?_)
    rintro e w0 ⟨rfl, hb⟩
    have HK := Lib.hid (HK.out.call hb)
    clear hb
    have l0 := HK.out.cell (.tail _ (.head _))
    have l1 := HK.out.cell (.head _)
    go_wp2_with fail
    clear l0 l1
    have hv0 := HK.out.bsv (.tail _ (.head _))
    have hv1 := HK.out.bsv (.head _)
    (with_reducible refine (sameR _ _ _ _ _ _ _ _ hv0 hv1).mono ?_)
    clear hv0 hv1
    rintro e w3 ⟨rfl, hb⟩
    have HK := Lib.hid (HK.out.call hb)
    clear hb
    go_wp2
    go_ret
    exact ⟨rfl, HK.out.below⟩
end Go.Proofs.Ytppacelaeaaodaa
