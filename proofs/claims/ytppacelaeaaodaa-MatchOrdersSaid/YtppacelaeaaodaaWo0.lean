/- The walk of MatchOrders. -/
import Derived.Test.YtppacelaeaaodaaBe0
import Derived.Test.YtppacelaeaaodaaCe0
import Derived.Test.YtppacelaeaaodaaRc0
namespace Go.Proofs.Ytppacelaeaaodaa
open Go Go.RowKit

theorem Bx.start3 (w : World) {va vb vc : Value} {a b c : List Bd} (ha : BsV w w.heap.size va a) (hb : BsV w w.heap.size vb b) (hc : BsV w w.heap.size vc c) :
    Bx w w.heap.size [(w.heap.size + 1 + 1, vc, c), (w.heap.size + 1, vb, b), (w.heap.size, va, a)] (((w.alloc (.cells #[va] 24)).alloc (.cells #[vb] 24)).alloc (.cells #[vc] 24)) := by
  have h1 := (Bx.nil (w := w)).new (v := va) (bs := a) (.inl ha)
  have b1 : Below w.heap.size w (w.alloc (.cells #[va] 24)) := h1.below
  have h2 := h1.new (v := vb) (bs := b) (.inl (hb.below b1 (Nat.le_refl _)))
  have h3 := h2.new (v := vc) (bs := c) (.inl (hc.below h2.below (Nat.le_refl _)))
  simpa using h3
theorem sameT (n n2 : Nat) (ao : Option Addr) (cap : Nat) (ao2 : Option Addr) (cap2 : Nat) (m : List Bd) (u : World) (h1 : BsV u u.heap.size (.slice ao n cap) m) (h2 : BsV u u.heap.size (.slice ao2 n2 cap2) m) :
    Calls Try.prog 25 #[.agg #[.slice ao n cap], .agg #[.slice ao2 n2 cap2]] u fun e w' => e = .returned (.bool true) ∧ Below u.heap.size u w' := by
  have := mSame_any u.heap.size u.heap.size ao n cap ao2 n2 cap2 m m u h1 h2 (Nat.le_refl _) (Nat.le_refl _)
  rwa [decide_eq_true rfl] at this
theorem checkT {m : List Bd} (hm : ckP m = 0) (n : Nat) (ao : Option Addr) (cap : Nat) (u : World) (h1 : BsV u u.heap.size (.slice ao n cap) m) :
    Calls Try.prog 15 #[.agg #[.slice ao n cap]] u fun e w' => e = .returned (.int .i64 0) ∧ Below u.heap.size u w' := by
  have := r10Check_any u.heap.size ao n cap m u h1 (Nat.le_refl _)
  rwa [hm] at this

set_option maxRecDepth 100000 in
set_option maxHeartbeats 6400000 in
theorem orders_walk (a b c : List Bd) (aoa : Option Addr) (na capa : Nat) (aob : Option Addr) (nb capb : Nat) (aoc : Option Addr) (nc capc : Nat) (w : World) (ha : BsV w w.heap.size (.slice aoa na capa) a) (hb : BsV w w.heap.size (.slice aob nb capb) b) (hc : BsV w w.heap.size (.slice aoc nc capc) c) :
    Calls Try.prog 7 #[.agg #[.slice aoa na capa], .agg #[.slice aob nb capb], .agg #[.slice aoc nc capc]] w fun e w' => e = .returned (.bool true) ∧ Below w.heap.size w w' := by
  have hk := Bx.start3 w ha hb hc
  obtain ⟨P, hP⟩ : ∃ P, P = w.heap.size := ⟨_, rfl⟩
  obtain ⟨W, hW⟩ : ∃ W, W = ((w.alloc (.cells #[.slice aoa na capa] 24)).alloc (.cells #[.slice aob nb capb] 24)).alloc (.cells #[.slice aoc nc capc] 24) := ⟨_, rfl⟩
  rw [← hP, ← hW] at hk
  rw [← hP]
  have HK := Lib.hid hk
  have HP := Lib.hid hP; have HW := Lib.hid hW
  have hcm := mergeO_comm b a
  clear hk hP hW ha hb hc
  cases h1 : mergeO a b with
  | none =>
    rw [h1] at hcm
    have H1 := Lib.hid (mergeN h1); have H1' := Lib.hid (mergeN hcm)
    cases h3 : mergeO b c with
    | none =>
      have H3 := Lib.hid (mergeN h3)
      clear hcm h1 h3
      go_enter Try.func7, Try.ntmps7
      go_wp2_with fail
      rw [← HW.out, ← HP.out]
      (with_reducible refine (begun10_any _).mono ?_)
      rintro e w0 ⟨rfl, hb⟩
      have HK := Lib.hid (HK.out.call hb)
      clear hb
      have l0 := HK.out.cell (.tail _ (.tail _ (.head _)))
      have l1 := HK.out.cell (.tail _ (.head _))
      go_wp2_with fail
      clear l0 l1
      have hv0 := HK.out.bsv (.tail _ (.tail _ (.head _)))
      have hv1 := HK.out.bsv (.tail _ (.head _))
      (with_reducible refine (H1.out _ _ _ _ _ _ _ hv0 hv1).mono ?_)
      clear hv0 hv1
      rintro e w1 ⟨a1, k1, rfl, ho, hb⟩
      have HK := Lib.hid ((HK.out.call hb).new (.inr (ho.lower HK.out.sz)))
      clear ho hb
      have l0 := HK.out.cell (.tail _ (.tail _ (.head _)))
      have l1 := HK.out.cell (.tail _ (.tail _ (.tail _ (.head _))))
      go_wp2_with fail
      clear l0 l1
      generalize hW1 : w1.alloc (.cells #[.slice a1 0 k1] 24) = W1 at HK ⊢
      clear hW1
      generalize hq1 : w1.heap.size = q1 at HK ⊢
      clear hq1
      have hv0 := HK.out.bsv (.tail _ (.tail _ (.head _)))
      have hv1 := HK.out.bsv (.tail _ (.tail _ (.tail _ (.head _))))
      (with_reducible refine (H1'.out _ _ _ _ _ _ _ hv0 hv1).mono ?_)
      clear hv0 hv1
      rintro e w2 ⟨a2, k2, rfl, ho, hb⟩
      have HK := Lib.hid ((HK.out.call hb).new (.inr (ho.lower HK.out.sz)))
      clear ho hb
      have l0 := HK.out.cell (.tail _ (.head _))
      have l1 := HK.out.cell (.head _)
      go_wp2_with fail
      clear l0 l1
      generalize hW2 : w2.alloc (.cells #[.slice a2 0 k2] 24) = W2 at HK ⊢
      clear hW2
      generalize hq2 : w2.heap.size = q2 at HK ⊢
      clear hq2
      have hv0 := HK.out.bsv (.tail _ (.head _))
      have hv1 := HK.out.bsv (.head _)
      (with_reducible refine (sameT _ _ _ _ _ _ _ _ hv0 hv1).mono ?_)
      clear hv0 hv1
      rintro e w3 ⟨rfl, hb⟩
      have HK := Lib.hid (HK.out.call hb)
      clear hb
      have l0 := HK.out.cell (.tail _ (.tail _ (.tail _ (.head _))))
      have l1 := HK.out.cell (.tail _ (.tail _ (.head _)))
      go_wp2_with fail
      clear l0 l1
      have hv0 := HK.out.bsv (.tail _ (.tail _ (.tail _ (.head _))))
      have hv1 := HK.out.bsv (.tail _ (.tail _ (.head _)))
      (with_reducible refine (H3.out _ _ _ _ _ _ _ hv0 hv1).mono ?_)
      clear hv0 hv1
      rintro e w4 ⟨a4, k4, rfl, ho, hb⟩
      have HK := Lib.hid ((HK.out.call hb).new (.inr (ho.lower HK.out.sz)))
      clear ho hb
      go_wp2
      go_ret
      exact ⟨rfl, HK.out.below⟩
    | some r =>
      have h4 : mergeO a r = none := by
        have := mergeO_assoc a b c
        rw [h1, h3] at this
        exact this.symm
      obtain ⟨Nr, hNr⟩ : ∃ N, r.length = N := ⟨_, rfl⟩
      have H3 := Lib.hid (mergeS h3 hNr); have H4 := Lib.hid (mergeN h4)
      clear hcm h1 h3 h4 hNr
      go_enter Try.func7, Try.ntmps7
      go_wp2_with fail
      rw [← HW.out, ← HP.out]
      (with_reducible refine (begun10_any _).mono ?_)
      rintro e w0 ⟨rfl, hb⟩
      have HK := Lib.hid (HK.out.call hb)
      clear hb
      have l0 := HK.out.cell (.tail _ (.tail _ (.head _)))
      have l1 := HK.out.cell (.tail _ (.head _))
      go_wp2_with fail
      clear l0 l1
      have hv0 := HK.out.bsv (.tail _ (.tail _ (.head _)))
      have hv1 := HK.out.bsv (.tail _ (.head _))
      (with_reducible refine (H1.out _ _ _ _ _ _ _ hv0 hv1).mono ?_)
      clear hv0 hv1
      rintro e w1 ⟨a1, k1, rfl, ho, hb⟩
      have HK := Lib.hid ((HK.out.call hb).new (.inr (ho.lower HK.out.sz)))
      clear ho hb
      have l0 := HK.out.cell (.tail _ (.tail _ (.head _)))
      have l1 := HK.out.cell (.tail _ (.tail _ (.tail _ (.head _))))
      go_wp2_with fail
      clear l0 l1
      generalize hW1 : w1.alloc (.cells #[.slice a1 0 k1] 24) = W1 at HK ⊢
      clear hW1
      generalize hq1 : w1.heap.size = q1 at HK ⊢
      clear hq1
      have hv0 := HK.out.bsv (.tail _ (.tail _ (.head _)))
      have hv1 := HK.out.bsv (.tail _ (.tail _ (.tail _ (.head _))))
      (with_reducible refine (H1'.out _ _ _ _ _ _ _ hv0 hv1).mono ?_)
      clear hv0 hv1
      rintro e w2 ⟨a2, k2, rfl, ho, hb⟩
      have HK := Lib.hid ((HK.out.call hb).new (.inr (ho.lower HK.out.sz)))
      clear ho hb
      have l0 := HK.out.cell (.tail _ (.head _))
      have l1 := HK.out.cell (.head _)
      go_wp2_with fail
      clear l0 l1
      generalize hW2 : w2.alloc (.cells #[.slice a2 0 k2] 24) = W2 at HK ⊢
      clear hW2
      generalize hq2 : w2.heap.size = q2 at HK ⊢
      clear hq2
      have hv0 := HK.out.bsv (.tail _ (.head _))
      have hv1 := HK.out.bsv (.head _)
      (with_reducible refine (sameT _ _ _ _ _ _ _ _ hv0 hv1).mono ?_)
      clear hv0 hv1
      rintro e w3 ⟨rfl, hb⟩
      have HK := Lib.hid (HK.out.call hb)
      clear hb
      have l0 := HK.out.cell (.tail _ (.tail _ (.tail _ (.head _))))
      have l1 := HK.out.cell (.tail _ (.tail _ (.head _)))
      go_wp2_with fail
      clear l0 l1
      have hv0 := HK.out.bsv (.tail _ (.tail _ (.tail _ (.head _))))
      have hv1 := HK.out.bsv (.tail _ (.tail _ (.head _)))
      (with_reducible refine (H3.out _ _ _ _ _ _ _ hv0 hv1).mono ?_)
      clear hv0 hv1
      rintro e w4 ⟨a4, k4, rfl, ho, hb⟩
      have HK := Lib.hid ((HK.out.call hb).new (.inr (ho.lower HK.out.sz)))
      clear ho hb
      have l0 := HK.out.cell (.tail _ (.tail _ (.tail _ (.tail _ (.tail _ (.head _))))))
      have l1 := HK.out.cell (.head _)
      go_wp2_with fail
      clear l0 l1
      generalize hW4 : w4.alloc (.cells #[.slice a4 Nr k4] 24) = W4 at HK ⊢
      clear hW4
      generalize hq4 : w4.heap.size = q3 at HK ⊢
      clear hq4
      have hv0 := HK.out.bsv (.tail _ (.tail _ (.tail _ (.tail _ (.tail _ (.head _))))))
      have hv1 := HK.out.bsv (.head _)
      (with_reducible refine (H4.out _ _ _ _ _ _ _ hv0 hv1).mono ?_)
      clear hv0 hv1
      rintro e w5 ⟨a5, k5, rfl, ho, hb⟩
      have d0 := (HK.out.call hb).cell (.head _)
      have z0 := (HK.out.call hb).free (.head _)
      have HK := Lib.hid (Bx.set (v' := .slice a5 0 k5) (bs' := []) [] [(q2, .slice a2 0 k2, []), (q1, .slice a1 0 k1, []), (P + 1 + 1, .slice aoc nc capc, c), (P + 1, .slice aob nb capb, b), (P, .slice aoa na capa, a)] (HK.out.call hb) (.inr (ho.lower HK.out.sz)))
      clear ho hb
      go_wp2
      go_ret
      exact ⟨rfl, HK.out.below⟩
  | some p =>
    rw [h1] at hcm
    obtain ⟨Np, hNp⟩ : ∃ N, p.length = N := ⟨_, rfl⟩
    have H1 := Lib.hid (mergeS h1 hNp); have H1' := Lib.hid (mergeS hcm hNp)
    clear hNp
    cases h2 : mergeO p c with
    | none =>
      have H2 := Lib.hid (mergeN h2)
      cases h3 : mergeO b c with
      | none =>
        have H3 := Lib.hid (mergeN h3)
        clear hcm h1 h2 h3
        go_enter Try.func7, Try.ntmps7
        go_wp2_with fail
        rw [← HW.out, ← HP.out]
        (with_reducible refine (begun10_any _).mono ?_)
        rintro e w0 ⟨rfl, hb⟩
        have HK := Lib.hid (HK.out.call hb)
        clear hb
        have l0 := HK.out.cell (.tail _ (.tail _ (.head _)))
        have l1 := HK.out.cell (.tail _ (.head _))
        go_wp2_with fail
        clear l0 l1
        have hv0 := HK.out.bsv (.tail _ (.tail _ (.head _)))
        have hv1 := HK.out.bsv (.tail _ (.head _))
        (with_reducible refine (H1.out _ _ _ _ _ _ _ hv0 hv1).mono ?_)
        clear hv0 hv1
        rintro e w1 ⟨a1, k1, rfl, ho, hb⟩
        have HK := Lib.hid ((HK.out.call hb).new (.inr (ho.lower HK.out.sz)))
        clear ho hb
        have l0 := HK.out.cell (.tail _ (.tail _ (.head _)))
        have l1 := HK.out.cell (.tail _ (.tail _ (.tail _ (.head _))))
        go_wp2_with fail
        clear l0 l1
        generalize hW1 : w1.alloc (.cells #[.slice a1 Np k1] 24) = W1 at HK ⊢
        clear hW1
        generalize hq1 : w1.heap.size = q1 at HK ⊢
        clear hq1
        have hv0 := HK.out.bsv (.tail _ (.tail _ (.head _)))
        have hv1 := HK.out.bsv (.tail _ (.tail _ (.tail _ (.head _))))
        (with_reducible refine (H1'.out _ _ _ _ _ _ _ hv0 hv1).mono ?_)
        clear hv0 hv1
        rintro e w2 ⟨a2, k2, rfl, ho, hb⟩
        have HK := Lib.hid ((HK.out.call hb).new (.inr (ho.lower HK.out.sz)))
        clear ho hb
        have l0 := HK.out.cell (.tail _ (.head _))
        have l1 := HK.out.cell (.head _)
        go_wp2_with fail
        clear l0 l1
        generalize hW2 : w2.alloc (.cells #[.slice a2 Np k2] 24) = W2 at HK ⊢
        clear hW2
        generalize hq2 : w2.heap.size = q2 at HK ⊢
        clear hq2
        have hv0 := HK.out.bsv (.tail _ (.head _))
        have hv1 := HK.out.bsv (.head _)
        (with_reducible refine (sameT _ _ _ _ _ _ _ _ hv0 hv1).mono ?_)
        clear hv0 hv1
        rintro e w3 ⟨rfl, hb⟩
        have HK := Lib.hid (HK.out.call hb)
        clear hb
        have l0 := HK.out.cell (.tail _ (.head _))
        have l1 := HK.out.cell (.tail _ (.tail _ (.head _)))
        go_wp2_with fail
        clear l0 l1
        have hv0 := HK.out.bsv (.tail _ (.head _))
        have hv1 := HK.out.bsv (.tail _ (.tail _ (.head _)))
        (with_reducible refine (H2.out _ _ _ _ _ _ _ hv0 hv1).mono ?_)
        clear hv0 hv1
        rintro e w4 ⟨a4, k4, rfl, ho, hb⟩
        have d0 := (HK.out.call hb).cell (.tail _ (.head _))
        have z0 := (HK.out.call hb).free (.tail _ (.head _))
        have HK := Lib.hid (Bx.set (v' := .slice a4 0 k4) (bs' := []) [(q2, .slice a2 Np k2, p)] [(P + 1 + 1, .slice aoc nc capc, c), (P + 1, .slice aob nb capb, b), (P, .slice aoa na capa, a)] (HK.out.call hb) (.inr (ho.lower HK.out.sz)))
        clear ho hb
        have l0 := HK.out.cell (.tail _ (.tail _ (.tail _ (.head _))))
        have l1 := HK.out.cell (.tail _ (.tail _ (.head _)))
        go_wp2_with fail
        clear l0 l1
        clear d0 z0
        generalize hW4 : w4.setCell ⟨q1, 0, none⟩ (.slice a4 0 k4) = W4 at HK ⊢
        clear hW4
        have hv0 := HK.out.bsv (.tail _ (.tail _ (.tail _ (.head _))))
        have hv1 := HK.out.bsv (.tail _ (.tail _ (.head _)))
        (with_reducible refine (H3.out _ _ _ _ _ _ _ hv0 hv1).mono ?_)
        clear hv0 hv1
        rintro e w5 ⟨a5, k5, rfl, ho, hb⟩
        have HK := Lib.hid ((HK.out.call hb).new (.inr (ho.lower HK.out.sz)))
        clear ho hb
        go_wp2
        go_ret
        exact ⟨rfl, HK.out.below⟩
      | some r =>
        have h4 : mergeO a r = none := by
          have := mergeO_assoc a b c
          rw [h1, h3] at this
          have h5 : mergeO p c = mergeO a r := this
          rw [← h5]; exact h2
        obtain ⟨Nr, hNr⟩ : ∃ N, r.length = N := ⟨_, rfl⟩
        have H3 := Lib.hid (mergeS h3 hNr); have H4 := Lib.hid (mergeN h4)
        clear hcm h1 h2 h3 h4 hNr
        go_enter Try.func7, Try.ntmps7
        go_wp2_with fail
        rw [← HW.out, ← HP.out]
        (with_reducible refine (begun10_any _).mono ?_)
        rintro e w0 ⟨rfl, hb⟩
        have HK := Lib.hid (HK.out.call hb)
        clear hb
        have l0 := HK.out.cell (.tail _ (.tail _ (.head _)))
        have l1 := HK.out.cell (.tail _ (.head _))
        go_wp2_with fail
        clear l0 l1
        have hv0 := HK.out.bsv (.tail _ (.tail _ (.head _)))
        have hv1 := HK.out.bsv (.tail _ (.head _))
        (with_reducible refine (H1.out _ _ _ _ _ _ _ hv0 hv1).mono ?_)
        clear hv0 hv1
        rintro e w1 ⟨a1, k1, rfl, ho, hb⟩
        have HK := Lib.hid ((HK.out.call hb).new (.inr (ho.lower HK.out.sz)))
        clear ho hb
        have l0 := HK.out.cell (.tail _ (.tail _ (.head _)))
        have l1 := HK.out.cell (.tail _ (.tail _ (.tail _ (.head _))))
        go_wp2_with fail
        clear l0 l1
        generalize hW1 : w1.alloc (.cells #[.slice a1 Np k1] 24) = W1 at HK ⊢
        clear hW1
        generalize hq1 : w1.heap.size = q1 at HK ⊢
        clear hq1
        have hv0 := HK.out.bsv (.tail _ (.tail _ (.head _)))
        have hv1 := HK.out.bsv (.tail _ (.tail _ (.tail _ (.head _))))
        (with_reducible refine (H1'.out _ _ _ _ _ _ _ hv0 hv1).mono ?_)
        clear hv0 hv1
        rintro e w2 ⟨a2, k2, rfl, ho, hb⟩
        have HK := Lib.hid ((HK.out.call hb).new (.inr (ho.lower HK.out.sz)))
        clear ho hb
        have l0 := HK.out.cell (.tail _ (.head _))
        have l1 := HK.out.cell (.head _)
        go_wp2_with fail
        clear l0 l1
        generalize hW2 : w2.alloc (.cells #[.slice a2 Np k2] 24) = W2 at HK ⊢
        clear hW2
        generalize hq2 : w2.heap.size = q2 at HK ⊢
        clear hq2
        have hv0 := HK.out.bsv (.tail _ (.head _))
        have hv1 := HK.out.bsv (.head _)
        (with_reducible refine (sameT _ _ _ _ _ _ _ _ hv0 hv1).mono ?_)
        clear hv0 hv1
        rintro e w3 ⟨rfl, hb⟩
        have HK := Lib.hid (HK.out.call hb)
        clear hb
        have l0 := HK.out.cell (.tail _ (.head _))
        have l1 := HK.out.cell (.tail _ (.tail _ (.head _)))
        go_wp2_with fail
        clear l0 l1
        have hv0 := HK.out.bsv (.tail _ (.head _))
        have hv1 := HK.out.bsv (.tail _ (.tail _ (.head _)))
        (with_reducible refine (H2.out _ _ _ _ _ _ _ hv0 hv1).mono ?_)
        clear hv0 hv1
        rintro e w4 ⟨a4, k4, rfl, ho, hb⟩
        have d0 := (HK.out.call hb).cell (.tail _ (.head _))
        have z0 := (HK.out.call hb).free (.tail _ (.head _))
        have HK := Lib.hid (Bx.set (v' := .slice a4 0 k4) (bs' := []) [(q2, .slice a2 Np k2, p)] [(P + 1 + 1, .slice aoc nc capc, c), (P + 1, .slice aob nb capb, b), (P, .slice aoa na capa, a)] (HK.out.call hb) (.inr (ho.lower HK.out.sz)))
        clear ho hb
        have l0 := HK.out.cell (.tail _ (.tail _ (.tail _ (.head _))))
        have l1 := HK.out.cell (.tail _ (.tail _ (.head _)))
        go_wp2_with fail
        clear l0 l1
        clear d0 z0
        generalize hW4 : w4.setCell ⟨q1, 0, none⟩ (.slice a4 0 k4) = W4 at HK ⊢
        clear hW4
        have hv0 := HK.out.bsv (.tail _ (.tail _ (.tail _ (.head _))))
        have hv1 := HK.out.bsv (.tail _ (.tail _ (.head _)))
        (with_reducible refine (H3.out _ _ _ _ _ _ _ hv0 hv1).mono ?_)
        clear hv0 hv1
        rintro e w5 ⟨a5, k5, rfl, ho, hb⟩
        have HK := Lib.hid ((HK.out.call hb).new (.inr (ho.lower HK.out.sz)))
        clear ho hb
        have l0 := HK.out.cell (.tail _ (.tail _ (.tail _ (.tail _ (.tail _ (.head _))))))
        have l1 := HK.out.cell (.head _)
        go_wp2_with fail
        clear l0 l1
        generalize hW5 : w5.alloc (.cells #[.slice a5 Nr k5] 24) = W5 at HK ⊢
        clear hW5
        generalize hq5 : w5.heap.size = q3 at HK ⊢
        clear hq5
        have hv0 := HK.out.bsv (.tail _ (.tail _ (.tail _ (.tail _ (.tail _ (.head _))))))
        have hv1 := HK.out.bsv (.head _)
        (with_reducible refine (H4.out _ _ _ _ _ _ _ hv0 hv1).mono ?_)
        clear hv0 hv1
        rintro e w6 ⟨a6, k6, rfl, ho, hb⟩
        have d0 := (HK.out.call hb).cell (.head _)
        have z0 := (HK.out.call hb).free (.head _)
        have HK := Lib.hid (Bx.set (v' := .slice a6 0 k6) (bs' := []) [] [(q2, .slice a2 Np k2, p), (q1, .slice a4 0 k4, []), (P + 1 + 1, .slice aoc nc capc, c), (P + 1, .slice aob nb capb, b), (P, .slice aoa na capa, a)] (HK.out.call hb) (.inr (ho.lower HK.out.sz)))
        clear ho hb
        go_wp2
        go_ret
        exact ⟨rfl, HK.out.below⟩
    | some q =>
      obtain ⟨r, h3, h4⟩ := mergeO_three h1 h2
      obtain ⟨Nq, hNq⟩ : ∃ N, q.length = N := ⟨_, rfl⟩
      obtain ⟨Nr, hNr⟩ : ∃ N, r.length = N := ⟨_, rfl⟩
      have HCK := Lib.hid (checkT (mergeO_some h2).2.2.1)
      have H2 := Lib.hid (mergeS h2 hNq); have H3 := Lib.hid (mergeS h3 hNr); have H4 := Lib.hid (mergeS h4 hNq)
      clear hcm h1 h2 h3 h4 hNr hNq
      go_enter Try.func7, Try.ntmps7
      go_wp2_with fail
      rw [← HW.out, ← HP.out]
      (with_reducible refine (begun10_any _).mono ?_)
      rintro e w0 ⟨rfl, hb⟩
      have HK := Lib.hid (HK.out.call hb)
      clear hb
      have l0 := HK.out.cell (.tail _ (.tail _ (.head _)))
      have l1 := HK.out.cell (.tail _ (.head _))
      go_wp2_with fail
      clear l0 l1
      have hv0 := HK.out.bsv (.tail _ (.tail _ (.head _)))
      have hv1 := HK.out.bsv (.tail _ (.head _))
      (with_reducible refine (H1.out _ _ _ _ _ _ _ hv0 hv1).mono ?_)
      clear hv0 hv1
      rintro e w1 ⟨a1, k1, rfl, ho, hb⟩
      have HK := Lib.hid ((HK.out.call hb).new (.inr (ho.lower HK.out.sz)))
      clear ho hb
      have l0 := HK.out.cell (.tail _ (.tail _ (.head _)))
      have l1 := HK.out.cell (.tail _ (.tail _ (.tail _ (.head _))))
      go_wp2_with fail
      clear l0 l1
      generalize hW1 : w1.alloc (.cells #[.slice a1 Np k1] 24) = W1 at HK ⊢
      clear hW1
      generalize hq1 : w1.heap.size = q1 at HK ⊢
      clear hq1
      have hv0 := HK.out.bsv (.tail _ (.tail _ (.head _)))
      have hv1 := HK.out.bsv (.tail _ (.tail _ (.tail _ (.head _))))
      (with_reducible refine (H1'.out _ _ _ _ _ _ _ hv0 hv1).mono ?_)
      clear hv0 hv1
      rintro e w2 ⟨a2, k2, rfl, ho, hb⟩
      have HK := Lib.hid ((HK.out.call hb).new (.inr (ho.lower HK.out.sz)))
      clear ho hb
      have l0 := HK.out.cell (.tail _ (.head _))
      have l1 := HK.out.cell (.head _)
      go_wp2_with fail
      clear l0 l1
      generalize hW2 : w2.alloc (.cells #[.slice a2 Np k2] 24) = W2 at HK ⊢
      clear hW2
      generalize hq2 : w2.heap.size = q2 at HK ⊢
      clear hq2
      have hv0 := HK.out.bsv (.tail _ (.head _))
      have hv1 := HK.out.bsv (.head _)
      (with_reducible refine (sameT _ _ _ _ _ _ _ _ hv0 hv1).mono ?_)
      clear hv0 hv1
      rintro e w3 ⟨rfl, hb⟩
      have HK := Lib.hid (HK.out.call hb)
      clear hb
      have l0 := HK.out.cell (.tail _ (.head _))
      have l1 := HK.out.cell (.tail _ (.tail _ (.head _)))
      go_wp2_with fail
      clear l0 l1
      have hv0 := HK.out.bsv (.tail _ (.head _))
      have hv1 := HK.out.bsv (.tail _ (.tail _ (.head _)))
      (with_reducible refine (H2.out _ _ _ _ _ _ _ hv0 hv1).mono ?_)
      clear hv0 hv1
      rintro e w4 ⟨a4, k4, rfl, ho, hb⟩
      have d0 := (HK.out.call hb).cell (.tail _ (.head _))
      have z0 := (HK.out.call hb).free (.tail _ (.head _))
      have HK := Lib.hid (Bx.set (v' := .slice a4 Nq k4) (bs' := q) [(q2, .slice a2 Np k2, p)] [(P + 1 + 1, .slice aoc nc capc, c), (P + 1, .slice aob nb capb, b), (P, .slice aoa na capa, a)] (HK.out.call hb) (.inr (ho.lower HK.out.sz)))
      clear ho hb
      have l0 := HK.out.cell (.tail _ (.tail _ (.tail _ (.head _))))
      have l1 := HK.out.cell (.tail _ (.tail _ (.head _)))
      go_wp2_with fail
      clear l0 l1
      clear d0 z0
      generalize hW4 : w4.setCell ⟨q1, 0, none⟩ (.slice a4 Nq k4) = W4 at HK ⊢
      clear hW4
      have hv0 := HK.out.bsv (.tail _ (.tail _ (.tail _ (.head _))))
      have hv1 := HK.out.bsv (.tail _ (.tail _ (.head _)))
      (with_reducible refine (H3.out _ _ _ _ _ _ _ hv0 hv1).mono ?_)
      clear hv0 hv1
      rintro e w5 ⟨a5, k5, rfl, ho, hb⟩
      have HK := Lib.hid ((HK.out.call hb).new (.inr (ho.lower HK.out.sz)))
      clear ho hb
      have l0 := HK.out.cell (.tail _ (.tail _ (.tail _ (.tail _ (.tail _ (.head _))))))
      have l1 := HK.out.cell (.head _)
      go_wp2_with fail
      clear l0 l1
      generalize hW5 : w5.alloc (.cells #[.slice a5 Nr k5] 24) = W5 at HK ⊢
      clear hW5
      generalize hq5 : w5.heap.size = q3 at HK ⊢
      clear hq5
      have hv0 := HK.out.bsv (.tail _ (.tail _ (.tail _ (.tail _ (.tail _ (.head _))))))
      have hv1 := HK.out.bsv (.head _)
      (with_reducible refine (H4.out _ _ _ _ _ _ _ hv0 hv1).mono ?_)
      clear hv0 hv1
      rintro e w6 ⟨a6, k6, rfl, ho, hb⟩
      have d0 := (HK.out.call hb).cell (.head _)
      have z0 := (HK.out.call hb).free (.head _)
      have HK := Lib.hid (Bx.set (v' := .slice a6 Nq k6) (bs' := q) [] [(q2, .slice a2 Np k2, p), (q1, .slice a4 Nq k4, q), (P + 1 + 1, .slice aoc nc capc, c), (P + 1, .slice aob nb capb, b), (P, .slice aoa na capa, a)] (HK.out.call hb) (.inr (ho.lower HK.out.sz)))
      clear ho hb
      have l0 := HK.out.cell (.tail _ (.tail _ (.head _)))
      have l1 := HK.out.cell (.head _)
      go_wp2_with fail
      clear l0 l1
      clear d0 z0
      generalize hW6 : w6.setCell ⟨q3, 0, none⟩ (.slice a6 Nq k6) = W6 at HK ⊢
      clear hW6
      have hv0 := HK.out.bsv (.tail _ (.tail _ (.head _)))
      have hv1 := HK.out.bsv (.head _)
      (with_reducible refine (sameT _ _ _ _ _ _ _ _ hv0 hv1).mono ?_)
      clear hv0 hv1
      rintro e w7 ⟨rfl, hb⟩
      have HK := Lib.hid (HK.out.call hb)
      clear hb
      have l0 := HK.out.cell (.tail _ (.tail _ (.head _)))
      go_wp2_with fail
      clear l0
      have hv0 := HK.out.bsv (.tail _ (.tail _ (.head _)))
      (with_reducible refine (HCK.out _ _ _ _ hv0).mono ?_)
      clear hv0
      rintro e w8 ⟨rfl, hb⟩
      have HK := Lib.hid (HK.out.call hb)
      clear hb
      go_wp2
      go_ret
      exact ⟨rfl, HK.out.below⟩
end Go.Proofs.Ytppacelaeaaodaa
