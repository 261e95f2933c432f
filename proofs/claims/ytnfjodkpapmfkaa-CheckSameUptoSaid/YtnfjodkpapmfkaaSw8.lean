/- Contracts: the closure of Same, and Same, of the program. -/
import Derived.Test.YtnfjodkpapmfkaaSq8
import Derived.BigQuiet
namespace Go.Proofs.Ytnfjodkpapmfkaa
open Go Go.RowKit Go.Lib

set_option maxRecDepth 100000 in
set_option maxHeartbeats 16000000 in
theorem cSame1_any (q : Nat) (G H : Nat → Prop) (d : Nt) (k : Fo) : ∀ (d' : Nt) (k' : Fo) (w : World) (b o b' o' lv : Nat), w.cell? ⟨q, 0, none⟩ = some (.func (.func 57) #[] #[.pointer (some ⟨q, 0, none⟩)]) → NdP w G d k b o → NdP w H d' k' b' o' → lv + deepF k ≤ 1048576 → szD d + szF k ≤ 1048576 → Calls Try.prog 57 #[.pointer (some ⟨b, o, none⟩), .pointer (some ⟨b', o', none⟩), .int .i64 (lv : Int), .pointer (some ⟨q, 0, none⟩)] w fun e w' => e = .returned (.bool (decide (d = d') && decide (k = k'))) ∧ ∃ n, w' = w.drewN n := by
  revert d k
  refine Fo.node_ind (p := fun d k => ∀ (d' : Nt) (k' : Fo) (w : World) (b o b' o' lv : Nat), w.cell? ⟨q, 0, none⟩ = some (.func (.func 57) #[] #[.pointer (some ⟨q, 0, none⟩)]) → NdP w G d k b o → NdP w H d' k' b' o' → lv + deepF k ≤ 1048576 → szD d + szF k ≤ 1048576 → Calls Try.prog 57 #[.pointer (some ⟨b, o, none⟩), .pointer (some ⟨b', o', none⟩), .int .i64 (lv : Int), .pointer (some ⟨q, 0, none⟩)] w fun e w' => e = .returned (.bool (decide (d = d') && decide (k = k'))) ∧ ∃ n, w' = w.drewN n) ?_
  intro d K ih d' K' w b o b' o' lv hq hN hN' hlv hsz
  obtain ⟨ta, tc, ka, kc, x0, x1, x2, x3, x4, ht, hk⟩ := hN
  obtain ⟨ta', tc', ka', kc', y0, y1, y2, y3, y4, ht', hk'⟩ := hN'
  have hlen : K.len ≤ 1048576 := by have := szF_len K; omega
  have hcast : ((lv + 1 : Nat) : Int) = (lv : Int) + 1 := by omega
  have HK := Lib.hid (fun (i : Nat) (hi : i < K.len) (hi' : i < K'.len) => (by
    obtain ⟨b, o, e, hb, hf⟩ := hk (nil_of_len hi)
    obtain ⟨d2, k2, hd⟩ := Fo.drop_cons hi
    obtain ⟨b', o', e', hb', hf'⟩ := hk' (nil_of_len hi')
    obtain ⟨d3, k3, hd'⟩ := Fo.drop_cons hi'
    refine ⟨b, o, d2, k2, b', o', d3, k3, e, hd, e', hd', fun m => ?_⟩
    have h1 := Fo.All.drop i ih
    have h2 := FoAt.drop i hf
    have h2' := FoAt.drop i hf'
    have h3 := deepF_drop K i
    have h4 := szF_drop K i
    rw [hd] at h1 h2 h3 h4
    rw [hd'] at h2'
    simp only [deepF, szF] at h3 h4
    have := h1.1 d3 k3 (w.drewN m) b (o + i * 5) b' (o' + i * 5) (lv + 1) hq (h2.cons.1.keep (fun _ _ => rfl) rfl) (h2'.cons.1.keep (fun _ _ => rfl) rfl) (by omega) (by omega)
    rw [hcast] at this
    exact this :
      ∃ b o d2 k2 b' o' d3 k3, ka = some ⟨b, o, none⟩ ∧ K.drop i = .cons d2 k2 (K.drop (i + 1)) ∧ ka' = some ⟨b', o', none⟩ ∧ K'.drop i = .cons d3 k3 (K'.drop (i + 1)) ∧ ∀ m, Calls Try.prog 57 #[.pointer (some ⟨b, o + i * 5, none⟩), .pointer (some ⟨b', o' + i * 5, none⟩), .int .i64 ((lv : Int) + 1), .pointer (some ⟨q, 0, none⟩)] (w.drewN m) fun e w' => e = .returned (.bool (decide (d2 = d3) && decide (k2 = k3))) ∧ ∃ n, w' = (w.drewN m).drewN n))
  have htl : d.tests.length ≤ 1048576 := by have := szT_len d.tests; simp only [szD] at hsz; omega
  have HC := Lib.hid (fun n : Nat => EqualCond_any d.tests d'.tests _ _ G H (w.drewN n) (ht.keep (fun _ _ => rfl)) (ht'.keep (fun _ _ => rfl)) htl)
  have HLEN := Lib.hid hlen
  have sEq : ∀ a b : ByteArray, (a.toList == b.toList) = true → a = b := fun a b h => ba_ext2 (beq_iff_eq.1 h)
  have hl1 : ¬ (1048576 : Int) < (lv : Int) := by omega
  have hl2 : decide ((1048576 : Int) < (lv : Int)) = false := decide_eq_false hl1
  have hwl : IntKind.i64.wrap ((lv : Int) + 1) = (lv : Int) + 1 := by rw [IntKind.wrap_i64]; omega
  clear hk ih hsz hlen ht hk' ht' htl hlv hcast
  by_cases h0 : d.kind = d'.kind
  · rw [← h0] at y0
    cases h1 : (d.var.toList == d'.var.toList) with
    | true =>
      have e1 := Lib.hid (sEq _ _ h1)
      cases h2 : (d.ty.toList == d'.ty.toList) with
      | true =>
        have e2 := Lib.hid (sEq _ _ h2)
        by_cases h3 : d.tests = d'.tests
        · rw [decide_eq_true h3] at HC
          have HDD := Lib.hid (show d = d' from by cases d; cases d'; simp only at h0 e1 e2 h3; have a1 := e1.out; have a2 := e2.out; subst h0 a1 a2 h3; rfl)
          by_cases h4 : K.len = K'.len
          · rw [← h4] at y4
            have HKK := Lib.hid h4
            clear h0 h3 sEq h4 e1 e2
            go_enter Try.func57, Try.ntmps57
            go_wp2_with fail
            go_quiet (first | (go_at_call 58; refine Calls.quiet_of (HC.out _)))
            all_goals go_wp2_with fail
            all_goals go_quiet (fail)
            all_goals go_wp2_with fail
            have HQ0 := Lib.hid hq; have HX4 := Lib.hid x4; have HY4 := Lib.hid y4
            clear h1 h2 x0 x1 x2 x3 x4 y0 y1 y2 y3 y4 hq hl1 hl2
            go_loopw [72] (fun iv wr => ∃ i m : Nat, i ≤ K.len ∧ iv = .int .i64 (i : Int) ∧ Hid ((K = K') ↔ (K.drop i = K'.drop i)) ∧ Hid (wr = w.drewN m)) (fun iv _ => K.len - (intOf iv).toNat)
            case atStart => exact ⟨0, _, Nat.zero_le _, rfl, Lib.hid (by rw [Fo.drop_zero, Fo.drop_zero]), Lib.hid (by first | rfl | (simp only [World.drewN_drewN]; rfl))⟩
            case round =>
              obtain ⟨i, m, hi, rfl, HI, HM⟩ := hrel
              have hq' : wr.cell? ⟨q, 0, none⟩ = some (.func (.func 57) #[] #[.pointer (some ⟨q, 0, none⟩)]) := by rw [HM.out]; exact HQ0.out
              by_cases hlt : i < K.len
              · obtain ⟨b1, o1, d2, k2, b2, o2, d3, k3, rfl, hd, rfl, hd', hcs⟩ := HK.out i hlt (by have := HKK.out; omega)
                have x4' : wr.cell? ⟨b, o + 4, none⟩ = some (.slice (some ⟨b1, o1, none⟩) K.len kc) := by rw [HM.out]; exact HX4.out
                have y4' : wr.cell? ⟨b', o' + 4, none⟩ = some (.slice (some ⟨b2, o2, none⟩) K.len kc') := by rw [HM.out]; exact HY4.out
                have hlti : (i : Int) < (K.len : Int) := by omega
                have hlti' := decide_eq_true hlti
                have hi0 : (0 : Int) ≤ (i : Int) := by omega
                have hls := wr7 hlt (by have := HLEN.out; omega)
                have HLT := Lib.hid hlt
                have HST := Lib.hid (show (d2 = d3 ∧ k2 = k3 → (K = K' ↔ K.drop (i + 1) = K'.drop (i + 1))) ∧ (¬ (d2 = d3 ∧ k2 = k3) → ¬ (d = d' ∧ K = K')) from by
                  refine ⟨fun ⟨e1, e2⟩ => ?_, fun hne ⟨_, e⟩ => ?_⟩
                  · rw [HI.out, hd, hd', e1, e2]; simp
                  · rw [e, hd'] at hd
                    simp only [Fo.cons.injEq] at hd
                    exact hne ⟨hd.1.symm, hd.2.1.symm⟩)
                have HCi := Lib.hid (fun n : Nat => (by
                  have := hcs (m + n)
                  rw [← World.drewN_drewN, ← HM.out] at this
                  exact this : Calls Try.prog 57 #[.pointer (some ⟨b1, o1 + i * 5, none⟩), .pointer (some ⟨b2, o2 + i * 5, none⟩), .int .i64 ((lv : Int) + 1), .pointer (some ⟨q, 0, none⟩)] (wr.drewN n) fun e w' => e = .returned (.bool (decide (d2 = d3) && decide (k2 = k3))) ∧ ∃ m', w' = (wr.drewN n).drewN m'))
                clear hd hd' hcs hi HI
                by_cases hqq : d2 = d3 ∧ k2 = k3
                · rw [and_yes8 hqq] at HCi
                  have HN2 := Lib.hid (HST.out.1 hqq)
                  clear hqq HST
                  go_wp2_with fail
                  go_quiet (first | (go_at_call 57; refine Calls.quiet_of (HCi.out _)))
                  all_goals go_wp2
                  all_goals go_roundw
                  all_goals first
                    | exact ⟨i + 1, m + _, HLT.out, by go_num, HN2, Lib.hid (by rw [HM.out, World.drewN_drewN])⟩
                    | exact meas7 HLT.out
                    | (rw [hls]; exact meas7 HLT.out)
                · rw [and_no8 hqq] at HCi
                  have HNO := Lib.hid (HST.out.2 hqq)
                  clear hqq HST
                  go_wp2_with fail
                  go_quiet (first | (go_at_call 57; refine Calls.quiet_of (HCi.out _)))
                  all_goals go_wp2
                  all_goals go_ret
                  all_goals exact ⟨show Ending.returned (Value.bool false) = _ from by rw [and_no8 HNO.out], m + _, by rw [HM.out, World.drewN_drewN]⟩
              · obtain rfl : i = K.len := by omega
                have HYES := Lib.hid (show d = d' ∧ K = K' from ⟨HDD.out, HI.out.2 (by rw [Fo.drop_end (Nat.le_refl _), Fo.drop_end (by rw [HKK.out]; exact Nat.le_refl _)])⟩)
                have hnl : ¬ ((K.len : Int) < (K.len : Int)) := by omega
                clear hlt hi
                go_wp2
                go_ret
                exact ⟨show Ending.returned (Value.bool true) = _ from by rw [and_yes8 HYES.out], m, HM.out⟩
          · have h4' : ((K.len : Int) == (K'.len : Int)) = false := beq_eq_false_iff_ne.2 (by omega)
            have h4n : ((K.len : Int) != (K'.len : Int)) = true := by simp only [bne, h4', Bool.not_false]
            have h4'' : ¬ (K.len : Int) = (K'.len : Int) := by omega
            have HNO := Lib.hid (show ¬ (d = d' ∧ K = K') from fun h => h4 (by rw [h.2]))
            clear h0 h3 sEq h4 e1 e2
            go_enter Try.func57, Try.ntmps57
            go_wp2_with fail
            go_quiet (first | (go_at_call 58; refine Calls.quiet_of (HC.out _)))
            all_goals go_wp2_with fail
            all_goals go_quiet (fail)
            all_goals go_wp2_with fail
            all_goals go_ret
            all_goals first | exact ⟨show Ending.returned (Value.bool false) = _ from by rw [and_no8 HNO.out], _, rfl⟩ | exact ⟨show Ending.returned (Value.bool false) = _ from by rw [and_no8 HNO.out], _, drewN_add8 _ _ _⟩
        · rw [decide_eq_false h3] at HC
          have HNO := Lib.hid (show ¬ (d = d' ∧ K = K') from fun h => h3 (by rw [h.1]))
          clear h0 h3 sEq e1 e2
          go_enter Try.func57, Try.ntmps57
          go_wp2_with fail
          go_quiet (first | (go_at_call 58; refine Calls.quiet_of (HC.out _)))
          all_goals go_wp2_with fail
          all_goals go_ret
          all_goals first | exact ⟨show Ending.returned (Value.bool false) = _ from by rw [and_no8 HNO.out], _, rfl⟩ | exact ⟨show Ending.returned (Value.bool false) = _ from by rw [and_no8 HNO.out], _, drewN_add8 _ _ _⟩
      | false =>
        have h2n : (d.ty.toList != d'.ty.toList) = true := by simp only [bne, h2, Bool.not_false]
        have HNO := Lib.hid (show ¬ (d = d' ∧ K = K') from fun h => by rw [h.1] at h2; simp at h2)
        clear h0 sEq e1
        go_enter Try.func57, Try.ntmps57
        go_wp2_with fail
        go_quiet (fail)
        all_goals go_wp2_with fail
        all_goals go_ret
        all_goals first | exact ⟨show Ending.returned (Value.bool false) = _ from by rw [and_no8 HNO.out], _, rfl⟩ | exact ⟨show Ending.returned (Value.bool false) = _ from by rw [and_no8 HNO.out], _, drewN_add8 _ _ _⟩
    | false =>
      have h1n : (d.var.toList != d'.var.toList) = true := by simp only [bne, h1, Bool.not_false]
      have HNO := Lib.hid (show ¬ (d = d' ∧ K = K') from fun h => by rw [h.1] at h1; simp at h1)
      clear h0 sEq
      go_enter Try.func57, Try.ntmps57
      go_wp2_with fail
      go_quiet (fail)
      all_goals go_wp2_with fail
      all_goals go_ret
      all_goals first | exact ⟨show Ending.returned (Value.bool false) = _ from by rw [and_no8 HNO.out], _, rfl⟩ | exact ⟨show Ending.returned (Value.bool false) = _ from by rw [and_no8 HNO.out], _, drewN_add8 _ _ _⟩
  · have h0' : (d.kind == d'.kind) = false := beq_eq_false_iff_ne.2 h0
    have h0n : (d.kind != d'.kind) = true := by simp [h0]
    have HNO := Lib.hid (show ¬ (d = d' ∧ K = K') from fun h => h0 (by rw [h.1]))
    clear sEq
    go_enter Try.func57, Try.ntmps57
    go_wp2_with fail
    go_quiet (fail)
    all_goals go_wp2_with fail
    all_goals go_ret
    all_goals first | exact ⟨show Ending.returned (Value.bool false) = _ from by rw [and_no8 HNO.out], _, rfl⟩ | exact ⟨show Ending.returned (Value.bool false) = _ from by rw [and_no8 HNO.out], _, drewN_add8 _ _ _⟩
end Go.Proofs.Ytnfjodkpapmfkaa
