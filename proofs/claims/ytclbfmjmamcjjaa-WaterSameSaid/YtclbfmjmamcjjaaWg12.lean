/- Contracts: the document's From, Mark, Same; slices.Equal of numbers. -/
import Derived.Test.YtclbfmjmamcjjaaWf12
namespace Go.Proofs.Ytclbfmjmamcjjaa
open Go Go.RowKit

set_option maxRecDepth 100000 in
set_option maxHeartbeats 3200000 in
theorem r12From_any (C : Nat) (v : Value) (ms : List Int) (w : World) (h : Nv w C v ms) (hC : C ≤ w.heap.size) :
    Calls Try.prog 10 #[v] w fun e w' => ((okF ms = true ∧ ∃ q, e = .returned (.tuple #[.pointer (some ⟨q, 0, none⟩), .int .i64 0]) ∧ (∀ p, p < w.heap.size → RwIs w' q p ms) ∧ w.heap.size ≤ q) ∨ (okF ms = false ∧ e = .returned (.tuple #[.pointer none, .int .i64 1]))) ∧ Below w.heap.size w w' := by
  obtain ⟨ao, cap, rfl, hcap, hcap2, hrow⟩ := h.row
  have hlen := h.len
  obtain ⟨n, hN⟩ : ∃ n, n = ms.length := ⟨_, rfl⟩
  rw [← hN] at hcap hlen ⊢
  cases hn : newB n with
  | false =>
    have HF : Hid (okF ms = false) := by unfold okF; rw [← hN, hn]; rfl
    unfold newB at hn
    by_cases h1 : (n : Int) < 1
    · have d0 : decide ((n : Int) < 1) = true := by simpa using h1
      clear hn hrow h hcap hcap2 hlen hN h1
      go_enter Try.func10, Try.ntmps10
      go_wp2
      go_ret2
      exact ⟨.inr ⟨HF.out, rfl⟩, Below.refl _ _⟩
    · have d0 : decide ((n : Int) < 1) = false := by simpa using h1
      have d1 : decide ((n : Int) > 12) = true := by
        rw [show decide ((1 : Int) ≤ (n : Int)) = true by simp; omega, Bool.true_and, decide_eq_false_iff_not] at hn
        simp; omega
      clear hn hrow h hcap hcap2 hlen hN h1
      go_enter Try.func10, Try.ntmps10
      go_wp2
      go_ret2
      exact ⟨.inr ⟨HF.out, rfl⟩, Below.refl _ _⟩
  | true =>
    obtain ⟨h1, h2⟩ := newB_of hn
    have HN := Lib.hid hN; have HROW := Lib.hid hrow; have HC := Lib.hid hC
    have HNB : Hid (newB ms.length = true) := by rw [← hN]; exact hn
    have d0 : decide ((n : Int) < 1) = false := by simp; omega
    have d1 : decide ((n : Int) > 12) = false := by simp; omega
    have H12 := Lib.hid h2; have H1 := Lib.hid h1
    obtain ⟨i0, hi, hz0, hz1, hz2⟩ := infoI64'
    clear hN hrow h hcap hcap2 hlen hn hC h1 h2
    go_enter Try.func10, Try.ntmps10
    go_wp2_with fail
    clear d0 d1
    go_loop [4] (fun iv => ∃ k : Nat, k ≤ n ∧ iv = .int .i64 (k : Int) ∧ Hid (∀ t ∈ ms.take k, mayB t = true)) (fun iv => n - (intOf iv).toNat)
    case atStart => exact ⟨0, Nat.zero_le _, rfl, Lib.hid (fun t ht => by simp at ht)⟩
    case round =>
      obtain ⟨k, hk, rfl, HM⟩ := hrel
      by_cases hlt : k < n
      · obtain ⟨b, o, rfl, hbC, hcell⟩ := HROW.out (by have := HN.out; omega)
        have hkm : k < ms.length := by have := HN.out; omega
        have c1 := hcell k hkm
        have HTK := Lib.hid (take_one hkm)
        have HBD : Hid (mayB ms[k]! = false → okF ms = false) := fun ht => by
          unfold okF
          rw [HNB.out, Bool.true_and, List.all_eq_false]
          exact ⟨ms[k]!, by rw [getElem!_pos ms k hkm]; exact List.getElem_mem _, by rw [ht]; decide⟩
        generalize ms[k]! = x at c1 HTK HBD
        have hk0 : (0 : Int) ≤ (k : Int) := by omega
        have e1 : IntKind.i64.wrap ((k : Int) + 1) = (k : Int) + 1 := IntWalk.i64_in _ (by have := H12.out; omega)
        have HC1 := Lib.hid (r12May_any x w)
        clear hcell hkm hbC
        cases hm : mayB x with
        | false =>
          rw [hm] at HC1
          have HM0 := Lib.hid (HBD.out hm)
          clear hm
          go_wp2_with (go_at_call 26; (with_reducible refine HC1.out.mono ?_); rintro e w2 ⟨rfl, rfl⟩)
          go_ret2
          exact ⟨.inr ⟨HM0.out, rfl⟩, Below.refl _ _⟩
        | true =>
          rw [hm] at HC1
          have HM2 := Lib.hid hm
          clear hm
          go_wp2_with (go_at_call 26; (with_reducible refine HC1.out.mono ?_); rintro e w2 ⟨rfl, rfl⟩)
          go_round
          case rel => exact ⟨k + 1, by omega, by go_num, Lib.hid (fun t ht => by rw [HTK.out] at ht; rcases List.mem_append.1 ht with ht | ht; exact HM.out t ht; rw [List.mem_singleton.1 ht]; exact HM2.out)⟩
          case measure => simp [intOf]; omega
      · have HX : Hid (okF ms = true ∧ ∀ t ∈ ms, mayB t = true) := by
          have h2 := HM.out
          rw [show k = ms.length by have := HN.out; omega, List.take_length] at h2
          refine ⟨?_, h2⟩
          unfold okF
          rw [HNB.out, Bool.true_and, List.all_eq_true]
          exact h2
        obtain ⟨b, o, rfl, hbC, hcell⟩ := HROW.out (by have := HN.out; have := H1.out; omega)
        have A : Aside (∀ j, j < ms.length → w.cell? ⟨b, o + j, none⟩ = some (.int .i64 ms[j]!)) := hcell
        have ha : decide ((k : Int) < (n : Int)) = false := by simp; omega
        clear hcell hbC
        go_wp2_with (at_builtin; refine wpList_append_own _ rfl _ _ 22 rfl w.heap.size 2 i0 (.int .i64 0) 1 8 Try.underlying22 hi hz0 hz1 hz2 rfl (by decide) (.slice none 0 0) 0 [] rfl (World.ownsRow_nil _ _ _ _) ⟨b, o, none⟩ n cap (rowI ms) rfl ?qc1 ?qc2 ?qc3 ?qc4 ?qc5 (Nat.le_refl _) ?_)
        case qc1 => rw [rowI_len]; have := HN.out; omega
        case qc2 =>
          intro j u hj
          have hjn : j < ms.length := by have := (List.getElem?_eq_some_iff.1 hj).1; rwa [rowI_len] at this
          try rw [Addr.add_lit]
          rw [A.out j hjn, ← hj, rowI_at hjn]
        case qc3 => intro u hu; obtain ⟨x, _, rfl⟩ := List.mem_map.1 hu; rfl
        case qc4 => have := H12.out; unfold maxLen; omega
        case qc5 => have := H12.out; omega
        intro v' w1 hown hgrow hnil
        try simp only [List.nil_append, Nat.zero_add] at hown
        obtain ⟨g, c, rfl, hg⟩ := own_some hown (by have := H1.out; omega)
        have HO := Lib.hid hown; have HG := Lib.hid hg
        have HB1 : Hid (Below w.heap.size w w1) := (Below.refl w.heap.size w).grown hgrow (Nat.le_refl _) (by intro k hk; simp [Value.ownBlock] at hk)
        clear hown hgrow hnil hg
        go_wp2
        go_ret2
        have hl : n = ms.length := HN.out
        have hr : RowAt w1 g ms := (RowAt.of_own (C := w.heap.size) (cap := c) (by rw [← hl]; exact HO.out)).1
        have hsz := HB1.out.size
        have hg1 := HG.out
        have hnw := fun p (hp : p < w.heap.size) => RwIs.of_new (cap := c) (p := p) (by have := H1.out; omega) (by have := H12.out; omega) (fun t ht => may_of (HX.out.2 t ht)) (by omega) hr (by omega)
        rw [← hl] at hnw
        exact ⟨.inl ⟨HX.out.1, _, rfl, hnw, hsz⟩, HB1.out.alloc hsz _⟩

set_option maxRecDepth 100000 in
set_option maxHeartbeats 3200000 in
theorem r12Mark_any (q p : Nat) (ms : List Int) (i t : Int) (w : World) (h : RwIs w q p ms) (hp : p < w.heap.size) :
    Calls Try.prog 15 #[.pointer (some ⟨q, 0, none⟩), .int .i64 i, .int .i64 t] w fun e w' => e = .returned (.tuple #[.bool (decide (minI ms < minI (mkL ms i t))), .int .i64 (mkErr ms i t)]) ∧ RwIs w' q p (mkL ms i t) ∧ Chg (fun b => b = q) w w' := by
  obtain ⟨g, cap, c0, hc, f0⟩ := h.cell
  have C3 := r12May_any t w
  cases hh : hasI ms.length i with
  | false =>
    have he : mkErr ms i t = 1 := by unfold mkErr; rw [hh]; rfl
    rw [mkL_err (by rw [he]; decide), he, decide_eq_false (Int.lt_irrefl _)]
    have HH := Lib.hid h
    unfold hasI at hh
    generalize ms.length = n at c0 hh
    by_cases h0 : i < 0
    · have d0 : decide (i < 0) = true := by simpa using h0
      clear hh hc h h0 he C3 f0
      go_enter Try.func15, Try.ntmps15
      go_wp2
      go_ret2
      exact ⟨rfl, HH.out, Chg.refl _ _⟩
    · have d0 : decide (i < 0) = false := by simpa using h0
      have d1 : decide (i ≥ (n : Int)) = true := by
        rw [show decide (0 ≤ i) = true by simp; omega, Bool.true_and, decide_eq_false_iff_not] at hh
        simp; omega
      clear hh hc h h0 he C3 f0
      go_enter Try.func15, Try.ntmps15
      go_wp2
      go_ret2
      exact ⟨rfl, HH.out, Chg.refl _ _⟩
  | true =>
    obtain ⟨j, rfl, hj⟩ := hasI_nat hh
    have hj0 : (0 : Int) ≤ (j : Int) := by omega
    have d0 : decide ((j : Int) < 0) = false := by simp
    have d1 : decide ((j : Int) ≥ (ms.length : Int)) = false := by simp; omega
    cases hm : mayB t with
    | false =>
      have he : mkErr ms j t = 1 := by unfold mkErr; rw [hm, Bool.and_false]; rfl
      rw [mkL_err (by rw [he]; decide), he, decide_eq_false (Int.lt_irrefl _)]
      rw [hm] at C3
      have HC3 := Lib.hid C3; have HH := Lib.hid h
      generalize ms.length = n at c0 d1 hh hj
      clear C3 h hh he hm hc f0
      go_enter Try.func15, Try.ntmps15
      go_wp2_with (go_at_call 26; (with_reducible refine HC3.out.mono ?_); rintro e w1 ⟨rfl, rfl⟩)
      go_ret2
      exact ⟨rfl, HH.out, Chg.refl _ _⟩
    | true =>
      rw [hm] at C3
      have c1 := hc j hj
      have hj1 : (j : Int) < (ms.length : Int) := by omega
      by_cases hlt : t < ms[j]!
      · have he : mkErr ms (j : Int) t = 120 := by unfold mkErr; rw [hh, hm]; exact if_pos hlt
        rw [mkL_err (by rw [he]; decide), he, decide_eq_false (Int.lt_irrefl _)]
        generalize ms[j]! = x at c1 hlt
        have hd : decide (t < x) = true := by simpa using hlt
        have HC3 := Lib.hid C3; have HH := Lib.hid h
        generalize ms.length = n at c0 d1 hh hj hj1
        clear C3 h hh he hm hlt hc f0
        go_enter Try.func15, Try.ntmps15
        go_wp2_with (go_at_call 26; (with_reducible refine HC3.out.mono ?_); rintro e w1 ⟨rfl, rfl⟩)
        all_goals try go_quiet (fail)
        all_goals try go_wp2
        go_ret2
        exact ⟨rfl, HH.out, Chg.refl _ _⟩
      · have he : mkErr ms (j : Int) t = 0 := by unfold mkErr; rw [hh, hm]; exact if_neg hlt
        have hL : mkL ms (j : Int) t = ms.set j t := by unfold mkL; rw [if_pos he]; rfl
        have hmt := may_of hm
        rw [he, hL]
        have CM := Lib.hid (r12Merged_any q p ms w h)
        have hd : decide (t < ms[j]!) = false := by simpa using hlt
        have HC3 := Lib.hid C3; have HH := Lib.hid h
        have A : Aside (∀ j, j < ms.length → w.cell? ⟨g, j, none⟩ = some (.int .i64 ms[j]!)) := hc
        obtain ⟨n, hn⟩ : ∃ n, n = ms.length := ⟨_, rfl⟩
        rw [← hn] at c0 d1 hj1 hj
        have HN := Lib.hid hn; have HJ := Lib.hid hj; have HMT := Lib.hid hmt; have HP := Lib.hid hp
        have HM2 := Lib.hid (fun u (h : RwIs u q p (ms.set j t)) => r12Merged_any q p (ms.set j t) u h)
        obtain ⟨m1, hm1⟩ : ∃ m, m = minI ms := ⟨_, rfl⟩
        obtain ⟨m2, hm2⟩ : ∃ m, m = minI (ms.set j t) := ⟨_, rfl⟩
        rw [← hm1] at CM
        rw [← hm2] at HM2
        rw [← hm1, ← hm2]
        generalize ms[j]! = x at c1 hd
        obtain ⟨i0, hi, hz0, hz1, hz2⟩ := infoI64'
        clear C3 h hh he hm hlt hc hL hmt hn hm1 hm2 f0 hp
        go_enter Try.func15, Try.ntmps15
        go_wp2_with (first
          | (go_at_call 26; (with_reducible refine HC3.out.mono ?_); rintro e w1 ⟨rfl, rfl⟩)
          | (go_at_call 29; (with_reducible refine CM.out.mono ?_); rintro e w1 ⟨rfl, rfl⟩)
          | (at_builtin; refine wpList_append_own _ rfl _ _ 22 rfl w.heap.size 2 i0 (.int .i64 0) 1 8 Try.underlying22 hi hz0 hz1 hz2 rfl (by decide) (.slice none 0 0) 0 [] rfl (World.ownsRow_nil _ _ _ _) ⟨g, 0, none⟩ n cap (rowI ms) rfl ?qc1 ?qc2 ?qc3 ?qc4 ?qc5 (Nat.le_refl _) ?_))
        case qc1 => rw [rowI_len]; have := HN.out; omega
        case qc2 =>
          intro j u hj
          have hjn : j < ms.length := by have := (List.getElem?_eq_some_iff.1 hj).1; rwa [rowI_len] at this
          try rw [Addr.add_lit]
          try rw [Nat.zero_add]
          rw [A.out j hjn, ← hj, rowI_at hjn]
        case qc3 => intro u hu; obtain ⟨x, _, rfl⟩ := List.mem_map.1 hu; rfl
        case qc4 => have := HH.out.k12; have := HN.out; unfold maxLen; omega
        case qc5 => have := HH.out.k12; have := HN.out; omega
        intro v' w1 hown hgrow hnil
        try simp only [List.nil_append, Nat.zero_add] at hown
        obtain ⟨g', c, rfl, hg⟩ := own_some hown (by have := HJ.out; omega)
        have hb1 : Below w.heap.size w w1 := (Below.refl w.heap.size w).grown hgrow (Nat.le_refl _) (by intro k hk; simp [Value.ownBlock] at hk)
        have HB1 := Lib.hid hb1
        have hst := hown.stored j (.int .i64 t)
        have hq := HH.out.lt
        have hqg : q ≠ g' := by omega
        have c2 : w1.cell? ⟨g', j, none⟩ = some (.int .i64 ms[j]!) := by rw [hown.cellAt j (by have := HJ.out; omega), rowI_at (by have := HJ.out; have := HN.out; omega)]
        have f2 : w1.frozen? ⟨g', j, none⟩ = false := hown.frozenAt j
        obtain ⟨g0, cap0, hblk, _⟩ := HH.out.row
        have hblk1 : (w1.setCell ⟨g', j, none⟩ (.int .i64 t)).heap[q]? = some (.cells #[.slice (some ⟨g0, 0, none⟩) ms.length cap0] 56 (0, 0)) := by
          rw [Below.heap_setCell _ _ _ _ hqg]; exact (hb1.block q hq).trans hblk
        have c3 : (w1.setCell ⟨g', j, none⟩ (.int .i64 t)).cell? ⟨q, 0, none⟩ = some (.slice (some ⟨g0, 0, none⟩) ms.length cap0) := by simp [World.cell?, hblk1]
        have f3 : (w1.setCell ⟨g', j, none⟩ (.int .i64 t)).frozen? ⟨q, 0, none⟩ = false := by simp [World.frozen?, hblk1]
        have HW2 : Hid (RwIs ((w1.setCell ⟨g', j, none⟩ (.int .i64 t)).setCell ⟨q, 0, none⟩ (.slice (some ⟨g', 0, none⟩) n c)) q p (ms.set j t)) := by
          have hl : n = ms.length := HN.out
          have hrow : RowAt ((w1.setCell ⟨g', j, none⟩ (.int .i64 t)).setCell ⟨q, 0, none⟩ (.slice (some ⟨g', 0, none⟩) n c)) g' (ms.set j t) := by
            have hset : (rowI ms).set j (.int .i64 t) = rowI (ms.set j t) := by unfold rowI; rw [List.map_set]
            have h1 := hst.1
            rw [hset] at h1
            have h2 : RowAt (w1.setCell ⟨g', j, none⟩ (.int .i64 t)) g' (ms.set j t) := (RowAt.of_own (C := w.heap.size) (cap := c) (by rw [List.length_set, ← hl]; exact h1)).1
            exact h2.turn ((Chg.refl (fun b => b = q) _).setCell (p := ⟨q, 0, none⟩) rfl _) (by omega)
          refine ⟨by rw [List.length_set]; exact HH.out.k0, by rw [List.length_set]; exact HH.out.k12, fun x hx => ?_, HH.out.qp, g', c, ?_, hrow, by have := HP.out; omega, by omega⟩
          · rcases mem_set_of hx with hx | rfl
            · exact HH.out.may x hx
            · exact HMT.out
          · rw [heap_setCell_same hblk1, List.length_set, ← hl]; rfl
        have HCH : Hid (Chg (fun b => b = q) w ((w1.setCell ⟨g', j, none⟩ (.int .i64 t)).setCell ⟨q, 0, none⟩ (.slice (some ⟨g', 0, none⟩) n c))) := by
          have h1 : Below w.heap.size w (w1.setCell ⟨g', j, none⟩ (.int .i64 t)) := hb1.setCell (p := ⟨g', j, none⟩) hg _
          exact (Chg.of_below (F := fun b => b = q) h1).setCell (p := ⟨q, 0, none⟩) rfl _
        generalize ms[j]! = y at c2
        clear hown hgrow hnil hg hb1 hst hq hblk hblk1
        go_wp2_with (go_at_call 29; (with_reducible refine (HM2.out _ HW2.out).mono ?_); rintro e w1 ⟨rfl, rfl⟩)
        go_ret2
        exact ⟨rfl, HW2.out, HCH.out⟩
end Go.Proofs.Ytclbfmjmamcjjaa
