/- Contracts: Alts of the program; Shape. -/
import Derived.Test.YtnfjodkpapmfkaaCn7
namespace Go.Proofs.Ytnfjodkpapmfkaa
open Go Go.RowKit

theorem mul65 {a b : Nat} (ha : a ≤ 65) (hb : b ≤ 65) : wrap64 ((a : Int) * (b : Int)) = ((a * b : Nat) : Int) := by
  have h : a * b ≤ 65 * 65 := Nat.mul_le_mul ha hb
  rw [show ((a : Int) * (b : Int)) = ((a * b : Nat) : Int) by rw [Int.natCast_mul]]
  unfold wrap64; omega
theorem min_cast (a : Nat) : min ((a : Nat) : Int) 65 = ((min a 65 : Nat) : Int) := by omega
theorem meas17 {k n : Nat} (h : k < n) : n - ((k : Int) + 1).toNat < n - ((k : Nat) : Int).toNat := by omega
set_option maxRecDepth 100000 in
set_option maxHeartbeats 2000000 in
theorem cAlts1_any (q : Nat) (G : Nat → Prop) (d : Nt) (k : Fo) :
    ∀ (w : World) (b o lv : Nat), w.cell? ⟨q, 0, none⟩ = some (.func (.func 101) #[] #[.pointer (some ⟨q, 0, none⟩)]) → NdP w G d k b o → lv + deepF k ≤ 1048576 → szF k ≤ 1048576 →
      Calls Try.prog 101 #[.pointer (some ⟨b, o, none⟩), .int .i64 (lv : Int), .pointer (some ⟨q, 0, none⟩)] w fun e w' => e = .returned (.int .i64 (altsN d k : Int)) ∧ ∃ m, w' = w.drewN m := by
  revert d k
  refine Fo.node_ind (p := fun d k => ∀ (w : World) (b o lv : Nat), w.cell? ⟨q, 0, none⟩ = some (.func (.func 101) #[] #[.pointer (some ⟨q, 0, none⟩)]) → NdP w G d k b o → lv + deepF k ≤ 1048576 → szF k ≤ 1048576 →
      Calls Try.prog 101 #[.pointer (some ⟨b, o, none⟩), .int .i64 (lv : Int), .pointer (some ⟨q, 0, none⟩)] w fun e w' => e = .returned (.int .i64 (altsN d k : Int)) ∧ ∃ m, w' = w.drewN m) ?_
  intro d k ih w b o lv hq hN hlv hsz
  obtain ⟨ta, tc, ka, kc, c0, c1, c2, c3, c4, ht, hk⟩ := hN
  clear c1 c2 c3 ht
  have hl1 : ¬ (1048576 : Int) < (lv : Int) := by omega
  have hl2 : decide ((1048576 : Int) < (lv : Int)) = false := decide_eq_false hl1
  have hwl : IntKind.i64.wrap ((lv : Int) + 1) = (lv : Int) + 1 := by rw [IntKind.wrap_i64]; omega
  have hcast : ((lv + 1 : Nat) : Int) = (lv : Int) + 1 := by omega
  have hlen : k.len ≤ 1048576 := by have := szF_len k; omega
  cases k with
  | nil =>
    have HA : Hid (altsN d .nil = 1) := Lib.hid rfl
    rw [show Fo.nil.len = 0 from rfl] at c4
    clear ih hk hsz hlv hlen
    go_enter Try.func101, Try.ntmps101
    go_wp2
    go_ret
    exact ⟨by rw [HA.out]; rfl, 0, rfl⟩
  | cons d' k' n' =>
    obtain ⟨b', o', rfl, hb', hf⟩ := hk rfl
    have HC := Lib.hid (fun (i : Nat) (d2 : Nt) (k2 : Fo) (hi : (Fo.cons d' k' n').drop i = .cons d2 k2 ((Fo.cons d' k' n').drop (i + 1))) (m : Nat) => (by
      have h1 := Fo.All.drop i ih
      have h2 := FoAt.drop i hf
      have h3 := deepF_drop (.cons d' k' n') i
      have h4 := szF_drop (.cons d' k' n') i
      rw [hi] at h1 h2 h3 h4
      have hN2 : NdP (w.drewN m) G d2 k2 b' (o' + i * 5) := h2.cons.1.keep (fun _ _ => rfl) rfl
      simp only [deepF, szF] at h3 h4 hlv hsz
      have := h1.1 (w.drewN m) b' (o' + i * 5) (lv + 1) hq hN2 (by omega) (by omega)
      rw [hcast] at this
      exact this : Calls Try.prog 101 #[.pointer (some ⟨b', o' + i * 5, none⟩), .int .i64 ((lv : Int) + 1), .pointer (some ⟨q, 0, none⟩)] (w.drewN m) fun e w' => e = .returned (.int .i64 (altsN d2 k2 : Int)) ∧ ∃ m', w' = (w.drewN m).drewN m'))
    have HF : Hid (altsN d (.cons d' k' n') = altsG n' (decide (d.kind = 4)) (altsN d' k')) := Lib.hid altsN_first
    have hd1 : (Fo.cons d' k' n').drop 1 = n' := by simp [Fo.drop, Fo.drop_zero]
    have HC0 := Lib.hid (HC.out 0 d' k' (by rw [Fo.drop_zero, Nat.zero_add, hd1]))
    rw [Nat.zero_mul, Nat.add_zero] at HC0
    have hle0 := altsN_le d' k'
    have hlen1 : 1 ≤ (Fo.cons d' k' n').len := by simp [Fo.len]
    have HD1 := Lib.hid hd1
    clear ih hk hf hlv hsz hd1
    generalize Fo.cons d' k' n' = K at c4 HC hlen hlen1 HD1 HF ⊢
    generalize altsN d' k' = a0 at HC0 hle0 HF
    have lp : (0 : Int) < (K.len : Int) := by omega
    have le0 : ((K.len : Int) == 0) = false := beq_eq_false_iff_ne.2 (by omega)
    have le1 : ¬ ((K.len : Int) = 0) := by omega
    go_enter Try.func101, Try.ntmps101
    go_wp2_with fail
    go_quiet (first | (go_at_call 101; refine Calls.quiet_of (HC0.out _)))
    all_goals go_wp2_with fail
    go_loopw [6, 7] (fun av iv wr => ∃ i al m : Nat, 1 ≤ i ∧ i ≤ K.len ∧ iv = .int .i64 (i : Int) ∧ av = .int .i64 (al : Int) ∧ al ≤ 65 ∧ Hid (wr = w.drewN m) ∧ Hid (altsN d K = altsG (K.drop i) (decide (d.kind = 4)) al)) (fun _ iv _ => K.len - (intOf iv).toNat)
    case atStart => exact ⟨1, a0, nq, Nat.le_refl _, hlen1, rfl, rfl, hle0, Lib.hid rfl, by rw [HD1.out]; exact HF⟩
    case round =>
      obtain ⟨i, al, m, hi1, hi, rfl, rfl, hal, HM, HT⟩ := hrel
      have hq' : wr.cell? ⟨q, 0, none⟩ = some (.func (.func 101) #[] #[.pointer (some ⟨q, 0, none⟩)]) := by rw [HM.out]; exact hq
      have c0' : wr.cell? ⟨b, o, none⟩ = some (.int .i64 d.kind) := by rw [HM.out]; exact c0
      have c4' : wr.cell? ⟨b, o + 4, none⟩ = some (.slice (some ⟨b', o', none⟩) K.len kc) := by rw [HM.out]; exact c4
      clear hq c0 c4
      by_cases hlt : i < K.len
      · have hlti : (i : Int) < (K.len : Int) := by omega
        have hlti' := decide_eq_true hlti
        have hi0 : (0 : Int) ≤ (i : Int) := by omega
        by_cases h65 : al < 65
        · have g1 : (al : Int) < 65 := by omega
          have g1' := decide_eq_true g1
          obtain ⟨d2, k2, hd⟩ := Fo.drop_cons hlt
          have HCi := Lib.hid (fun n : Nat => (by
            have := HC.out i d2 k2 hd (m + n)
            rw [← World.drewN_drewN, ← HM.out] at this
            exact this : Calls Try.prog 101 #[.pointer (some ⟨b', o' + i * 5, none⟩), .int .i64 ((lv : Int) + 1), .pointer (some ⟨q, 0, none⟩)] (wr.drewN n) fun e w' => e = .returned (.int .i64 (altsN d2 k2 : Int)) ∧ ∃ m', w' = (wr.drewN n).drewN m'))
          have ht := HT.out
          rw [hd, altsG_cons] at ht
          have hle := altsN_le d2 k2
          generalize altsN d2 k2 = x at HCi ht hle
          have HT := Lib.hid ht
          have hls := wr7 hlt (by omega)
          clear ht hd HF HC0 HC
          by_cases h4 : d.kind = 4
          · have h4' : (d.kind == 4) = true := beq_iff_eq.2 h4
            have HK : Hid (decide (d.kind = 4) = true) := Lib.hid (decide_eq_true h4)
            clear h4
            go_wp2_with fail
            go_quiet (first | (go_at_call 101; refine Calls.quiet_of (HCi.out _)))
            all_goals go_wp2
            all_goals exact ⟨⟨i + 1, min (al + x) 65, m + _, by omega, hlt, congrArg (Value.int .i64) (by omega), congrArg (Value.int .i64) (by omega), by omega, Lib.hid (by rw [HM.out, World.drewN_drewN]), Lib.hid (by rw [HT.out]; rw [HK.out]; rfl)⟩, meas7 hlt⟩
          · have h4' : (d.kind == 4) = false := beq_eq_false_iff_ne.2 h4
            have HK : Hid (decide (d.kind = 4) = false) := Lib.hid (decide_eq_false h4)
            have hmul := mul65 hal hle
            clear h4
            go_wp2_with fail
            go_quiet (first | (go_at_call 101; refine Calls.quiet_of (HCi.out _)))
            all_goals go_wp2
            all_goals exact ⟨⟨i + 1, min (al * x) 65, m + _, by omega, hlt, congrArg (Value.int .i64) (by omega), congrArg (Value.int .i64) (by first | (rw [Int.natCast_mul] at *; omega) | (rw [← Int.natCast_mul]; omega) | omega), by omega, Lib.hid (by rw [HM.out, World.drewN_drewN]), Lib.hid (by rw [HT.out]; rw [HK.out]; rfl)⟩, meas7 hlt⟩
        · obtain rfl : al = 65 := by omega
          have ht := HT.out
          rw [altsG_full] at ht
          have HT := Lib.hid ht
          clear ht
          go_wp2
          go_ret
          exact ⟨by rw [HT.out]; rfl, m, HM.out⟩
      · obtain rfl : i = K.len := by omega
        have hnl : ¬ ((K.len : Int) < (K.len : Int)) := by omega
        have ht := HT.out
        rw [Fo.drop_end (Nat.le_refl _)] at ht
        have HT := Lib.hid ht
        clear ht hlt
        go_wp2
        go_ret
        exact ⟨by rw [HT.out]; rfl, m, HM.out⟩
set_option maxRecDepth 100000 in
set_option maxHeartbeats 1000000 in
theorem cAlts_any (d : Nt) (k : Fo) (v : Value) (w : World) (hv : NdV w (fun x => x < w.heap.size) d k v) (hsz : szD d + szF k ≤ 1048576) :
    Calls Try.prog 65 #[v] w fun e w' => e = .returned (.int .i64 (altsN d k : Int)) ∧ Below w.heap.size w w' := by
  obtain ⟨ta, tc, ka, kc, rfl⟩ := hv.shape
  obtain ⟨W2, hW2⟩ : ∃ W2, W2 = (w.alloc (.cells #[.int .i64 d.kind, .string d.var, .string d.ty, .slice ta d.tests.length tc, .slice ka k.len kc] 25)).alloc (.cells #[.func (.func 101) #[] #[.pointer (some ⟨w.heap.size + 1, 0, none⟩)]] 97) := ⟨_, rfl⟩
  have hr1 : W2.heap[w.heap.size]? = some (.cells #[.int .i64 d.kind, .string d.var, .string d.ty, .slice ta d.tests.length tc, .slice ka k.len kc] 25 (0, 0)) := by
    rw [hW2]; exact heap_alloc_keeps (heap_alloc_new _ _) _
  have hr2 : W2.heap[w.heap.size + 1]? = some (.cells #[.func (.func 101) #[] #[.pointer (some ⟨w.heap.size + 1, 0, none⟩)]] 97 (0, 0)) := by
    have := heap_alloc_new (w.alloc (.cells #[.int .i64 d.kind, .string d.var, .string d.ty, .slice ta d.tests.length tc, .slice ka k.len kc] 25)) (.cells #[.func (.func 101) #[] #[.pointer (some ⟨w.heap.size + 1, 0, none⟩)]] 97)
    rw [hW2]; rwa [World.size_alloc] at this
  have hb2 : Below w.heap.size w W2 := by rw [hW2]; exact ((Below.refl _ _).alloc (Nat.le_refl _) _).alloc (by simp) _
  have hn := hv.boxed W2 hb2 w.heap.size hr1 (w.heap.size + 1) (Nat.le_succ _)
  have hdz : 1 + deepF k ≤ 1048576 := by have := deepF_sz k; simp only [szD] at hsz; omega
  have HC := Lib.hid (cAlts1_any (w.heap.size + 1) _ d k W2 w.heap.size 0 1 (cell_of_one hr2) hn hdz (by omega))
  rw [show ((1 : Nat) : Int) = 1 from rfl] at HC
  have HW := Lib.hid hW2; have HB := Lib.hid hb2
  clear hW2 hr1 hr2 hb2 hn hv hsz hdz
  go_enter Try.func65, Try.ntmps65
  go_wp2_with fail
  rw [← HW.out]
  go_wp2_with (first | (go_at_call 101; (with_reducible refine HC.out.mono ?_); rintro e w2 ⟨rfl, m, rfl⟩))
  go_ret
  exact ⟨rfl, below_dn7 HB.out m⟩
end Go.Proofs.Ytnfjodkpapmfkaa
