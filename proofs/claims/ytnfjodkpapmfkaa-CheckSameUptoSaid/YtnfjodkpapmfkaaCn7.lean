/- Contracts: which lists of conditions, which nodes may be: the program's calls. -/
import Derived.Test.YtnfjodkpapmfkaaTr7
namespace Go.Proofs.Ytnfjodkpapmfkaa
open Go Go.RowKit

theorem szC_wd {c : Cnd} (h : szC c ≤ 1048576) : wdC c := by
  unfold szC szO at h
  have : (1048576 : Nat) ≤ maxLen := by unfold maxLen; omega
  exact ⟨⟨by omega, by omega, by omega⟩, ⟨by omega, by omega, by omega⟩⟩
set_option maxRecDepth 100000 in
set_option maxHeartbeats 2000000 in
theorem cConds_any (cl : List Cnd) (ta : Option Addr) (tc : Nat) (G : Nat → Prop) (ao : Option Addr) (cap : Nat) (l : List Nm) (w : World) (hwd : ∀ c ∈ cl, wdC c) (hG : ∀ b, G b → b < w.heap.size) (hl : l.length ≤ 9223372036854775807) (hcl : cl.length ≤ 140737488355328)
    (hv : SsV w G (.slice ao l.length cap) l) (hc : CdV w G (.slice ta cl.length tc) cl) :
    Calls Try.prog 74 #[.slice ta cl.length tc, .slice ao l.length cap] w fun e w' => e = .returned (.int .i64 (condsE cl l)) ∧ Below w.heap.size w w' := by
  by_cases h16 : 16 < cl.length
  · have h1 : (16 : Int) < (cl.length : Int) := by omega
    have h1' := decide_eq_true h1
    unfold condsE
    rw [if_pos h16]
    clear hwd hv hc hG hl hcl h16
    go_enter Try.func74, Try.ntmps74
    go_wp2
    go_ret
    exact ⟨rfl, Below.refl _ _⟩
  · have h1 : ¬ (16 : Int) < (cl.length : Int) := by omega
    have h1' := decide_eq_false h1
    have HE : Hid (condsE cl l = if cl.all (fun c => okC c l) then 0 else 74) := by unfold condsE; rw [if_neg h16]; exact Lib.hid rfl
    have HC := Lib.hid (fun (u : World) (hu : Below w.heap.size w u) (c : Cnd) (hm : c ∈ cl) => cCond_any c G ao cap l u (hwd c hm) (fun b hb => Nat.lt_of_lt_of_le (hG b hb) hu.size) hl (hv.keep (fun b hb => hu.block b (hG b hb))))
    have HX := Lib.hid (fun (u : World) (hu : Below w.heap.size w u) => hc.keep (fun b hb => hu.block b (hG b hb)))
    have HN := Lib.hid hcl
    clear hwd hv hc hG hl h16 hcl
    go_enter Try.func74, Try.ntmps74
    go_wp2_with fail
    go_loopw [13] (fun iv wr => ∃ k : Nat, k ≤ cl.length ∧ iv = .int .i64 k ∧ Hid (∀ c ∈ cl.take k, okC c l = true) ∧ Hid (Below w.heap.size w wr)) (fun iv _ => cl.length - (intOf iv).toNat)
    case atStart => exact ⟨0, Nat.zero_le _, rfl, Lib.hid (by simp), Lib.hid (Below.refl _ _)⟩
    case round =>
      obtain ⟨k, hk, rfl, HA, HB⟩ := hrel
      by_cases hlt : k < cl.length
      · have hlti : (k : Int) < (cl.length : Int) := by omega
        have hls := wr7 hlt HN.out
        have hne : cl ≠ [] := fun h => by rw [h] at hlt; exact absurd hlt (Nat.not_lt_zero _)
        obtain ⟨ta', tc', he, hh⟩ := HX.out _ HB.out
        simp only [Value.slice.injEq, true_and] at he
        obtain ⟨rfl, rfl⟩ := he
        obtain ⟨b, o, rfl, hb, hat⟩ := hh hne
        obtain ⟨d0, d1, d2, d3, d4, d5, d6, d7, d8, d9, d10⟩ := hat.cells hlt
        have hm : cl[k] ∈ cl := List.getElem_mem _
        have HCk := Lib.hid (fun (u : World) (hu : Below w.heap.size w u) => HC.out u hu cl[k] hm)
        have HB0 := Lib.hid (HB.out.alloc HB.out.size (.cells #[.string cl[k].left.var, .string cl[k].left.attr, .int .i64 cl[k].left.vk, .int .i64 cl[k].left.vn, .string cl[k].left.vs, .int .i64 cl[k].rel, .string cl[k].right.var, .string cl[k].right.attr, .int .i64 cl[k].right.vk, .int .i64 cl[k].right.vn, .string cl[k].right.vs] 37))
        have HHM := Lib.hid hm
        have HAK : Hid (okC cl[k] l = true → ∀ c ∈ cl.take (k + 1), okC c l = true) := Lib.hid (fun ho c hc => by
          rw [List.take_succ_eq_append_getElem hlt, List.mem_append, List.mem_singleton] at hc
          rcases hc with hc | rfl
          · exact HA.out c hc
          · exact ho)
        unfold cdV condE at HCk
        clear hh hne hm hat hk
        generalize cl[k] = x at d0 d1 d2 d3 d4 d5 d6 d7 d8 d9 d10 HCk HB0 HHM HAK
        cases hok : okC x l with
        | true =>
          simp only [hok, if_true] at HCk
          go_wp2_with (first | (go_at_call 109; (with_reducible refine (HCk.out _ HB0.out).mono ?_); rintro e w2 ⟨rfl, hb2⟩; have HB2 := Lib.hid (HB0.out.trans (hb2.mono HB0.out.size)); clear hb2))
          go_roundw
          all_goals first
            | exact ⟨k + 1, hlt, by go_num, Lib.hid (HAK.out hok), HB2⟩
            | exact meas7 hlt
            | (rw [hls]; exact meas7 hlt)
        | false =>
          simp only [hok, Bool.false_eq_true, if_false] at HCk
          go_wp2_with (first | (go_at_call 109; (with_reducible refine (HCk.out _ HB0.out).mono ?_); rintro e w2 ⟨rfl, hb2⟩; have HB2 := Lib.hid (HB0.out.trans (hb2.mono HB0.out.size)); clear hb2))
          go_ret
          refine ⟨show Ending.returned (Value.int .i64 74) = _ from ?_, HB2.out⟩
          rw [HE.out, if_neg]
          intro hall
          have := List.all_eq_true.1 hall x HHM.out
          rw [hok] at this
          cases this
      · obtain rfl : k = cl.length := by omega
        have hnl : ¬ ((cl.length : Int) < (cl.length : Int)) := by omega
        clear hlt hk
        go_wp2
        go_ret
        refine ⟨show Ending.returned (Value.int .i64 0) = _ from ?_, HB.out⟩
        rw [HE.out, if_pos]
        rw [List.all_eq_true]
        intro c hc
        exact HA.out c (by rw [List.take_length]; exact hc)
theorem CdV.at0 {w : World} {G : Nat → Prop} {ta : Option Addr} {tc : Nat} (l : List Cnd) (h : CdV w G (.slice ta l.length tc) l) : CdV w G (.slice ta l.length tc) l := h
set_option maxRecDepth 100000 in
set_option maxHeartbeats 2000000 in
theorem cNode_any (d : Nt) (k : Fo) (b o : Nat) (w : World) (hn : NdP w (fun x => x < w.heap.size) d k b o) (hsz : szD d + szF k ≤ 1048576) :
    Calls Try.prog 64 #[.pointer (some ⟨b, o, none⟩)] w fun e w' => e = .returned (.int .i64 (nodeE d k.len)) ∧ Below w.heap.size w w' := by
  obtain ⟨ta, tc, ka, kc, c0, c1, c2, c3, c4, ht, _⟩ := hn
  have hmx : (1048576 : Nat) ≤ maxLen := by unfold maxLen; omega
  have hlen : k.len ≤ 1048576 := by have := szF_len k; omega
  obtain ⟨kind, var, ty, tests⟩ := d
  simp only [szD] at hsz
  simp only at c0 c1 c2 c3 ht
  have HV := Lib.hid (fun u : World => vName_any var u (by omega))
  have HY := Lib.hid (fun u : World => vName_any ty u (by omega))
  have HT := Lib.hid (cConds_any tests ta tc (fun x => x < w.heap.size) none 0 [] w (fun c hc => szC_wd (by have := szT_mem hc; omega)) (fun _ h => h) (by simp) (by have := szT_len tests; omega) (SsV.nil _ _) ht)
  rw [List.length_nil] at HT
  generalize k.len = n at hlen c4 ⊢
  clear hsz hmx ht
  unfold nodeE
  simp only
  by_cases h1 : kind = 1
  · subst h1
    rw [if_pos rfl]
    by_cases hn : 0 < n
    · rw [if_pos (Or.inl hn)]
      have g1 : (0 : Int) < (n : Int) := by omega
      have g1' := decide_eq_true g1
      clear HV HY HT
      go_enter Try.func64, Try.ntmps64
      go_wp2
      go_ret
      exact ⟨rfl, Below.refl _ _⟩
    · have g1 : ¬ (0 : Int) < (n : Int) := by omega
      have g1' := decide_eq_false g1
      cases hv : nameB var.data.toList with
      | false =>
        rw [if_pos (Or.inr (Or.inl (show nameB (nb var) = false from hv)))]
        simp only [hv] at HV
        clear HY HT hn
        go_enter Try.func64, Try.ntmps64
        go_wp2_with (go_at_call 72; (with_reducible refine (HV.out _).mono ?_); rintro e u ⟨rfl, rfl⟩)
        go_ret
        exact ⟨rfl, Below.refl _ _⟩
      | true =>
        simp only [hv] at HV
        cases hy : nameB ty.data.toList with
        | false =>
          rw [if_pos (Or.inr (Or.inr (show nameB (nb ty) = false from hy)))]
          simp only [hy] at HY
          clear HT hn
          go_enter Try.func64, Try.ntmps64
          go_wp2_with (go_at_call 72; first | ((with_reducible refine (HV.out _).mono ?_); rintro e u ⟨rfl, rfl⟩; clear HV) | ((with_reducible refine (HY.out _).mono ?_); rintro e u ⟨rfl, rfl⟩))
          go_ret
          exact ⟨rfl, Below.refl _ _⟩
        | true =>
          rw [if_neg (fun h => h.elim hn (fun h => h.elim (fun h => by rw [show nameB (nb var) = true from hv] at h; cases h) (fun h => by rw [show nameB (nb ty) = true from hy] at h; cases h)))]
          simp only [hy] at HY
          clear hn
          go_enter Try.func64, Try.ntmps64
          go_wp2_with (first
            | (go_at_call 72; (first | ((with_reducible refine (HV.out _).mono ?_); rintro e u ⟨rfl, rfl⟩; clear HV) | ((with_reducible refine (HY.out _).mono ?_); rintro e u ⟨rfl, rfl⟩)))
            | (go_at_call 74; (with_reducible refine HT.out.mono ?_); rintro e u ⟨rfl, hb⟩; have HF := Lib.hid hb; clear hb))
          go_ret
          exact ⟨rfl, HF.out⟩
  · rw [if_neg h1]
    have b1 : (kind == 1) = false := beq_eq_false_iff_ne.2 h1
    clear HV HY HT
    by_cases h2 : kind = 2 ∨ kind = 3 ∨ kind = 4
    · rw [if_pos h2]
      by_cases hn : 2 ≤ n
      · have g1 : (2 : Int) ≤ (n : Int) := by omega
        have g1' := decide_eq_true g1
        by_cases hv : var = em
        · by_cases hy : ty = em
          · by_cases hts : tests = []
            · rw [if_pos ⟨hn, hv, hy, hts⟩]
              subst hv hy hts
              rw [List.length_nil] at c3
              unfold em at c1 c2
              rcases h2 with rfl | rfl | rfl
              all_goals go_enter Try.func64, Try.ntmps64
              all_goals go_wp2
              all_goals go_ret
              all_goals exact ⟨rfl, Below.refl _ _⟩
            · rw [if_neg (fun h => hts h.2.2.2)]
              have t1 : ¬ ((tests.length : Int) = 0) := by have := List.length_pos_iff.2 hts; omega
              have t2 : ((tests.length : Int) == 0) = false := beq_eq_false_iff_ne.2 t1
              subst hv hy
              unfold em at c1 c2
              generalize tests.length = m at c3 t1 t2
              clear hts
              rcases h2 with rfl | rfl | rfl
              all_goals go_enter Try.func64, Try.ntmps64
              all_goals go_wp2
              all_goals go_ret
              all_goals exact ⟨rfl, Below.refl _ _⟩
          · rw [if_neg (fun h => hy h.2.2.1)]
            have n1 := ne_em2 hy; have n2 := ne_em3 hy
            subst hv
            unfold em at c1
            clear hy
            rcases h2 with rfl | rfl | rfl
            all_goals go_enter Try.func64, Try.ntmps64
            all_goals go_wp2
            all_goals go_ret
            all_goals exact ⟨rfl, Below.refl _ _⟩
        · rw [if_neg (fun h => hv h.2.1)]
          have n1 := ne_em2 hv; have n2 := ne_em3 hv
          clear hv
          rcases h2 with rfl | rfl | rfl
          all_goals go_enter Try.func64, Try.ntmps64
          all_goals go_wp2
          all_goals go_ret
          all_goals exact ⟨rfl, Below.refl _ _⟩
      · rw [if_neg (fun h => hn h.1)]
        have g1 : ¬ (2 : Int) ≤ (n : Int) := by omega
        have g1' := decide_eq_false g1
        clear hn
        rcases h2 with rfl | rfl | rfl
        all_goals go_enter Try.func64, Try.ntmps64
        all_goals go_wp2
        all_goals go_ret
        all_goals exact ⟨rfl, Below.refl _ _⟩
    · rw [if_neg h2]
      have b2 : (kind == 2) = false := beq_eq_false_iff_ne.2 (fun h => h2 (.inl h))
      have b3 : (kind == 3) = false := beq_eq_false_iff_ne.2 (fun h => h2 (.inr (.inl h)))
      have b4 : (kind == 4) = false := beq_eq_false_iff_ne.2 (fun h => h2 (.inr (.inr h)))
      clear h1 h2
      go_enter Try.func64, Try.ntmps64
      go_wp2
      go_ret
      exact ⟨rfl, Below.refl _ _⟩
end Go.Proofs.Ytnfjodkpapmfkaa
