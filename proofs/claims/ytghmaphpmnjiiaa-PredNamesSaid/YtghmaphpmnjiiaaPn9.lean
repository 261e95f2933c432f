/- The walk of PredNames. -/
import Derived.Test.YtghmaphpmnjiiaaDt9
import Derived.Test.YtghmaphpmnjiiaaLv9
import Derived.Test.YtghmaphpmnjiiaaSc9
namespace Go.Proofs.Ytghmaphpmnjiiaa
open Go Go.RowKit Go.Sort

theorem ss_low {u u' : World} {v : Value} {l : List Nm} (h : SsV u (fun b => b < u.heap.size) v l) (hb : Below u.heap.size u u') : SsV u' (fun b => b < u'.heap.size) v l := (h.keep (fun b hb2 => hb.block b hb2)).mono (fun b hb2 => Nat.lt_of_lt_of_le hb2 hb.size)
theorem cd_low {u u' : World} {v : Value} {l : List Cnd} (h : CdV u (fun b => b < u.heap.size) v l) (hb : Below u.heap.size u u') : CdV u' (fun b => b < u'.heap.size) v l := (h.keep (fun b hb2 => hb.block b hb2)).mono (fun b hb2 => Nat.lt_of_lt_of_le hb2 hb.size)
theorem below_drewN9 (w : World) (n : Nat) : Below w.heap.size w (w.drewN n) := below_dn7 (Below.refl _ _) n
set_option maxRecDepth 100000 in
set_option maxHeartbeats 4000000 in
theorem names9_walk (cl : List Cnd) (ta : Option Addr) (tc : Nat) (ao : Option Addr) (cap : Nat) (l : List Nm) (w : World) (hs : SsV w (fun b => b < w.heap.size) (.slice ao l.length cap) l) (hn : l.length ≤ 140737488355328) (hwl : ∀ x ∈ l, x.length ≤ maxLen)
    (hc : CdV w (fun x => x < w.heap.size) (.slice ta cl.length tc) cl) (hcl : cl.length * 136 ≤ 140737488355328) (hwc : ∀ c ∈ cl, wdC c) :
    Calls Try.prog 10 #[.slice ta cl.length tc, .slice ao l.length cap] w fun e w' => e = .returned (.bool true) ∧ Below w.heap.size w w' := by
  have HL := Lib.hid (live9_any w)
  have HS := Lib.hid (fun (u : World) (hu : Below w.heap.size w u) => ss_low hs hu)
  have HC := Lib.hid (fun (u : World) (hu : Below w.heap.size w u) => cd_low hc hu)
  have HX := Lib.hid (fun (u : World) (hu : Below w.heap.size w u) => hc.keep (fun b hb => hu.block b hb))
  have HP := Lib.hid (fun (u : World) (hu : Below w.heap.size w u) => pSplit_any cl ta tc ao cap l u (ss_low hs hu) hn hwl (cd_low hc hu) hcl hwc)
  have HR := Lib.hid (fun (u : World) (hu : Below w.heap.size w u) => r9Split_any cl ta tc ao cap l u (ss_low hs hu) hn (cd_low hc hu) hcl)
  have HN := Lib.hid hcl; have HLN := Lib.hid hn
  clear hs hn hwl hc hcl hwc
  go_enter Try.func10, Try.ntmps10
  go_wp2_with (first | (go_at_call 38; (with_reducible refine HL.out.mono ?_); rintro e w0 ⟨rfl, hb0⟩; have HB0 := Lib.hid hb0; clear hb0))
  go_loopw [15] (fun iv wr => ∃ k : Nat, k ≤ cl.length ∧ iv = .int .i64 k ∧ Hid (Below w.heap.size w wr)) (fun iv _ => cl.length - (intOf iv).toNat)
  case atStart => exact ⟨0, Nat.zero_le _, rfl, HB0⟩
  case round =>
    obtain ⟨k, hk, rfl, HB⟩ := hrel
    by_cases hlt : k < cl.length
    · have hlti : (k : Int) < (cl.length : Int) := by omega
      have hls := wr7 hlt (by have := HN.out; omega)
      have hne : cl ≠ [] := fun h => by rw [h] at hlt; exact absurd hlt (Nat.not_lt_zero _)
      obtain ⟨ta', tc', he, hh⟩ := HX.out _ HB.out
      simp only [Value.slice.injEq, true_and] at he
      obtain ⟨rfl, rfl⟩ := he
      obtain ⟨b, o, rfl, hb, hat⟩ := hh hne
      obtain ⟨d0, d1, d2, d3, d4, d5, d6, d7, d8, d9, d10⟩ := hat.cells hlt
      have HLT := Lib.hid hlt
      clear hh hne hat hk hb
      generalize cl[k] = x at d0 d1 d2 d3 d4 d5 d6 d7 d8 d9 d10
      clear hlt
      obtain ⟨W, hW⟩ : ∃ W, W = wr.alloc (.cells #[.string x.left.var, .string x.left.attr, .int .i64 x.left.vk, .int .i64 x.left.vn, .string x.left.vs, .int .i64 x.rel, .string x.right.var, .string x.right.attr, .int .i64 x.right.vk, .int .i64 x.right.vn, .string x.right.vs] 56) := ⟨_, rfl⟩
      obtain ⟨Q, hQ⟩ : ∃ Q, Q = wr.heap.size := ⟨_, rfl⟩
      have hq : W.heap[Q]? = some (.cells #[.string x.left.var, .string x.left.attr, .int .i64 x.left.vk, .int .i64 x.left.vn, .string x.left.vs, .int .i64 x.rel, .string x.right.var, .string x.right.attr, .int .i64 x.right.vk, .int .i64 x.right.vn, .string x.right.vs] 56 (0, 0)) := by rw [hW, hQ]; exact heap_alloc_new _ _
      have hbW : Below w.heap.size w W := by rw [hW]; exact HB.out.alloc HB.out.size _
      have HXC := Lib.hid (fun (u : World) (hu : Below W.heap.size W u) => cell_of_eleven ((hu.block Q (lt_of_block hq)).trans hq))
      have H1 := Lib.hid (fun u : World => pNames_any x u)
      have H2 := Lib.hid (fun u : World => r9Names_any x u)
      have HEQ := Lib.hid (fun (u : World) (v1 v2 : Value) (h1 : SsV u (fun b => b < u.heap.size) v1 (namesC x)) (h2 : SsV u (fun b => b < u.heap.size) v2 (namesC x)) => (by have := EqualStr_any (namesC x) (namesC x) v1 v2 _ u h1 h2 (by have := names_len x; omega); simpa using this : Calls Try.prog 49 #[v1, v2] u fun e w' => e = .returned (.bool true) ∧ ∃ q, w' = u.drewN q))
      have H3 := Lib.hid (fun (u : World) (hu : Below W.heap.size W u) => pReady_any x ao cap l u (HS.out u (hbW.trans (hu.mono hbW.size))) (Nat.le_trans HLN.out (by omega)))
      have H4 := Lib.hid (fun (u : World) (hu : Below W.heap.size W u) => r9Ready_any x ao cap l u (HS.out u (hbW.trans (hu.mono hbW.size))) HLN.out)
      have HBW := Lib.hid hbW
      have B2 := Lib.hid (Below.refl W.heap.size W)
      have HWW := Lib.hid hW; have HQQ := Lib.hid hQ
      clear hW hQ hq hbW
      unfold cdV at H1 H2 H3 H4
      generalize readyB x l = r at H3 H4
      have hr1 : (r != r) = false := by simp
      have hr2 : (r == r) = true := by simp
      generalize namesC x = L at H1 H2 HEQ
      go_wp2_with fail
      rw [← HWW.out, ← HQQ.out]
      obtain ⟨c0, c1, c2, c3, c4, c5, c6, c7, c8, c9, c10⟩ := HXC.out _ B2.out
      go_region_held3 (fun u => u.cell? ⟨Q, 0, none⟩ = some (.string x.left.var) ∧ u.cell? ⟨Q, 1, none⟩ = some (.string x.left.attr) ∧ u.cell? ⟨Q, 2, none⟩ = some (.int .i64 x.left.vk) ∧ u.cell? ⟨Q, 3, none⟩ = some (.int .i64 x.left.vn) ∧ u.cell? ⟨Q, 4, none⟩ = some (.string x.left.vs) ∧ u.cell? ⟨Q, 5, none⟩ = some (.int .i64 x.rel) ∧ u.cell? ⟨Q, 6, none⟩ = some (.string x.right.var) ∧ u.cell? ⟨Q, 7, none⟩ = some (.string x.right.attr) ∧ u.cell? ⟨Q, 8, none⟩ = some (.int .i64 x.right.vk) ∧ u.cell? ⟨Q, 9, none⟩ = some (.int .i64 x.right.vn) ∧ u.cell? ⟨Q, 10, none⟩ = some (.string x.right.vs)) (first | exact ⟨c0, c1, c2, c3, c4, c5, c6, c7, c8, c9, c10⟩ | go_keep)
        (first
          | (go_at_call 50; (with_reducible refine (H1.out _).mono ?_); rintro e u1 ⟨v1, rfl, hs1, hb⟩; have B2 := Lib.hid (B2.out.drew.trans (hb.mono B2.out.drew.size)); have HS1 := Lib.hid hs1; clear hs1 hb c0 c1 c2 c3 c4 c5 c6 c7 c8 c9 c10; obtain ⟨c0, c1, c2, c3, c4, c5, c6, c7, c8, c9, c10⟩ := HXC.out _ B2.out)
          | (go_at_call 51; (with_reducible refine (H2.out _).mono ?_); rintro e u2 ⟨v2, rfl, hs2, hb⟩; have B2 := Lib.hid (B2.out.trans (hb.mono B2.out.size)); have HS1 := Lib.hid (ss_low HS1.out hb); have HS2 := Lib.hid hs2; clear hs2 hb c0 c1 c2 c3 c4 c5 c6 c7 c8 c9 c10; obtain ⟨c0, c1, c2, c3, c4, c5, c6, c7, c8, c9, c10⟩ := HXC.out _ B2.out)
          | (go_at_call 49; (with_reducible refine (HEQ.out _ _ _ HS1.out HS2.out).mono ?_); rintro e u3 ⟨rfl, q, rfl⟩; have B2 := Lib.hid (B2.out.trans ((below_drewN9 _ q).mono B2.out.size)); clear c0 c1 c2 c3 c4 c5 c6 c7 c8 c9 c10; obtain ⟨c0, c1, c2, c3, c4, c5, c6, c7, c8, c9, c10⟩ := HXC.out _ B2.out)
          | (go_at_call 52; (with_reducible refine (H3.out _ B2.out).mono ?_); rintro e u4 ⟨rfl, hb⟩; have B2 := Lib.hid (B2.out.trans (hb.mono B2.out.size)); clear hb c0 c1 c2 c3 c4 c5 c6 c7 c8 c9 c10; obtain ⟨c0, c1, c2, c3, c4, c5, c6, c7, c8, c9, c10⟩ := HXC.out _ B2.out)
          | (go_at_call 53; (with_reducible refine (H4.out _ B2.out).mono ?_); rintro e u5 ⟨rfl, hb⟩; have B2 := Lib.hid (B2.out.trans (hb.mono B2.out.size)); clear hb c0 c1 c2 c3 c4 c5 c6 c7 c8 c9 c10; obtain ⟨c0, c1, c2, c3, c4, c5, c6, c7, c8, c9, c10⟩ := HXC.out _ B2.out))
      all_goals
        have HB9 := Lib.hid (HBW.out.trans (B2.out.mono HBW.out.size))
        go_wp2
        go_roundw
        all_goals first
          | exact ⟨k + 1, HLT.out, by go_num, HB9⟩
          | exact meas7 HLT.out
          | (rw [hls]; exact meas7 HLT.out)
    · obtain rfl : k = cl.length := by omega
      have hnl : ¬ ((cl.length : Int) < (cl.length : Int)) := by omega
      have HSC := Lib.hid (fun (u : World) (va vb : Value) (la : List Cnd) (h1 : CdV u (fun b => b < u.heap.size) va la) (h2 : CdV u (fun b => b < u.heap.size) vb la) (hla : la.length ≤ 140737488355328) => (by have := r7SameConds_any la la va vb _ u h1 h2 hla; simpa using this : Calls Try.prog 56 #[va, vb] u fun e w' => e = .returned (.bool true) ∧ ∃ q, w' = u.drewN q))
      have hla : ∀ p : Cnd → Bool, (cl.filter p).length ≤ 140737488355328 := fun p => Nat.le_trans (List.length_filter_le _ _) (by have := HN.out; omega)
      have HLA := Lib.hid (hla fun c => readyB c l); have HLB := Lib.hid (hla fun c => !readyB c l)
      generalize (cl.filter fun c => readyB c l) = la at HP HR HLA
      generalize (cl.filter fun c => !readyB c l) = lb at HP HR HLB
      clear hlt hk hla
      go_wp2_with (first
        | (go_at_call 54; (with_reducible refine (HP.out _ HB.out).mono ?_); rintro e u1 ⟨va, vb, rfl, ht, hb⟩; have HB1 := Lib.hid (HB.out.trans (hb.mono HB.out.size)); have HA1 := Lib.hid (And.intro ht.a.cd ht.b.cd); clear ht hb)
        | (go_at_call 55; (with_reducible refine (HR.out _ HB1.out).mono ?_); rintro e u2 ⟨vc, vd, rfl, ht, hb⟩; have HB2 := Lib.hid (HB1.out.trans (hb.mono HB1.out.size)); have HA2 := Lib.hid (And.intro ht.a.cd ht.b.cd); have HA3 := Lib.hid (And.intro (cd_low HA1.out.1 hb) (cd_low HA1.out.2 hb)); clear ht hb)
        | (go_at_call 56; (with_reducible refine (HSC.out _ va vc la HA3.out.1 HA2.out.1 HLA.out).mono ?_); rintro e u3 ⟨rfl, q, rfl⟩; have HA4 := Lib.hid (And.intro (cd_low HA3.out.2 (below_drewN9 u2 q)) (cd_low HA2.out.2 (below_drewN9 u2 q))); have HB3 := Lib.hid (below_dn7 HB2.out q))
        | (go_at_call 56; (with_reducible refine (HSC.out _ vb vd lb HA4.out.1 HA4.out.2 HLB.out).mono ?_); rintro e u4 ⟨rfl, q2, rfl⟩; have HB4 := Lib.hid (below_dn7 HB3.out q2)))
      go_ret
      exact ⟨rfl, by first | exact HB4.out | exact below_dn7 HB2.out _⟩
end Go.Proofs.Ytghmaphpmnjiiaa
