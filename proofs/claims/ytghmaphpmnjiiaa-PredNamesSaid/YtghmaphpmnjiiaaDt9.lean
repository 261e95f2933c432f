/- Contracts: which conditions are ready, and how they are parted, as the document tells it. -/
import Derived.Test.YtghmaphpmnjiiaaDs9
namespace Go.Proofs.Ytghmaphpmnjiiaa
open Go Go.RowKit Go.Sort

theorem names_ready (c : Cnd) (l : List Nm) : ((namesC c).all fun x => decide (x ∈ l)) = readyB c l := by
  unfold readyB knownB
  by_cases h1 : c.left.attr = em <;> by_cases h2 : c.right.attr = em
  · rw [names_none h1 h2]; simp [h1, h2]
  · rw [names_right h1 h2]; simp [h1, h2]
  · rw [names_left h1 h2]; simp [h1, h2]
  · by_cases h3 : c.left.var = c.right.var
    · rw [names_same h1 h2 h3]; simp [h1, h2, h3]
    · by_cases h4 : nb c.left.var < nb c.right.var
      · rw [names_lt h1 h2 h4]; simp [h1, h2]
      · rw [names_gt h1 h2 h3 h4]; simp [h1, h2, Bool.and_comm]
theorem names_len (c : Cnd) : (namesC c).length ≤ 2 := by
  have := varsC_len c
  have h2 := sortS_len (varsC c)
  have h3 := compS_le (sortS (varsC c))
  unfold namesC; omega
set_option maxRecDepth 100000 in
set_option maxHeartbeats 2000000 in
theorem r9Ready_any (c : Cnd) (ao : Option Addr) (cap : Nat) (l : List Nm) (w : World) (h : SsV w (fun b => b < w.heap.size) (.slice ao l.length cap) l) (hn : l.length ≤ 140737488355328) :
    Calls Try.prog 53 #[cdV c, .slice ao l.length cap] w fun e w' => e = .returned (.bool (readyB c l)) ∧ Below w.heap.size w w' := by
  rw [← names_ready]
  obtain ⟨P, hP⟩ : ∃ P, P = w.heap.size := ⟨_, rfl⟩
  obtain ⟨W, hW⟩ : ∃ W, W = w.alloc (.cells #[.string c.left.var, .string c.left.attr, .int .i64 c.left.vk, .int .i64 c.left.vn, .string c.left.vs, .int .i64 c.rel, .string c.right.var, .string c.right.attr, .int .i64 c.right.vk, .int .i64 c.right.vn, .string c.right.vs] 56) := ⟨_, rfl⟩
  have hb : Below P w W := by rw [hW, hP]; exact (Below.refl _ _).alloc (Nat.le_refl _) _
  have HN := Lib.hid (r9Names_any c W)
  have HS := Lib.hid (fun (u : World) (hu : Below P w u) => (h.keep (fun b hbb => hu.block b (by omega))))
  have HL := Lib.hid hn
  have HLN := Lib.hid (names_len c)
  have HP := Lib.hid hP; have HB := Lib.hid hb; have HBS := Lib.hid hb.size
  rw [hW] at HN
  have HW := Lib.hid hW
  unfold cdV at HN ⊢
  have HPW := Lib.hid (Nat.le_of_eq hP)
  clear h hn hb hP hW
  generalize namesC c = L at HN HLN
  go_enter Try.func53, Try.ntmps53
  go_wp2_with (first | (go_at_call 51; (with_reducible refine HN.out.mono ?_); rintro e u1 ⟨v', rfl, hs, hb1⟩; rw [← HW.out] at hb1; have HB1 := Lib.hid (HB.out.trans (hb1.mono (Nat.le_trans HPW.out HBS.out))); have HSV := Lib.hid hs; clear hs hb1))
  obtain ⟨a1, c1, rfl, hcc⟩ := HSV.out
  have HCC := Lib.hid hcc
  clear hcc
  go_loopw [6] (fun iv wr => ∃ k : Nat, k ≤ L.length ∧ iv = .int .i64 k ∧ Hid (∀ x ∈ L.take k, decide (x ∈ l) = true) ∧ u1 = wr) (fun iv _ => L.length - (intOf iv).toNat)
  case atStart => exact ⟨0, Nat.zero_le _, rfl, Lib.hid (by simp), rfl⟩
  case round =>
    obtain ⟨k, hk, rfl, HA, rfl⟩ := hrel
    by_cases hlt : k < L.length
    · have hlti : (k : Int) < (L.length : Int) := by omega
      have hls := wr7 hlt (by have := HLN.out; omega)
      obtain ⟨b, o, rfl, hb, hc⟩ := HCC.out (fun h => by rw [h] at hlt; exact absurd hlt (Nat.not_lt_zero _))
      have d0 := hc k _ (List.getElem?_eq_getElem hlt)
      have hm : L[k] ∈ L := List.getElem_mem _
      have HHM := Lib.hid hm
      have HAK : Hid (decide (L[k] ∈ l) = true → ∀ x ∈ L.take (k + 1), decide (x ∈ l) = true) := Lib.hid (fun ho x hx => by
        rw [List.take_succ_eq_append_getElem hlt, List.mem_append, List.mem_singleton] at hx
        rcases hx with hx | rfl
        · exact HA.out x hx
        · exact ho)
      have HCk := Lib.hid (r7Has_any l (ba L[k]) _ ao cap u1 (HS.out _ HB1.out) HL.out)
      rw [nb_ba] at HCk
      clear hc hm hk hb
      have HLT := Lib.hid hlt
      generalize L[k] = x at d0 HHM HAK HCk
      clear hlt
      cases hok : decide (x ∈ l) with
      | true =>
        rw [hok] at HCk
        go_wp2_with (first | (go_at_call 96; (with_reducible refine HCk.out.mono ?_); rintro e w2 ⟨rfl, rfl⟩))
        go_roundw
        all_goals first
          | exact ⟨k + 1, HLT.out, by go_num, Lib.hid (HAK.out hok), rfl⟩
          | exact ⟨k + 1, HLT.out, by go_num, Lib.hid (HAK.out hok), trivial⟩
          | exact meas7 HLT.out
          | (rw [hls]; exact meas7 HLT.out)
      | false =>
        rw [hok] at HCk
        go_wp2_with (first | (go_at_call 96; (with_reducible refine HCk.out.mono ?_); rintro e w2 ⟨rfl, rfl⟩))
        go_ret
        refine ⟨show Ending.returned (Value.bool false) = _ from ?_, by rw [← HP.out]; exact HB1.out⟩
        rw [show (L.all fun x => decide (x ∈ l)) = false from ?_]
        rw [Bool.eq_false_iff]
        intro hall
        have := List.all_eq_true.1 hall x HHM.out
        rw [hok] at this
        cases this
    · obtain rfl : k = L.length := by omega
      have hnl : ¬ ((L.length : Int) < (L.length : Int)) := by omega
      clear hlt hk
      go_wp2
      go_ret
      refine ⟨show Ending.returned (Value.bool true) = _ from ?_, by rw [← HP.out]; exact HB1.out⟩
      rw [show (L.all fun x => decide (x ∈ l)) = true from ?_]
      rw [List.all_eq_true]
      intro x hx
      exact HA.out x (by rw [List.take_length]; exact hx)

set_option maxRecDepth 100000 in
set_option maxHeartbeats 4000000 in
theorem r9Split_any (cl : List Cnd) (ta : Option Addr) (tc : Nat) (ao : Option Addr) (cap : Nat) (l : List Nm) (w : World) (hs : SsV w (fun b => b < w.heap.size) (.slice ao l.length cap) l) (hn : l.length ≤ 140737488355328)
    (hc : CdV w (fun x => x < w.heap.size) (.slice ta cl.length tc) cl) (hcl : cl.length * 136 ≤ 140737488355328) :
    Calls Try.prog 55 #[.slice ta cl.length tc, .slice ao l.length cap] w fun e w' => ∃ va vb, e = .returned (.tuple #[va, vb]) ∧ Two9 w' w.heap.size va vb (cl.filter fun c => readyB c l) (cl.filter fun c => !readyB c l) ∧ Below w.heap.size w w' := by
  obtain ⟨i0, hi, hz0, hz1, hz2⟩ := info_parts infoCd9
  have HC := Lib.hid (fun (u : World) (hu : Below w.heap.size w u) (c : Cnd) => r9Ready_any c ao cap l u ((hs.keep (fun b hb => hu.block b hb)).mono (fun b hb => Nat.lt_of_lt_of_le hb hu.size)) hn)
  have HX := Lib.hid (fun (u : World) (hu : Below w.heap.size w u) => hc.keep (fun b hb => hu.block b hb))
  have HN := Lib.hid hcl
  clear hc hcl hs hn
  obtain ⟨p, hp⟩ : ∃ p : Cnd → Bool, p = fun c => readyB c l := ⟨_, rfl⟩
  have HP := Lib.hid hp
  rw [show (cl.filter fun c => readyB c l) = cl.filter p by rw [hp], show (cl.filter fun c => !readyB c l) = cl.filter fun c => !p c by rw [hp]]
  clear hp
  go_enter Try.func55, Try.ntmps55
  go_wp2_with fail
  go_loopw [6, 7, 8] (fun va vb iv wr => ∃ (k : Nat) (la lb : List Cnd), k ≤ cl.length ∧ iv = .int .i64 k ∧ Hid (la = (cl.take k).filter p) ∧ Hid (lb = (cl.take k).filter fun c => !p c) ∧ Hid (Two9 wr w.heap.size va vb la lb) ∧ Hid (Below w.heap.size w wr)) (fun _ _ iv _ => cl.length - (intOf iv).toNat)
  case atStart => exact ⟨0, [], [], Nat.zero_le _, rfl, Lib.hid (by simp), Lib.hid (by simp), Lib.hid ⟨World.ownsRow_nil _ _ _ _, World.ownsRow_nil _ _ _ _, fun g h => by cases h⟩, Lib.hid (Below.refl _ _)⟩
  case round =>
    obtain ⟨k, la, lb, hk, rfl, HA, HBB, HT, HB⟩ := hrel
    by_cases hlt : k < cl.length
    · have hlti : (k : Int) < (cl.length : Int) := by omega
      have hls := wr7 hlt (by have := HN.out; omega)
      have hwI := wrI7 hlt (by have := HN.out; omega)
      have hne : cl ≠ [] := fun h => by rw [h] at hlt; exact absurd hlt (Nat.not_lt_zero _)
      obtain ⟨ta', tc', he, hh⟩ := HX.out _ HB.out
      simp only [Value.slice.injEq, true_and] at he
      obtain ⟨rfl, rfl⟩ := he
      obtain ⟨b, o, rfl, hb, hat0⟩ := hh hne
      have HEL := Lib.hid (fun (u : World) (hu : Below w.heap.size w u) => by
        obtain ⟨_, _, he2, hh2⟩ := HX.out _ hu
        simp only [Value.slice.injEq, true_and] at he2
        obtain ⟨rfl, rfl⟩ := he2
        obtain ⟨b2, o2, he3, _, hat2⟩ := hh2 hne
        simp only [Option.some.injEq, Addr.mk.injEq, and_true] at he3
        obtain ⟨rfl, rfl⟩ := he3
        exact hat2.cells hlt)
      obtain ⟨d0, d1, d2, d3, d4, d5, d6, d7, d8, d9, d10⟩ := HEL.out _ HB.out
      have HCk := Lib.hid (fun (u : World) (hu : Below w.heap.size w u) => HC.out u hu cl[k])
      rw [show readyB cl[k] l = p cl[k] by rw [HP.out]] at HCk
      have HFA := Lib.hid (show (p cl[k] = true → Hid (la ++ [cl[k]] = (cl.take (k + 1)).filter p)) ∧ (p cl[k] = true → Hid (lb = (cl.take (k + 1)).filter fun c => !p c)) ∧ la.length ≤ k from ⟨fun h => Lib.hid (by rw [(filt_t hlt h).1, HA.out]), fun h => Lib.hid (by rw [(filt_t hlt h).2, HBB.out]), by rw [HA.out]; exact filt_len _ _ _⟩)
      have HFB := Lib.hid (show (p cl[k] = false → Hid (la = (cl.take (k + 1)).filter p)) ∧ (p cl[k] = false → Hid (lb ++ [cl[k]] = (cl.take (k + 1)).filter fun c => !p c)) ∧ lb.length ≤ k from ⟨fun h => Lib.hid (by rw [(filt_f hlt h).1, HA.out]), fun h => Lib.hid (by rw [(filt_f hlt h).2, HBB.out]), by rw [HBB.out]; exact filt_len _ _ _⟩)
      have hltH := Lib.hid hlt
      have hk0 : (0 : Int) ≤ (k : Int) := by omega
      unfold cdV at HCk
      clear hh hne hat0 hk hb
      generalize cl[k] = x at d0 d1 d2 d3 d4 d5 d6 d7 d8 d9 d10 HCk HFA HFB HEL
      cases hok : p x with
      | true =>
        simp only [hok] at HCk
        have HLN := Lib.hid (room9 HFA.out.2.2 hlt HN.out)
        clear hlt
        go_wp2_with (first
          | (go_at_call 53; (with_reducible refine (HCk.out _ HB.out).mono ?_); rintro e u1 ⟨rfl, hb2⟩; have HB1 := Lib.hid (HB.out.trans (hb2.mono HB.out.size)); have HT1 := Lib.hid (HT.out.below hb2); have HT2 := Lib.hid (HT1.out.below ((Below.refl u1.heap.size u1).alloc (Nat.le_refl _) (.cells #[.string x.left.var, .string x.left.attr, .int .i64 x.left.vk, .int .i64 x.left.vn, .string x.left.vs, .int .i64 x.rel, .string x.right.var, .string x.right.attr, .int .i64 x.right.vk, .int .i64 x.right.vn, .string x.right.vs] 56))); have HB2 := Lib.hid (HB1.out.alloc HB1.out.size (.cells #[.string x.left.var, .string x.left.attr, .int .i64 x.left.vk, .int .i64 x.left.vn, .string x.left.vs, .int .i64 x.rel, .string x.right.var, .string x.right.attr, .int .i64 x.right.vk, .int .i64 x.right.vn, .string x.right.vs] 56)); clear hb2 d0 d1 d2 d3 d4 d5 d6 d7 d8 d9 d10; obtain ⟨d0, d1, d2, d3, d4, d5, d6, d7, d8, d9, d10⟩ := HEL.out _ HB1.out)
          | (at_builtin; (refine wpList_append_own_at _ rfl (.tmp 21) (.tmp 26) 22 rfl w.heap.size 56 i0 (.agg #[.string ⟨#[]⟩, .string ⟨#[]⟩, .int .i64 0, .int .i64 0, .string ⟨#[]⟩, .int .i64 0, .string ⟨#[]⟩, .string ⟨#[]⟩, .int .i64 0, .int .i64 0, .string ⟨#[]⟩]) 11 136 Try.underlying22 hi hz0 hz1 hz2 rfl (by decide) _ la.length (la.flatMap encC) rfl HT2.out.a ⟨u1.heap.size, 0, none⟩ 1 1 (encC x) rfl rfl (cells_fresh9 u1 x) (encC_one9 x) HLN.out.1 HLN.out.2 (by have := HB1.out.size; simp; omega) ?_; intro v4 w4 hown4 hgrow4 hnil4 hat4; clear hnil4; have HT4 := Lib.hid (HT2.out.step hown4 hgrow4 hat4); have HB4 := Lib.hid (HB2.out.grown hgrow4 (by have := HB1.out.size; simp; omega) (fun k hk => (HT2.out.a.lt k hk).1)); clear hown4 hgrow4 hat4)))
        go_roundw
        all_goals first
          | exact ⟨k + 1, la ++ [x], lb, hltH.out, by go_num, HFA.out.1 hok, HFA.out.2.1 hok, HT4, HB4⟩
          | exact meas7 hltH.out
          | (rw [hls]; exact meas7 hltH.out)
      | false =>
        simp only [hok] at HCk
        have HLN := Lib.hid (room9 HFB.out.2.2 hlt HN.out)
        clear hlt
        go_wp2_with (first
          | (go_at_call 53; (with_reducible refine (HCk.out _ HB.out).mono ?_); rintro e u1 ⟨rfl, hb2⟩; have HB1 := Lib.hid (HB.out.trans (hb2.mono HB.out.size)); have HT1 := Lib.hid (HT.out.below hb2); have HT2 := Lib.hid (HT1.out.below ((Below.refl u1.heap.size u1).alloc (Nat.le_refl _) (.cells #[.string x.left.var, .string x.left.attr, .int .i64 x.left.vk, .int .i64 x.left.vn, .string x.left.vs, .int .i64 x.rel, .string x.right.var, .string x.right.attr, .int .i64 x.right.vk, .int .i64 x.right.vn, .string x.right.vs] 56))); have HB2 := Lib.hid (HB1.out.alloc HB1.out.size (.cells #[.string x.left.var, .string x.left.attr, .int .i64 x.left.vk, .int .i64 x.left.vn, .string x.left.vs, .int .i64 x.rel, .string x.right.var, .string x.right.attr, .int .i64 x.right.vk, .int .i64 x.right.vn, .string x.right.vs] 56)); clear hb2 d0 d1 d2 d3 d4 d5 d6 d7 d8 d9 d10; obtain ⟨d0, d1, d2, d3, d4, d5, d6, d7, d8, d9, d10⟩ := HEL.out _ HB1.out)
          | (at_builtin; (refine wpList_append_own_at _ rfl (.tmp 28) (.tmp 33) 22 rfl w.heap.size 56 i0 (.agg #[.string ⟨#[]⟩, .string ⟨#[]⟩, .int .i64 0, .int .i64 0, .string ⟨#[]⟩, .int .i64 0, .string ⟨#[]⟩, .string ⟨#[]⟩, .int .i64 0, .int .i64 0, .string ⟨#[]⟩]) 11 136 Try.underlying22 hi hz0 hz1 hz2 rfl (by decide) _ lb.length (lb.flatMap encC) rfl HT2.out.swap.a ⟨u1.heap.size, 0, none⟩ 1 1 (encC x) rfl rfl (cells_fresh9 u1 x) (encC_one9 x) HLN.out.1 HLN.out.2 (by have := HB1.out.size; simp; omega) ?_; intro v4 w4 hown4 hgrow4 hnil4 hat4; clear hnil4; have HT4 := Lib.hid (HT2.out.swap.step hown4 hgrow4 hat4); have HB4 := Lib.hid (HB2.out.grown hgrow4 (by have := HB1.out.size; simp; omega) (fun k hk => (HT2.out.swap.a.lt k hk).1)); clear hown4 hgrow4 hat4)))
        go_roundw
        all_goals first
          | exact ⟨k + 1, la, lb ++ [x], hltH.out, by go_num, HFB.out.1 hok, HFB.out.2.1 hok, Lib.hid HT4.out.swap, HB4⟩
          | exact meas7 hltH.out
          | (rw [hls]; exact meas7 hltH.out)
    · obtain rfl : k = cl.length := by omega
      have hnl : ¬ ((cl.length : Int) < (cl.length : Int)) := by omega
      have e1 := HA.out; have e2 := HBB.out
      rw [List.take_length] at e1 e2
      have HE := Lib.hid (And.intro e1 e2)
      clear hlt hk e1 e2
      go_wp2
      go_ret2
      refine ⟨_, _, rfl, ?_, HB.out⟩
      rw [← HE.out.1, ← HE.out.2]
      exact HT.out
end Go.Proofs.Ytghmaphpmnjiiaa
