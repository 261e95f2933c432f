/- Contracts: conditions parted by a function, and by which are ready: the program's calls. -/
import Derived.Test.YtpbloplbpkedcaaRk9
import Derived.Maps.AppendAt
import Derived.Maps.OwnSet
import Derived.StringKeys
namespace Go.Proofs.Ytpbloplbpkedcaa
open Go Go.RowKit Go.Sort Go.Maps Go.WideMaps

theorem infoCd9 : (Try.prog.info? 27).map (fun i => (i.zero, i.size, i.bytes)) = some (some (.agg #[.string ⟨#[]⟩, .string ⟨#[]⟩, .int .i64 0, .int .i64 0, .string ⟨#[]⟩, .int .i64 0, .string ⟨#[]⟩, .string ⟨#[]⟩, .int .i64 0, .int .i64 0, .string ⟨#[]⟩]), 11, 136) := by kernel_rfl
theorem flatC_len9 : ∀ l : List Cnd, (l.flatMap encC).length = l.length * 11
  | [] => rfl
  | c :: r => by rw [List.flatMap_cons, List.length_append, encC_len, flatC_len9 r, List.length_cons]; omega
theorem encC_one9 (c : Cnd) : ∀ u ∈ encC c, u.oneCell' = true := by
  intro u hu
  simp only [encC, List.mem_cons, List.not_mem_nil, or_false] at hu
  rcases hu with rfl | rfl | rfl | rfl | rfl | rfl | rfl | rfl | rfl | rfl | rfl <;> rfl
theorem cdAt_of_flat9 {w : World} : ∀ {l : List Cnd} {b o : Nat}, (∀ j u, (l.flatMap encC)[j]? = some u → w.cell? ⟨b, o + j, none⟩ = some u) → CdAt w l b o
  | [], _, _, _ => trivial
  | c :: r, b, o, h => ⟨fun j u hj => h j u (by rw [List.flatMap_cons, List.getElem?_append_left (List.getElem?_eq_some_iff.1 hj).1]; exact hj), cdAt_of_flat9 (fun j u hj => by
      have := h (11 + j) u (by rw [List.flatMap_cons, List.getElem?_append_right (by rw [encC_len]; omega), encC_len, show 11 + j - 11 = j by omega]; exact hj)
      rwa [← Nat.add_assoc] at this)⟩
/-- A row of conditions of the call's own. -/
def COwn (w : World) (base : Nat) (v : Value) (l : List Cnd) : Prop := w.ownsRow base 27 11 v l.length (l.flatMap encC)
theorem COwn.below {w w' : World} {base : Nat} {v : Value} {l : List Cnd} (h : COwn w base v l) (hk : Below w.heap.size w w') : COwn w' base v l := own7_below h hk
theorem COwn.cd {w : World} {base : Nat} {v : Value} {l : List Cnd} (h : COwn w base v l) : CdV w (fun b => b < w.heap.size) v l := by
  rcases h.2 with ⟨rfl, h0⟩ | ⟨g, cap, cur, rfl, hb, hg, _, _, _, ht⟩
  · obtain rfl : l = [] := List.eq_nil_of_length_eq_zero h0
    exact ⟨none, 0, rfl, fun h => absurd rfl h⟩
  · refine ⟨some ⟨g, 0, none⟩, cap, rfl, fun _ => ⟨g, 0, rfl, lt_of_block hg, cdAt_of_flat9 fun j u hj => ?_⟩⟩
    have := h.cells (g := g) rfl j u hj
    rwa [add_none7'] at this
theorem COwn.snoc {w : World} {base : Nat} {v : Value} {l : List Cnd} {c : Cnd} (h : w.ownsRow base 27 11 v (l.length + 1) (l.flatMap encC ++ encC c)) : COwn w base v (l ++ [c]) := by
  unfold COwn
  rw [List.length_append, List.flatMap_append]
  have e : List.flatMap encC [c] = encC c := by simp
  rw [e]
  exact h
theorem own7_kept {w w' : World} {base : Nat} {e : TypeId} {size n : Nat} {v : Value} {xs : List Value} (h : w.ownsRow base e size v n xs) (hk : ∀ g, v.ownBlock = some g → w'.heap[g]? = w.heap[g]?) : w'.ownsRow base e size v n xs := by
  refine ⟨h.1, ?_⟩
  rcases h.2 with hn | ⟨g, cap, cur, rfl, hb, hgg, rest⟩
  · exact .inl hn
  · exact .inr ⟨g, cap, cur, rfl, hb, (hk g rfl).trans hgg, rest⟩
/-- Two rows of conditions of the call's own, apart from each other. -/
structure Two9 (w : World) (base : Nat) (va vb : Value) (la lb : List Cnd) : Prop where
  a : COwn w base va la
  b : COwn w base vb lb
  ne : ∀ g, va.ownBlock = some g → vb.ownBlock = some g → False
theorem Two9.below {w w' : World} {base : Nat} {va vb : Value} {la lb : List Cnd} (h : Two9 w base va vb la lb) (hk : Below w.heap.size w w') : Two9 w' base va vb la lb := ⟨h.a.below hk, h.b.below hk, h.ne⟩
theorem Two9.swap {w : World} {base : Nat} {va vb : Value} {la lb : List Cnd} (h : Two9 w base va vb la lb) : Two9 w base vb va lb la := ⟨h.b, h.a, fun g h1 h2 => h.ne g h2 h1⟩
theorem ownBlock_lt9 {w : World} {base : Nat} {v : Value} {l : List Cnd} (h : COwn w base v l) {g : Nat} (hg : v.ownBlock = some g) : g < w.heap.size := (h.lt g hg).2
theorem Two9.step {w w' : World} {base : Nat} {va vb v' : Value} {la lb : List Cnd} {c : Cnd} (h : Two9 w base va vb la lb) (ho : w'.ownsRow base 27 11 v' (la.length + 1) (la.flatMap encC ++ encC c)) (hg : w.grownBy w' va.ownBlock) (hat : v'.ownBlock = va.ownBlock ∨ v'.ownBlock = some w.heap.size) : Two9 w' base v' vb (la ++ [c]) lb := by
  refine ⟨COwn.snoc ho, ?_, fun g h1 h2 => ?_⟩
  · have hb := h.b
    refine own7_kept hb fun g hgb => hg.block g (ownBlock_lt9 h.b hgb) fun e => h.ne g e.symm hgb
  · rcases hat with e | e
    · rw [e] at h1; exact h.ne g h1 h2
    · rw [e] at h1
      have := ownBlock_lt9 h.b h2
      simp only [Option.some.injEq] at h1
      omega
theorem cells_fresh9 (w : World) (x : Cnd) : ∀ j u, (encC x)[j]? = some u → (w.alloc (.cells #[.string x.left.var, .string x.left.attr, .int .i64 x.left.vk, .int .i64 x.left.vn, .string x.left.vs, .int .i64 x.rel, .string x.right.var, .string x.right.attr, .int .i64 x.right.vk, .int .i64 x.right.vn, .string x.right.vs] 27)).cell? ((⟨w.heap.size, 0, none⟩ : Addr).add j) = some u := fun j u hj => by
  rw [add_none7', Nat.zero_add]
  simp only [World.cell?, heap_alloc_new]
  rw [← hj]
  simp [encC]
theorem filt_t {p : Cnd → Bool} {l : List Cnd} {k : Nat} (h : k < l.length) (hp : p l[k] = true) : (l.take (k + 1)).filter p = (l.take k).filter p ++ [l[k]] ∧ ((l.take (k + 1)).filter fun c => !p c) = (l.take k).filter fun c => !p c := by
  rw [List.take_succ_eq_append_getElem h, List.filter_append, List.filter_append]
  simp [hp]
theorem filt_f {p : Cnd → Bool} {l : List Cnd} {k : Nat} (h : k < l.length) (hp : p l[k] = false) : (l.take (k + 1)).filter p = (l.take k).filter p ∧ ((l.take (k + 1)).filter fun c => !p c) = ((l.take k).filter fun c => !p c) ++ [l[k]] := by
  rw [List.take_succ_eq_append_getElem h, List.filter_append, List.filter_append]
  simp [hp]
theorem filt_len (p : Cnd → Bool) (l : List Cnd) (k : Nat) : ((l.take k).filter p).length ≤ k := Nat.le_trans (List.length_filter_le _ _) (by rw [List.length_take]; omega)
theorem room9 {n k N : Nat} (h : n ≤ k) (hk : k < N) (hN : N * 136 ≤ 140737488355328) : n + 1 ≤ maxLen ∧ (n + 1) * 136 ≤ 140737488355328 := by unfold maxLen; omega

set_option maxRecDepth 100000 in
set_option maxHeartbeats 4000000 in
theorem pPart_cap (gf : Nat) (cp : Value) (p : Cnd → Bool) (cl : List Cnd) (ta : Option Addr) (tc : Nat) (w : World) (eg : ∀ args w, (callFunc gf args).run Try.prog w = .ok (.enter gf args) w) (hcl : cl.length * 136 ≤ 140737488355328)
    (hc : CdV w (fun x => x < w.heap.size) (.slice ta cl.length tc) cl) (HF : ∀ c ∈ cl, ∀ u : World, Below w.heap.size w u → Calls Try.prog gf #[cdV c, cp] u fun e w' => e = .returned (.bool (p c)) ∧ Below u.heap.size u w') :
    Calls Try.prog 46 #[.slice ta cl.length tc, .func (.func gf) #[] #[cp]] w fun e w' => ∃ va vb, e = .returned (.tuple #[va, vb]) ∧ Two9 w' w.heap.size va vb (cl.filter p) (cl.filter fun c => !p c) ∧ Below w.heap.size w w' := by
  obtain ⟨i0, hi, hz0, hz1, hz2⟩ := info_parts infoCd9
  have HC := Lib.hid (fun (u : World) (hu : Below w.heap.size w u) (c : Cnd) (hm : c ∈ cl) => HF c hm u hu)
  have HX := Lib.hid (fun (u : World) (hu : Below w.heap.size w u) => hc.keep (fun b hb => hu.block b hb))
  have HN := Lib.hid hcl
  clear hc hcl HF
  go_enter Try.func46, Try.ntmps46
  go_wp2_with fail
  go_loopw [4, 5, 10] (fun va vb iv wr => ∃ (k : Nat) (la lb : List Cnd), k ≤ cl.length ∧ iv = .int .i64 k ∧ Hid (la = (cl.take k).filter p) ∧ Hid (lb = (cl.take k).filter fun c => !p c) ∧ Hid (Two9 wr w.heap.size va vb la lb) ∧ Hid (Below w.heap.size w wr)) (fun _ _ iv _ => cl.length - (intOf iv).toNat)
  case atStart => exact ⟨0, [], [], Nat.zero_le _, rfl, Lib.hid (by simp), Lib.hid (by simp), Lib.hid ⟨World.ownsRow_nil _ _ _ _, World.ownsRow_nil _ _ _ _, fun g h => by cases h⟩, Lib.hid (Below.refl _ _)⟩
  case round =>
    obtain ⟨k, la, lb, hk, rfl, HA, HBB, HT, HB⟩ := hrel
    by_cases hlt : k < cl.length
    · have hlti : (k : Int) < (cl.length : Int) := by omega
      have hls := wr7 hlt (by have := HN.out; omega)
      have hne : cl ≠ [] := fun h => by rw [h] at hlt; exact absurd hlt (Nat.not_lt_zero _)
      obtain ⟨ta', tc', he, hh⟩ := HX.out _ HB.out
      simp only [Value.slice.injEq, true_and] at he
      obtain ⟨rfl, rfl⟩ := he
      obtain ⟨b, o, rfl, hb, hat⟩ := hh hne
      obtain ⟨d0, d1, d2, d3, d4, d5, d6, d7, d8, d9, d10⟩ := hat.cells hlt
      have hm : cl[k] ∈ cl := List.getElem_mem _
      have HCk := Lib.hid (fun (u : World) (hu : Below w.heap.size w u) => HC.out u hu cl[k] hm)
      have HB0 := Lib.hid (HB.out.alloc HB.out.size (.cells #[.string cl[k].left.var, .string cl[k].left.attr, .int .i64 cl[k].left.vk, .int .i64 cl[k].left.vn, .string cl[k].left.vs, .int .i64 cl[k].rel, .string cl[k].right.var, .string cl[k].right.attr, .int .i64 cl[k].right.vk, .int .i64 cl[k].right.vn, .string cl[k].right.vs] 27))
      have HXX := Lib.hid (heap_alloc_new wr (.cells #[.string cl[k].left.var, .string cl[k].left.attr, .int .i64 cl[k].left.vk, .int .i64 cl[k].left.vn, .string cl[k].left.vs, .int .i64 cl[k].rel, .string cl[k].right.var, .string cl[k].right.attr, .int .i64 cl[k].right.vk, .int .i64 cl[k].right.vn, .string cl[k].right.vs] 27))
      have HT0 := Lib.hid (HT.out.below ((Below.refl wr.heap.size wr).alloc (Nat.le_refl _) (.cells #[.string cl[k].left.var, .string cl[k].left.attr, .int .i64 cl[k].left.vk, .int .i64 cl[k].left.vn, .string cl[k].left.vs, .int .i64 cl[k].rel, .string cl[k].right.var, .string cl[k].right.attr, .int .i64 cl[k].right.vk, .int .i64 cl[k].right.vn, .string cl[k].right.vs] 27)))
      have HFA := Lib.hid (show (p cl[k] = true → Hid (la ++ [cl[k]] = (cl.take (k + 1)).filter p)) ∧ (p cl[k] = true → Hid (lb = (cl.take (k + 1)).filter fun c => !p c)) ∧ la.length ≤ k from ⟨fun h => Lib.hid (by rw [(filt_t hlt h).1, HA.out]), fun h => Lib.hid (by rw [(filt_t hlt h).2, HBB.out]), by rw [HA.out]; exact filt_len _ _ _⟩)
      have HFB := Lib.hid (show (p cl[k] = false → Hid (la = (cl.take (k + 1)).filter p)) ∧ (p cl[k] = false → Hid (lb ++ [cl[k]] = (cl.take (k + 1)).filter fun c => !p c)) ∧ lb.length ≤ k from ⟨fun h => Lib.hid (by rw [(filt_f hlt h).1, HA.out]), fun h => Lib.hid (by rw [(filt_f hlt h).2, HBB.out]), by rw [HBB.out]; exact filt_len _ _ _⟩)
      have hltH := Lib.hid hlt
      unfold cdV at HCk
      clear hh hne hm hat hk hb HT
      generalize cl[k] = x at d0 d1 d2 d3 d4 d5 d6 d7 d8 d9 d10 HCk HB0 HXX HT0 HFA HFB
      cases hok : p x with
      | true =>
        simp only [hok] at HCk
        have HLN := Lib.hid (room9 HFA.out.2.2 hlt HN.out)
        clear hlt
        go_wp2_with (first
          | (go_at_fn gf; (with_reducible refine (HCk.out _ HB0.out).mono ?_); rintro e u1 ⟨rfl, hb2⟩; have HB1 := Lib.hid (HB0.out.trans (hb2.mono HB0.out.size)); have HT1 := Lib.hid (HT0.out.below hb2); have HX1 := Lib.hid ((hb2.block wr.heap.size (by simp)).trans HXX.out); have HT2 := Lib.hid (HT1.out.below ((Below.refl u1.heap.size u1).alloc (Nat.le_refl _) (.cells #[.string x.left.var, .string x.left.attr, .int .i64 x.left.vk, .int .i64 x.left.vn, .string x.left.vs, .int .i64 x.rel, .string x.right.var, .string x.right.attr, .int .i64 x.right.vk, .int .i64 x.right.vn, .string x.right.vs] 27))); have HB2 := Lib.hid (HB1.out.alloc HB1.out.size (.cells #[.string x.left.var, .string x.left.attr, .int .i64 x.left.vk, .int .i64 x.left.vn, .string x.left.vs, .int .i64 x.rel, .string x.right.var, .string x.right.attr, .int .i64 x.right.vk, .int .i64 x.right.vn, .string x.right.vs] 27)); clear hb2; obtain ⟨f0, f1, f2, f3, f4, f5, f6, f7, f8, f9, f10⟩ := cell_of_eleven HX1.out)
          | (at_builtin; (refine wpList_append_own_at _ rfl (.tmp 17) (.tmp 19) 28 rfl w.heap.size 27 i0 (.agg #[.string ⟨#[]⟩, .string ⟨#[]⟩, .int .i64 0, .int .i64 0, .string ⟨#[]⟩, .int .i64 0, .string ⟨#[]⟩, .string ⟨#[]⟩, .int .i64 0, .int .i64 0, .string ⟨#[]⟩]) 11 136 Try.underlying28 hi hz0 hz1 hz2 rfl (by decide) _ la.length (la.flatMap encC) rfl HT2.out.a ⟨u1.heap.size, 0, none⟩ 1 1 (encC x) rfl rfl (cells_fresh9 u1 x) (encC_one9 x) HLN.out.1 HLN.out.2 (by have := HB1.out.size; simp; omega) ?_; intro v4 w4 hown4 hgrow4 hnil4 hat4; clear hnil4; have HT4 := Lib.hid (HT2.out.step hown4 hgrow4 hat4); have HB4 := Lib.hid (HB2.out.grown hgrow4 (by have := HB1.out.size; simp; omega) (fun k hk => (HT2.out.a.lt k hk).1)); clear hown4 hgrow4 hat4)))
        go_roundw
        all_goals first
          | exact ⟨k + 1, la ++ [x], lb, hltH.out, by go_num, HFA.out.1 hok, HFA.out.2.1 hok, HT4, HB4⟩
          | exact meas7 hltH.out
          | (rw [hls]; exact meas7 hltH.out)
      | false =>
        simp only [hok] at HCk
        have HLN := Lib.hid (room9 HFB.out.2.2 hlt HN.out)
        clear hlt
        go_wp2_with (first
          | (go_at_fn gf; (with_reducible refine (HCk.out _ HB0.out).mono ?_); rintro e u1 ⟨rfl, hb2⟩; have HB1 := Lib.hid (HB0.out.trans (hb2.mono HB0.out.size)); have HT1 := Lib.hid (HT0.out.below hb2); have HX1 := Lib.hid ((hb2.block wr.heap.size (by simp)).trans HXX.out); have HT2 := Lib.hid (HT1.out.below ((Below.refl u1.heap.size u1).alloc (Nat.le_refl _) (.cells #[.string x.left.var, .string x.left.attr, .int .i64 x.left.vk, .int .i64 x.left.vn, .string x.left.vs, .int .i64 x.rel, .string x.right.var, .string x.right.attr, .int .i64 x.right.vk, .int .i64 x.right.vn, .string x.right.vs] 27))); have HB2 := Lib.hid (HB1.out.alloc HB1.out.size (.cells #[.string x.left.var, .string x.left.attr, .int .i64 x.left.vk, .int .i64 x.left.vn, .string x.left.vs, .int .i64 x.rel, .string x.right.var, .string x.right.attr, .int .i64 x.right.vk, .int .i64 x.right.vn, .string x.right.vs] 27)); clear hb2; obtain ⟨f0, f1, f2, f3, f4, f5, f6, f7, f8, f9, f10⟩ := cell_of_eleven HX1.out)
          | (at_builtin; (refine wpList_append_own_at _ rfl (.tmp 21) (.tmp 23) 28 rfl w.heap.size 27 i0 (.agg #[.string ⟨#[]⟩, .string ⟨#[]⟩, .int .i64 0, .int .i64 0, .string ⟨#[]⟩, .int .i64 0, .string ⟨#[]⟩, .string ⟨#[]⟩, .int .i64 0, .int .i64 0, .string ⟨#[]⟩]) 11 136 Try.underlying28 hi hz0 hz1 hz2 rfl (by decide) _ lb.length (lb.flatMap encC) rfl HT2.out.swap.a ⟨u1.heap.size, 0, none⟩ 1 1 (encC x) rfl rfl (cells_fresh9 u1 x) (encC_one9 x) HLN.out.1 HLN.out.2 (by have := HB1.out.size; simp; omega) ?_; intro v4 w4 hown4 hgrow4 hnil4 hat4; clear hnil4; have HT4 := Lib.hid (HT2.out.swap.step hown4 hgrow4 hat4); have HB4 := Lib.hid (HB2.out.grown hgrow4 (by have := HB1.out.size; simp; omega) (fun k hk => (HT2.out.swap.a.lt k hk).1)); clear hown4 hgrow4 hat4)))
        go_roundw
        all_goals first
          | exact ⟨k + 1, la, lb ++ [x], hltH.out, by go_num, HFB.out.1 hok, HFB.out.2.1 hok, Lib.hid HT4.out.swap, HB4⟩
          | exact meas7 hltH.out
          | (rw [hls]; exact meas7 hltH.out)
    · obtain rfl : k = cl.length := by omega
      have hnl : ¬ ((cl.length : Int) < (cl.length : Int)) := by omega
      have e1 := HA.out; have e2 := HBB.out
      rw [List.take_length] at e1 e2
      have HE := Lib.hid (And.intro e1 e2)
      clear hlt hk e1 e2
      go_wp2
      go_ret2
      refine ⟨_, _, rfl, ?_, HB.out⟩
      rw [← HE.out.1, ← HE.out.2]
      exact HT.out
end Go.Proofs.Ytpbloplbpkedcaa
