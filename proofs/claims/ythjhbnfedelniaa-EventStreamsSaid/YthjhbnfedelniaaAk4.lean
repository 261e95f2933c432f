/- The document's own Accept, where it takes. Written by wip/genak4.py. -/
import Derived.Test.YthjhbnfedelniaaDa4
import Derived.Test.YthjhbnfedelniaaDm4
import Derived.Test.YthjhbnfedelniaaCo4
import Derived.Deep.RegionHeld3
import Derived.Deep.RegionLaw
namespace Go.Proofs.Ythjhbnfedelniaa
open Go Go.RowKit

theorem rowCells_len : ∀ (evs : List Ev) (vs : List Value), vs.length = evs.length → (rowCells evs vs).length = evs.length * 5
  | [], vs, h => by cases vs <;> simp_all [rowCells]
  | e :: r, [], h => by simp at h
  | e :: r, v :: t, h => by
    show (evCells e v ++ rowCells r t).length = _
    rw [List.length_append, rowCells_len r t (by simpa using h), List.length_cons]; simp [evCells]; omega
theorem rowCells_one : ∀ (evs : List Ev) (vs : List Value), (∀ v ∈ vs, v.oneCell' = true) → ∀ u ∈ rowCells evs vs, u.oneCell' = true
  | [], vs, _, u, hu => by cases vs <;> simp [rowCells] at hu
  | e :: r, [], _, u, hu => by simp [rowCells] at hu
  | e :: r, v :: t, h, u, hu => by
    have hu : u ∈ evCells e v ++ rowCells r t := hu
    rcases List.mem_append.1 hu with hu | hu
    · simp only [evCells, List.mem_cons, List.not_mem_nil, or_false] at hu
      rcases hu with rfl | rfl | rfl | rfl | rfl
      · rfl
      · rfl
      · rfl
      · rfl
      · exact h _ (by simp)
    · exact rowCells_one r t (fun v hv => h v (by simp [hv])) u hu
theorem RsAt.slices {w : World} {G : Nat → Prop} {q k : Nat} {evs : List Ev} {vs : List Value} {gone : List Bool} (h : RsAt w G q k evs vs gone) : ∀ v ∈ vs, v.oneCell' = true := by
  intro v hv
  obtain ⟨j, hj, rfl⟩ := List.getElem_of_mem hv
  obtain ⟨ao, cap, he⟩ := (h.each j (by rw [← h.vsl]; exact hj)).1.shape
  rw [getElem!_pos vs j hj] at he
  rw [he]; rfl
/-- The events' cells, wherever only new blocks were laid. -/
theorem RsAt.news {w : World} {G : Nat → Prop} {q k : Nat} {evs : List Ev} {vs : List Value} {gone : List Bool} (h : RsAt w G q k evs vs gone) {ad : Addr} {cap : Nat} (hc : w.cell? ⟨q, 1, none⟩ = some (.slice (some ad) evs.length cap)) {W : World} (hb : Below w.heap.size w W) :
    ∀ j u, (rowCells evs vs)[j]? = some u → W.cell? (ad.add j) = some u := fun j u hj => by
  obtain ⟨ao, cap', ag, cg, h1, h2, _⟩ := h.row
  have hjl := (List.getElem?_eq_some_iff.1 hj).1
  rw [rowCells_len evs vs h.vsl] at hjl
  obtain ⟨b, o, hao, hB, hcl⟩ := h2 (by omega)
  rw [(cell_of_three h1).2.1, hao] at hc
  simp only [Option.some.injEq, Value.slice.injEq] at hc
  obtain ⟨rfl, -, -⟩ := hc
  have hlt : j / 5 < evs.length := by omega
  have h5 : j % 5 < 5 := Nat.mod_lt _ (by decide)
  have e : j / 5 * 5 + j % 5 = j := by omega
  have hu := rowCells_at evs vs (j / 5) (j % 5) h.vsl hlt h5
  rw [e, hj] at hu
  have hcc := hcl (j / 5) hlt (j % 5) u hu.symm
  rw [Addr.add_lit, show o + j = o + j / 5 * 5 + j % 5 by omega]
  exact (hb.cell (p := ⟨b, o + j / 5 * 5 + j % 5, none⟩) (h.glt b hB)).trans hcc
theorem setIn1 {w : World} {q : Nat} {c0 c1 c2 : Value} {t : Nat} (h : w.heap[q]? = some (.cells #[c0, c1, c2] t (0, 0))) (u : Value) : (w.setCell ⟨q, 1, none⟩ u).heap[q]? = some (.cells #[c0, u, c2] t (0, 0)) := by
  have := Lib.heap_setCell_same (i := 1) h u
  simpa using this
/-- Behind an Accept that takes. -/
theorem RsAt.accepted {w w7 : World} {G : Nat → Prop} {q k : Nat} {evs : List Ev} {vs : List Value} {gone : List Bool} (h : RsAt w G q k evs vs gone) (hb : Below w.heap.size w w7) {ev : Ev} {v2 v5 : Value}
    (own2 : w7.ownsRow w.heap.size 35 5 v2 (evs.length + 1) (rowCells evs vs ++ evCells ev v5)) (own5 : w7.ownsRow w.heap.size 57 4 v5 ev.ats.length (ev.ats.flatMap enc4))
    (hw : ∀ x ∈ ev.ats, x.name.size ≤ maxLen ∧ x.s.size ≤ maxLen) (hl : ev.ats.length * 48 ≤ 140737488355328) (hty : ev.ty.size ≤ maxLen) (hm : evs.length < 65536) :
    RsAt (w7.setCell ⟨q, 1, none⟩ v2) (Fnew G w.heap.size w7.heap.size) q k (evs ++ [ev]) (vs ++ [v5]) gone ∧ Chg (fun b => b = q) w (w7.setCell ⟨q, 1, none⟩ v2) := by
  have hc : Chg (fun b => b = q) w (w7.setCell ⟨q, 1, none⟩ v2) := Chg.setCell (F := fun b => b = q) (Chg.of_below hb) (p := ⟨q, 1, none⟩) rfl _
  obtain ⟨ao, cap, ag, cg, h1, h2, h3, h4, h5, h6⟩ := h.row
  have hq7 := (hb.block q h.qlt).trans h1
  have hq8 := setIn1 hq7 v2
  have hav5 : Av w7 w7.heap.size v5 ev.ats := Av.of_own own5 hw hl
  have hz : (w7.setCell ⟨q, 1, none⟩ v2).heap.size = w7.heap.size := by simp
  have hne5 : ∀ a n c, v5 = .slice (some a) n c → w.heap.size ≤ a.block ∧ a.block < w7.heap.size := fun a n c e => by
    rcases own5.2 with ⟨hv, _⟩ | ⟨g, cap, cur, hv, hB, hg, _⟩
    · rw [hv] at e; cases e
    · rw [hv] at e; cases e; exact ⟨hB, (Array.getElem?_eq_some_iff.1 hg).1⟩
  rcases id own2.2 with ⟨_, hn⟩ | ⟨g2, cap2, cur2, rfl, hB2, hg2, hcap2, _⟩
  · omega
  have hg2lt := (Array.getElem?_eq_some_iff.1 hg2).1
  have hqlt := h.qlt
  have hvl : (vs ++ [v5]).length = (evs ++ [ev]).length := by simp [h.vsl]
  refine ⟨⟨?_, ?_, ?_, by simp; omega, ?_, h.gl, h.k16, hvl, ⟨some ⟨g2, 0, none⟩, cap2, ag, cg, ?_, fun _ => ⟨g2, 0, rfl, .inr ⟨hB2, hg2lt⟩, fun j hj i u hu => ?_⟩, fun h0 => ?_, ?_, h5, fun h => by cases h⟩, fun i hi => ?_⟩, hc⟩
  · rintro (hG | ⟨hG, _⟩)
    · exact h.nq hG
    · omega
  · rw [hz]; exact Nat.lt_of_lt_of_le h.qlt hb.size
  · rintro b (hG | ⟨_, hG⟩)
    · rw [hz]; exact Nat.lt_of_lt_of_le (h.glt b hG) hb.size
    · rw [hz]; exact hG
  · intro e he
    rcases List.mem_append.1 he with he | he
    · exact h.wide e he
    · rw [List.mem_singleton.1 he]; exact hty
  · rw [hq8]; simp
  · have hi : i < 5 := by have := (List.getElem?_eq_some_iff.1 hu).1; simpa [evCells] using this
    have hj' : j < evs.length + 1 := by simpa using hj
    have hcc := own2.cellAt (j * 5 + i) (by omega)
    rw [← rowCells_snoc _ _ _ _ h.vsl, rowCells_at _ _ j i hvl hj hi, hu] at hcc
    rw [World.cell?_setCell_other _ _ _ _ (by intro e; have := congrArg Addr.block e; simp only at this; omega), Nat.zero_add]
    exact hcc
  · obtain ⟨b, o, e, hB, hcl⟩ := h3 h0
    refine ⟨b, o, e, .inl hB, fun j hj => ?_⟩
    have hbq : b ≠ q := fun e => h.nq (e ▸ hB)
    rw [World.cell?_setCell_other _ _ _ _ (by intro e; have := congrArg Addr.block e; simp only at this; exact hbq this.symm)]
    exact (hb.cell (p := ⟨b, o + j, none⟩) (h.glt b hB)).trans (hcl j hj)
  · simp only [List.length_append, List.length_singleton]; exact hcap2
  · have hi' : i < evs.length + 1 := by simpa using hi
    by_cases hlt : i < evs.length
    · rw [getElem!_snoc_lt evs ev i hlt, getElem!_snoc_lt vs v5 i (by rw [h.vsl]; exact hlt)]
      refine ⟨(h.each i hlt).1.chg hc (h.each i hlt).2 (fun b hb e => h.nq (e ▸ hb)), fun a n c e => .inl ((h.each i hlt).2 a n c e)⟩
    · obtain rfl : i = evs.length := by omega
      have hv2 : (vs ++ [v5])[evs.length]! = v5 := by rw [← h.vsl]; exact getElem!_snoc_eq _ _
      rw [getElem!_snoc_eq, hv2]
      refine ⟨?_, fun a n c e => .inr (hne5 a n c e)⟩
      have := hav5.apart (Nat.le_refl _) (w' := w7.setCell ⟨q, 1, none⟩ (.slice (some ⟨g2, 0, none⟩) (evs.length + 1) cap2)) (Chg.setCell (F := fun b => b = q) (Chg.refl _ w7) (p := ⟨q, 1, none⟩) rfl _) (fun a n c e _ hb => by have := (hne5 a n c e).1; omega)
      refine Av.mono (B := w7.heap.size) this ?_
      show w7.heap.size ≤ (w7.setCell _ _).heap.size
      simp

theorem r4Clone_name : Try.f23.name ≠ "runtime.NumGoroutine" := by decide +kernel
theorem r4Clone_body : Try.f23.body ≠ none := fun h => by
  have h2 : Try.f23.body.isSome = true := by kernel_rfl
  rw [h] at h2; cases h2
theorem RsAt.widen {w : World} {G G' : Nat → Prop} {q k : Nat} {evs : List Ev} {vs : List Value} {gone : List Bool} (h : RsAt w G q k evs vs gone) (hG : ∀ b, G b → G' b) (hlt : ∀ b, G' b → b < w.heap.size) (hq : ¬ G' q) : RsAt w G' q k evs vs gone := by
  obtain ⟨ao, cap, ag, cg, h1, h2, h3, h4⟩ := h.row
  refine ⟨hq, h.qlt, hlt, h.many, h.wide, h.gl, h.k16, h.vsl, ⟨ao, cap, ag, cg, h1, fun h0 => ?_, fun h0 => ?_, h4⟩, fun i hi => ⟨(h.each i hi).1, fun a n c e => hG _ ((h.each i hi).2 a n c e)⟩⟩
  · obtain ⟨b, o, e, hB, hc⟩ := h2 h0; exact ⟨b, o, e, hG _ hB, hc⟩
  · obtain ⟨b, o, e, hB, hc⟩ := h3 h0; exact ⟨b, o, e, hG _ hB, hc⟩
theorem own_later {w w' : World} {base e size n : Nat} {v : Value} {xs : List Value} (h : w.ownsRow base e size v n xs) (hb : Below w.heap.size w w') : w'.ownsRow base e size v n xs := by
  refine ⟨h.1, h.2.imp id ?_⟩
  rintro ⟨g, cap, cur, hv, hB, hg, rest⟩
  exact ⟨g, cap, cur, hv, hB, (hb.block g (Array.getElem?_eq_some_iff.1 hg).1).trans hg, rest⟩
/-- append of a list of events, nil or not, as one step of a region that draws its order. -/
theorem step_append_ev {ops : Array Oper} {o : Oper} {a : Act} {w : World} {K : Act → World → Prop} {Q : Exit → Act → World → Prop} {E : Prop}
    (hg : o.guard = none) (s x : Operand) (hop : o.op = Op.call { callee := Callee.builtin Builtin.append, args := #[s, x], argTypes := #[44, 44] })
    (base : Nat) (v : Value) (n : Nat) (xs : List Value) (hs : a.eval s = v) (hown : w.ownsRow base 35 5 v n xs)
    (eo : Option Addr) (m c : Nat) (news : List Value) (hx : a.eval x = .slice eo m c) (hn : news.length = m * 5) (hc : ∀ ad, eo = some ad → ∀ j u, news[j]? = some u → w.cell? (ad.add j) = some u) (hnone : eo = none → m = 0 ∧ c = 0) (h1c : ∀ u ∈ news, u.oneCell' = true)
    (b1 : n + m ≤ maxLen) (b2 : (n + m) * 64 ≤ 140737488355328) (hbase : base ≤ w.heap.size)
    (hK : ∀ v' w', w'.ownsRow base 35 5 v' (n + m) (xs ++ news) → w.grownBy w' v.ownBlock → K (a.put o.dst v') w') :
    if Region.wanted o (yielded ops a.tmps) = true then Oper.wp Try.prog o a w K Q else E := by
  obtain ⟨i0, hi, hz0, hz1, hz2⟩ := info_parts infoEvent
  cases eo with
  | some ad => exact step_append_own hg s x 44 hop base 35 i0 (.agg #[.int .i64 0, .int .i64 0, .int .i64 0, .string ⟨#[]⟩, .slice none 0 0]) 5 64 Try.underlying44 hi hz0 hz1 hz2 rfl (by decide) v n xs hs hown ad m c news hx hn (hc ad rfl) h1c b1 b2 hbase hK
  | none =>
    obtain ⟨rfl, rfl⟩ := hnone rfl
    obtain rfl : news = [] := List.length_eq_zero_iff.1 (by simpa using hn)
    have hw : Region.wanted o (yielded ops a.tmps) = true := by simp [Region.wanted, hg]
    rw [if_pos hw]
    have hrun := run_append_owned_none (P := Try.prog) (w := w) base 44 o.type 35 i0 5 Try.underlying44 hi v n xs hown
    unfold Oper.wp
    simp [execOp, hop, resolve, invoke, builtin, hs, hx, hrun, Result.andThen]
    exact hK v w (by simpa using hown) (World.grownBy.refl w _)
set_option maxRecDepth 100000 in
set_option maxHeartbeats 1600000 in
theorem r4Acc7 (G : Nat → Prop) (q k : Nat) (evs : List Ev) (vs : List Value) (gone : List Bool) (s sq tm : Int) (ty : ByteArray) (ats : List At) (B : Nat) (ao : Option Addr) (n cap : Nat) (w : World) (h : RsAt w G q k evs vs gone)
    (hv : Av w B (.slice ao n cap) ats) (hB : B ≤ w.heap.size) (hty : ty.size ≤ maxLen) (hck : ckE ⟨s, sq, tm, ty, ats⟩ = 0) (hh : hasB k s = true) (hg : gone[s.toNat]! = false) (hsq : sq = (cntL evs s : Int)) (htm : ¬ tm < rMark k evs gone s) (hl : evs.length < 65536) (hnil : ao = none → cap = 0) :
    Calls Try.prog 9 #[.pointer (some ⟨q, 0, none⟩), .agg #[.int .i64 s, .int .i64 sq, .int .i64 tm, .string ty, .slice ao n cap]] w fun e w' => e = .returned (.int .i64 0) ∧ ∃ v5, RsAt w' (Fnew G w.heap.size w'.heap.size) q k (evs ++ [⟨s, sq, tm, ty, ats⟩]) (vs ++ [v5]) gone ∧ Chg (fun b => b = q) w w' := by
  have HAV := hide hv; have HBP := hide hB; have HTY := hide hty; have HLL := hide hl; have HRS := hide h; have HNIL := hide hnil; have HWD := hide hv.wide; have HLN := hide hv.len; have HNUM := hide hv.num.1
  clear hnil
  obtain ⟨P, hP⟩ : ∃ P, P = w.heap.size := ⟨_, rfl⟩
  obtain ⟨W, hW⟩ : ∃ W, W = w.alloc (.cells #[.int .i64 s, .int .i64 sq, .int .i64 tm, .string ty, .slice ao n cap] 35) := ⟨_, rfl⟩
  have hb0 : Below P w W := by rw [hW, hP]; exact (Below.refl _ _).alloc (Nat.le_refl _) _
  have hx0 : W.heap[P]? = some (.cells #[.int .i64 s, .int .i64 sq, .int .i64 tm, .string ty, .slice ao n cap] 35 (0, 0)) := by rw [hW, hP]; exact heap_alloc_new w _
  have hsz : P < W.heap.size := by rw [hW, hP]; simp
  have hst : RsAt W G q k evs vs gone := h.below (by rw [← hP]; exact hb0)
  have C2 := r4Check_any ⟨s, sq, tm, ty, ats⟩ B ao n cap W (hv.below hb0 (by omega)) (by omega) hty
  unfold evV at C2
  obtain ⟨c0, c1, c2, c3, c4⟩ := cell_of_five hx0
  have HST := hide hst; have HB0 := hide hb0; have HX0 := hide hx0; have HSZ := hide hsz; have HW := hide hW; have HP := hide hP
  rw [← hP]
  have HK16 := h.k16; have HMANY := h.many
  clear hv hst hb0 hx0 hsz hW h hB hty hP
  rw [hck] at C2
  have HC2 := hide C2
  clear C2 hck
  have C3 := fun (w : World) (h : RsAt w G q k evs vs gone) => r4is_any G q k evs vs gone s w h
  rw [hh] at C3
  obtain ⟨j, rfl, hj⟩ := hasB_nat hh
  have HG : Hid (gone[j]! = false) := hg
  clear hg
  have hj0 : (0 : Int) ≤ (j : Int) := by omega
  have hj1 : (j : Int) < (k : Int) := by omega
  have HC3 := hide C3; have HJ := hide hj
  clear C3 hh hj
  have C4 := fun (w : World) (h : RsAt w G q k evs vs gone) (d : Nat) => r4Next_quiet G q k evs vs gone (j : Int) w h d
  have C5 := fun (w : World) (h : RsAt w G q k evs vs gone) (d : Nat) => r4Mark_quiet G q k evs vs gone (j : Int) w h d
  generalize (cntL evs (j : Int) : Int) = c at C4 hsq
  generalize rMark k evs gone (j : Int) = m at C5 htm
  subst hsq
  have bs : (sq != sq) = false := by simp
  have bs2 : (sq == sq) = true := by simp
  have HC4 := hide C4; have HC5 := hide C5
  clear C4 C5
  have hlb : (evs.length : Int) < 65536 := by omega
  have hle : decide ((65536 : Int) ≤ (evs.length : Int)) = false := by simp; omega
  have hle2 : decide (65536 ≤ evs.length) = false := by simp; omega
  clear hl
  go_enter Try.func9, Try.ntmps9
  go_wp2_with fail
  rw [← HW.out, ← HP.out]
  go_wp2_with (first | (go_at_call 33; (with_reducible refine (HC2.out).mono ?_); rintro e w1 ⟨rfl, hb⟩; have HB1 := hide (HB0.out.trans (hb.mono (Nat.le_of_lt HSZ.out))); have HS1 := hide (HST.out.below hb); have hx1 := (hb.block P HSZ.out).trans HX0.out; clear hb c0 c1 c2 c3 c4; obtain ⟨c0, c1, c2, c3, c4⟩ := cell_of_five hx1; have HX1 := hide hx1; clear hx1; obtain ⟨gb, go_, gcg, g2, gj⟩ := HS1.out.goneCell HJ.out; rw [HG.out] at gj) | (go_at_call 34; (with_reducible refine (HC3.out _ HS1.out).mono ?_); rintro e w2 ⟨rfl, rfl⟩))
  go_quiet (exact HC4.out _ HS1.out _)
  go_wp2
  have HS5 := hide (HS1.out.drewN nq)
  have HB5 := hide (Below.drewN' HB1.out nq)
  have c0 : (w1.drewN nq).cell? ⟨P, 0, none⟩ = _ := c0
  have c1 : (w1.drewN nq).cell? ⟨P, 1, none⟩ = _ := c1
  have c2 : (w1.drewN nq).cell? ⟨P, 2, none⟩ = _ := c2
  have HX5 : Hid ((w1.drewN nq).heap[P]? = some (.cells #[.int .i64 (j : Int), .int .i64 sq, .int .i64 tm, .string ty, .slice ao n cap] 35 (0, 0))) := HX1.out
  generalize w1.drewN nq = w5 at c0 c1 c2 HS5 HB5 HX5 ⊢
  go_quiet (exact HC5.out _ HS5.out _)
  obtain ⟨eo, ecap, x1⟩ := (HS5.out.drewN nq).evCell
  have HB6 := hide (Below.drewN' HB5.out nq)
  have HS6 := hide (HS5.out.drewN nq)
  have HX6 : Hid ((w5.drewN nq).heap[P]? = some (.cells #[.int .i64 (j : Int), .int .i64 sq, .int .i64 tm, .string ty, .slice ao n cap] 35 (0, 0))) := HX5.out
  generalize w5.drewN nq = w6 at x1 HB6 HS6 HX6 ⊢
  have hx6 := HX6.out
  have HPQ := hide (fun (W' : World) (hb : Below w6.heap.size w6 W') => (⟨(hb.block P (Array.getElem?_eq_some_iff.1 hx6).1).trans hx6, (hb.cell (p := ⟨q, 1, none⟩) HS6.out.qlt).trans x1⟩ : W'.heap[P]? = some (.cells #[.int .i64 (j : Int), .int .i64 sq, .int .i64 tm, .string ty, .slice ao n cap] 35 (0, 0)) ∧ W'.cell? ⟨q, 1, none⟩ = some (.slice eo evs.length ecap)))
  have HNEWS := hide (fun (ad : Addr) (he : eo = some ad) (W' : World) (hb : Below w6.heap.size w6 W') => HS6.out.news (by rw [he] at x1; exact x1) hb)
  have HNONE : Hid (eo = none → evs.length = 0 ∧ ecap = 0) := fun he => by
    obtain ⟨ao', cap', ag, cg, h1, h2, _, _, _, h6⟩ := HS6.out.row
    rw [(cell_of_three h1).2.1, he] at x1
    simp only [Option.some.injEq, Value.slice.injEq] at x1
    refine ⟨?_, by rw [← x1.2.2]; exact h6 x1.1⟩
    rcases Nat.eq_zero_or_pos evs.length with h0 | h0
    · exact h0
    · obtain ⟨b, o, e, _⟩ := h2 h0; rw [x1.1] at e; cases e
  have HONE := hide (rowCells_one evs vs HS6.out.slices)
  have HRL := hide (rowCells_len evs vs HS6.out.vsl)
  have hf1 : ∀ W' : World, Below w6.heap.size w6 W' → W'.frozen? ⟨q, 1, none⟩ = false := fun W' hb => by
    obtain ⟨ao', cap', ag, cg, h1, _⟩ := HS6.out.row
    exact free_of_st ((hb.block q HS6.out.qlt).trans h1) 1
  have HF1 := hide hf1
  have C6 := fun (W' : World) (hb : Below w6.heap.size w6 W') => r4Clone_any ⟨(j : Int), sq, tm, ty, ats⟩ B ao n cap W' (HAV.out.below (HB6.out.trans (hb.mono (by have := HB6.out.size; have := HP.out; omega))) (by have := HP.out; have := HBP.out; omega)) HNIL.out (by have := HBP.out; have := HB6.out.size; have := hb.size; omega)
  unfold evV at C6
  have HC6 := hide C6
  obtain ⟨N, hN⟩ : ∃ N, N = evs.length := ⟨_, rfl⟩
  have HN := hide hN; have HN6 := hide (show N < 65536 by have := HLL.out; omega)
  rw [← hN] at x1 HNONE HRL HPQ
  have hB0 : Below w6.heap.size w6 w6 := Below.refl _ _
  have HBc := hide hB0
  obtain ⟨c0, c1, c2, c3, c4⟩ := cell_of_five hx6
  have fq1 := hf1 w6 hB0
  have hd1 : decide ((65536 : Int) ≤ (N : Int)) = false := by have := HN6.out; simp; omega
  clear hx6 hB0 hf1 hN C6 hlb hle hle2 hj0 hj1 HK16 HMANY
  go_wp2_with fail
  go_region_law (first
      | ((refine step_append_ev (by rfl) (.const (.slice none 0 0)) (.tmp 54) (by rfl) w6.heap.size (.slice none 0 0) 0 [] (by simp [Act.eval]) (World.ownsRow_nil _ _ _ _) eo N ecap (rowCells evs vs) (by simp [Act.eval]) HRL.out (fun ad he => HNEWS.out ad he _ (by first | exact HBc.out.drew | exact HBc.out | exact HBc.out.alloc HBc.out.size _ | exact (HBc.out.alloc HBc.out.size _).drew)) HNONE.out HONE.out (by unfold maxLen; have := HN6.out; omega) (by have := HN6.out; omega) (by have := HBc.out.size; first | exact this | (simp; omega)) ?_; intro v2 wA hown2 hgr; rw [Nat.zero_add, List.nil_append] at hown2; have HO2 := hide hown2; obtain ⟨a2, k2, rfl⟩ := own_slice hown2; (try have HR5 := hide ((hgr.block wC.heap.size (by simp) (fun e => by cases e)).trans (heap_alloc_new wC _))); (try first | (have HO5 := hide (own_later HO5.out ((Below.refl _ _).grown hgr (Nat.le_refl _) (fun k e => by cases e)))) | (have HO5 := hide (own_later (HO5.out.alloc _) ((Below.refl _ _).grown hgr (Nat.le_refl _) (fun k e => by cases e))))); have HBc := hide (Below.grown (B := w6.heap.size) (a := w6) (by first | exact HBc.out.drew | exact HBc.out | exact HBc.out.alloc HBc.out.size _ | exact (HBc.out.alloc HBc.out.size _).drew) hgr (by have := HBc.out.size; first | exact this | (simp; omega)) (fun k e => by cases e)); clear hown2 hgr; clear c0 c1 c2 c3 c4 x1; obtain ⟨c0, c1, c2, c3, c4⟩ := cell_of_five (HPQ.out _ HBc.out).1; have x1 := (HPQ.out _ HBc.out).2))
      | (refine step_go_call (by rfl) 23 Try.func23 r4Clone_name r4Clone_body (.tmp 56) 35 (by rfl) (.agg #[.int .i64 (j : Int), .int .i64 sq, .int .i64 tm, .string ty, .slice ao n cap]) (by simp [Act.eval]) (HC6.out _ (by first | exact HBc.out.drew | exact HBc.out | exact HBc.out.alloc HBc.out.size _ | exact (HBc.out.alloc HBc.out.size _).drew)) ?_ (by rintro ch w' ⟨v', h, _⟩; cases h) (by rintro w' ⟨v', h, _⟩; cases h); intro vz wC h5; obtain ⟨v5, hv5, ho5, hb⟩ := h5; obtain rfl := Ending.returned.inj hv5; obtain ⟨a5, k5, rfl⟩ := own_slice ho5; clear hv5; have HO5 := hide (row_base ho5 (by have := HBc.out.size; first | exact this | (simp; omega))); (try have HO2 := hide (own_later HO2.out hb)); have HBc := hide (show Below w6.heap.size w6 wC from Below.trans (b := _) (by first | exact HBc.out.drew | exact HBc.out | exact HBc.out.alloc HBc.out.size _ | exact (HBc.out.alloc HBc.out.size _).drew) (hb.mono (by have := HBc.out.size; first | exact this | (simp; omega)))); clear ho5 hb; clear c0 c1 c2 c3 c4 x1; obtain ⟨c0, c1, c2, c3, c4⟩ := cell_of_five (HPQ.out _ HBc.out).1; have x1 := (HPQ.out _ HBc.out).2)
      | (have hO := HO2.out.alloc (.cells #[.int .i64 (j : Int), .int .i64 sq, .int .i64 tm, .string ty, .slice a5 ats.length k5] 35); have hN : ∀ ad : Addr, (some ⟨wC.heap.size, 0, none⟩ : Option Addr) = some ad → ∀ (i : Nat) (u : Value), (evCells ⟨(j : Int), sq, tm, ty, ats⟩ (.slice a5 ats.length k5))[i]? = some u → (wC.alloc (.cells #[.int .i64 (j : Int), .int .i64 sq, .int .i64 tm, .string ty, .slice a5 ats.length k5] 35)).cell? (ad.add i) = some u := (fun ad he => by cases he; exact World.news_of_block (heap_alloc_new wC (.cells #[.int .i64 (j : Int), .int .i64 sq, .int .i64 tm, .string ty, .slice a5 ats.length k5] 35))); have hZ : w6.heap.size ≤ (wC.alloc (.cells #[.int .i64 (j : Int), .int .i64 sq, .int .i64 tm, .string ty, .slice a5 ats.length k5] 35)).heap.size := (by have := HBc.out.size; first | exact this | (simp; omega)); have hBB : Below w6.heap.size w6 (wC.alloc (.cells #[.int .i64 (j : Int), .int .i64 sq, .int .i64 tm, .string ty, .slice a5 ats.length k5] 35)) := (by first | exact HBc.out.drew | exact HBc.out | exact HBc.out.alloc HBc.out.size _ | exact (HBc.out.alloc HBc.out.size _).drew); have h5 := HO5.out.alloc (.cells #[.int .i64 (j : Int), .int .i64 sq, .int .i64 tm, .string ty, .slice a5 ats.length k5] 35); refine step_append_ev (by rfl) (.tmp 55) (.tmp 58) (by rfl) w6.heap.size (.slice a2 N k2) N (rowCells evs vs) (by simp [Act.eval]) hO (some ⟨wC.heap.size, 0, none⟩) 1 1 (evCells ⟨(j : Int), sq, tm, ty, ats⟩ (.slice a5 ats.length k5)) (by simp [Act.eval]) rfl hN (fun he => by cases he) (by intro u hu; simp [evCells] at hu; rcases hu with rfl | rfl | rfl | rfl | rfl <;> rfl) (by unfold maxLen; have := HN6.out; omega) (by have := HN6.out; omega) hZ ?_; intro v3 wD hown3 hgr; obtain ⟨g3, c3', rfl⟩ := own_shape hown3; have HOWN3 := hide hown3; have HO5 := hide (own_stays h5 (fun _ _ _ h => grown_stays hO hgr (by decide) h)); have HBc := hide (hBB.grown hgr hZ (fun k e => (hO.lt k e).1)); clear hown3 hgr hO hN hZ hBB h5; clear c0 c1 c2 c3 c4 x1; obtain ⟨c0, c1, c2, c3, c4⟩ := cell_of_five (HPQ.out _ HBc.out).1; have x1 := (HPQ.out _ HBc.out).2; have fq1 := HF1.out _ HBc.out)
      | (have hO := HO2.out.alloc (.cells #[.int .i64 (j : Int), .int .i64 sq, .int .i64 tm, .string ty, .slice a5 ats.length k5] 35); have hN : ∀ ad : Addr, (some ⟨wA.heap.size, 0, none⟩ : Option Addr) = some ad → ∀ (i : Nat) (u : Value), (evCells ⟨(j : Int), sq, tm, ty, ats⟩ (.slice a5 ats.length k5))[i]? = some u → (wA.alloc (.cells #[.int .i64 (j : Int), .int .i64 sq, .int .i64 tm, .string ty, .slice a5 ats.length k5] 35)).cell? (ad.add i) = some u := (fun ad he => by cases he; exact World.news_of_block (heap_alloc_new wA (.cells #[.int .i64 (j : Int), .int .i64 sq, .int .i64 tm, .string ty, .slice a5 ats.length k5] 35))); have hZ : w6.heap.size ≤ (wA.alloc (.cells #[.int .i64 (j : Int), .int .i64 sq, .int .i64 tm, .string ty, .slice a5 ats.length k5] 35)).heap.size := (by have := HBc.out.size; first | exact this | (simp; omega)); have hBB : Below w6.heap.size w6 (wA.alloc (.cells #[.int .i64 (j : Int), .int .i64 sq, .int .i64 tm, .string ty, .slice a5 ats.length k5] 35)) := (by first | exact HBc.out.drew | exact HBc.out | exact HBc.out.alloc HBc.out.size _ | exact (HBc.out.alloc HBc.out.size _).drew); have h5 := HO5.out.alloc (.cells #[.int .i64 (j : Int), .int .i64 sq, .int .i64 tm, .string ty, .slice a5 ats.length k5] 35); refine step_append_ev (by rfl) (.tmp 55) (.tmp 58) (by rfl) w6.heap.size (.slice a2 N k2) N (rowCells evs vs) (by simp [Act.eval]) hO (some ⟨wA.heap.size, 0, none⟩) 1 1 (evCells ⟨(j : Int), sq, tm, ty, ats⟩ (.slice a5 ats.length k5)) (by simp [Act.eval]) rfl hN (fun he => by cases he) (by intro u hu; simp [evCells] at hu; rcases hu with rfl | rfl | rfl | rfl | rfl <;> rfl) (by unfold maxLen; have := HN6.out; omega) (by have := HN6.out; omega) hZ ?_; intro v3 wD hown3 hgr; obtain ⟨g3, c3', rfl⟩ := own_shape hown3; have HOWN3 := hide hown3; have HO5 := hide (own_stays h5 (fun _ _ _ h => grown_stays hO hgr (by decide) h)); have HBc := hide (hBB.grown hgr hZ (fun k e => (hO.lt k e).1)); clear hown3 hgr hO hN hZ hBB h5; clear c0 c1 c2 c3 c4 x1; obtain ⟨c0, c1, c2, c3, c4⟩ := cell_of_five (HPQ.out _ HBc.out).1; have x1 := (HPQ.out _ HBc.out).2; have fq1 := HF1.out _ HBc.out)
      | (have hO := HO2.out; have hN : ∀ ad : Addr, (some ⟨wC.heap.size, 0, none⟩ : Option Addr) = some ad → ∀ (i : Nat) (u : Value), (evCells ⟨(j : Int), sq, tm, ty, ats⟩ (.slice a5 ats.length k5))[i]? = some u → wA.cell? (ad.add i) = some u := (fun ad he => by cases he; exact World.news_of_block HR5.out); have hZ : w6.heap.size ≤ wA.heap.size := (by have := HBc.out.size; first | exact this | (simp; omega)); have hBB : Below w6.heap.size w6 wA := (by first | exact HBc.out.drew | exact HBc.out | exact HBc.out.alloc HBc.out.size _ | exact (HBc.out.alloc HBc.out.size _).drew); have h5 := HO5.out; refine step_append_ev (by rfl) (.tmp 55) (.tmp 58) (by rfl) w6.heap.size (.slice a2 N k2) N (rowCells evs vs) (by simp [Act.eval]) hO (some ⟨wC.heap.size, 0, none⟩) 1 1 (evCells ⟨(j : Int), sq, tm, ty, ats⟩ (.slice a5 ats.length k5)) (by simp [Act.eval]) rfl hN (fun he => by cases he) (by intro u hu; simp [evCells] at hu; rcases hu with rfl | rfl | rfl | rfl | rfl <;> rfl) (by unfold maxLen; have := HN6.out; omega) (by have := HN6.out; omega) hZ ?_; intro v3 wD hown3 hgr; obtain ⟨g3, c3', rfl⟩ := own_shape hown3; have HOWN3 := hide hown3; have HO5 := hide (own_stays h5 (fun _ _ _ h => grown_stays hO hgr (by decide) h)); have HBc := hide (hBB.grown hgr hZ (fun k e => (hO.lt k e).1)); clear hown3 hgr hO hN hZ hBB h5; clear c0 c1 c2 c3 c4 x1; obtain ⟨c0, c1, c2, c3, c4⟩ := cell_of_five (HPQ.out _ HBc.out).1; have x1 := (HPQ.out _ HBc.out).2; have fq1 := HF1.out _ HBc.out)
      | fail)
  all_goals go_wp2
  all_goals
    go_ret
    have ho3 := HOWN3.out
    rw [HN.out] at ho3 ⊢
    have acc := HS6.out.accepted (ev := ⟨(j : Int), sq, tm, ty, ats⟩) HBc.out ho3 HO5.out HWD.out HLN.out HTY.out HLL.out
    have hPw := HP.out
    have hs6 : P ≤ w6.heap.size := by have := HB6.out.size; omega
    have hqw := HRS.out.qlt
    refine ⟨rfl, _, acc.1.widen (fun b hb => hb.imp id (fun h => ⟨by omega, by have := h.2; simpa using this⟩)) (fun b hb => hb.elim (fun h => acc.1.glt b (.inl h)) (fun h => h.2)) (fun hb => hb.elim HS6.out.nq (fun h => by omega)), ?_⟩
    exact (Chg.of_below (F := fun b => b = q) (by rw [← hPw]; exact HB6.out)).trans acc.2 (fun b hb => .inl hb)
end Go.Proofs.Ythjhbnfedelniaa
