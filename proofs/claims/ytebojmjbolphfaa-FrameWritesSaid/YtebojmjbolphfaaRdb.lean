/- Contract: the reader's body: so many bytes, ahead of them how many. -/
import Derived.Test.YtebojmjbolphfaaRdr
namespace Go.Proofs.Ytebojmjbolphfaa
open Go Go.RowKit

set_option maxRecDepth 100000 in
theorem sBits_at (B q m : Nat) (bytes : List Nat) (p : Nat) (v : Value) (w : World) (hs : SrcIs w B q bytes p) (hv : SrcAt w B q bytes p v) (hm64 : m ≤ 64) :
    Calls Try.prog 65 #[.pointer (some ⟨q, 0, none⟩), .int .i64 (m : Int)] w fun e w' => e = .returned (.tuple #[.int .u64 ((bitsVal (leftL bytes p) m : Nat) : Int), .int .i64 ((bitsErr m (leftL bytes p).length : Nat) : Int)]) ∧
      (∃ p', SrcIs w' B q bytes p' ∧ SrcAt w' B q bytes p' v ∧ leftL bytes p' = bitsRest (leftL bytes p) m) ∧ Kept B srcT w w' := by
  have hp := hs.at_
  obtain ⟨Lf, hLf⟩ : ∃ Lf, Lf = 8 * bytes.length - p := ⟨_, rfl⟩
  have C2 := sLeft_any B q bytes p w hs
  rw [← hLf] at C2
  have hm := hs.made
  by_cases h3 : Lf < m
  · have he := bitsErr_ends (n := (m : Int)) (len := (leftL bytes p).length) (by omega) (by rw [leftL_length]; omega)
    rw [bitsVal, bitsRest, he]
    have HS := hide hs; have HV := hide hv
    clear hs hv he hLf
    go_enter Try.func65, Try.ntmps65
    go_wp2_with fail
    refine (sIsMade_any q _ hm).mono ?_; rintro e w' ⟨rfl, rfl⟩
    go_wp2_with fail
    refine C2.mono ?_; rintro e w1 ⟨rfl, k, rfl⟩
    go_wp2
    go_ret2
    exact ⟨rfl, ⟨p, HS.out.drewN k, HV.out, rfl⟩, (Kept.refl _ _ _).drewN k⟩
  · have he := bitsErr_ok (n := m) (len := (leftL bytes p).length) (by omega) (by rw [leftL_length]; omega)
    rw [bitsVal, bitsRest, he, if_pos rfl, if_pos rfl]
    have hva := valAt_left bytes p 0 m
    rw [Nat.add_zero, List.drop_zero] at hva
    have hr : leftL bytes (p + m) = (leftL bytes p).drop m := by simp [leftL, List.drop_drop]
    have hle : p + m ≤ 8 * bytes.length := by omega
    rw [show ((m : Int)).toNat = m from rfl, ← hva]
    have HR := hide hr
    have HS := hide hs; have HV := hide hv
    have HC := hide (fun k => sTake_at B q m bytes p (w.drewN k) (hs.drewN k) hm64 hle)
    clear hs hv he hLf hr hva
    go_enter Try.func65, Try.ntmps65
    go_wp2_with fail
    refine (sIsMade_any q _ hm).mono ?_; rintro e w' ⟨rfl, rfl⟩
    go_wp2_with fail
    refine C2.mono ?_; rintro e w1 ⟨rfl, k, rfl⟩
    go_wp2_with fail
    refine (HC.out k).mono ?_; rintro e w' ⟨rfl, rfl⟩
    go_wp2
    go_ret2
    have hv1 : SrcAt (w.drewN k) B q bytes p v := HV.out
    exact ⟨rfl, ⟨p + m, (hv1.moved (p + m)).is HS.out hle, hv1.moved (p + m), HR.out⟩, ((Kept.refl _ _ _).drewN k).trans ((HS.out.drewN k).keeps _)⟩

/-- A reader that has met no error, its source's slice of bytes named. -/
structure RdAt (w : World) (B p q : Nat) (bytes : List Nat) (l : List Bool) (v : Value) : Prop where
  from_ : B ≤ p
  box : w.heap[p]? = some (.cells #[.pointer (some ⟨q, 0, none⟩), .int .i64 0] 74 (0, 0))
  src : ∃ pos, SrcIs w B q bytes pos ∧ SrcAt w B q bytes pos v ∧ leftL bytes pos = l
theorem RdIs.at_ {w : World} {B p q : Nat} {bytes : List Nat} {s : St} (h : RdIs w B p q bytes s) (h0 : s.1 = 0) : ∃ v, RdAt w B p q bytes s.2 v := by
  obtain ⟨l, ⟨pos, h1, h2⟩, h3⟩ := h.src
  obtain ⟨v, h4, h5⟩ := h1.row
  have hb := h.box
  rw [h0] at hb
  exact ⟨v, h.from_, hb, pos, h1, ⟨h4, h5⟩, by rw [h2, h3 h0]⟩
theorem RdAt.is {w : World} {B p q : Nat} {bytes : List Nat} {l : List Bool} {v : Value} (h : RdAt w B p q bytes l v) : RdIs w B p q bytes (0, l) := by
  obtain ⟨pos, h1, _, h3⟩ := h.src
  exact ⟨h.from_, h.box, l, ⟨pos, h1, h3⟩, fun _ => rfl⟩
theorem RdAt.lt {w : World} {B p q : Nat} {bytes : List Nat} {l : List Bool} {v : Value} (h : RdAt w B p q bytes l v) : ∀ k, v.ownBlock = some k → k < w.heap.size := by
  obtain ⟨pos, _, h2, _⟩ := h.src
  exact fun k hk => (h2.2.lt k hk).2
/-- What grows is a row of bytes of a later block. -/
theorem RdAt.grown {w w' : World} {B p q H n : Nat} {bytes : List Nat} {l : List Bool} {v u : Value} {xs : List Value} (h : RdAt w B p q bytes l v) (hu : w.ownsRow H 5 1 u n xs) (hg : w.grownBy w' u.ownBlock) (hlt : ∀ k, v.ownBlock = some k → k < H) : RdAt w' B p q bytes l v := by
  obtain ⟨pos, h1, h2, h3⟩ := h.src
  have hat : SrcAt w' B q bytes pos v := by
    refine ⟨grow_keeps h2.1 hu (by decide) hg rfl, h2.2.1, ?_⟩
    rcases h2.2.2 with hn | ⟨g, cap, cur, rfl, hb, hgg, rest⟩
    · exact .inl hn
    · refine .inr ⟨g, cap, cur, rfl, hb, ?_, rest⟩
      rw [hg.block g (lt_of_block hgg) ?_]; · exact hgg
      intro hk
      have := hlt g rfl
      have := (hu.lt g hk.symm).1
      omega
  exact ⟨h.from_, grow_keeps h.box hu (by decide) hg rfl, pos, hat.is h1 h1.at_, hat, h3⟩
theorem RdAt.alloc {w : World} {B p q : Nat} {bytes : List Nat} {l : List Bool} {v : Value} (h : RdAt w B p q bytes l v) (o : Obj) : RdAt (w.alloc o) B p q bytes l v := by
  obtain ⟨pos, h1, h2, h3⟩ := h.src
  exact ⟨h.from_, heap_alloc_keeps h.box o, pos, (h2.alloc o).is h1 h1.at_, h2.alloc o, h3⟩

set_option maxRecDepth 100000 in
set_option maxHeartbeats 800000 in
theorem fdBits_at (B p q n : Nat) (bytes : List Nat) (l : List Bool) (v : Value) (w : World) (h : RdAt w B p q bytes l v) (hn : n ≤ 64) (hl : n ≤ l.length) :
    Calls Try.prog 60 #[.pointer (some ⟨p, 0, none⟩), .int .i64 (n : Int)] w fun e w' => e = .returned (.int .u64 ((valBits (l.take n) : Nat) : Int)) ∧ RdAt w' B p q bytes (l.drop n) v ∧ Kept B rdT w w' := by
  obtain ⟨c0, c1⟩ := cell_of_two h.box
  obtain ⟨pos, h1, h2, rfl⟩ := h.src
  have hbox := h.box
  have hfr := h.from_
  have HBx := hide hbox
  have C := sBits_at B q n bytes pos v w h1 h2 hn
  have he : bitsErr (n : Int) (leftL bytes pos).length = 0 := bitsErr_ok hn hl
  rw [bitsVal, bitsRest, he, if_pos rfl, if_pos rfl, show ((n : Int)).toNat = n from rfl] at C
  obtain ⟨V, hV⟩ : ∃ V, V = valBits ((leftL bytes pos).take n) := ⟨_, rfl⟩
  obtain ⟨R, hR⟩ : ∃ R, R = (leftL bytes pos).drop n := ⟨_, rfl⟩
  rw [← hV, ← hR] at C
  rw [← hV, ← hR]
  clear hV hR hbox h1 h2 h he hl
  go_enter Try.func60, Try.ntmps60
  go_wp2_with fail
  refine C.mono ?_
  clear C
  rintro e w1 ⟨rfl, hs1, k1⟩
  have hb1 := k1.typed _ _ _ _ HBx.out (by decide)
  obtain ⟨d0, d1⟩ := cell_of_two hb1
  obtain ⟨g0, g1⟩ := free_of_two hb1
  have HS1 := hide hs1
  have HB1 := hide hb1; have K1 := hide k1
  clear hs1 hb1 k1
  go_wp2
  go_ret
  obtain ⟨pos', a1, a2, a3⟩ := HS1.out
  have hat : SrcAt (w1.setCell ⟨p, 1, none⟩ (.int .i64 0)) B q bytes pos' v := by
    have hne : q ≠ p := by
      intro h
      have := a2.1
      rw [h, HB1.out] at this
      simp at this
    refine ⟨by rw [Below.heap_setCell _ _ _ _ hne]; exact a2.1, ownsRow_setCell_typed a2.2 HB1.out (by decide) _⟩
  have hk2 : Kept B rdT w1 (w1.setCell ⟨p, 1, none⟩ (.int .i64 0)) := (Kept.refl _ _ _).setCell (p := ⟨p, 1, none⟩) hfr HB1.out rfl _
  refine ⟨rfl, ⟨hfr, ?_, pos', hat.is a1 a1.at_, hat, a3⟩, (kept_src K1.out).trans hk2⟩
  rw [heap_setCell_same HB1.out]; simp

def rbT (e : Nat) : Bool := e == 84 || e == 74 || e == 5
theorem rbT_rd (e : Nat) (h : rbT e = false) : rdT e = false := by unfold rbT at h; simp at h; simpa [rdT] using h.1
theorem kept_rd {B : Nat} {w w' : World} (h : Kept B rdT w w') : Kept B rbT w w' := h.mono (Nat.le_refl _) rbT_rd
theorem rdN_zero (s : St) (h : (rdN s).2.1 ≠ 0) : (rdN s).1 = 0 := by
  unfold rdN at h ⊢
  by_cases h0 : s.1 = 0
  · rw [if_pos h0] at h ⊢
    show natValL s.2 = 0
    unfold natValL
    exact if_neg h
  · rw [if_neg h0]
theorem chunk_drop (l : List Bool) (j : Nat) : valBits ((l.drop (8 * j)).take 8) = chunk l j := rfl
theorem range_chunk (l : List Bool) (j : Nat) : byteVs ((List.range (j + 1)).map (chunk l)) = byteVs ((List.range j).map (chunk l)) ++ [.int .u8 ((chunk l j : Nat) : Int)] := by
  rw [List.range_succ, List.map_append, byteVs_append]; rfl

set_option maxRecDepth 100000 in
set_option maxHeartbeats 1600000 in
theorem fdBody_any (B p q : Nat) (bytes : List Nat) (s : St) (w : World) (h : RdIs w B p q bytes s) (hB : B ≤ w.heap.size) :
    Calls Try.prog 62 #[.pointer (some ⟨p, 0, none⟩)] w fun e w' => ∃ v, e = .returned v ∧ w'.ownsRow w.heap.size 5 1 v (rdBody s).1.length (byteVs (rdBody s).1) ∧ RdIs w' B p q bytes (rdBody s).2 ∧ Kept B rbT w w' := by
  obtain ⟨i0, hi, hz0, hz1, hz2⟩ := info_parts Try.info5
  have C := fdNat_any B p q bytes s w h
  have hbig : (rdN s).1 < 2 ^ 64 := by
    unfold rdN
    by_cases h0 : s.1 = 0
    · rw [if_pos h0]
      obtain ⟨l, ⟨pos, _, h4⟩, h5⟩ := h.src
      have := natVal_lt bytes pos
      rw [natVal_left, h4, h5 h0] at this
      exact this
    · rw [if_neg h0]; exact Nat.two_pow_pos 64
  by_cases h1 : 16384 < (rdN s).1
  · rw [show rdBody s = ([], (21, [])) by unfold rdBody; rw [if_pos h1]]
    obtain ⟨N, hN⟩ : ∃ N, N = (rdN s).1 := ⟨_, rfl⟩
    rw [← hN] at C h1 hbig
    obtain ⟨s1, hs1⟩ : ∃ s1, s1 = (rdN s).2 := ⟨_, rfl⟩
    rw [← hs1] at C
    clear hN hs1 h
    go_enter Try.func62, Try.ntmps62
    go_wp2_with fail
    refine C.mono ?_
    clear C
    rintro e w1 ⟨rfl, hr, k1⟩
    obtain ⟨d0, d1⟩ := cell_of_two hr.box
    obtain ⟨g0, g1⟩ := free_of_two hr.box
    have HR := hide hr; have K1 := hide k1
    clear hr k1
    go_wp2
    go_ret
    obtain ⟨l, hl, _⟩ := HR.out.src
    have hx := RdIs.setErr (e := 21) HR.out.from_ HR.out.box hl [] (fun h => by cases h)
    exact ⟨_, rfl, World.ownsRow_nil _ _ _ _, hx.1, kept_rd (K1.out.trans hx.2)⟩
  by_cases h2 : (rdN s).2.1 = 0
  · -- the bytes, one by one
    obtain ⟨N, hN⟩ : ∃ N, N = (rdN s).1 := ⟨_, rfl⟩
    obtain ⟨R, hR⟩ : ∃ R, R = (rdN s).2.2 := ⟨_, rfl⟩
    have hs1 : (rdN s).2 = (0, R) := by rw [hR, ← h2]
    have hend : R.length < 8 * N → rdBody s = ([], (10, [])) := by
      intro hh; unfold rdBody; rw [if_neg h1, if_pos h2, if_pos (by rw [← hR, ← hN]; exact hh)]
    have hok : ¬ R.length < 8 * N → rdBody s = ((List.range N).map (chunk R), (0, R.drop (8 * N))) := by
      intro hh; unfold rdBody; rw [if_neg h1, if_pos h2, if_neg (by rw [← hR, ← hN]; exact hh), ← hR, ← hN]
    rw [hs1, ← hN] at C
    rw [← hN] at h1 hbig
    have HEnd := hide hend; have HOk := hide hok
    have hN2 : N ≤ 16384 := by omega
    clear hend hok hN hR hs1 h2 h1 h hbig
    go_enter Try.func62, Try.ntmps62
    go_wp2_with fail
    refine C.mono ?_
    clear C
    rintro e w1 ⟨rfl, hr, k1⟩
    obtain ⟨v0, hv0⟩ := hr.at_ rfl
    obtain ⟨H, hH⟩ : ∃ H, H = w1.heap.size := ⟨_, rfl⟩
    have hlt0 : ∀ k, v0.ownBlock = some k → k < H := by rw [hH]; exact hv0.lt
    have hHB : w.heap.size ≤ H := by rw [hH]; exact k1.below.size
    have HV0 := hide hv0; have HLt := hide hlt0; have HHB := hide hHB; have K1 := hide k1; have HH := hide hH
    clear hr hv0 hlt0 hHB k1 hH
    go_wp2
    go_loopw [4, 14] (fun u i wr => ∃ j : Nat, j ≤ N ∧ 8 * j ≤ R.length ∧ i = .int .u64 j ∧ wr.ownsRow H 5 1 u j (byteVs ((List.range j).map (chunk R))) ∧ RdAt wr B p q bytes (R.drop (8 * j)) v0 ∧ H ≤ wr.heap.size ∧ Kept B rbT w1 wr) (fun _ i _ => N - (intOf i).toNat)
    case atStart => exact ⟨0, Nat.zero_le _, Nat.zero_le _, rfl, World.ownsRow_nil _ _ _ _, HV0.out, by rw [HH.out]; exact Nat.le_refl _, Kept.refl _ _ _⟩
    case round =>
      obtain ⟨j, hj, hjR, rfl, hown, hrd, hszr, hkr⟩ := hrel
      obtain ⟨aou, cu, rfl⟩ := own_slice hown
      by_cases hlt : j < N
      · by_cases hmore : 8 * (j + 1) ≤ R.length
        · have CB := fdBits_at B p q 8 bytes (R.drop (8 * j)) v0 wr hrd (by omega) (by rw [List.length_drop]; omega)
          rw [chunk_drop, List.drop_drop] at CB
          have hc := chunk_lt R j
          have HRC := hide (range_chunk R j)
          obtain ⟨c, hcc⟩ : ∃ c, c = chunk R j := ⟨_, rfl⟩
          rw [← hcc] at CB hc
          have HC := hide hcc
          have HO := hide hown; have Hszr := hide hszr; have HKr := hide hkr
          clear hcc hown hrd hszr hkr
          go_wp2_with fail
          refine CB.mono ?_
          clear CB
          rintro e w2 ⟨rfl, hrd2, k2⟩
          obtain ⟨d0, d1⟩ := cell_of_two hrd2.box
          have HO2 := hide (k2.ownsRow HO.out (by decide))
          have HRd2 := hide hrd2
          have HK2 := hide (HKr.out.trans (kept_rd k2))
          have Hsz2 := hide (Nat.le_trans Hszr.out k2.below.size)
          clear hrd2 k2
          have HOA := hide (HO2.out.alloc (.cells #[.int .u8 (c : Int)] 5))
          have HRA := hide (HRd2.out.alloc (.cells #[.int .u8 (c : Int)] 5))
          have HKA := hide (HK2.out.alloc (Nat.le_trans hB (Nat.le_trans HHB.out Hsz2.out)) (.cells #[.int .u8 (c : Int)] 5))
          go_wp2_with (at_builtin; refine wpList_append_own _ rfl (.tmp 24) (.tmp 26) 22 rfl H 5 i0 (.int .u8 0) 1 1 Try.underlying22 hi hz0 hz1 hz2 rfl (by decide) (.slice aou j cu) j _ rfl HOA.out ⟨w2.heap.size, 0, none⟩ 1 1 [.int .u8 (c : Int)] rfl rfl (by intro i u hi; match i, hi with | 0, hi => simp at hi; subst hi; simp only [Addr.add]; exact cell_alloc_one _ _ rfl _ _) (by intro u hu; simp at hu; subst hu; rfl) (by unfold maxLen; omega) (by omega) (by have := Hsz2.out; simp <;> omega) ?_; intro v3 w3 hown3 hgrow3 hnil3; clear hnil3; obtain ⟨ao3, c3, rfl⟩ := own_slice hown3; have HO3 := hide hown3; have HRd3 := hide (HRA.out.grown HOA.out hgrow3 HLt.out); have HK3 := hide (HKA.out.grown HOA.out rfl hgrow3 (by have := Hsz2.out; have := HHB.out; simp <;> omega) (Nat.le_trans hB HHB.out)); have Hsz3 := hide (Nat.le_trans (by have := Hsz2.out; simp <;> omega : H ≤ (w2.alloc (.cells #[.int .u8 (c : Int)] 5)).heap.size) hgrow3.size); clear hown3 hgrow3)
          go_roundw
          case rel =>
            refine ⟨j + 1, by omega, hmore, by go_num, ?_, ?_, Hsz3.out, HK3.out⟩
            · rw [HRC.out, ← HC.out]; exact HO3.out
            · have := HRd3.out
              rw [show 8 * j + 8 = 8 * (j + 1) by omega] at this
              exact this
          case measure => simp [intOf]; omega
        · have CB := fdBits_any B p q 8 bytes (0, R.drop (8 * j)) wr hrd.is (by omega)
          rw [rdB_ends 8 _ (by omega) (by rw [List.length_drop]; omega)] at CB
          have HKr := hide hkr
          have hlen : R.length < 8 * N := by omega
          have HE := hide (HEnd.out hlen)
          clear hown hrd hszr hkr hlen
          go_wp2_with fail
          refine CB.mono ?_
          clear CB
          rintro e w2 ⟨rfl, hrd2, k2⟩
          obtain ⟨d0, d1⟩ := cell_of_two hrd2.box
          have HRd2 := hide hrd2
          have HK2 := hide ((kept_rd K1.out).trans (HKr.out.trans (kept_rd k2)))
          clear hrd2 k2
          go_wp2
          go_ret
          rw [HE.out]
          obtain ⟨l, hl, _⟩ := HRd2.out.src
          exact ⟨_, rfl, World.ownsRow_nil _ _ _ _, ⟨HRd2.out.from_, HRd2.out.box, l, hl, fun h => by cases h⟩, HK2.out⟩
      · have HO := hide hown; have HRd := hide hrd; have HKr := hide hkr
        obtain rfl : j = N := by omega
        have HE := hide (HOk.out (by omega))
        clear hown hrd hkr hszr
        go_wp2
        go_ret
        rw [HE.out]
        refine ⟨_, rfl, ?_, HRd.out.is, (kept_rd K1.out).trans HKr.out⟩
        have := ownsRow_lower HO.out HHB.out
        rw [show ((List.range j).map (chunk R)).length = j by simp]
        exact this
  · have hz := rdN_zero s h2
    have e1 : rdBody s = ([], (rdN s).2) := by unfold rdBody; rw [if_neg h1, if_neg h2]
    rw [hz] at C
    rw [e1]
    obtain ⟨s1, hs1⟩ : ∃ s1, s1 = (rdN s).2 := ⟨_, rfl⟩
    rw [← hs1] at C
    rw [← hs1]
    clear hs1 h e1 hz h1 h2 hbig
    go_enter Try.func62, Try.ntmps62
    go_wp2_with fail
    refine C.mono ?_
    clear C
    rintro e w1 ⟨rfl, hr, k1⟩
    have HR := hide hr; have K1 := hide k1
    clear hr k1
    go_wp2
    refine wp_loop_rounds 1 ?_
    rw [rounds_succ]
    go_wp2
    go_ret
    exact ⟨_, rfl, World.ownsRow_nil _ _ _ _, HR.out, kept_rd K1.out⟩
end Go.Proofs.Ytebojmjbolphfaa
