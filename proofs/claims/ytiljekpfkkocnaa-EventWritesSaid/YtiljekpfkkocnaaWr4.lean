/- The walk of EventWrites. -/
import Derived.Test.YtiljekpfkkocnaaRby4
namespace Go.Proofs.Ytiljekpfkkocnaa
open Go Go.RowKit

theorem and7 (h : Nat) (hh : h < 256) : bits BinOp.and IntKind.u8 (h : Int) 7 = ((h % 8 : Nat) : Int) := by
  have k : ∀ h : Fin 256, bits BinOp.and IntKind.u8 (((h.val : Nat)) : Int) 7 = ((h.val % 8 : Nat) : Int) := by decide +kernel
  exact k ⟨h, hh⟩
theorem evBytes_small (ev : Ev) : ∀ c ∈ evBytes ev, c < 256 := by
  unfold evBytes; split
  · exact packed_small _
  · intro c hc; cases hc
theorem evBytes_len (ev : Ev) (hn : Wf ev.ats) : (evBytes ev).length ≤ 2000 := by
  unfold evBytes; split
  · rename_i h
    have := evBits_le ev (EvOk.of h) (fun x hx => zig_ok (hn x hx))
    have := packed_length_le (evBits ev)
    omega
  · simp

/-- How things stand within EventWrites: the event's box, its attributes, what was written. -/
structure Wx4 (w0 : World) (P : Nat) (cs : Array Value) (va : Value) (x : List At) (rows : List (Value × List Nat)) (w : World) : Prop where
  below : Below P w0 w
  sz : P < w.heap.size
  bx : w.heap[P]? = some (.cells cs 26 (0, 0))
  hx : Av w P va x
  rows : ∀ r ∈ rows, Bv w w.heap.size r.1 r.2
theorem Wx4.call {w0 : World} {P : Nat} {cs : Array Value} {va : Value} {x : List At} {rows : List (Value × List Nat)} {w w' : World} (h : Wx4 w0 P cs va x rows w) (hb : Below w.heap.size w w') : Wx4 w0 P cs va x rows w' :=
  ⟨h.below.trans (hb.mono (Nat.le_of_lt h.sz)), Nat.lt_of_lt_of_le h.sz hb.size, (hb.block P h.sz).trans h.bx, h.hx.below hb (Nat.le_of_lt h.sz), fun r hr => ((h.rows r hr).below hb (Nat.le_refl _)).mono hb.size⟩
/-- A call that changes only what lies behind the rows. -/
theorem Wx4.from_ {w0 : World} {P : Nat} {cs : Array Value} {va : Value} {x : List At} {rows : List (Value × List Nat)} {w1 w w' : World} (h1 : Wx4 w0 P cs va x rows w1) (h : Below w1.heap.size w1 w) (hb : Below w1.heap.size w w') : Wx4 w0 P cs va x rows w' := h1.call (h.trans hb)
theorem Wx4.row {w0 : World} {P : Nat} {cs : Array Value} {va : Value} {x : List At} {rows : List (Value × List Nat)} {w w' : World} (h : Wx4 w0 P cs va x rows w) (hb : Below w.heap.size w w') {v : Value} {l : List Nat} (hv : Bv w' w'.heap.size v l) : Wx4 w0 P cs va x ((v, l) :: rows) w' := by
  have hc := h.call hb
  exact ⟨hc.below, hc.sz, hc.bx, hc.hx, fun r hr => (List.mem_cons.1 hr).elim (fun e => by rw [e]; exact hv) (hc.rows r)⟩

set_option maxRecDepth 100000 in
set_option maxHeartbeats 1600000 in
theorem writes_walk (ev : Ev) (h : Nat) (ao : Option Addr) (n cap : Nat) (w : World) (hx : Av w w.heap.size (.slice ao n cap) ev.ats) (hty : ev.ty.size ≤ maxLen) (hn : Wf ev.ats) (hh : h < 256) :
    Calls Try.prog 4 #[evV ev (.slice ao n cap), .int .u8 (h : Int)] w fun e w' => e = .returned (.bool true) ∧ Below w.heap.size w w' := by
  obtain ⟨P, hP⟩ : ∃ P, P = w.heap.size := ⟨_, rfl⟩
  obtain ⟨W, hW⟩ : ∃ W, W = w.alloc (.cells #[.int .i64 ev.src, .int .i64 ev.seq, .int .i64 ev.time, .string ev.ty, .slice ao n cap] 26) := ⟨_, rfl⟩
  have hbel : Below P w W := by rw [hW, hP]; exact (Below.refl _ _).alloc (Nat.le_refl _) _
  have HB0 : Hid (Wx4 w P #[.int .i64 ev.src, .int .i64 ev.seq, .int .i64 ev.time, .string ev.ty, .slice ao n cap] (.slice ao n cap) ev.ats [] W) :=
    hide ⟨hbel, by rw [hW, hP]; simp, by rw [hW, hP]; exact heap_alloc_new w _, (hx.mono (Nat.le_of_eq hP.symm)).below hbel (Nat.le_refl _), (fun r hr => by cases hr)⟩
  have HW := hide hW; have HP := hide hP
  have CA := fun (w : World) (h1 : Av w P (.slice ao n cap) ev.ats) (h3 : P ≤ w.heap.size) => eBytes_any ev P ao n cap w h3 h1 hty hn
  have CB := fun (w : World) (h1 : Av w P (.slice ao n cap) ev.ats) (h3 : P ≤ w.heap.size) => r4Bytes_any ev P ao n cap w h3 h1 hty hn
  have CP := fun (w : World) (q : Nat) (bs : List Bool) (hs : SinkIs w q q bs) (hB : q ≤ w.heap.size) (h1 : Av w q (.slice ao n cap) ev.ats) => ePut_any ev q q bs ao n cap w hs hB h1 hty hn
  obtain ⟨H, hH⟩ : ∃ H : Nat, H = h % 8 := ⟨_, rfl⟩
  have hH8 : H < 8 := by omega
  have eH := and7 h hh
  rw [← hH] at eH
  have hsm := evBytes_small ev
  have hel := evBytes_len ev hn
  obtain ⟨eb, heb⟩ : ∃ eb, eb = evBytes ev := ⟨_, rfl⟩
  rw [← heb] at CA CB hsm hel
  have HSM := hide hsm; have HEL := hide hel
  have CL : ∀ w, Calls Try.prog 24 #[.int .u64 (H : Int), .int .i64 3] w fun e w' => ∃ v, e = .returned v ∧ Flags w' w.heap.size v (bitsOf H 3) ∧ Below w.heap.size w w' := fun w => rLow_any H 3 w (by omega) (by omega)
  have CK := fun (w : World) (q : Nat) (hs : SinkIs w q q []) => kBits_fits q q H 3 [] w hs (by decide) (by omega) (by simp)
  have HCL := hide CL; have HCK := hide CK
  have hH0 : (0 : Int) ≤ (H : Int) := by omega
  have hH7 : (H : Int) ≤ 7 := by omega
  rw [← hP]
  by_cases hck : ckE ev = 0
  · have hok := EvOk.of hck
    have hle := evBits_le ev hok (fun x hx => zig_ok (hn x hx))
    have CF := fun (w : World) (h : Av w P (.slice ao n cap) ev.ats) (hB : P ≤ w.heap.size) => r4Form_any ev P ao n cap w hB h hok hn
    have hpe : putErr (bitsOf H 3).length ev = 0 := putErr_ok hck (by rw [bitsOf_length]; omega)
    have hpb : putBits (bitsOf H 3) ev = bitsOf H 3 ++ evBits ev := by unfold putBits; rw [hpe, if_pos rfl]
    have CP := fun (w : World) (q : Nat) (hs : SinkIs w q q (bitsOf H 3)) (hB : q ≤ w.heap.size) (h1 : Av w q (.slice ao n cap) ev.ats) => CP w q (bitsOf H 3) hs hB h1
    simp only [hpe, hpb] at CP
    rw [hck] at CA CB
    have hpos : 0 < (evBits ev).length := by unfold evBits; rw [List.length_append, headE_len]; omega
    obtain ⟨l, hl⟩ : ∃ l, l = evBits ev := ⟨_, rfl⟩
    rw [← hl] at CF CP hle hpos
    have HPOS := hide hpos
    have HL3 := hide (show (bitsOf H 3).length + l.length ≤ 1048576 by rw [bitsOf_length]; omega)
    have HL4 := hide (show (bitsOf H 3 ++ l).length ≤ 1048576 by rw [List.length_append, bitsOf_length]; omega)
    have HCA := hide CA; have HCB := hide CB; have HCF := hide CF; have HCP := hide CP
    unfold evV at HCA HCB HCF HCP ⊢
    obtain ⟨s, sq, t, ty, ats⟩ := ev
    simp only at *
    obtain ⟨c0, c1, c2, c3, c4⟩ := cell_of_five HB0.out.bx
    clear hbel hW hP CA CB CF CP CL CK hn hx hty hh hck hok hle hpe hpb hl heb hpos hsm hel hH hH8
    go_enter Try.func4, Try.ntmps4
    go_wp2_with fail
    rw [← HW.out, ← HP.out]
    refine (HCA.out W HB0.out.hx (Nat.le_of_lt HB0.out.sz)).mono ?_
    rintro e w1 ⟨va, rfl, ho, hb⟩
    obtain ⟨aa, ka, rfl⟩ := own_slice ho
    have HB1 := hide (HB0.out.row hb (Bv.of_own ho HSM.out (by have := HEL.out; omega)))
    clear ho hb c0 c1 c2 c3 c4
    obtain ⟨c0, c1, c2, c3, c4⟩ := cell_of_five HB1.out.bx
    go_wp2_with fail
    refine (HCB.out w1 HB1.out.hx (Nat.le_of_lt HB1.out.sz)).mono ?_
    rintro e w2 ⟨vb, rfl, ho, hb⟩
    obtain ⟨ab, kb, rfl⟩ := own_slice ho
    have HB2 := hide (HB1.out.row hb (Bv.of_own ho HSM.out (by have := HEL.out; omega)))
    clear ho hb c0 c1 c2 c3 c4
    go_wp2_with fail
    refine (newSink_any w2).mono ?_
    obtain ⟨q, hq⟩ : ∃ q, q = w2.heap.size := ⟨_, rfl⟩
    rw [← hq]
    have HQ := hide hq
    rintro e w3 ⟨rfl, hs, k3⟩
    have HS3 := hide hs
    have HB3 := hide (HB2.out.call (by rw [← hq]; exact k3.below))
    have HK3 := hide (show Below w2.heap.size w2 w3 by rw [← hq]; exact k3.below)
    clear hs k3 hq
    go_wp2_with fail
    refine (begun4_any w3).mono ?_
    rintro e w4 ⟨rfl, hb⟩
    have HS4 := hide (HS3.out.below hb (Nat.le_refl _))
    have HB4 := hide (HB3.out.call hb)
    have HK4 := hide (HK3.out.trans (hb.mono HK3.out.size))
    clear hb
    go_wp2_with fail
    refine (HCK.out w4 q HS4.out).mono ?_
    rintro e w5 ⟨rfl, hs, k5⟩
    rw [List.nil_append] at hs
    have HS5 := hide hs
    have HK5 := hide (HK4.out.trans (by rw [← HQ.out]; exact k5.below))
    have HB5 := hide (HB2.out.call HK5.out)
    clear hs k5
    obtain ⟨c0, c1, c2, c3, c4⟩ := cell_of_five HB5.out.bx
    have hqP : P ≤ q := by rw [HQ.out]; exact Nat.le_of_lt HB2.out.sz
    have HQP := hide hqP
    go_wp2_with fail
    refine (HCP.out w5 q HS5.out (by rw [HQ.out]; exact HK5.out.size) (HB5.out.hx.mono HQP.out)).mono ?_
    rintro e w6 ⟨rfl, hs, hb⟩
    have HS6 := hide hs
    have HK6 := hide (HK5.out.trans (by rw [← HQ.out]; exact hb))
    have HB6 := hide (HB2.out.call HK6.out)
    clear hs hb c0 c1 c2 c3 c4 hqP
    obtain ⟨c0, c1, c2, c3, c4⟩ := cell_of_five HB6.out.bx
    go_wp2_with fail
    refine (HCL.out w6).mono ?_
    rintro e w7 ⟨v7, rfl, hf, hb⟩
    obtain ⟨g7, k7, rfl⟩ := flags_pos hf (by rw [bitsOf_length]; decide)
    have HF7 := hide hf
    have HS7 := hide (HS6.out.below hb (Nat.le_refl _))
    have HK7 := hide (HK6.out.trans (hb.mono HK6.out.size))
    have HB7 := hide (HB6.out.call hb)
    have H67 := hide (hb.size)
    clear hf hb c0 c1 c2 c3 c4
    obtain ⟨c0, c1, c2, c3, c4⟩ := cell_of_five HB7.out.bx
    go_wp2_with fail
    refine (HCF.out w7 HB7.out.hx (Nat.le_of_lt HB7.out.sz)).mono ?_
    rintro e w8 ⟨v8, rfl, hf, hb⟩
    obtain ⟨g8, k8, rfl⟩ := flags_pos hf HPOS.out
    have HF8 := hide hf
    have HF7b := hide (HF7.out.below hb (Nat.le_refl _))
    have HS8 := hide (HS7.out.below hb (Nat.le_refl _))
    have HK8 := hide (HK7.out.trans (hb.mono HK7.out.size))
    have HB8 := hide (HB7.out.call hb)
    have H68 := hide (Nat.le_trans H67.out hb.size)
    clear hf hb c0 c1 c2 c3 c4
    go_wp2_with (at_builtin; refine wpList_append_flags rfl (.tmp 46) (.tmp 48) rfl _ _ _ _ _ _ (by simp [Act.eval]) (by simp [Act.eval]) HF7b.out HF8.out HL3.out H68.out HPOS.out ?_; intro g9 k9 n9 w9 hf hg; have HF9 := hide hf; have HG9 := hide hg; clear hf hg)
    have hn9 : n9 = (bitsOf H 3 ++ l).length := by
      obtain ⟨ao, cap, h9⟩ := own_slice HF9.out
      simp only [Value.slice.injEq] at h9; exact h9.2.1
    have hk9 : Below w2.heap.size w2 w9 := HK8.out.grown HG9.out HK8.out.size (fun k hk => Nat.le_trans HK6.out.size (HF7b.out.lt k hk).1)
    have HS9 := hide (HS8.out.kept (((Kept.refl 0 (fun e => e == 4) w8).grown HF7b.out rfl HG9.out (Nat.zero_le _) (Nat.zero_le _))) (by decide) (by decide))
    have HB9 := hide (HB2.out.call hk9)
    have HK9 := hide hk9
    have HN9 := hide hn9
    obtain ⟨L, hL⟩ : ∃ L, L = (bitsOf H 3 ++ l).length := ⟨_, rfl⟩
    rw [← hL] at hn9
    subst hn9
    have HLL := hide hL
    clear hk9 hL
    have he1 := (HB9.out.rows _ (List.mem_cons_of_mem _ (List.mem_cons_self ..))).equal (HB9.out.rows _ (List.mem_cons_self ..))
    rw [decide_eq_true rfl] at he1
    refine he1.mono ?_
    clear he1
    rintro e w9' ⟨rfl, rfl⟩
    go_wp2_with fail
    have cl := kLen_any q _ w9 HS9.out.made HS9.out.count
    rw [← HLL.out] at cl
    refine cl.mono ?_
    clear cl
    rintro e w9' ⟨rfl, rfl⟩
    go_wp2_with fail
    refine (kOut_any q q _ w9 HS9.out).mono ?_
    rintro e w10 ⟨v10, rfl, ho, hb⟩
    obtain ⟨a10, k10, rfl⟩ := own_slice ho
    have hpk : (packed (bitsOf H 3 ++ l)).length ≤ 140737488355328 := by have := packed_length_le (bitsOf H 3 ++ l); have := HL4.out; omega
    have HV10 := hide (Bv.of_own ho (packed_small _) hpk)
    have HF10 := hide (HF9.out.below hb (Nat.le_refl _))
    have HK10 := hide (HK9.out.trans (hb.mono HK9.out.size))
    have HPK := hide hpk
    clear ho hb hpk
    go_wp2_with fail
    refine (rPack_any _ _ _ w10 HL4.out HF10.out).mono ?_
    rintro e w11 ⟨v11, rfl, ho, hb⟩
    obtain ⟨a11, k11, rfl⟩ := own_slice ho
    have he2 := (HV10.out.below hb (Nat.le_refl _)).equal (Bv.of_own ho (packed_small _) HPK.out)
    rw [decide_eq_true rfl] at he2
    have HB11 := hide (HB2.out.call (HK10.out.trans (hb.mono HK10.out.size)))
    have HE2 := hide he2
    clear ho hb he2
    go_wp2_with fail
    refine HE2.out.mono ?_
    rintro e w11' ⟨rfl, rfl⟩
    go_wp2
    go_ret
    exact ⟨rfl, HB11.out.below⟩
  · have CP := fun (w : World) (q : Nat) (hs : SinkIs w q q (bitsOf H 3)) (hB : q ≤ w.heap.size) (h1 : Av w q (.slice ao n cap) ev.ats) => CP w q (bitsOf H 3) hs hB h1
    have hpe : putErr (bitsOf H 3).length ev = ckE ev := putErr_ck hck
    have hpb : putBits (bitsOf H 3) ev = bitsOf H 3 := by unfold putBits; rw [hpe, if_neg hck]
    simp only [hpe, hpb] at CP
    obtain ⟨c, hc⟩ : ∃ c, c = ckE ev := ⟨_, rfl⟩
    rw [← hc] at CA CB CP hck
    have b1 : (c == 0) = false := by simp [hck]
    have b2 : (c != 0) = true := by simp [hck]
    have HL4 := hide (show (bitsOf H 3).length ≤ 1048576 by rw [bitsOf_length]; omega)
    have HCA := hide CA; have HCB := hide CB; have HCP := hide CP
    unfold evV at HCA HCB HCP ⊢
    obtain ⟨s, sq, t, ty, ats⟩ := ev
    simp only at *
    obtain ⟨c0, c1, c2, c3, c4⟩ := cell_of_five HB0.out.bx
    clear hbel hW hP CA CB CP CL CK hn hx hty hh hck hpe hpb hc heb hsm hel hH hH8
    go_enter Try.func4, Try.ntmps4
    go_wp2_with fail
    rw [← HW.out, ← HP.out]
    refine (HCA.out W HB0.out.hx (Nat.le_of_lt HB0.out.sz)).mono ?_
    rintro e w1 ⟨va, rfl, ho, hb⟩
    obtain ⟨aa, ka, rfl⟩ := own_slice ho
    have HB1 := hide (HB0.out.row hb (Bv.of_own ho HSM.out (by have := HEL.out; omega)))
    clear ho hb c0 c1 c2 c3 c4
    obtain ⟨c0, c1, c2, c3, c4⟩ := cell_of_five HB1.out.bx
    go_wp2_with fail
    refine (HCB.out w1 HB1.out.hx (Nat.le_of_lt HB1.out.sz)).mono ?_
    rintro e w2 ⟨vb, rfl, ho, hb⟩
    obtain ⟨ab, kb, rfl⟩ := own_slice ho
    have HB2 := hide (HB1.out.row hb (Bv.of_own ho HSM.out (by have := HEL.out; omega)))
    clear ho hb c0 c1 c2 c3 c4
    go_wp2_with fail
    refine (newSink_any w2).mono ?_
    obtain ⟨q, hq⟩ : ∃ q, q = w2.heap.size := ⟨_, rfl⟩
    rw [← hq]
    have HQ := hide hq
    rintro e w3 ⟨rfl, hs, k3⟩
    have HS3 := hide hs
    have HB3 := hide (HB2.out.call (by rw [← hq]; exact k3.below))
    have HK3 := hide (show Below w2.heap.size w2 w3 by rw [← hq]; exact k3.below)
    clear hs k3 hq
    go_wp2_with fail
    refine (begun4_any w3).mono ?_
    rintro e w4 ⟨rfl, hb⟩
    have HS4 := hide (HS3.out.below hb (Nat.le_refl _))
    have HB4 := hide (HB3.out.call hb)
    have HK4 := hide (HK3.out.trans (hb.mono HK3.out.size))
    clear hb
    go_wp2_with fail
    refine (HCK.out w4 q HS4.out).mono ?_
    rintro e w5 ⟨rfl, hs, k5⟩
    rw [List.nil_append] at hs
    have HS5 := hide hs
    have HK5 := hide (HK4.out.trans (by rw [← HQ.out]; exact k5.below))
    have HB5 := hide (HB2.out.call HK5.out)
    clear hs k5
    obtain ⟨c0, c1, c2, c3, c4⟩ := cell_of_five HB5.out.bx
    have hqP : P ≤ q := by rw [HQ.out]; exact Nat.le_of_lt HB2.out.sz
    have HQP := hide hqP
    go_wp2_with fail
    refine (HCP.out w5 q HS5.out (by rw [HQ.out]; exact HK5.out.size) (HB5.out.hx.mono HQP.out)).mono ?_
    rintro e w6 ⟨rfl, hs, hb⟩
    have HS6 := hide hs
    have HK6 := hide (HK5.out.trans (by rw [← HQ.out]; exact hb))
    have HB6 := hide (HB2.out.call HK6.out)
    clear hs hb c0 c1 c2 c3 c4 hqP
    obtain ⟨c0, c1, c2, c3, c4⟩ := cell_of_five HB6.out.bx
    go_wp2_with fail
    refine (HCL.out w6).mono ?_
    rintro e w7 ⟨v7, rfl, hf, hb⟩
    obtain ⟨g7, k7, rfl⟩ := flags_pos hf (by rw [bitsOf_length]; decide)
    have HF7 := hide hf
    have HS7 := hide (HS6.out.below hb (Nat.le_refl _))
    have HK7 := hide (HK6.out.trans (hb.mono HK6.out.size))
    have HB7 := hide (HB6.out.call hb)
    have H67 := hide (hb.size)
    clear hf hb c0 c1 c2 c3 c4
    obtain ⟨c0, c1, c2, c3, c4⟩ := cell_of_five HB7.out.bx
    go_wp2_with fail
    obtain ⟨w9, hw9⟩ : ∃ w9, w9 = w7 := ⟨_, rfl⟩
    rw [← hw9]
    have HS9 := hide (show SinkIs w9 q q (bitsOf H 3) by rw [hw9]; exact HS7.out)
    have HB9 := hide (show Wx4 w P _ _ _ _ w9 by rw [hw9]; exact HB7.out)
    have HK9 := hide (show Below w2.heap.size w2 w9 by rw [hw9]; exact HK7.out)
    have hf9 := HF7.out
    rw [← hw9] at hf9
    obtain ⟨L, hL⟩ : ∃ L, L = (bitsOf H 3).length := ⟨_, rfl⟩
    have HLL := hide hL
    rw [← hL]
    rw [← hL] at hf9
    have HF9 := hide hf9
    clear hw9 hL hf9
    have he1 := (HB9.out.rows _ (List.mem_cons_of_mem _ (List.mem_cons_self ..))).equal (HB9.out.rows _ (List.mem_cons_self ..))
    rw [decide_eq_true rfl] at he1
    refine he1.mono ?_
    clear he1
    rintro e w9' ⟨rfl, rfl⟩
    go_wp2_with fail
    have cl := kLen_any q _ w9 HS9.out.made HS9.out.count
    rw [← HLL.out] at cl
    refine cl.mono ?_
    clear cl
    rintro e w9' ⟨rfl, rfl⟩
    go_wp2_with fail
    refine (kOut_any q q _ w9 HS9.out).mono ?_
    rintro e w10 ⟨v10, rfl, ho, hb⟩
    obtain ⟨a10, k10, rfl⟩ := own_slice ho
    have hpk : (packed (bitsOf H 3)).length ≤ 140737488355328 := by have := packed_length_le (bitsOf H 3); have := HL4.out; omega
    have HV10 := hide (Bv.of_own ho (packed_small _) hpk)
    have HF10 := hide (HF9.out.below hb (Nat.le_refl _))
    have HK10 := hide (HK9.out.trans (hb.mono HK9.out.size))
    have HPK := hide hpk
    clear ho hb hpk
    go_wp2_with fail
    refine (rPack_any _ _ _ w10 HL4.out HF10.out).mono ?_
    rintro e w11 ⟨v11, rfl, ho, hb⟩
    obtain ⟨a11, k11, rfl⟩ := own_slice ho
    have he2 := (HV10.out.below hb (Nat.le_refl _)).equal (Bv.of_own ho (packed_small _) HPK.out)
    rw [decide_eq_true rfl] at he2
    have HB11 := hide (HB2.out.call (HK10.out.trans (hb.mono HK10.out.size)))
    have HE2 := hide he2
    clear ho hb he2
    go_wp2_with fail
    refine HE2.out.mono ?_
    rintro e w11' ⟨rfl, rfl⟩
    go_wp2
    go_ret
    exact ⟨rfl, HB11.out.below⟩
theorem writes_u8 (ev : Ev) (h : Int) (ao : Option Addr) (n cap : Nat) (w : World) (hx : Av w w.heap.size (.slice ao n cap) ev.ats) (hty : ev.ty.size ≤ maxLen) (hn : Wf ev.ats) (hh : (Lit.int .u8 h).wf = true) :
    Calls Try.prog 4 #[evV ev (.slice ao n cap), .int .u8 h] w fun e w' => e = .returned (.bool true) ∧ Below w.heap.size w w' := by
  have hb : 0 ≤ h ∧ h ≤ 255 := by simpa [Lit.wf, IntKind.min, IntKind.max, IntKind.signed, IntKind.bits] using hh
  obtain ⟨H, rfl⟩ := Int.eq_ofNat_of_zero_le hb.1
  exact writes_walk ev H ao n cap w hx hty hn (by omega)
end Go.Proofs.Ytiljekpfkkocnaa
