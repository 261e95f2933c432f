/- The walk of EventStreams. Written by wip/genew5.py. -/
import Derived.Test.YthjhbnfedelniaaEw4
import Derived.Test.YthjhbnfedelniaaArgo
import Derived.Test.YthjhbnfedelniaaBg4
import Derived.Test.YthjhbnfedelniaaNo4
import Derived.BigQuiet
import Derived.Deep.QuietTactic
namespace Go.Proofs.Ythjhbnfedelniaa
open Go Go.RowKit

theorem RsAt.evRow {w : World} {G : Nat → Prop} {q k : Nat} {evs : List Ev} {vs : List Value} {gone : List Bool} (h : RsAt w G q k evs vs gone) {ao : Option Addr} {cap : Nat} (hc : w.cell? ⟨q, 1, none⟩ = some (.slice ao evs.length cap)) : EvRow w w.heap.size ao evs vs := by
  obtain ⟨ao', cap', ag, cg, h1, h2, _⟩ := h.row
  rw [(cell_of_three h1).2.1] at hc
  simp only [Option.some.injEq, Value.slice.injEq] at hc
  obtain ⟨rfl, -, -⟩ := hc
  refine ⟨fun h0 => ?_, fun j hj => (h.each j hj).1⟩
  obtain ⟨b, o, e, hB, hcl⟩ := h2 h0
  exact ⟨b, o, e, h.glt b hB, hcl⟩

set_option maxRecDepth 100000 in
set_option maxHeartbeats 3200000 in
theorem streams_no (n : Int) (h : n < 1 ∨ 16 < n) (v : Value) (W : World) :
    Calls Try.prog 3 #[.int .i64 n, v] W fun e w' => e = .returned (.bool true) ∧ Below W.heap.size W w' := by
  have HC1 := hide (fun w => eNew_no n h w); have HC2 := hide (fun w => r4New_no n h w)
  clear h
  go_enter Try.func3, Try.ntmps3
  go_wp2_with (first
    | (go_at_call 5; (with_reducible refine (HC1.out _).mono ?_); rintro e w1 ⟨rfl, rfl⟩)
    | (go_at_call 6; (with_reducible refine (HC2.out _).mono ?_); rintro e w1 ⟨rfl, rfl⟩)
    | (go_at_call 7; (with_reducible refine (begun4_any _).mono ?_); rintro e w1 ⟨rfl, hb⟩; have HB := hide hb; clear hb))
  go_ret
  exact ⟨rfl, HB.out⟩

set_option maxRecDepth 100000 in
set_option maxHeartbeats 16000000 in
theorem streams_yes (k : Nat) (hk1 : 1 ≤ k) (hk16 : k ≤ 16) (xs : List Op4) (v : Value) (W : World) (hx : Ov W W.heap.size v xs) :
    Calls Try.prog 3 #[.int .i64 (k : Int), v] W fun e w' => e = .returned (.bool true) ∧ Below W.heap.size W w' := by
  obtain ⟨ao, cap, rfl, hcap, hcap2, hrow⟩ := hx.row
  obtain ⟨B, hB⟩ : ∃ B, B = W.heap.size := ⟨_, rfl⟩
  obtain ⟨N, hN⟩ : ∃ N, N = xs.length := ⟨_, rfl⟩
  have hlen := hx.len
  rw [← hN] at hlen
  have HX := hide hx
  have HC1 := hide (fun w => eNew_ok k hk1 hk16 w); have HC2 := hide (fun w => r4New_ok k hk1 hk16 w)
  have HB := hide hB; have HN := hide hN; have HROW := hide hrow
  rw [← hN] at hcap ⊢
  clear hx hrow hB hN
  go_enter Try.func3, Try.ntmps3
  go_wp2_with (first
    | (go_at_call 5; (with_reducible refine (HC1.out _).mono ?_); rintro e w1 ⟨rfl, hs, hb⟩; have HS1 := hide hs; have HB1 := hide hb; clear hs hb)
    | (go_at_call 6; (with_reducible refine (HC2.out _).mono ?_); rintro e w2 ⟨qr, rfl, hq, hr, hb⟩; have HQ2 := hide hq; have HR2 := hide hr; have HB2 := hide hb; clear hq hr hb)
    | (go_at_call 7; (with_reducible refine (begun4_any _).mono ?_); rintro e w3 ⟨rfl, hb⟩; have HB3 := hide hb; clear hb))
  have HT0 : Hid (T2 B W k W.heap.size (fun b => b = W.heap.size) sd0 [] qr (fun b => b = w1.heap.size) [] [] (List.replicate k false) w3) := by
    have h1 := HB1.out.size; have h2 := HB2.out.size; have h3 := HB3.out.size; have h4 := HQ2.out; have h5 := HB.out
    have h6 := HS1.out.flt _ rfl
    have hbb : Below w1.heap.size w1 w3 := HB2.out.trans (HB3.out.mono h2)
    refine ⟨by rw [h5]; exact HB1.out.trans (hbb.mono h1), HS1.out.below hbb, HR2.out.below HB3.out, fun b hb => ?_, fun b hb => ?_, by omega, fun b hb hc => ?_, fun hb => ?_, by omega⟩
    · rw [hb, h5]; exact Nat.le_refl _
    · rw [hb, h5]; exact h1
    · have hb' : b = W.heap.size := hb; have hc' : b = w1.heap.size := hc; omega
    · omega
  have HSM0 : Hid (Same4 k sd0 [] (List.replicate k false)) := Same4.start hk16
  have hqx : W.heap.size = B := HB.out.symm
  rw [hqx] at HT0 ⊢
  obtain ⟨q0, hq0⟩ : ∃ q0, q0 = B := ⟨_, rfl⟩
  have HQ0 := hide hq0
  clear HS1 HB1 HQ2 HR2 HB2 HB3 hqx hq0 HC1 HC2
  go_loopw [5, 42] (fun xv iv wr => ∃ (i qx : Nat) (F : Nat → Prop) (sd : List Sd) (evs : List Ev) (G : Nat → Prop) (vs : List Value) (gone : List Bool), i ≤ N ∧ iv = .int .i64 (i : Int) ∧ xv = .pointer (some ⟨qx, 0, none⟩) ∧ Hid (T2 B W k qx F sd evs qr G evs vs gone wr) ∧ Hid (Same4 k sd evs gone)) (fun _ iv _ => N - (intOf iv).toNat)
  case atStart => exact ⟨0, _, _, _, _, _, _, _, Nat.zero_le _, rfl, rfl, HT0, HSM0⟩
  case round =>
    obtain ⟨i, qx, F, sd, evs, G, vs, gone, hi, rfl, rfl, HTr, HSMr⟩ := hrel
    by_cases hlt : i < N
    · have hkl : i < xs.length := by rw [← HN.out]; exact hlt
      obtain ⟨b, o, rfl, hb, hcell⟩ := HROW.out (by omega)
      obtain ⟨x, hx⟩ : ∃ x, x = xs[i]! := ⟨_, rfl⟩
      have hmem : x ∈ xs := by rw [hx, getElem!_pos xs i hkl]; exact List.getElem_mem _
      obtain ⟨hty, ⟨xo, xn, xc, hxv, hxav, hxnil⟩, hxn⟩ := HX.out.each x hmem
      have hbase : Below W.heap.size W wr := by rw [← HB.out]; exact HTr.out.base
      have hcl : ∀ i' u, (encO x)[i']? = some u → wr.cell? ⟨b, o + i * 7 + i', none⟩ = some u := fun i' u hu => (hbase.cell hb).trans (hcell i hkl i' u (by rw [← hx]; exact hu))
      have a0 : wr.cell? ⟨b, o + i * 7, none⟩ = some (.int .i64 x.do_) := hcl 0 _ rfl
      have a1 : wr.cell? ⟨b, o + i * 7 + 1, none⟩ = some (.int .i64 x.ev.src) := hcl 1 _ rfl
      have a2 : wr.cell? ⟨b, o + i * 7 + 2, none⟩ = some (.int .i64 x.ev.seq) := hcl 2 _ rfl
      have a3 : wr.cell? ⟨b, o + i * 7 + 3, none⟩ = some (.int .i64 x.ev.time) := hcl 3 _ rfl
      have a4 : wr.cell? ⟨b, o + i * 7 + 4, none⟩ = some (.string x.ev.ty) := hcl 4 _ rfl
      have a5 : wr.cell? ⟨b, o + i * 7 + 5, none⟩ = some x.v := hcl 5 _ rfl
      have a6 : wr.cell? ⟨b, o + i * 7 + 6, none⟩ = some (.int .i64 x.src) := hcl 6 _ rfl
      rw [hxv] at a5
      have hxavB : Av W B (.slice xo xn xc) x.ev.ats := by rw [HB.out]; exact hxav
      have HTY := hide hty; have HXAV := hide hxavB; have HXNIL := hide hxnil
      have hkz : (0 : Int) ≤ (i : Int) := by omega
      clear hty hxv hxav hxavB hxn hcl hcell hx hmem hb hkl hxnil hbase
      obtain ⟨P, hP⟩ : ∃ P, P = wr.heap.size := ⟨_, rfl⟩
      obtain ⟨w4, hw4⟩ : ∃ w4, w4 = wr.alloc (.cells #[.int .i64 x.do_, .int .i64 x.ev.src, .int .i64 x.ev.seq, .int .i64 x.ev.time, .string x.ev.ty, .slice xo xn xc, .int .i64 x.src] 37) := ⟨_, rfl⟩
      have hb4 : Below wr.heap.size wr w4 := by rw [hw4]; exact (Below.refl _ _).alloc (Nat.le_refl _) _
      have hk4 : w4.heap[P]? = some (.cells #[.int .i64 x.do_, .int .i64 x.ev.src, .int .i64 x.ev.seq, .int .i64 x.ev.time, .string x.ev.ty, .slice xo xn xc, .int .i64 x.src] 37 (0, 0)) := by rw [hw4, hP]; exact heap_alloc_new _ _
      have hFP : ∀ b, F b → b < P := by rw [hP]; exact HTr.out.st.flt
      have hGP : ∀ b, G b → b < P := by rw [hP]; exact HTr.out.rs.glt
      have hqP : qr < P := by rw [hP]; exact HTr.out.rs.qlt
      have hPs : P < w4.heap.size := (Array.getElem?_eq_some_iff.1 hk4).1
      have HOP : Hid (∀ u : World, u.heap[P]? = some (.cells #[.int .i64 x.do_, .int .i64 x.ev.src, .int .i64 x.ev.seq, .int .i64 x.ev.time, .string x.ev.ty, .slice xo xn xc, .int .i64 x.src] 37 (0, 0)) → u.cell? ⟨P, 0, none⟩ = some (.int .i64 x.do_) ∧ u.cell? ⟨P, 1, none⟩ = some (.int .i64 x.ev.src) ∧ u.cell? ⟨P, 2, none⟩ = some (.int .i64 x.ev.seq) ∧ u.cell? ⟨P, 3, none⟩ = some (.int .i64 x.ev.time) ∧ u.cell? ⟨P, 4, none⟩ = some (.string x.ev.ty) ∧ u.cell? ⟨P, 5, none⟩ = some (.slice xo xn xc) ∧ u.cell? ⟨P, 6, none⟩ = some (.int .i64 x.src)) := fun u hu => by simp [World.cell?, hu]
      have HT := hide (HTr.out.call hb4)
      have HK := hide hk4; have HFP := hide hFP; have HGP := hide hGP; have HQP := hide hqP; have HPS := hide hPs; have HW4 := hide hw4; have HP := hide hP
      have HSM := HSMr
      have HT00 := HTr
      clear HSMr HTr hb4 hk4 hFP hGP hqP hPs
      obtain ⟨ev, hev⟩ : ∃ ev, ev = x.ev := ⟨_, rfl⟩
      obtain ⟨n, hn⟩ : ∃ n, n = x.src := ⟨_, rfl⟩
      obtain ⟨d, hd⟩ : ∃ d, d = x.do_ := ⟨_, rfl⟩
      rw [← hev] at a1 a2 a3 a4 HTY HXAV HOP HK hw4
      rw [← hn] at a6 HOP HK hw4
      rw [← hd] at a0 HOP HK hw4
      have HW4 := hide hw4
      clear hev hn hd hw4 hP
      have hstp : ∀ {R : Prop}, R → R := fun h => h
      have HTY' : ev.ty.size ≤ maxLen := HTY.out
      by_cases h0 : d = 0
      · subst h0
        obtain ⟨c, hc⟩ : ∃ c, c = rAccErr k evs gone ev := ⟨_, rfl⟩
        have hca : accErr k sd evs.length ev = c := (HSM.out.accErr ev).trans hc.symm
        have C1 := fun (G' : Nat → Prop) (evr : List Ev) (vs' : List Value) (u : World) (h : T2 B W k qx F sd evs qr G' evr vs' gone u) (hp : u.heap[P]? = some (.cells #[.int .i64 0, .int .i64 ev.src, .int .i64 ev.seq, .int .i64 ev.time, .string ev.ty, .slice xo xn xc, .int .i64 n] 37 (0, 0))) =>
          (sAccept_two B W k qx F sd evs qr G' evr vs' gone u h ev xo xn xc HXAV.out HTY').mono (R' := fun e u' => e = .returned (.int .i64 c) ∧ (∃ F', T2 B W k qx F' (if c = 0 then accSd sd ev else sd) (if c = 0 then evs ++ [ev] else evs) qr G' evr vs' gone u') ∧ u'.heap[P]? = some (.cells #[.int .i64 0, .int .i64 ev.src, .int .i64 ev.seq, .int .i64 ev.time, .string ev.ty, .slice xo xn xc, .int .i64 n] 37 (0, 0))) (fun e u' hh => by
            rw [hca] at hh
            obtain ⟨h1, F', h2, h3, h4⟩ := hh
            exact ⟨h1, ⟨F', h2⟩, (h3.block P (Array.getElem?_eq_some_iff.1 hp).1 (fun hf => by have := HFP.out P hf; omega)).trans hp⟩)
        have C2 := fun (F' : Nat → Prop) (sd' : List Sd) (evs' : List Ev) (u : World) (h : T2 B W k qx F' sd' evs' qr G evs vs gone u) (hp : u.heap[P]? = some (.cells #[.int .i64 0, .int .i64 ev.src, .int .i64 ev.seq, .int .i64 ev.time, .string ev.ty, .slice xo xn xc, .int .i64 n] 37 (0, 0))) =>
          (r4Accept_two B W k qx F' sd' evs' qr G evs vs gone u h ev xo xn xc HXAV.out HTY' HXNIL.out).mono (R' := fun e u' => e = .returned (.int .i64 c) ∧ (∃ G' vs', T2 B W k qx F' sd' evs' qr G' (if c = 0 then evs ++ [ev] else evs) vs' gone u') ∧ u'.heap[P]? = some (.cells #[.int .i64 0, .int .i64 ev.src, .int .i64 ev.seq, .int .i64 ev.time, .string ev.ty, .slice xo xn xc, .int .i64 n] 37 (0, 0))) (fun e u' hh => by
            rw [← hc] at hh
            obtain ⟨h1, G', vs', h2, h3⟩ := hh
            exact ⟨h1, ⟨G', vs', h2⟩, (h3.block P (Array.getElem?_eq_some_iff.1 hp).1 (fun hf => by have := HQP.out; omega)).trans hp⟩)
        have hsm : Same4 k (if c = 0 then accSd sd ev else sd) (if c = 0 then evs ++ [ev] else evs) gone := by
          by_cases hz : c = 0
          · rw [if_pos hz, if_pos hz]; exact HSM.out.acc ev (by rw [← hc]; exact hz)
          · rw [if_neg hz, if_neg hz]; exact HSM.out
        generalize (if c = 0 then accSd sd ev else sd) = sd6 at C1 hsm
        generalize (if c = 0 then evs ++ [ev] else evs) = ev6 at C1 C2 hsm
        unfold evV at C1 C2
        have HC1 := hide C1; have HC2 := hide C2; have HSM := hide hsm
        have ec : (c == c) = true := by simp
        clear C1 C2 hsm hc hca HT00 HTY'
        go_wp2_with fail
        rw [← HW4.out, ← HP.out]
        obtain ⟨o0, o1, o2, o3, o4, o5, o6⟩ := HOP.out _ HK.out
        have HK : Hid (w4.drew.heap[P]? = some (.cells #[.int .i64 0, .int .i64 ev.src, .int .i64 ev.seq, .int .i64 ev.time, .string ev.ty, .slice xo xn xc, .int .i64 n] 37 (0, 0))) := hide HK.out
        have HT := hide HT.out.drew
        go_region_held3 (fun u => u.cell? ⟨P, 1, none⟩ = some (.int .i64 ev.src) ∧ u.cell? ⟨P, 2, none⟩ = some (.int .i64 ev.seq) ∧ u.cell? ⟨P, 3, none⟩ = some (.int .i64 ev.time) ∧ u.cell? ⟨P, 4, none⟩ = some (.string ev.ty) ∧ u.cell? ⟨P, 5, none⟩ = some (.slice xo xn xc)) (first | exact ⟨o1, o2, o3, o4, o5⟩ | exact ⟨(HOP.out _ HK.out).2.1, (HOP.out _ HK.out).2.2.1, (HOP.out _ HK.out).2.2.2.1, (HOP.out _ HK.out).2.2.2.2.1, (HOP.out _ HK.out).2.2.2.2.2.1⟩ | go_keep) (first
          | (go_at_call 8; (with_reducible refine (HC1.out _ _ _ _ HT.out HK.out).mono ?_); rintro e w5 ⟨rfl, ⟨F5, h5⟩, hk5⟩; have HT := hide h5; have HK := hide hk5; clear h5 hk5)
          | (go_at_call 9; (with_reducible refine (HC2.out _ _ _ _ HT.out HK.out).mono ?_); rintro e w5 ⟨rfl, ⟨G5, vs5, h5⟩, hk5⟩; have HT := hide h5; have HK := hide hk5; clear h5 hk5)
          | fail)
        all_goals (have HTz := HT; have HSz := HSM
                   clear HT HSM
                   try go_wp2_with fail
                   go_loopw [11, 13] (fun okv sv wq => ∃ s : Int, -1 ≤ s ∧ s ≤ (k : Int) + 1 ∧ okv = .bool true ∧ sv = .int .i64 s ∧ Hid (T2 B W k qx F5 sd6 ev6 qr G5 ev6 vs5 gone wq)) (fun _ sv _ => ((k : Int) + 1 - intOf sv).toNat)
                   case atStart => exact ⟨-1, by omega, by omega, rfl, rfl, HTz⟩
                   case round =>
                     obtain ⟨s, hs1, hs2, rfl, rfl, HTq⟩ := hrel
                     by_cases hsk : s ≤ (k : Int)
                     · have C1 := fun (w : World) (h : T2 B W k qx F5 sd6 ev6 qr G5 ev6 vs5 gone w) => sNext_any F5 qx k sd6 ev6 s w h.st
                       have C2 := fun (w : World) (h : T2 B W k qx F5 sd6 ev6 qr G5 ev6 vs5 gone w) => r4Next_any G5 qr k ev6 vs5 gone s w h.rs
                       have C3 := fun (w : World) (h : T2 B W k qx F5 sd6 ev6 qr G5 ev6 vs5 gone w) => sMark_any F5 qx k sd6 ev6 s w h.st
                       have C4 := fun (w : World) (h : T2 B W k qx F5 sd6 ev6 qr G5 ev6 vs5 gone w) => r4Mark_any G5 qr k ev6 vs5 gone s w h.rs
                       have C5 := fun (w : World) (h : T2 B W k qx F5 sd6 ev6 qr G5 ev6 vs5 gone w) => sClosed_any F5 qx k sd6 ev6 s w h.st
                       have C6 := fun (w : World) (h : T2 B W k qx F5 sd6 ev6 qr G5 ev6 vs5 gone w) => r4Closed_any G5 qr k ev6 vs5 gone s w h.rs
                       rw [HSz.out.next s] at C1
                       rw [HSz.out.mark s] at C3
                       rw [HSz.out.closed s] at C5
                       generalize (cntL ev6 s : Int) = y1 at C1 C2
                       generalize rMark k ev6 gone s = y2 at C3 C4
                       generalize goneAt k gone s = y3 at C5 C6
                       have HC1 := hide C1; have HC2 := hide C2; have HC3 := hide C3; have HC4 := hide C4; have HC5 := hide C5; have HC6 := hide C6
                       have e1 : (y1 == y1) = true := by simp
                       have e2 : (y2 == y2) = true := by simp
                       have e3 : (y3 == y3) = true := by simp
                       clear C1 C2 C3 C4 C5 C6
                       have HTc := HTq
                       clear HTq
                       go_wp2_with (first
                         | (go_at_call 13; (with_reducible refine (HC1.out _ HTc.out).mono ?_); rintro e wa ⟨rfl, hb⟩; have HTc := hide (HTc.out.call hb); clear hb)
                         | (go_at_call 14; (with_reducible refine (HC2.out _ HTc.out).mono ?_); rintro e wa ⟨rfl, rfl⟩)
                         | (go_at_call 15; (with_reducible refine (HC3.out _ HTc.out).mono ?_); rintro e wa ⟨rfl, hb⟩; have HTc := hide (HTc.out.call hb); clear hb)
                         | (go_at_call 16; (with_reducible refine (HC4.out _ HTc.out).mono ?_); rintro e wa ⟨rfl, rfl⟩)
                         | (go_at_call 17; (with_reducible refine (HC5.out _ HTc.out).mono ?_); rintro e wa ⟨rfl, hb⟩; have HTc := hide (HTc.out.call hb); clear hb)
                         | (go_at_call 18; (with_reducible refine (HC6.out _ HTc.out).mono ?_); rintro e wa ⟨rfl, rfl⟩))
                       go_roundw
                       case rel => exact ⟨s + 1, by omega, by omega, rfl, rfl, HTc⟩
                       case measure => simp [intOf]; omega
                     · obtain ⟨eo, ecap, x1⟩ := HTq.out.rs.evCell
                       have CL := fun (d : Nat) => (sLen_any F5 qx k sd6 ev6 (wr.drewN d) (HTq.out.st.below (Below.drewN' (Below.refl _ _) d))).mono (R' := fun e w' => e = .returned (.int .i64 (ev6.length : Int)) ∧ ∃ m, w' = wr.drewN m) (fun _ _ ⟨h1, h2⟩ => ⟨h1, d, h2.symm⟩)
                       have HCL := hide CL
                       have HDN := hide (fun (d : Nat) => HTq.out.call (Below.drewN' (Below.refl _ _) d))
                       have en : ((ev6.length : Int) != (ev6.length : Int)) = false := by simp
                       clear CL
                       go_wp2_with fail
                       go_quiet (exact HCL.out _)
                       all_goals go_wp2
                       all_goals go_roundw
                       all_goals first
                         | exact ⟨i + 1, qx, F5, sd6, ev6, G5, vs5, gone, hlt, by go_num, rfl, HDN.out _, HSz⟩
                         | (simp [intOf]; omega))
      · by_cases h1 : d = 1
        · subst h1
          obtain ⟨c, hc⟩ : ∃ c, c = rClsErr k gone n := ⟨_, rfl⟩
          have hca : clsErr k sd n = c := (HSM.out.clsErr n).trans hc.symm
          have C1 := fun (G' : Nat → Prop) (evr : List Ev) (vs' : List Value) (gone' : List Bool) (u : World) (h : T2 B W k qx F sd evs qr G' evr vs' gone' u) (hp : u.heap[P]? = some (.cells #[.int .i64 1, .int .i64 ev.src, .int .i64 ev.seq, .int .i64 ev.time, .string ev.ty, .slice xo xn xc, .int .i64 n] 37 (0, 0))) =>
            (sClose_any F qx k sd evs n u h.st).mono (R' := fun e u' => e = .returned (.int .i64 c) ∧ T2 B W k qx F (clsSd k sd n) evs qr G' evr vs' gone' u' ∧ u'.heap[P]? = some (.cells #[.int .i64 1, .int .i64 ev.src, .int .i64 ev.seq, .int .i64 ev.time, .string ev.ty, .slice xo xn xc, .int .i64 n] 37 (0, 0))) (fun e u' hh => by
              rw [hca] at hh
              obtain ⟨h1, h2, h3⟩ := hh
              exact ⟨h1, h.prog h2 h3 (fun b hb => .inl hb), (h3.block P (Array.getElem?_eq_some_iff.1 hp).1 (fun hf => by have := HFP.out P hf; omega)).trans hp⟩)
          have C2 := fun (F' : Nat → Prop) (sd' : List Sd) (evs' : List Ev) (u : World) (h : T2 B W k qx F' sd' evs' qr G evs vs gone u) (hp : u.heap[P]? = some (.cells #[.int .i64 1, .int .i64 ev.src, .int .i64 ev.seq, .int .i64 ev.time, .string ev.ty, .slice xo xn xc, .int .i64 n] 37 (0, 0))) =>
            (r4Close_any G qr k evs vs gone n u h.rs).mono (R' := fun e u' => e = .returned (.int .i64 c) ∧ (∃ G', T2 B W k qx F' sd' evs' qr G' evs vs (rClsGone k gone n) u') ∧ u'.heap[P]? = some (.cells #[.int .i64 1, .int .i64 ev.src, .int .i64 ev.seq, .int .i64 ev.time, .string ev.ty, .slice xo xn xc, .int .i64 n] 37 (0, 0))) (fun e u' hh => by
              rw [← hc] at hh
              obtain ⟨h1, h2, h3⟩ := hh
              exact ⟨h1, ⟨_, h.ref h2 h3 (fun b hb => hb.imp id (fun hh => hh.1))⟩, (h3.block P (Array.getElem?_eq_some_iff.1 hp).1 (fun hf => by have := HQP.out; omega)).trans hp⟩)
          have hsm : Same4 k (clsSd k sd n) evs (rClsGone k gone n) := HSM.out.cls n
          generalize clsSd k sd n = sd6 at C1 hsm
          generalize rClsGone k gone n = go6 at C2 hsm
          have HC1 := hide C1; have HC2 := hide C2; have HSM := hide hsm
          have ec : (c == c) = true := by simp
          clear C1 C2 hsm hc hca HT00 HTY'
          go_wp2_with fail
          rw [← HW4.out, ← HP.out]
          obtain ⟨o0, o1, o2, o3, o4, o5, o6⟩ := HOP.out _ HK.out
          have HK : Hid (w4.drew.heap[P]? = some (.cells #[.int .i64 1, .int .i64 ev.src, .int .i64 ev.seq, .int .i64 ev.time, .string ev.ty, .slice xo xn xc, .int .i64 n] 37 (0, 0))) := hide HK.out
          have HT := hide HT.out.drew
          go_region_held3 (fun u => u.cell? ⟨P, 6, none⟩ = some (.int .i64 n)) (first | exact o6 | exact (HOP.out _ HK.out).2.2.2.2.2.2 | go_keep) (first
            | (go_at_call 10; (with_reducible refine (HC1.out _ _ _ _ _ HT.out HK.out).mono ?_); rintro e w5 ⟨rfl, h5, hk5⟩; have HT := hide h5; have HK := hide hk5; clear h5 hk5)
            | (go_at_call 11; (with_reducible refine (HC2.out _ _ _ _ HT.out HK.out).mono ?_); rintro e w5 ⟨rfl, ⟨G5, h5⟩, hk5⟩; have HT := hide h5; have HK := hide hk5; clear h5 hk5)
            | fail)
          all_goals (have HTz := HT; have HSz := HSM
                     clear HT HSM
                     try go_wp2_with fail
                     go_loopw [11, 13] (fun okv sv wq => ∃ s : Int, -1 ≤ s ∧ s ≤ (k : Int) + 1 ∧ okv = .bool true ∧ sv = .int .i64 s ∧ Hid (T2 B W k qx F sd6 evs qr G5 evs vs go6 wq)) (fun _ sv _ => ((k : Int) + 1 - intOf sv).toNat)
                     case atStart => exact ⟨-1, by omega, by omega, rfl, rfl, HTz⟩
                     case round =>
                       obtain ⟨s, hs1, hs2, rfl, rfl, HTq⟩ := hrel
                       by_cases hsk : s ≤ (k : Int)
                       · have C1 := fun (w : World) (h : T2 B W k qx F sd6 evs qr G5 evs vs go6 w) => sNext_any F qx k sd6 evs s w h.st
                         have C2 := fun (w : World) (h : T2 B W k qx F sd6 evs qr G5 evs vs go6 w) => r4Next_any G5 qr k evs vs go6 s w h.rs
                         have C3 := fun (w : World) (h : T2 B W k qx F sd6 evs qr G5 evs vs go6 w) => sMark_any F qx k sd6 evs s w h.st
                         have C4 := fun (w : World) (h : T2 B W k qx F sd6 evs qr G5 evs vs go6 w) => r4Mark_any G5 qr k evs vs go6 s w h.rs
                         have C5 := fun (w : World) (h : T2 B W k qx F sd6 evs qr G5 evs vs go6 w) => sClosed_any F qx k sd6 evs s w h.st
                         have C6 := fun (w : World) (h : T2 B W k qx F sd6 evs qr G5 evs vs go6 w) => r4Closed_any G5 qr k evs vs go6 s w h.rs
                         rw [HSz.out.next s] at C1
                         rw [HSz.out.mark s] at C3
                         rw [HSz.out.closed s] at C5
                         generalize (cntL evs s : Int) = y1 at C1 C2
                         generalize rMark k evs go6 s = y2 at C3 C4
                         generalize goneAt k go6 s = y3 at C5 C6
                         have HC1 := hide C1; have HC2 := hide C2; have HC3 := hide C3; have HC4 := hide C4; have HC5 := hide C5; have HC6 := hide C6
                         have e1 : (y1 == y1) = true := by simp
                         have e2 : (y2 == y2) = true := by simp
                         have e3 : (y3 == y3) = true := by simp
                         clear C1 C2 C3 C4 C5 C6
                         have HTc := HTq
                         clear HTq
                         go_wp2_with (first
                           | (go_at_call 13; (with_reducible refine (HC1.out _ HTc.out).mono ?_); rintro e wa ⟨rfl, hb⟩; have HTc := hide (HTc.out.call hb); clear hb)
                           | (go_at_call 14; (with_reducible refine (HC2.out _ HTc.out).mono ?_); rintro e wa ⟨rfl, rfl⟩)
                           | (go_at_call 15; (with_reducible refine (HC3.out _ HTc.out).mono ?_); rintro e wa ⟨rfl, hb⟩; have HTc := hide (HTc.out.call hb); clear hb)
                           | (go_at_call 16; (with_reducible refine (HC4.out _ HTc.out).mono ?_); rintro e wa ⟨rfl, rfl⟩)
                           | (go_at_call 17; (with_reducible refine (HC5.out _ HTc.out).mono ?_); rintro e wa ⟨rfl, hb⟩; have HTc := hide (HTc.out.call hb); clear hb)
                           | (go_at_call 18; (with_reducible refine (HC6.out _ HTc.out).mono ?_); rintro e wa ⟨rfl, rfl⟩))
                         go_roundw
                         case rel => exact ⟨s + 1, by omega, by omega, rfl, rfl, HTc⟩
                         case measure => simp [intOf]; omega
                       · obtain ⟨eo, ecap, x1⟩ := HTq.out.rs.evCell
                         have CL := fun (d : Nat) => (sLen_any F qx k sd6 evs (wr.drewN d) (HTq.out.st.below (Below.drewN' (Below.refl _ _) d))).mono (R' := fun e w' => e = .returned (.int .i64 (evs.length : Int)) ∧ ∃ m, w' = wr.drewN m) (fun _ _ ⟨h1, h2⟩ => ⟨h1, d, h2.symm⟩)
                         have HCL := hide CL
                         have HDN := hide (fun (d : Nat) => HTq.out.call (Below.drewN' (Below.refl _ _) d))
                         have en : ((evs.length : Int) != (evs.length : Int)) = false := by simp
                         clear CL
                         go_wp2_with fail
                         go_quiet (exact HCL.out _)
                         all_goals go_wp2
                         all_goals go_roundw
                         all_goals first
                           | exact ⟨i + 1, qx, F, sd6, evs, G5, vs, go6, hlt, by go_num, rfl, HDN.out _, HSz⟩
                           | (simp [intOf]; omega))
        · have e0 : (d == 0) = false := by simpa using h0
          have e1 : (d == 1) = false := by simpa using h1
          go_wp2_with fail
          rw [← HW4.out, ← HP.out]
          have hBP : B ≤ P := by rw [HP.out]; exact HT00.out.bz
          have HBP := hide hBP
          have CA := sClone_ok F qx k sd evs w4 HT.out.st
          have CB := fun (F2 : Nat → Prop) (q2 : Nat) (u : World) (h : T2 B W k qx F sd evs qr G evs vs gone u) (hp : u.heap[P]? = some (.cells #[.int .i64 d, .int .i64 ev.src, .int .i64 ev.seq, .int .i64 ev.time, .string ev.ty, .slice xo xn xc, .int .i64 n] 37 (0, 0))) (hs : StIs u F2 q2 k sd evs) (hf : ∀ b, F2 b → ¬ F b) =>
            (sAccept_two B W k qx F sd evs qr G evs vs gone u h ev xo xn xc HXAV.out HTY').mono (R' := fun e u' => e = .returned (.int .i64 (accErr k sd evs.length ev)) ∧ (∃ F' sd' evs', T2 B W k qx F' sd' evs' qr G evs vs gone u' ∧ StIs u' F2 q2 k sd evs ∧ (∀ b, F2 b → ¬ F' b) ∧ ¬ F' P) ∧ u'.heap[P]? = some (.cells #[.int .i64 d, .int .i64 ev.src, .int .i64 ev.seq, .int .i64 ev.time, .string ev.ty, .slice xo xn xc, .int .i64 n] 37 (0, 0))) (fun e u' hh => by
              obtain ⟨h1, F', h2, h3, h4⟩ := hh
              have hpl := (Array.getElem?_eq_some_iff.1 hp).1
              exact ⟨h1, ⟨F', _, _, h2, hs.chg h3 hf, fun b hb hb' => (h4 b hb').elim (hf b hb) (fun hz => by have := hs.flt b hb; omega), fun hb' => (h4 P hb').elim (fun hz => by have := HFP.out P hz; omega) (fun hz => by omega)⟩, (h3.block P hpl (fun hf => by have := HFP.out P hf; omega)).trans hp⟩)
          have CC := fun (F2 : Nat → Prop) (q2 : Nat) (F' : Nat → Prop) (sd' : List Sd) (evs' : List Ev) (u : World) (h : T2 B W k qx F' sd' evs' qr G evs vs gone u) (hs : StIs u F2 q2 k sd evs) (hf : ∀ b, F2 b → ¬ F' b) =>
            (sClose_any F' qx k sd' evs' n u h.st).mono (R' := fun e u' => e = .returned (.int .i64 (clsErr k sd' n)) ∧ T2 B W k qx F' (clsSd k sd' n) evs' qr G evs vs gone u' ∧ StIs u' F2 q2 k sd evs) (fun e u' hh => by
              obtain ⟨h1, h2, h3⟩ := hh
              exact ⟨h1, h.prog h2 h3 (fun b hb => .inl hb), hs.chg h3 hf⟩)
          unfold evV at CB
          have HCA := hide CA; have HCB := hide CB; have HCC := hide CC
          obtain ⟨o0, o1, o2, o3, o4, o5, o6⟩ := HOP.out _ HK.out
          clear CA CB CC hBP HTY' HT00
          go_wp2_with (first
            | (go_at_call 12; (with_reducible refine HCA.out.mono ?_); clear HCA; rintro e w5 ⟨q2, rfl, hst, hb5⟩
               obtain ⟨F2, hF2⟩ : ∃ F2 : Nat → Prop, F2 = (fun b => w4.heap.size ≤ b ∧ b < w5.heap.size) := ⟨_, rfl⟩
               rw [← hF2] at hst
               have HF2 : Hid (∀ b, F2 b → P < b) := fun b hb => by rw [hF2] at hb; have := HPS.out; have := hb.1; omega
               have HFF : Hid (∀ b, F2 b → ¬ F b) := fun b hb hf => by have := HF2.out b hb; have := HFP.out b hf; omega
               have HST := hide hst
               have HT := hide (HT.out.call hb5)
               have HK := hide ((hb5.block P HPS.out).trans HK.out)
               clear hF2 hst hb5 o0 o1 o2 o3 o4 o5 o6
               obtain ⟨o0, o1, o2, o3, o4, o5, o6⟩ := HOP.out _ HK.out)
            | (go_at_call 8; (with_reducible refine (HCB.out _ _ _ HT.out HK.out HST.out HFF.out).mono ?_); clear HCB; rintro e w6 ⟨rfl, ⟨F6, sd6, evs6, h6, hst, hff, hfp⟩, hk⟩
               have HT := hide h6; have HST := hide hst; have HFF := hide hff; have HK := hide hk
               clear h6 hst hff hfp hk o0 o1 o2 o3 o4 o5 o6
               obtain ⟨o0, o1, o2, o3, o4, o5, o6⟩ := HOP.out _ HK.out)
            | (go_at_call 10; (with_reducible refine (HCC.out _ _ _ _ _ _ HT.out HST.out HFF.out).mono ?_); clear HCC; rintro e w7 ⟨rfl, h7, hst⟩
               have HT : Hid (T2 B W k q2 F2 sd evs qr G evs vs gone w7) := ⟨h7.base, hst, h7.rs, fun b hb => by have := HF2.out b hb; have := HBP.out; omega, h7.gB, h7.qB, fun b hb hg => by have := HF2.out b hb; have := HGP.out b hg; omega, fun hb => by have := HF2.out _ hb; have := HQP.out; omega, h7.bz⟩
               clear h7 hst o0 o1 o2 o3 o4 o5 o6))
          have HTz := HT; have HSz := HSM
          clear HT HSM
          try go_wp2_with fail
          go_loopw [11, 13] (fun okv sv wq => ∃ s : Int, -1 ≤ s ∧ s ≤ (k : Int) + 1 ∧ okv = .bool true ∧ sv = .int .i64 s ∧ Hid (T2 B W k q2 F2 sd evs qr G evs vs gone wq)) (fun _ sv _ => ((k : Int) + 1 - intOf sv).toNat)
          case atStart => exact ⟨-1, by omega, by omega, rfl, rfl, HTz⟩
          case round =>
            obtain ⟨s, hs1, hs2, rfl, rfl, HTq⟩ := hrel
            by_cases hsk : s ≤ (k : Int)
            · have C1 := fun (w : World) (h : T2 B W k q2 F2 sd evs qr G evs vs gone w) => sNext_any F2 q2 k sd evs s w h.st
              have C2 := fun (w : World) (h : T2 B W k q2 F2 sd evs qr G evs vs gone w) => r4Next_any G qr k evs vs gone s w h.rs
              have C3 := fun (w : World) (h : T2 B W k q2 F2 sd evs qr G evs vs gone w) => sMark_any F2 q2 k sd evs s w h.st
              have C4 := fun (w : World) (h : T2 B W k q2 F2 sd evs qr G evs vs gone w) => r4Mark_any G qr k evs vs gone s w h.rs
              have C5 := fun (w : World) (h : T2 B W k q2 F2 sd evs qr G evs vs gone w) => sClosed_any F2 q2 k sd evs s w h.st
              have C6 := fun (w : World) (h : T2 B W k q2 F2 sd evs qr G evs vs gone w) => r4Closed_any G qr k evs vs gone s w h.rs
              rw [HSz.out.next s] at C1
              rw [HSz.out.mark s] at C3
              rw [HSz.out.closed s] at C5
              generalize (cntL evs s : Int) = y1 at C1 C2
              generalize rMark k evs gone s = y2 at C3 C4
              generalize goneAt k gone s = y3 at C5 C6
              have HC1 := hide C1; have HC2 := hide C2; have HC3 := hide C3; have HC4 := hide C4; have HC5 := hide C5; have HC6 := hide C6
              have e1 : (y1 == y1) = true := by simp
              have e2 : (y2 == y2) = true := by simp
              have e3 : (y3 == y3) = true := by simp
              clear C1 C2 C3 C4 C5 C6
              have HTc := HTq
              clear HTq
              go_wp2_with (first
                | (go_at_call 13; (with_reducible refine (HC1.out _ HTc.out).mono ?_); rintro e wa ⟨rfl, hb⟩; have HTc := hide (HTc.out.call hb); clear hb)
                | (go_at_call 14; (with_reducible refine (HC2.out _ HTc.out).mono ?_); rintro e wa ⟨rfl, rfl⟩)
                | (go_at_call 15; (with_reducible refine (HC3.out _ HTc.out).mono ?_); rintro e wa ⟨rfl, hb⟩; have HTc := hide (HTc.out.call hb); clear hb)
                | (go_at_call 16; (with_reducible refine (HC4.out _ HTc.out).mono ?_); rintro e wa ⟨rfl, rfl⟩)
                | (go_at_call 17; (with_reducible refine (HC5.out _ HTc.out).mono ?_); rintro e wa ⟨rfl, hb⟩; have HTc := hide (HTc.out.call hb); clear hb)
                | (go_at_call 18; (with_reducible refine (HC6.out _ HTc.out).mono ?_); rintro e wa ⟨rfl, rfl⟩))
              go_roundw
              case rel => exact ⟨s + 1, by omega, by omega, rfl, rfl, HTc⟩
              case measure => simp [intOf]; omega
            · obtain ⟨eo, ecap, x1⟩ := HTq.out.rs.evCell
              have CL := fun (d : Nat) => (sLen_any F2 q2 k sd evs (wr.drewN d) (HTq.out.st.below (Below.drewN' (Below.refl _ _) d))).mono (R' := fun e w' => e = .returned (.int .i64 (evs.length : Int)) ∧ ∃ m, w' = wr.drewN m) (fun _ _ ⟨h1, h2⟩ => ⟨h1, d, h2.symm⟩)
              have HCL := hide CL
              have HDN := hide (fun (d : Nat) => HTq.out.call (Below.drewN' (Below.refl _ _) d))
              have en : ((evs.length : Int) != (evs.length : Int)) = false := by simp
              clear CL
              go_wp2_with fail
              go_quiet (exact HCL.out _)
              all_goals go_wp2
              all_goals go_roundw
              all_goals first
                | exact ⟨i + 1, q2, F2, sd, evs, G, vs, gone, hlt, by go_num, rfl, HDN.out _, HSz⟩
                | (simp [intOf]; omega)
    · obtain rfl : i = N := by omega
      obtain ⟨eo, ecap, x1⟩ := HTr.out.rs.evCell
      have HCALL := hide (fun (u : World) (hb : Below wr.heap.size wr u) => HTr.out.call hb)
      have HROWC := hide (fun (u : World) (hb : Below wr.heap.size wr u) => (hb.cell (p := ⟨qr, 1, none⟩) HTr.out.rs.qlt).trans x1)
      have HBZ := hide HTr.out.bz; have HM := hide HTr.out.rs.many
      have C1 := fun (u : World) (hb : Below wr.heap.size wr u) => (sAll_any F qx k sd evs u (HCALL.out u hb).st).mono (R' := fun e u' => ∃ Bc, e = .returned (.func (.func 56) #[] #[.pointer (some ⟨Bc, 0, none⟩)]) ∧ AllAt u' u'.heap.size Bc evs ∧ Below wr.heap.size wr u') (fun e u' hh => by
        obtain ⟨Bc, h1, h2, h3⟩ := hh
        exact ⟨Bc, h1, h2.up h3.size (Nat.le_refl _), hb.trans (h3.mono hb.size)⟩)
      have C2 := fun (Bc : Nat) (u : World) (hA : AllAt u u.heap.size Bc evs) (hb : Below wr.heap.size wr u) => (told_any Bc evs eo ecap evs vs u hA ((HCALL.out u hb).rs.evRow (HROWC.out u hb)) HM.out).mono (R' := fun e u' => e = .returned (.bool true) ∧ Below wr.heap.size wr u') (fun e u' hh => ⟨by rw [hh.1]; simp, hb.trans (hh.2.mono hb.size)⟩)
      have C3 := fun (u : World) (hb : Below wr.heap.size wr u) => sSources_any F qx k sd evs u (HCALL.out u hb).st
      have HC1 := hide C1; have HC2 := hide C2; have HC3 := hide C3
      have hB0 : Below wr.heap.size wr wr := Below.refl _ _
      have HB0 := hide hB0.drew
      have HEND := hide (fun (u : World) (hb : Below wr.heap.size wr u) => (HTr.out.base.trans (hb.mono HBZ.out) : Below B W u))
      have ek : ((k : Int) == (k : Int)) = true := by simp
      clear C1 C2 C3 hB0 HCALL HTr HSMr
      go_wp2_with fail
      go_region_held3 (fun u => u.cell? ⟨qr, 1, none⟩ = some (.slice eo evs.length ecap)) (first | exact x1 | exact HROWC.out _ HB0.out | go_keep) (first
        | (go_at_call 21; (with_reducible refine (HC1.out _ HB0.out).mono ?_); rintro e u1 ⟨Bc, rfl, hA, hb⟩; have HA := hide hA; have HB0 := hide hb; clear hA hb)
        | (go_at_call 20; (with_reducible refine (HC2.out _ _ HA.out HB0.out).mono ?_); rintro e u2 ⟨rfl, hb⟩; have HB0 := hide hb; clear hb)
        | (go_at_call 22; (with_reducible refine (HC3.out _ HB0.out).mono ?_); rintro e u3 ⟨rfl, rfl⟩)
        | fail)
      all_goals go_wp2
      all_goals go_ret
      all_goals exact ⟨rfl, by rw [← HB.out]; exact HEND.out _ HB0.out⟩
theorem streams_walk (n : Int) (xs : List Op4) (v : Value) (W : World) (hx : Ov W W.heap.size v xs) :
    Calls Try.prog 3 #[.int .i64 n, v] W fun e w' => e = .returned (.bool true) ∧ Below W.heap.size W w' := by
  by_cases h : n < 1 ∨ 16 < n
  · exact streams_no n h v W
  · have hn : n = ((n.toNat : Nat) : Int) := by omega
    rw [hn]
    exact streams_yes n.toNat (by omega) (by omega) xs v W hx
end Go.Proofs.Ythjhbnfedelniaa
