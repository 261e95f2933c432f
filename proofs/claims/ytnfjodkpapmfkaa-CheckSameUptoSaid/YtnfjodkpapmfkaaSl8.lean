/- Contract: spoil of layer 7's statements: it turns what stands below a node, and nothing else. -/
import Derived.Test.YtnfjodkpapmfkaaCn8
namespace Go.Proofs.Ytnfjodkpapmfkaa
open Go Go.RowKit

theorem drop_set8 {cs : Array Value} {n i : Nat} (u : Value) : ((cs.setIfInBounds (5 * i) u).toList.take n).drop (5 * (i + 1)) = (cs.toList.take n).drop (5 * (i + 1)) := by
  rw [Array.toList_setIfInBounds, List.take_set, List.drop_set_of_lt (by omega)]
/-- While a node's conditions are spoilt. -/
structure Sp1 (w : World) (T : Nat → Prop) (tb n : Nat) (u : World) : Prop where
  chg : Chg T w u
  row : ∃ cs, u.heap[tb]? = some (.cells cs 37 (0, 0)) ∧ 11 * n ≤ cs.size
theorem Sp1.put {w : World} {T : Nat → Prop} {tb n : Nat} {u : World} (h : Sp1 w T tb n u) (hT : T tb) (j : Nat) (v : Value) : Sp1 w T tb n (u.setCell ⟨tb, j, none⟩ v) := by
  obtain ⟨cs, hb, hs⟩ := h.row
  exact ⟨h.chg.setCell (p := ⟨tb, j, none⟩) hT v, _, heap_setCell_same (k := j) hb v, by simpa using hs⟩
theorem Sp1.at {w : World} {T : Nat → Prop} {tb n : Nat} {u : World} (h : Sp1 w T tb n u) {j : Nat} (hj : j < 11 * n) : (∃ x, u.cell? ⟨tb, j, none⟩ = some x) ∧ u.frozen? ⟨tb, j, none⟩ = false := by
  obtain ⟨cs, hb, hs⟩ := h.row
  exact ⟨⟨cs[j]'(by omega), by rw [cell_of_row u tb j cs _ _ hb]; simp [show j < cs.size by omega]⟩, frozen_of_row u tb j cs _ hb⟩
/-- While a node's kids are spoilt. -/
structure Sp2 (w : World) (S K : Nat → Prop) (R : Nat) (k : Fo) (i : Nat) (u : World) : Prop where
  chg : Chg S w u
  row : ∃ cs N, u.heap[R]? = some (.cells cs 25 (0, 0)) ∧ 5 * k.len ≤ cs.size ∧ VF u (k.drop i) ((cs.toList.take (5 * k.len)).drop (5 * i)) N ∧ (∀ x, N x → K x ∧ x ≠ R ∧ x < w.heap.size)
theorem Sp2.node {w : World} {S K : Nat → Prop} {R : Nat} {k : Fo} {i : Nat} {u : World} (h : Sp2 w S K R k i u) (hR : K R) (hRw : R < w.heap.size) (hK : ∀ x, K x → S x) (hi : i < k.len) {d' : Nt} {k' : Fo} (hd : k.drop i = .cons d' k' (k.drop (i + 1))) :
    ∃ cs M ta tc ka kc, u.heap[R]? = some (.cells cs 25 (0, 0)) ∧ (∀ j x, (nd5 d' ta tc ka k'.len kc)[j]? = some x → cs[5 * i + j]? = some x) ∧ BlO u d' (VF u k') k'.len M ta ka ∧ (∀ x, M x → x < u.heap.size ∧ x ≠ R) ∧ (∀ x, M x → K x) ∧
      ∀ u2, Chg M u u2 → Sp2 w S K R k (i + 1) (u2.setCell ⟨R, 5 * i, none⟩ (.int .i64 99)) ∧ u2.heap[R]? = some (.cells cs 25 (0, 0)) := by
  obtain ⟨cs, N, hb, hs, hv, hN⟩ := h.row
  rw [hd] at hv
  obtain ⟨M, N', ta, tc, ka, kc, rest, e, hM, hN', hdis, hbl, hvn⟩ := hv
  have hz := h.chg.size
  refine ⟨cs, M, ta, tc, ka, kc, hb, fun j x hj => ?_, hbl, fun x hx => ⟨Nat.lt_of_lt_of_le (hN x (hM x hx)).2.2 hz, (hN x (hM x hx)).2.1⟩, fun x hx => (hN x (hM x hx)).1, fun u2 hc => ?_⟩
  · have hlt : j < 5 := (List.getElem?_eq_some_iff.1 hj).1
    have h1 : ((cs.toList.take (5 * k.len)).drop (5 * i))[j]? = some x := by rw [e, List.getElem?_append_left (by rw [nd5_len]; exact hlt)]; exact hj
    rw [List.getElem?_drop, List.getElem?_take, if_pos (by omega)] at h1
    simpa using h1
  · have hb2 : u2.heap[R]? = some (.cells cs 25 (0, 0)) := (hc.block R (lt_of_block hb) (fun hm => (hN R (hM R hm)).2.1 rfl)).trans hb
    refine ⟨⟨(h.chg.trans hc (fun j hj => .inl (hK j (hN j (hM j hj)).1))).setCell (p := ⟨R, 5 * i, none⟩) (hK R hR) _, _, N', heap_setCell_same (k := 5 * i) hb2 (.int .i64 99), by simpa using hs, ?_, fun x hx => hN x (hN' x hx)⟩, hb2⟩
    rw [drop_set8]
    have e2 : (cs.toList.take (5 * k.len)).drop (5 * (i + 1)) = rest := by
      rw [show 5 * (i + 1) = 5 * i + 5 by omega, ← List.drop_drop, e]; rfl
    rw [e2]
    refine hvn.keep (fun x hx => ?_)
    obtain ⟨_, h2, h3⟩ := hN x (hN' x hx)
    rw [Below.heap_setCell _ _ _ _ (show x ≠ R from h2)]
    exact hc.block x (by omega) (fun hm => hdis x hm hx)
theorem live_at8 {u : World} {R : Nat} {cs : Array Value} {t : TypeId} (hb : u.heap[R]? = some (.cells cs t (0, 0))) {j : Nat} (hj : j < cs.size) : (∃ x, u.cell? ⟨R, j, none⟩ = some x) ∧ u.frozen? ⟨R, j, none⟩ = false :=
  ⟨⟨cs[j], by rw [cell_of_row u R j cs _ _ hb]; simp [hj]⟩, frozen_of_row u R j cs _ hb⟩
set_option maxRecDepth 100000 in
set_option maxHeartbeats 4000000 in
theorem spoil7_any (d : Nt) (k : Fo) : ∀ (w : World) (b o : Nat) (S : Nat → Prop) (ta : Option Addr) (tc : Nat) (ka : Option Addr) (kc : Nat), w.cell? ⟨b, o + 3, none⟩ = some (.slice ta d.tests.length tc) → w.cell? ⟨b, o + 4, none⟩ = some (.slice ka k.len kc) → b < w.heap.size → ¬ S b →
    BlO w d (VF w k) k.len S ta ka → (∀ x, S x → x < w.heap.size) → szD d + szF k ≤ 1048576 → Calls Try.prog 16 #[.pointer (some ⟨b, o, none⟩)] w fun e w' => e = .returned (.tuple #[]) ∧ Chg S w w' := by
  revert d k
  refine Fo.node_ind (p := fun d k => ∀ (w : World) (b o : Nat) (S : Nat → Prop) (ta : Option Addr) (tc : Nat) (ka : Option Addr) (kc : Nat), w.cell? ⟨b, o + 3, none⟩ = some (.slice ta d.tests.length tc) → w.cell? ⟨b, o + 4, none⟩ = some (.slice ka k.len kc) → b < w.heap.size → ¬ S b →
    BlO w d (VF w k) k.len S ta ka → (∀ x, S x → x < w.heap.size) → szD d + szF k ≤ 1048576 → Calls Try.prog 16 #[.pointer (some ⟨b, o, none⟩)] w fun e w' => e = .returned (.tuple #[]) ∧ Chg S w w') ?_
  intro d k ih w b o S ta tc ka kc x3 x4 hbw hSb hbl hS hsz
  obtain ⟨T, K, hT, hK, hTK, hcd, hrow⟩ := hbl
  have hlen : k.len ≤ 1048576 := by have := szF_len k; omega
  have htl : d.tests.length ≤ 1048576 := by have := szT_len d.tests; simp only [szD] at hsz; omega
  have HX := Lib.hid (fun (u : World) (h : Chg S w u) => (by
    have hk : ∀ n, u.cell? ⟨b, n, none⟩ = w.cell? ⟨b, n, none⟩ := fun n => by simp only [World.cell?, h.block b hbw hSb]
    exact ⟨(hk _).trans x3, (hk _).trans x4⟩ : u.cell? ⟨b, o + 3, none⟩ = some (.slice ta d.tests.length tc) ∧ u.cell? ⟨b, o + 4, none⟩ = some (.slice ka k.len kc)))
  have HTS := Lib.hid (fun (u : World) (h : Chg T w u) => (⟨h.os, h.tape, h.output, h.size, fun j hj hs => h.block j hj (fun ht => hs (hT j ht))⟩ : Chg S w u))
  have HIH := Lib.hid ih; have HCD := Lib.hid hcd; have HROW := Lib.hid hrow; have HSZ := Lib.hid hsz; have HLEN := Lib.hid hlen; have HTL := Lib.hid htl; have HK := Lib.hid hK; have HS := Lib.hid hS; have HT := Lib.hid hT; have HTK := Lib.hid hTK
  have HC0 : Hid (Chg T w w) := Lib.hid (Chg.refl _ _)
  clear ih hcd hrow hsz hlen htl hbw hSb
  go_enter Try.func16, Try.ntmps16
  go_wp2_with fail
  clear x3 x4
  go_loopw [9] (fun iv wr => ∃ i : Nat, i ≤ d.tests.length ∧ iv = .int .i64 (i : Int) ∧ Hid (Chg T w wr) ∧ Hid (0 < d.tests.length → ∃ tb z, ta = some ⟨tb, z, none⟩ ∧ z = 0 ∧ T tb ∧ Sp1 w T tb d.tests.length wr)) (fun iv _ => d.tests.length - (intOf iv).toNat)
  case atStart => exact ⟨0, Nat.zero_le _, rfl, HC0, Lib.hid (fun h => by
    obtain ⟨tb, cs, e, hTb, hb, hs, _⟩ := HCD.out (List.length_pos_iff.1 h)
    exact ⟨tb, 0, e, rfl, hTb, Chg.refl _ _, cs, hb, hs⟩)⟩
  case round =>
    obtain ⟨i, hi, rfl, HC, HR⟩ := hrel
    obtain ⟨x3, x4⟩ := HX.out wr (HTS.out wr HC.out)
    by_cases hlt : i < d.tests.length
    · obtain ⟨tb, z, rfl, hz, hTb, hsp⟩ := HR.out (by omega)
      have hlti : (i : Int) < (d.tests.length : Int) := lt7 hlt
      have hi0 : (0 : Int) ≤ (i : Int) := by omega
      have hls := wr7 hlt (len7 HTL.out)
      obtain ⟨⟨xx, l1⟩, l2⟩ := hsp.at (j := z + i * 11 + 5) (by omega)
      have HN := Lib.hid (hsp.put hTb (z + i * 11 + 5) (.int .i64 99))
      have HLT := Lib.hid hlt; have HZ := Lib.hid hz; have HTb := Lib.hid hTb
      clear hsp hlt hi hz hTb
      go_wp2
      go_roundw
      all_goals first
        | exact ⟨i + 1, HLT.out, by go_num, HN.out.chg, Lib.hid (fun _ => ⟨tb, z, rfl, HZ.out, HTb.out, HN.out⟩)⟩
        | exact meas7 HLT.out
        | (rw [hls]; exact meas7 HLT.out)
    · obtain rfl : i = d.tests.length := by omega
      have hnl : ¬ ((d.tests.length : Int) < (d.tests.length : Int)) := by omega
      have HC2 := Lib.hid (HTS.out wr HC.out)
      have HR2 := Lib.hid (fun (h : 0 < k.len) => (by
        obtain ⟨R, cs, e, hKR, hb, hs, hv⟩ := HROW.out h
        have hRw : R < w.heap.size := HS.out R (HK.out R hKR)
        have hK2 : Keep K w wr := fun x hx => HC.out.block x (HS.out x (HK.out x hx)) (fun ht => HTK.out x ht hx)
        refine ⟨R, 0, e, rfl, hKR, HC2.out, cs, fun x => K x ∧ x ≠ R, (hK2 R hKR).trans hb, hs, ?_, fun x hx => ⟨hx.1, hx.2, HS.out x (HK.out x hx.1)⟩⟩
        rw [Fo.drop_zero, Nat.mul_zero, List.drop_zero]
        exact hv.keep (hK2.mono (fun x hx => hx.1)) :
          ∃ R z, ka = some ⟨R, z, none⟩ ∧ z = 0 ∧ K R ∧ Sp2 w S K R k 0 wr))
      clear hlt hi HC HR
      go_wp2_with fail
      clear x3 x4 hnl
      go_loopw [25] (fun iv wr => ∃ i : Nat, i ≤ k.len ∧ iv = .int .i64 (i : Int) ∧ Hid (Chg S w wr) ∧ Hid (0 < k.len → ∃ R z, ka = some ⟨R, z, none⟩ ∧ z = 0 ∧ K R ∧ Sp2 w S K R k i wr)) (fun iv _ => k.len - (intOf iv).toNat)
      case atStart => exact ⟨0, Nat.zero_le _, rfl, HC2, HR2⟩
      case round =>
        obtain ⟨i, hi, rfl, HC, HR⟩ := hrel
        obtain ⟨x3, x4⟩ := HX.out _ HC.out
        by_cases hlt : i < k.len
        · obtain ⟨R, z, rfl, hz, hKR, hsp⟩ := HR.out (by omega)
          obtain ⟨d', k', hd⟩ := Fo.drop_cons hlt
          have hRw : R < w.heap.size := HS.out R (HK.out R hKR)
          obtain ⟨cs, M, ta', tc', ka', kc', hb, hc5, hbl, hM, hMK, hnext⟩ := hsp.node hKR hRw HK.out hlt hd
          have hal := Fo.All.drop i HIH.out
          have hsd := szF_drop k i
          rw [hd] at hal hsd
          simp only [szF] at hsd
          have hcell : ∀ j x, cs[5 * i + j]? = some x → World.cell? _ ⟨R, z + i * 5 + j, none⟩ = some x := fun j x hj => by
            rw [hz, show 0 + i * 5 + j = 5 * i + j by omega, cell_of_row _ R _ cs _ _ hb]; exact hj
          have hsz5 : 5 * i + 4 < cs.size := (Array.getElem?_eq_some_iff.1 (hc5 4 _ rfl)).1
          have HCL := Lib.hid (hal.1 _ R (z + i * 5) M ta' tc' ka' kc' (hcell 3 _ (hc5 3 _ rfl)) (hcell 4 _ (hc5 4 _ rfl)) (lt_of_block hb) (fun hm => (hM R hm).2 rfl) hbl (fun x hx => (hM x hx).1) (by have := HSZ.out; omega))
          have HN := Lib.hid (fun (u2 : World) (h : Chg M _ u2) => (by
            obtain ⟨h1, h2⟩ := hnext u2 h
            obtain ⟨l1, l2⟩ := live_at8 h2 (j := z + i * 5) (by omega)
            rw [show 5 * i = z + i * 5 by omega] at h1
            have hcm : Chg S w u2 := HC.out.trans h (fun j hj => .inl (HK.out j (hMK j hj)))
            exact ⟨h1, l1, l2, (HX.out _ hcm).2⟩ :
            Sp2 w S K R k (i + 1) (u2.setCell ⟨R, z + i * 5, none⟩ (.int .i64 99)) ∧ (∃ x, u2.cell? ⟨R, z + i * 5, none⟩ = some x) ∧ u2.frozen? ⟨R, z + i * 5, none⟩ = false ∧ u2.cell? ⟨b, o + 4, none⟩ = some (.slice (some ⟨R, z, none⟩) k.len kc)))
          have hlti : (i : Int) < (k.len : Int) := lt7 hlt
          have hi0 : (0 : Int) ≤ (i : Int) := by omega
          have hls := wr7 hlt (len7 HLEN.out)
          have HLT := Lib.hid hlt; have HZ := Lib.hid hz; have HKR := Lib.hid hKR
          clear hsp hlt hi hz hKR hd hRw hb hc5 hbl hM hMK hnext hal hsd hcell hsz5
          go_wp2_with (first | (go_at_call 16; (with_reducible refine HCL.out.mono ?_); rintro e u2 ⟨rfl, hc⟩; obtain ⟨g1, ⟨_, g2⟩, g3, g4⟩ := HN.out _ hc; have HN2 := Lib.hid g1; clear g1 hc x3 x4))
          go_roundw
          all_goals first
            | exact ⟨i + 1, HLT.out, by go_num, HN2.out.chg, Lib.hid (fun _ => ⟨R, z, rfl, HZ.out, HKR.out, HN2.out⟩)⟩
            | exact meas7 HLT.out
            | (rw [hls]; exact meas7 HLT.out)
        · obtain rfl : i = k.len := by omega
          have hnl : ¬ ((k.len : Int) < (k.len : Int)) := by omega
          clear hlt hi
          go_wp2
          go_end0
          exact ⟨rfl, HC.out⟩
end Go.Proofs.Ytnfjodkpapmfkaa
