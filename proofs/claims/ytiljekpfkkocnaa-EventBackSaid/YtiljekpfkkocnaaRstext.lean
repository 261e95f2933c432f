/- Contract of Text of the document's own source. -/
import Derived.Test.YtiljekpfkkocnaaSnum2
import Derived.Laws.BytesArg
namespace Go.Proofs.Ytiljekpfkkocnaa
open Go Go.RowKit

def textStr (l : List Bool) : ByteArray := strOfNums ((textBytesL l).map fun x : Nat => (x : Int))

/-- An append onto a row that was made since: of the older blocks nothing turns. -/
theorem Kept.grown_fresh {B : Nat} {T : Nat → Bool} {a w w' : World} (h : Kept B T a w) {B0 e size n : Nat} {v : Value} {xs : List Value} (hown : w.ownsRow B0 e size v n xs) (hg : w.grownBy w' v.ownBlock) (hB : B ≤ w.heap.size) (hB0 : B ≤ B0) (hB1 : a.heap.size ≤ B0) : Kept B T a w' :=
  ⟨h.below.grown hg hB (fun k hk => Nat.le_trans hB0 (hown.lt k hk).1), fun k cs e1 fr hk ht => by
    have hh := h.typed k cs e1 fr hk ht
    rw [hg.block k (lt_of_block hh) ?_]; · exact hh
    intro hk2
    have h1 := hown.lt k hk2.symm
    have h2 := lt_of_block hk
    omega⟩
theorem Kept.setCell_fresh {B : Nat} {T : Nat → Bool} {a w : World} (h : Kept B T a w) {p : Addr} (hp : B ≤ p.block) (h1 : a.heap.size ≤ p.block) (u : Value) : Kept B T a (w.setCell p u) :=
  ⟨h.below.setCell hp u, fun k cs e fr hk ht => by
    have hh := h.typed k cs e fr hk ht
    have hne : k ≠ p.block := by have := lt_of_block hk; omega
    rw [Below.heap_setCell _ _ _ _ hne]; exact hh⟩
theorem KeptR.grown_fresh {B q : Nat} {a w w' : World} (h : KeptR B q a w) {B0 e size n : Nat} {v : Value} {xs : List Value} (hown : w.ownsRow B0 e size v n xs) (hg : w.grownBy w' v.ownBlock) (hB : B ≤ w.heap.size) (hB0 : B ≤ B0) (hB1 : a.heap.size ≤ B0) : KeptR B q a w' :=
  ⟨h.kept.grown_fresh hown hg hB hB0 hB1, fun k h1 h2 => by
    rw [hg.block k (Nat.lt_of_lt_of_le h1 h.kept.below.size) (fun e => by have := (hown.lt k e.symm).1; omega)]; exact h.only k h1 h2⟩
theorem KeptR.setCell_fresh {B q : Nat} {a w : World} (h : KeptR B q a w) {p : Addr} (hp : B ≤ p.block) (h1 : a.heap.size ≤ p.block) (u : Value) : KeptR B q a (w.setCell p u) :=
  ⟨h.kept.setCell_fresh hp h1 u, fun k h2 h3 => by rw [Below.heap_setCell _ _ _ _ (by omega)]; exact h.only k h2 h3⟩
theorem RefIs.grown {w w' : World} {B q : Nat} {l : List Bool} (h : RefIs w B q l) {B0 e size n : Nat} {v : Value} {xs : List Value} (hown : w.ownsRow B0 e size v n xs) (he1 : 60 ≠ e) (he2 : 4 ≠ e) (hg : w.grownBy w' v.ownBlock) : RefIs w' B q l := by
  obtain ⟨ao, cap, hq, hc, hn, hr⟩ := h.row
  refine ⟨h.from_, h.len, ao, cap, grow_keeps hq hown he1 hg rfl, hc, hn, fun a ha => ?_⟩
  obtain ⟨hs, cur, hg2, hj⟩ := hr a ha
  exact ⟨hs, cur, grow_keeps hg2 hown he2 hg rfl, hj⟩
theorem RefIs.alloc {w : World} {B q : Nat} {l : List Bool} (h : RefIs w B q l) (o : Obj) : RefIs (w.alloc o) B q l :=
  h.below ((Below.refl w.heap.size w).alloc (Nat.le_refl _) o) (Nat.le_refl _)
/-- What was loaded before is stored back: it stands where it stood. -/
theorem RefIs.restored {w w1 : World} {B B' q : Nat} {l l1 : List Bool} (h : RefIs w B q l) (hk : KeptR B' q w w1) (h1 : RefIs w1 B q l1) {v : Value} (h0 : w.cell? ⟨q, 0, none⟩ = some v) : RefIs (w1.setCell ⟨q, 0, none⟩ v) B q l := by
  obtain ⟨ao, cap, hq, hc, hn, hr⟩ := h.row
  obtain ⟨ao1, cap1, hq1, _⟩ := h1.row
  have h2 := cell_of_one hq
  rw [h0] at h2
  simp only [Option.some.injEq] at h2
  subst h2
  refine ⟨h.from_, h.len, ao, cap, one_setCell hq1, hc, hn, fun a ha => ?_⟩
  obtain ⟨hs, cur, hg, hj⟩ := hr a ha
  refine ⟨hs, cur, ?_, hj⟩
  have hg1 := hk.typed _ _ _ _ hg (by decide)
  have hne : a.block ≠ q := by
    rintro rfl
    rw [hq1] at hg1
    simp only [Option.some.injEq, Obj.cells.injEq] at hg1
    exact absurd hg1.2.1 (by decide)
  rw [Below.heap_setCell _ _ _ _ hne]; exact hg1

theorem conv_own {w : World} {B n : Nat} {v : Value} {bytes : List Nat} (h : w.ownsRow B 5 1 v n (byteVs bytes)) (hn : bytes.length = n) :
    (convert 33 9 v).run Try.prog w = .ok (.string (strOfNums (bytes.map fun x : Nat => (x : Int)))) w := by
  subst hn
  rcases h.2 with ⟨hv, hn0⟩ | ⟨g, cap, cur, hv, hg, hgg, hgn, hcapm, hcsz, htake⟩
  · subst hv
    obtain rfl : bytes = [] := List.length_eq_zero_iff.1 hn0
    exact run_convert_bytes_nil w 33 5 Try.underlying33 Try.underlying5 0 0 9 Try.underlying9
  · subst hv
    refine run_convert_bytes_arg w 33 5 Try.underlying33 Try.underlying5 g 0 bytes.length cap _ (by simp) (fun i hi => ?_) 9 Try.underlying9
    have := h.cells (g := g) rfl i (.int .u8 ((bytes.getD i 0 : Nat) : Int)) (by simp [byteVs, hi])
    rw [add_off] at this
    rw [Nat.zero_add, this]
    simp [List.getD, hi]

theorem chunk_eq (l : List Bool) (i : Nat) : bitsVal (l.drop (8 * i)) 8 = if 8 * i + 8 ≤ l.length then chunk l i else 0 := by
  unfold bitsVal chunk
  by_cases h : 8 * i + 8 ≤ l.length
  · rw [if_pos h, if_pos]; · rfl
    exact bitsErr_ok (n := 8) (by omega) (by simp; omega)
  · rw [if_neg h, if_neg]
    rw [bitsErr_ends (n := 8) (by omega) (by simp; omega)]
    decide

set_option maxRecDepth 100000 in
set_option maxHeartbeats 1600000 in
theorem rsText_any (B q : Nat) (l : List Bool) (w : World) (hs : RefIs w B q l) :
    Calls Try.prog 114 #[.pointer (some ⟨q, 0, none⟩)] w fun e w' => e = .returned (.tuple #[.string (textStr l), .int .i64 ((textErrL l : Nat) : Int)]) ∧ RefIs w' B q (textRestL l) ∧ KeptR B q w w' := by
  obtain ⟨i0, hi, hz0, hz1, hz2⟩ := info_parts Try.info5
  have C := rsNat_any B q l w hs
  have hlt := natValL_lt l
  have hfree := hs.free
  obtain ⟨ao0, cap0, h00⟩ : ∃ ao cap, w.cell? ⟨q, 0, none⟩ = some (.slice ao l.length cap) := by
    obtain ⟨ao, cap, hq, _⟩ := hs.row
    exact ⟨ao, cap, cell_of_one hq⟩
  obtain ⟨N0, hN0⟩ : ∃ N0, N0 = l.length := ⟨_, rfl⟩
  rw [← hN0] at h00
  have HN0 := hide hN0; clear hN0
  obtain ⟨E, hE⟩ : ∃ E, E = natErrL l := ⟨_, rfl⟩
  obtain ⟨V, hV⟩ : ∃ V, V = natValL l := ⟨_, rfl⟩
  rw [← hE, ← hV] at C
  rw [← hV] at hlt
  have HS := hide hs
  have HE := hide hE
  have HV := hide hV
  clear hE hV hs
  have hV' : (V : Int) ≤ 18446744073709551615 := by omega
  have HVlt := hide hlt; clear hlt
  by_cases h0 : E = 0
  · subst h0
    go_enter Try.func114, Try.ntmps114
    go_wp2_with fail
    refine C.mono ?_
    clear C
    rintro e w1 ⟨rfl, hs1, k1⟩
    obtain ⟨ao1, cap1, h01⟩ : ∃ ao cap, w1.cell? ⟨q, 0, none⟩ = some (.slice ao (natRestL l).length cap) := by
      obtain ⟨ao, cap, hq, _⟩ := hs1.row
      exact ⟨ao, cap, cell_of_one hq⟩
    have hfree1 := hs1.free
    have hlen1 := hs1.len
    obtain ⟨N1, hN1⟩ : ∃ N1, N1 = (natRestL l).length := ⟨_, rfl⟩
    rw [← hN1] at h01 hlen1
    have HN1 := hide hN1; clear hN1
    have H1 := hide hs1; have K1 := hide k1; clear hs1 k1
    by_cases hmuch : N1 / 8 < V
    · have he : textErrL l = 10 := by unfold textErrL; rw [← HE.out, ← HV.out, ← HN1.out]; simp [hmuch]
      go_wp2_with fail
      go_ret2
      rw [textStr, textBytesL, textRestL, he]
      refine ⟨rfl, ?_, K1.out.trans (H1.out.keeps _)⟩
      exact HS.out.restored K1.out H1.out (by rw [h00])
    · have he : textErrL l = 0 := by unfold textErrL; rw [← HE.out, ← HV.out, ← HN1.out]; simp [hmuch]
      have hV8 : 8 * V ≤ N1 := by omega
      have hV9 : V ≤ 140737488355328 := by omega
      have HT : Hid (textBytesL l = (List.range V).map (chunk (natRestL l)) ∧ textRestL l = (natRestL l).drop (8 * V)) := by
        unfold textBytesL textRestL; rw [he, if_pos rfl, if_pos rfl, ← HV.out]; exact ⟨rfl, rfl⟩
      have HTE := hide he; clear he
      go_wp2_with fail
      go_loopw [7, 8] (fun v i wr => ∃ k : Nat, k ≤ V ∧ i = .int .u64 k ∧ wr.ownsRow w1.heap.size 5 1 v k (byteVs ((List.range k).map (chunk (natRestL l)))) ∧ RefIs wr B q ((natRestL l).drop (8 * k)) ∧ KeptR B q w1 wr) (fun _ i _ => V - (intOf i).toNat)
      case atStart => exact ⟨0, Nat.zero_le _, rfl, World.ownsRow_nil _ _ _ _, by simpa using H1.out, .refl _ _ _⟩
      case round =>
        obtain ⟨k, hk, rfl, hown, hsr, hkr⟩ := hrel
        have HO := hide hown; have HR := hide hsr; have HK := hide hkr; clear hown hsr hkr
        by_cases hltk : k < V
        · have hsz : w1.heap.size ≤ wr.heap.size := HK.out.below.size
          have hB1 : B ≤ w1.heap.size := by have := H1.out.from_; have := H1.out.lt; omega
          have CB := rsBits_any B q 8 ((natRestL l).drop (8 * k)) wr HR.out (by decide)
          have hc1 := chunk_eq (natRestL l) k
          rw [if_pos (by rw [← HN1.out]; omega)] at hc1
          have hce : bitsErr 8 ((natRestL l).drop (8 * k)).length = 0 := bitsErr_ok (n := 8) (by omega) (by simp; rw [← HN1.out]; omega)
          have hcr : bitsRest ((natRestL l).drop (8 * k)) 8 = (natRestL l).drop (8 * (k + 1)) := by
            unfold bitsRest; rw [hce, if_pos rfl]; simp [List.drop_drop, Nat.mul_add]
          rw [hc1, hce, hcr] at CB
          obtain ⟨c, hcc⟩ : ∃ c, c = chunk (natRestL l) k := ⟨_, rfl⟩
          have hc256 : c < 256 := by rw [hcc]; exact chunk_lt _ _
          rw [← hcc] at CB
          have HCC := hide hcc; clear hcc hc1 hce hcr
          have hcw : (c : Int) % 256 = (c : Int) := by omega
          go_wp2_with fail
          refine CB.mono ?_
          clear CB
          rintro e w2 ⟨rfl, hs2, k2⟩
          have H2 := hide hs2; have K2 := hide k2; clear hs2 k2
          have HO2 := hide (K2.out.ownsRow HO.out (by decide))
          have hsz2 := K2.out.below.size
          go_wp2_with (at_builtin; refine wpList_append_own _ rfl (.tmp 46) (.tmp 49) 33 rfl w1.heap.size 5 i0 (.int .u8 0) 1 1 Try.underlying33 hi hz0 hz1 hz2 rfl (by decide) _ k _ rfl (HO2.out.alloc _) ⟨w2.heap.size, 0, none⟩ 1 1 [.int .u8 (c : Int)] rfl rfl (by intro j' u hj; match j', hj with | 0, hj => simp at hj; subst hj; simp only [Addr.add]; exact cell_alloc_one _ _ rfl _ _) (by intro u hu; simp at hu; subst hu; rfl) (by unfold maxLen; omega) (by omega) (by simp; omega) ?_; intro v3 w3 hown3 hgrow3 hnil3; clear hnil3; have HO3 := hide hown3; have HG3 := hide hgrow3; clear hown3 hgrow3)
          go_roundw
          case rel =>
            refine ⟨k + 1, by omega, by go_num, ?_, (H2.out.alloc _).grown (HO2.out.alloc _) (by decide) (by decide) HG3.out, ?_⟩
            · rw [List.range_succ, List.map_append, byteVs_append, ← List.singleton_append]
              have := HO3.out
              rw [HCC.out] at this
              simpa [byteVs] using this
            · exact ((HK.out.trans K2.out).alloc (by omega) _).grown_fresh (HO2.out.alloc _) HG3.out (by simp; omega) hB1 (Nat.le_refl _)
          case measure => simp [intOf]; omega
        · obtain rfl : k = V := by omega
          have hcv := conv_own HO.out (by simp)
          go_wp2
          go_ret2
          rw [textStr, HT.out.1, HT.out.2, HTE.out]
          exact ⟨by rw [List.map_map]; rfl, HR.out, K1.out.trans HK.out⟩
  · have hb : ((E : Int) != 0) = true := by simp; omega
    have H0 := hide h0; clear h0
    go_enter Try.func114, Try.ntmps114
    go_wp2_with fail
    refine C.mono ?_
    clear C
    rintro e w1 ⟨rfl, hs1, k1⟩
    have H1 := hide hs1; have K1 := hide k1; clear hs1 k1
    go_wp2
    go_ret2
    have he : textErrL l = E := by unfold textErrL; rw [← HE.out, if_pos H0.out]
    have hr : natRestL l = l := by unfold natRestL; rw [← HE.out, if_neg H0.out]
    have ht : textBytesL l = [] := by unfold textBytesL; rw [he, if_neg H0.out]
    have ht2 : textRestL l = l := by unfold textRestL; rw [he, if_neg H0.out]
    have hh := H1.out
    rw [hr] at hh
    rw [textStr, ht, ht2, he]
    exact ⟨rfl, hh, K1.out⟩
end Go.Proofs.Ytiljekpfkkocnaa
