/- Contract of Text of the program's source. -/
import Derived.Test.YtiljekpfkkocnaaRstext
namespace Go.Proofs.Ytiljekpfkkocnaa
open Go Go.RowKit

/-- A source, its slice of bytes named. -/
def SrcAt (w : World) (B q : Nat) (bytes : List Nat) (p : Nat) (v : Value) : Prop :=
  w.heap[q]? = some (.cells #[.bool true, v, .int .i64 (p : Int)] 119 (0, 0)) ∧ w.ownsRow B 5 1 v bytes.length (byteVs bytes)
theorem SrcAt.is {w w0 : World} {B q : Nat} {bytes : List Nat} {p p' : Nat} {v : Value} (h : SrcAt w B q bytes p' v) (h0 : SrcIs w0 B q bytes p) (hp : p' ≤ 8 * bytes.length) : SrcIs w B q bytes p' :=
  ⟨h0.from_, h0.len, hp, h0.small, v, h.1, h.2⟩
theorem SrcAt.moved {w : World} {B q : Nat} {bytes : List Nat} {p : Nat} {v : Value} (h : SrcAt w B q bytes p v) (p' : Nat) : SrcAt (w.setCell ⟨q, 2, none⟩ (.int .i64 (p' : Int))) B q bytes p' v := by
  refine ⟨?_, ownsRow_setCell_typed h.2 h.1 (by decide) _⟩
  rw [heap_setCell_same h.1]; simp
theorem SrcAt.alloc {w : World} {B q : Nat} {bytes : List Nat} {p : Nat} {v : Value} (h : SrcAt w B q bytes p v) (o : Obj) : SrcAt (w.alloc o) B q bytes p v :=
  ⟨heap_alloc_keeps h.1 o, h.2.alloc o⟩
theorem SrcAt.other {w : World} {B q g k : Nat} {bytes : List Nat} {p : Nat} {v : Value} (h : SrcAt w B q bytes p v) (u : Value) (h1 : q ≠ g) (h2 : v.ownBlock ≠ some g) : SrcAt (w.setCell ⟨g, k, none⟩ u) B q bytes p v :=
  ⟨by rw [Below.heap_setCell _ _ _ _ h1]; exact h.1, ownsRow_setCell_other h.2 h2 u⟩

set_option maxRecDepth 100000 in
theorem sTake_at (B q n : Nat) (bytes : List Nat) (p : Nat) (w : World) (hs : SrcIs w B q bytes p) (hn : n ≤ 64) (hle : p + n ≤ 8 * bytes.length) :
    Calls Try.prog 82 #[.pointer (some ⟨q, 0, none⟩), .int .i64 (n : Int)] w fun e w' => e = .returned (.int .u64 ((valAt bytes p n : Nat) : Int)) ∧ w.setCell ⟨q, 2, none⟩ (.int .i64 ((p + n : Nat) : Int)) = w' := by
  have hpos := hs.pos
  have hfree := hs.free
  have hl := hs.len
  have C := sPeek_any B q bytes p p n w hs hn hle
  clear hs
  go_enter Try.func82, Try.ntmps82
  go_wp2_with (go_at_call 107; refine C.mono ?_; rintro e w' ⟨rfl, rfl⟩)
  go_ret
  exact ⟨rfl, rfl⟩

theorem made_bytes (w : World) (k : Nat) (hk : k ≤ 140737488355328) : (w.alloc (.cells (madeCells #[.int .u8 0] k) 5)).ownsRow w.heap.size 5 1 (.slice (some ⟨w.heap.size, 0, none⟩) k k) k (byteVs (List.replicate k 0)) := by
  have e' : (madeCells #[.int .u8 0] k).toList = byteVs (List.replicate k 0) := by rw [toList_madeCells_one]; simp [byteVs]
  have hs : (madeCells #[Value.int .u8 0] k).size = k := by rw [size_madeCells]
  refine ⟨by simp [byteVs_length], .inr ⟨w.heap.size, k, _, rfl, Nat.le_refl _, heap_alloc_new _ _, Nat.le_refl _, by unfold maxLen; omega, by rw [hs]; omega, ?_⟩⟩
  rw [Nat.mul_one, List.take_of_length_le (by rw [Array.length_toList, hs]; omega)]
  exact e'

/-- The first k bytes of f, then zeros. -/
def filled (f : Nat → Nat) (V k : Nat) : List Nat := (List.range V).map fun i => if i < k then f i else 0
theorem filled_zero (f : Nat → Nat) (V : Nat) : filled f V 0 = List.replicate V 0 := by
  unfold filled
  apply List.ext_getElem <;> simp
theorem filled_full (f : Nat → Nat) (V : Nat) : filled f V V = (List.range V).map f := by
  unfold filled
  apply List.map_congr_left
  intro i hi
  simp at hi
  simp [hi]
theorem filled_length (f : Nat → Nat) (V k : Nat) : (filled f V k).length = V := by simp [filled]
theorem filled_set (f : Nat → Nat) (V k : Nat) (_hk : k < V) : (byteVs (filled f V k)).set k (.int .u8 ((f k : Nat) : Int)) = byteVs (filled f V (k + 1)) := by
  apply List.ext_getElem
  · simp [byteVs, filled]
  · intro i h1 h2
    simp [byteVs, filled] at h1 h2 ⊢
    rw [List.getElem_set]
    by_cases hik : k = i
    · subst hik; simp
    · rw [if_neg hik]
      simp only [List.getElem_map, List.getElem_range]
      by_cases hlt : i < k
      · simp [hlt, show i < k + 1 by omega]
      · simp [hlt, show ¬ i < k + 1 by omega]

theorem chunk_left (bytes : List Nat) (p i : Nat) : chunk (leftL bytes p) i = valAt bytes (p + 8 * i) 8 := by
  rw [valAt_left]; rfl

set_option maxRecDepth 100000 in
set_option maxHeartbeats 1600000 in
theorem sText_any (B q : Nat) (bytes : List Nat) (p : Nat) (w : World) (hs : SrcIs w B q bytes p) :
    Calls Try.prog 123 #[.pointer (some ⟨q, 0, none⟩)] w fun e w' => e = .returned (.tuple #[.string (textStr (leftL bytes p)), .int .i64 ((textErrL (leftL bytes p) : Nat) : Int)]) ∧
      (∃ p', SrcIs w' B q bytes p' ∧ leftL bytes p' = textRestL (leftL bytes p)) ∧ Kept B srcT w w' := by
  have hp := hs.at_
  have hpos := hs.pos
  have hmade := hs.made
  have hlenb := hs.len
  have C := sNat_any B q bytes p w hs
  rw [natErr_left, natVal_left] at C
  obtain ⟨l, hl⟩ : ∃ l, l = leftL bytes p := ⟨_, rfl⟩
  rw [← hl] at C ⊢
  have hlt := natValL_lt l
  obtain ⟨E, hE⟩ : ∃ E, E = natErrL l := ⟨_, rfl⟩
  obtain ⟨V, hV⟩ : ∃ V, V = natValL l := ⟨_, rfl⟩
  obtain ⟨p1, hp1⟩ : ∃ p1, p1 = natNext bytes p := ⟨_, rfl⟩
  have hrest : leftL bytes p1 = natRestL l := by rw [hp1, hl]; exact natRest_left bytes p
  rw [← hE, ← hV, ← hp1] at C
  rw [← hV] at hlt
  have HE := hide hE
  have HV := hide hV
  have HL := hide hl
  have HRest := hide hrest
  have HP1 := hide hp1
  clear hE hV hl hrest hp1
  have hV' : (V : Int) ≤ 18446744073709551615 := by omega
  have HVlt := hide hlt; clear hlt
  have HS0 := hide hs; clear hs
  by_cases h0 : E = 0
  · subst h0
    have hErr2 : (natErrL l) = 0 := HE.out.symm
    have HErr2 := hide hErr2; clear hErr2
    go_enter Try.func123, Try.ntmps123
    go_wp2_with fail
    refine (sIsMade_any q _ hmade).mono ?_
    rintro e w' ⟨rfl, rfl⟩
    go_wp2_with fail
    refine C.mono ?_
    clear C
    rintro e w1 ⟨rfl, hs1, k1⟩
    have H1 := hide hs1; have K1 := hide k1; clear hs1 k1
    have hp1b := H1.out.at_
    obtain ⟨Lf, hLf⟩ : ∃ Lf, Lf = 8 * bytes.length - p1 := ⟨_, rfl⟩
    have C2 := sLeft_k B q bytes p1 w1 H1.out
    rw [← hLf] at C2
    have HLf := hide hLf; clear hLf
    have hLb : Lf ≤ 1125899906842624 := by have := HLf.out; omega
    go_wp2_with fail
    refine C2.mono ?_
    clear C2
    rintro e w2 ⟨rfl, hs2, k2⟩
    have H2 := hide hs2; have K2 := hide k2; clear hs2 k2
    have hfree2 := H2.out.free
    have hpos2 := H2.out.pos
    have HNl : Hid ((natRestL l).length = Lf) := by rw [← HRest.out, leftL_length]; exact HLf.out.symm
    by_cases hmuch : Lf / 8 < V
    · have he : textErrL l = 10 := by unfold textErrL; rw [HErr2.out, ← HV.out, HNl.out]; simp [hmuch]
      have HTE := hide he; clear he
      go_wp2_with fail
      go_ret2
      rw [textStr, textBytesL, textRestL, HTE.out]
      exact ⟨rfl, ⟨p, H2.out.moved p hp, HL.out.symm⟩, (K1.out.trans K2.out).trans (H2.out.keeps _)⟩
    · have he : textErrL l = 0 := by unfold textErrL; rw [HErr2.out, ← HV.out, HNl.out]; simp [hmuch]
      have hV8 : 8 * V ≤ Lf := by omega
      have hV9 : V ≤ 140737488355328 := by omega
      have HT : Hid (textBytesL l = (List.range V).map (chunk (natRestL l)) ∧ textRestL l = (natRestL l).drop (8 * V)) := by
        unfold textBytesL textRestL; rw [he, if_pos rfl, if_pos rfl, ← HV.out]; exact ⟨rfl, rfl⟩
      have HTE := hide he; clear he
      have hmk := run_make_row' (P := Try.prog) 33 5 (.int .u8 0) 1 Try.underlying33 Try.info5 rfl .u64 .u64 V (by omega) (by omega)
      obtain ⟨v, hat⟩ : ∃ v, SrcAt w2 B q bytes p1 v := by
        obtain ⟨v, h1, h2⟩ := H2.out.row
        exact ⟨v, h1, h2⟩
      have HAt := hide hat; clear hat
      have hqlt : q < w2.heap.size := H2.out.lt
      obtain ⟨M, hM⟩ : ∃ M, M = w2.heap.size := ⟨_, rfl⟩
      have hq2 : q ≠ M := by omega
      have hv2 : v.ownBlock ≠ some M := by
        intro h
        have := (HAt.out.2.lt M h).2
        omega
      have HQ2 := hide hq2; have HV2 := hide hv2; clear hq2 hv2
      have hB : B ≤ M := by have := H2.out.from_; omega
      have HM := hide hM
      go_wp2_with fail
      rw [← hM]
      clear hM hmk
      go_loopw [38] (fun i wr => ∃ k : Nat, k ≤ V ∧ i = .int .i64 k ∧ wr.ownsRow M 5 1 (.slice (some ⟨M, 0, none⟩) V V) V (byteVs (filled (chunk (natRestL l)) V k)) ∧ SrcAt wr B q bytes (p1 + 8 * k) v ∧ Kept B srcT w2 wr) (fun i _ => V - (intOf i).toNat)
      case atStart =>
        refine ⟨0, Nat.zero_le _, rfl, ?_, HAt.out.alloc _, (Kept.refl _ _ _).alloc (by have := HM.out; omega) _⟩
        rw [filled_zero, HM.out]
        exact made_bytes w2 V hV9
      case round =>
        obtain ⟨k, hk, rfl, hown, hsr, hkr⟩ := hrel
        have HO := hide hown; have HR := hide hsr; have HK := hide hkr; clear hown hsr hkr
        by_cases hltk : k < V
        · have hle : p1 + 8 * k + 8 ≤ 8 * bytes.length := by have := HLf.out; omega
          have CT := sTake_at B q 8 bytes (p1 + 8 * k) wr (HR.out.is H2.out (by omega)) (by omega) hle
          obtain ⟨c, hcc⟩ : ∃ c, c = chunk (natRestL l) k := ⟨_, rfl⟩
          have hcv : valAt bytes (p1 + 8 * k) 8 = c := by rw [hcc, ← HRest.out, chunk_left]
          rw [hcv] at CT
          have hc256 : c < 256 := by rw [hcc]; exact chunk_lt _ _
          have hcw : (c : Int) % 256 = (c : Int) := by omega
          have HCC := hide hcc; clear hcc hcv
          have hcellt : (wr.setCell ⟨q, 2, none⟩ (.int .i64 ((p1 + 8 * k + 8 : Nat) : Int))).ownsRow M 5 1 (.slice (some ⟨M, 0, none⟩) V V) V (byteVs (filled (chunk (natRestL l)) V k)) := ownsRow_setCell_typed HO.out HR.out.1 (by decide) _
          obtain ⟨w3, hw3⟩ : ∃ w3, w3 = wr.setCell ⟨q, 2, none⟩ (.int .i64 ((p1 + 8 * k + 8 : Nat) : Int)) := ⟨_, rfl⟩
          have hsr3 := HR.out.moved (p1 + 8 * k + 8)
          have hkr3 := HK.out.setCell (p := ⟨q, 2, none⟩) H2.out.from_ HR.out.1 rfl (.int .i64 ((p1 + 8 * k + 8 : Nat) : Int))
          rw [← hw3] at hcellt CT hsr3 hkr3
          clear hw3
          have hcl := hcellt.cells (g := M) rfl k (.int .u8 (((filled (chunk (natRestL l)) V k).getD k 0 : Nat) : Int)) (by simp [byteVs, filled_length, hltk])
          rw [add_off] at hcl
          obtain ⟨x0, hx0⟩ : ∃ x0 : Nat, x0 = (filled (chunk (natRestL l)) V k).getD k 0 := ⟨_, rfl⟩
          rw [← hx0] at hcl
          clear hx0
          have hfr : w3.frozen? ⟨M, k, none⟩ = false := by
            rcases hcellt.2 with ⟨h, _⟩ | ⟨g, cap, cur, h, _, hgg, _⟩
            · cases h
            · simp only [Value.slice.injEq, Option.some.injEq, Addr.mk.injEq, and_true, true_and] at h
              obtain ⟨rfl, _⟩ := h
              simp [World.frozen?, hgg]
          have HO3 := hide hcellt; have HR3 := hide hsr3; have HK3 := hide hkr3; clear hcellt hsr3 hkr3
          go_wp2_with fail
          refine CT.mono ?_
          clear CT
          rintro e w' ⟨rfl, rfl⟩
          go_wp2
          go_roundw
          case rel =>
            have hst := (HO3.out.stored k (.int .u8 (c : Int))).1
            rw [HCC.out, filled_set _ _ _ hltk] at hst
            rw [HCC.out]
            refine ⟨k + 1, by omega, by go_num, hst, ?_, HK3.out.setCell_fresh (p := ⟨M, k, none⟩) hB (by have := HM.out; simp; omega) _⟩
            have := HR3.out.other (k := k) (.int .u8 ((chunk (natRestL l) k : Nat) : Int)) HQ2.out HV2.out
            rw [show p1 + 8 * (k + 1) = p1 + 8 * k + 8 by omega]
            exact this
          case measure => simp [intOf]; omega
        · obtain rfl : k = V := by omega
          have hcv := conv_own HO.out (filled_length _ _ _)
          rw [filled_full] at hcv
          go_wp2
          go_ret2
          rw [textStr, HT.out.1, HT.out.2, HTE.out]
          refine ⟨by rw [List.map_map]; rfl, ⟨p1 + 8 * k, HR.out.is H2.out (by have := HLf.out; omega), ?_⟩, (K1.out.trans K2.out).trans HK.out⟩
          rw [← HRest.out]
          simp [leftL, List.drop_drop]
  · have hb : ((E : Int) != 0) = true := by simp; omega
    have H0 := hide h0; clear h0
    go_enter Try.func123, Try.ntmps123
    go_wp2_with fail
    refine (sIsMade_any q _ hmade).mono ?_
    rintro e w' ⟨rfl, rfl⟩
    go_wp2_with fail
    refine C.mono ?_
    clear C
    rintro e w1 ⟨rfl, hs1, k1⟩
    have H1 := hide hs1; have K1 := hide k1; clear hs1 k1
    go_wp2
    go_ret2
    have he : textErrL l = E := by unfold textErrL; rw [← HE.out, if_pos H0.out]
    have hr : natRestL l = l := by unfold natRestL; rw [← HE.out, if_neg H0.out]
    have ht : textBytesL l = [] := by unfold textBytesL; rw [he, if_neg H0.out]
    have ht2 : textRestL l = l := by unfold textRestL; rw [he, if_neg H0.out]
    rw [textStr, ht, ht2, he]
    exact ⟨rfl, ⟨p1, H1.out, by rw [HRest.out, hr]⟩, K1.out⟩
end Go.Proofs.Ytiljekpfkkocnaa
