/- Contract: the key of a partial match in a set. -/
import Derived.Test.YtcnecokamckfaaaGreatDoorK6
import Derived.Test.YtcnecokamckfaaaGreatDoorShelf2
import Derived.Lib.AppendIntMem
import Derived.Lib.ItoaLen
import Derived.Lib.BufSteps
import Derived.Laws.IdiomStrings
set_option linter.unusedVariables false
set_option linter.unusedSimpArgs false
namespace Go.Proofs.YtcnecokamckfaaaGreatDoor
open Go Go.RowKit

theorem infoK : (Tryz.prog.info? 5).map (fun i => (i.zero, i.size, i.bytes)) = some (some (.int .u8 0), 1, 1) := by kernel_rfl
theorem keyL_take {bs : List Bd} {k : Nat} (hk : k < bs.length) : keyL (bs.take (k + 1)) = keyL (bs.take k) ++ keyB bs[k]! := by
  rw [List.take_succ_eq_append_getElem hk, keyL_append, getElem!_pos bs k hk]
  simp [keyL]
theorem keyL_le {bs : List Bd} (k : Nat) : (keyL (bs.take k)).length ≤ (keyL bs).length := by
  have h := keyL_append (bs.take k) (bs.drop k)
  rw [List.take_append_drop] at h
  rw [h, List.length_append]; omega

/-- How a key is built up: its bytes in a row of the call's own; the bound's box at Z. -/
structure KyS (P Z : Nat) (W0 : World) (x : Bd) (aa : Option Addr) (ac : Nat) (l : List UInt8) (v : Value) (u : World) : Prop where
  own : u.ownsRow P 5 1 v l.length (Lib.byteCells l)
  low : Below P W0 u
  size : P ≤ u.heap.size
  box : u.heap[Z]? = some (.cells #[.string x.var, .int .i64 x.ev.src, .int .i64 x.ev.seq, .int .i64 x.ev.time, .string x.ev.ty, .slice aa x.ev.ats.length ac] 54 (0, 0))
theorem own_byte_block {u : World} {P n : Nat} {v : Value} {xs : List Value} (h : u.ownsRow P 5 1 v n xs) : ∀ g, v.ownBlock = some g → ∃ c fz, u.heap[g]? = some (.cells c 5 fz) := fun g hg => by
  rcases h.2 with ⟨rfl, _⟩ | ⟨g', cap, cur, rfl, _, hgg, _⟩
  · simp [Value.ownBlock] at hg
  · simp only [Value.ownBlock, Option.some.injEq] at hg
    subst hg
    exact ⟨_, _, hgg⟩
theorem box_kept {u u' : World} {Z : Nat} {cs : Array Value} {fz : Nat × Nat} (hk : Lib.OthersKept 5 none u u') (h : u.heap[Z]? = some (.cells cs 54 fz)) : u'.heap[Z]? = some (.cells cs 54 fz) :=
  hk Z _ h (by simp) (fun c f e => by simp at e)
theorem KyS.num {P Z : Nat} {W0 : World} {x : Bd} {aa : Option Addr} {ac : Nat} {l : List UInt8} {v : Value} {u : World} (h : KyS P Z W0 x aa ac l v u) {v' : Value} {u' : World} {m : List UInt8}
    (ho : u'.ownsRow P 5 1 v' (l.length + m.length) (Lib.byteCells l ++ Lib.byteCells m)) (hb : Below P u u') (hk : Lib.OthersKept 5 none u u') : KyS P Z W0 x aa ac (l ++ m) v' u' :=
  ⟨by rw [List.length_append, Lib.byteCells_append]; exact ho, h.low.trans hb, Nat.le_trans h.size hb.size, box_kept hk h.box⟩
theorem KyS.grow {P Z : Nat} {W0 : World} {x : Bd} {aa : Option Addr} {ac : Nat} {l : List UInt8} {v : Value} {u : World} (h : KyS P Z W0 x aa ac l v u) {v' : Value} {u' : World} {m : List UInt8}
    (ho : u'.ownsRow P 5 1 v' (l.length + m.length) (Lib.byteCells l ++ Lib.byteCells m)) (hg : u.grownBy u' v.ownBlock) : KyS P Z W0 x aa ac (l ++ m) v' u' :=
  ⟨by rw [List.length_append, Lib.byteCells_append]; exact ho, h.low.grown hg h.size (fun k hk => (h.own.lt k hk).1), Nat.le_trans h.size hg.size,
    box_kept ((Lib.OthersKept.refl _ _ _).grown hg (own_byte_block h.own)) h.box⟩
theorem KyS.alloc {P Z : Nat} {W0 : World} {x : Bd} {aa : Option Addr} {ac : Nat} {l : List UInt8} {v : Value} {u : World} (h : KyS P Z W0 x aa ac l v u) (o : Obj) : KyS P Z W0 x aa ac l v (u.alloc o) :=
  ⟨h.own.alloc o, h.low.alloc h.size o, Nat.le_trans h.size (by simp), by rw [heap_alloc_old _ _ (lt_of_block h.box)]; exact h.box⟩

set_option maxRecDepth 100000 in
set_option maxHeartbeats 4000000 in
theorem mKey_any (B : Nat) (ao : Option Addr) (n cap : Nat) (bs : List Bd) (w : World) (h : BsV w B (.slice ao n cap) bs) (hB : B ≤ w.heap.size) (hkl : (keyL bs).length + 21 ≤ 140737488355328)
    (hw : ∀ x ∈ bs, (-9223372036854775808 ≤ x.ev.src ∧ x.ev.src ≤ 9223372036854775807) ∧ (-9223372036854775808 ≤ x.ev.seq ∧ x.ev.seq ≤ 9223372036854775807)) (htab : Lib.TabIs Tryz.prog w "internal/strconv.uint64pow10" .u64 Lib.pow10Tab) :
    Calls Tryz.prog 36 #[.agg #[.slice ao n cap]] w fun e w' => e = .returned (.string ⟨(keyL bs).toArray⟩) ∧ Below w.heap.size w w' := by
  obtain ⟨i0, hi, hz0, hz1, hz2⟩ := info_parts infoK
  have HI := Lib.hid (And.intro hi (And.intro hz0 (And.intro hz1 hz2)))
  obtain ⟨hn, hn63, _⟩ := h.num
  have HN := Lib.hid hn
  have HH := Lib.hid h
  have HT := Lib.hid (Lib.tabBelow_of_tabIs htab)
  have HKL := Lib.hid hkl; have HW := Lib.hid hw
  clear h hn htab hkl hw hi hz0 hz1 hz2
  obtain ⟨P, hP⟩ : ∃ P, P = w.heap.size := ⟨_, rfl⟩
  have HP := Lib.hid hP
  have HB0 : Hid (Below P w (w.alloc (.cells #[.slice ao n cap] 38))) := by rw [hP]; exact (Below.refl _ _).alloc (Nat.le_refl _) _
  rw [← hP] at hB ⊢
  rw [← hP] at HT
  clear hP
  go_enter Tryz.func36, Tryz.ntmps36
  go_wp2_with fail
  rw [← HP.out]
  go_loopw [3, 9] (fun v iv wr => ∃ k : Nat, k ≤ n ∧ iv = .int .i64 k ∧ Hid (wr.ownsRow P 5 1 v (keyL (bs.take k)).length (Lib.byteCells (keyL (bs.take k)))) ∧ Hid (Below P w wr)) (fun _ iv _ => n - (intOf iv).toNat)
  case atStart => exact ⟨0, Nat.zero_le _, rfl, Lib.hid (World.ownsRow_nil _ _ _ _), HB0⟩
  case round =>
    obtain ⟨k, hk, rfl, HO, HB⟩ := hrel
    by_cases hlt : k < n
    · obtain ⟨b, o, aa, ac, rfl, hbB, hkl, _, _, _, _, hc⟩ := HH.out.at hlt
      obtain ⟨a0, a1, a2, a3, a4, a5⟩ := six_cells (hc _ (HB.out.mono hB))
      have hbw : b ≠ wr.heap.size := by have := HB.out.size; have := HP.out; omega
      have hkt := keyL_take hkl
      have hle := keyL_le (bs := bs) (k + 1)
      have hwx := HW.out bs[k]! (by rw [getElem!_pos bs k hkl]; exact List.getElem_mem _)
      have hvx := (HH.out.wide bs[k]! (by rw [getElem!_pos bs k hkl]; exact List.getElem_mem _)).1
      obtain ⟨x, hx⟩ : ∃ x, x = bs[k]! := ⟨_, rfl⟩
      rw [← hx] at a0 a1 a2 a3 a4 a5 hkt hwx hvx
      obtain ⟨l, hl⟩ : ∃ l, l = keyL (bs.take k) := ⟨_, rfl⟩
      rw [← hl] at HO hkt
      have HKEY : Hid (l ++ Lib.itoa (x.var.size : Int) ++ [58] ++ x.var.data.toList ++ Lib.itoa x.ev.src ++ [46] ++ Lib.itoa x.ev.seq ++ [59] = keyL (bs.take (k + 1))) := Lib.hid (by rw [hkt]; unfold keyB; rw [Lib.size_eq]; simp)
      have HLIM : Hid (l.length + (Lib.itoa (x.var.size : Int)).length + x.var.size + (Lib.itoa x.ev.src).length + (Lib.itoa x.ev.seq).length + 3 + 21 ≤ 140737488355328) := Lib.hid (by
        have h1 := HKL.out
        rw [hkt] at hle
        unfold keyB at hle
        simp only [List.length_append, List.length_cons, List.length_nil] at hle
        rw [Lib.size_eq x.var]; omega)
      have hz0 : (-9223372036854775808 : Int) ≤ (x.var.size : Int) := by omega
      have hz1 : (x.var.size : Int) ≤ 9223372036854775807 := by unfold maxLen at hvx; omega
      have e1 : IntKind.i64.wrap ((k : Int) + 1) = (k : Int) + 1 := IntWalk.i64_in _ (by omega)
      have HLT := Lib.hid hlt
      clear hl hx hkl hle hkt hc
      obtain ⟨Z, hZ⟩ : ∃ Z, Z = wr.heap.size := ⟨_, rfl⟩
      obtain ⟨V, hV⟩ : ∃ V, V = wr.alloc (.cells #[.string x.var, .int .i64 x.ev.src, .int .i64 x.ev.seq, .int .i64 x.ev.time, .string x.ev.ty, .slice aa x.ev.ats.length ac] 54) := ⟨_, rfl⟩
      have hPr : P ≤ wr.heap.size := by have := HB.out.size; have := HP.out; omega
      have ho := HO.out.alloc (.cells #[.string x.var, .int .i64 x.ev.src, .int .i64 x.ev.seq, .int .i64 x.ev.time, .string x.ev.ty, .slice aa x.ev.ats.length ac] 54)
      rw [← hV] at ho
      have HS := Lib.hid (show KyS P Z w x aa ac l _ V from ⟨ho, by rw [hV]; exact HB.out.alloc hPr _, by rw [hV]; exact Nat.le_trans hPr (by simp), by rw [hV, hZ]; exact heap_alloc_new _ _⟩)
      clear ho
      have HV := Lib.hid hV; have HZ := Lib.hid hZ
      clear hV hZ hPr HO HB
      have hi0 := HI.out
      go_wp2_with fail
      rw [← HV.out, ← HZ.out]
      clear a0 a1 a2 a3 a4 a5 hbw
      obtain ⟨c0, c1, c2, c3, c4, c5⟩ := cells_six HS.out.box
      go_wp2_with (go_at_call 63; (with_reducible refine (Tryz.strconv_AppendInt_10 P _ _ hz0 hz1 _ _ _ HS.out.own HS.out.size (by have := HLIM.out; (try simp only [List.length_append, List.length_cons, List.length_nil]); (try rw [← Lib.size_eq]); omega) (HT.out.on HS.out.low)).mono ?_); rintro e u1 ⟨v1, rfl, ho, hb, hk⟩; have HS := Lib.hid (HS.out.num ho hb hk); clear ho hb hk; clear c0 c1 c2 c3 c4 c5; obtain ⟨c0, c1, c2, c3, c4, c5⟩ := cells_six HS.out.box; refine Hid.out ?_)
      refine Lib.hid ?_
      go_wp2_with (at_builtin; refine wpList_append_own _ rfl _ _ 90 rfl P 5 i0 (.int .u8 0) 1 1 Tryz.underlying90 HI.out.1 HI.out.2.1 HI.out.2.2.1 HI.out.2.2.2 rfl (by decide) _ _ _ rfl (HS.out.own.alloc _) ⟨_, 0, none⟩ 1 1 (Lib.byteCells [58]) rfl rfl (by intro j u' hj; match j, hj with | 0, hj => simp [Lib.byteCells] at hj; subst hj; simp [Addr.add]) (by intro u' hu'; simp [Lib.byteCells] at hu'; subst hu'; rfl) (by have := HLIM.out; (try simp only [List.length_append, List.length_cons, List.length_nil]); (try rw [← Lib.size_eq]); unfold maxLen; omega) (by have := HLIM.out; (try simp only [List.length_append, List.length_cons, List.length_nil]); (try rw [← Lib.size_eq]); omega) (HS.out.alloc _).size ?_; intro v2 u2 ho hg h9; clear h9; have HS := Lib.hid ((HS.out.alloc _).grow (m := [58]) ho hg); clear ho hg; clear c0 c1 c2 c3 c4 c5; obtain ⟨c0, c1, c2, c3, c4, c5⟩ := cells_six HS.out.box; refine Hid.out ?_)
      refine Lib.hid ?_
      go_wp2_with (at_builtin; refine Lib.wpList_append_own_string _ rfl _ _ 90 9 rfl P 5 i0 Tryz.underlying90 Tryz.underlying9 HI.out.1 HI.out.2.1 HI.out.2.2.1 HI.out.2.2.2 _ _ _ rfl HS.out.own x.var rfl (by have := HLIM.out; (try simp only [List.length_append, List.length_cons, List.length_nil]); unfold maxLen; omega) (by have := HLIM.out; (try simp only [List.length_append, List.length_cons, List.length_nil]); omega) HS.out.size ?_; intro v2 u2 ho hg h9; clear h9; rw [Lib.size_eq, Lib.strCells_eq] at ho; have HS := Lib.hid (HS.out.grow ho hg); clear ho hg; clear c0 c1 c2 c3 c4 c5; obtain ⟨c0, c1, c2, c3, c4, c5⟩ := cells_six HS.out.box; refine Hid.out ?_)
      refine Lib.hid ?_
      go_wp2_with (go_at_call 63; (with_reducible refine (Tryz.strconv_AppendInt_10 P _ _ hwx.1.1 hwx.1.2 _ _ _ HS.out.own HS.out.size (by have := HLIM.out; (try simp only [List.length_append, List.length_cons, List.length_nil]); (try rw [← Lib.size_eq]); omega) (HT.out.on HS.out.low)).mono ?_); rintro e u1 ⟨v1, rfl, ho, hb, hk⟩; have HS := Lib.hid (HS.out.num ho hb hk); clear ho hb hk; clear c0 c1 c2 c3 c4 c5; obtain ⟨c0, c1, c2, c3, c4, c5⟩ := cells_six HS.out.box; refine Hid.out ?_)
      refine Lib.hid ?_
      go_wp2_with (at_builtin; refine wpList_append_own _ rfl _ _ 90 rfl P 5 i0 (.int .u8 0) 1 1 Tryz.underlying90 HI.out.1 HI.out.2.1 HI.out.2.2.1 HI.out.2.2.2 rfl (by decide) _ _ _ rfl (HS.out.own.alloc _) ⟨_, 0, none⟩ 1 1 (Lib.byteCells [46]) rfl rfl (by intro j u' hj; match j, hj with | 0, hj => simp [Lib.byteCells] at hj; subst hj; simp [Addr.add]) (by intro u' hu'; simp [Lib.byteCells] at hu'; subst hu'; rfl) (by have := HLIM.out; (try simp only [List.length_append, List.length_cons, List.length_nil]); (try rw [← Lib.size_eq]); unfold maxLen; omega) (by have := HLIM.out; (try simp only [List.length_append, List.length_cons, List.length_nil]); (try rw [← Lib.size_eq]); omega) (HS.out.alloc _).size ?_; intro v2 u2 ho hg h9; clear h9; have HS := Lib.hid ((HS.out.alloc _).grow (m := [46]) ho hg); clear ho hg; clear c0 c1 c2 c3 c4 c5; obtain ⟨c0, c1, c2, c3, c4, c5⟩ := cells_six HS.out.box; refine Hid.out ?_)
      refine Lib.hid ?_
      go_wp2_with (go_at_call 63; (with_reducible refine (Tryz.strconv_AppendInt_10 P _ _ hwx.2.1 hwx.2.2 _ _ _ HS.out.own HS.out.size (by have := HLIM.out; (try simp only [List.length_append, List.length_cons, List.length_nil]); (try rw [← Lib.size_eq]); omega) (HT.out.on HS.out.low)).mono ?_); rintro e u1 ⟨v1, rfl, ho, hb, hk⟩; have HS := Lib.hid (HS.out.num ho hb hk); clear ho hb hk; clear c0 c1 c2 c3 c4 c5; obtain ⟨c0, c1, c2, c3, c4, c5⟩ := cells_six HS.out.box; refine Hid.out ?_)
      refine Lib.hid ?_
      go_wp2_with (at_builtin; refine wpList_append_own _ rfl _ _ 90 rfl P 5 i0 (.int .u8 0) 1 1 Tryz.underlying90 HI.out.1 HI.out.2.1 HI.out.2.2.1 HI.out.2.2.2 rfl (by decide) _ _ _ rfl (HS.out.own.alloc _) ⟨_, 0, none⟩ 1 1 (Lib.byteCells [59]) rfl rfl (by intro j u' hj; match j, hj with | 0, hj => simp [Lib.byteCells] at hj; subst hj; simp [Addr.add]) (by intro u' hu'; simp [Lib.byteCells] at hu'; subst hu'; rfl) (by have := HLIM.out; (try simp only [List.length_append, List.length_cons, List.length_nil]); (try rw [← Lib.size_eq]); unfold maxLen; omega) (by have := HLIM.out; (try simp only [List.length_append, List.length_cons, List.length_nil]); (try rw [← Lib.size_eq]); omega) (HS.out.alloc _).size ?_; intro v2 u2 ho hg h9; clear h9; have HS := Lib.hid ((HS.out.alloc _).grow (m := [59]) ho hg); clear ho hg; clear c0 c1 c2 c3 c4 c5; obtain ⟨c0, c1, c2, c3, c4, c5⟩ := cells_six HS.out.box; refine Hid.out ?_)
      refine Lib.hid ?_
      have HO2 := Lib.hid HS.out.own; have HB2 := Lib.hid HS.out.low
      rw [HKEY.out] at HO2
      go_wp2
      go_roundw
      case rel => exact ⟨k + 1, hlt, by go_num, HO2, HB2⟩
      case measure => simp [intOf]; omega
    · have HT2 : Hid (bs.take k = bs) := Lib.hid (List.take_of_length_le (by have := HN.out; omega))
      rw [HT2.out] at HO
      obtain rfl : k = n := by omega
      have hnl : ¬ ((k : Int) < (k : Int)) := by omega
      obtain ⟨l, hl⟩ : ∃ l, l = keyL bs := ⟨_, rfl⟩
      rw [← hl] at HO
      have HL := Lib.hid hl
      rcases HO.out.2 with ⟨he, h0⟩ | ⟨g, cap2, cur, he, -, -, -, -, -, -⟩
      · have hl0 : l = [] := List.length_eq_zero_iff.1 h0
        subst hl0
        subst he
        have hcv : ∀ u : World, (convert 90 9 (.slice none 0 0)).run Tryz.prog u = .ok (.string ⟨#[]⟩) u := fun u => by
          rw [run_convert_bytes_string u 90 9 5 none 0 0 Tryz.underlying90 Tryz.underlying5 Tryz.underlying9]
          rfl
        clear hl h0 HO
        go_wp2
        go_ret
        exact ⟨by rw [← HL.out]; rfl, HB.out⟩
      · subst he
        have hcv := run_convert_bytes_back (P := Tryz.prog) wr 90 9 5 ⟨g, 0, none⟩ cap2 l Tryz.underlying90 Tryz.underlying5 Tryz.underlying9 (fun j hj => HO.out.cells (g := g) rfl j _ (by simp [Lib.byteCells, hj]))
        clear hl HO
        go_wp2
        go_ret
        exact ⟨by rw [← HL.out]; rfl, HB.out⟩
end Go.Proofs.YtcnecokamckfaaaGreatDoor
