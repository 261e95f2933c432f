/- Contracts of the document's one, Words and Scan. -/
import Derived.Test.YtdmdakkibgjffaaDoorRon
import Derived.Test.YtdmdakkibgjffaaDoorLl
namespace Go.Proofs.YtdmdakkibgjffaaDoor
open Go Go.RowKit

theorem row_later2 {w w' : World} {base : Nat} {e : TypeId} {size n : Nat} {v : Value} {xs : List Value} (h : w.ownsRow base e size v n xs) (hb : Below w.heap.size w w') : w'.ownsRow base e size v n xs :=
  h.kept (row := none) ⟨hb.os, hb.tape, hb.output, hb.size, fun k hk _ => hb.block k hk⟩ (by cases hv : v.ownBlock with | none => exact .inl rfl | some k => exact .inr (fun e => by cases e))
theorem words_grow {w wr w4 w1 : World} {v : Value} {n : Nat} {xs : List Value} {cs : Array Value} {t : Nat} {o2 : Obj} (hrow : wr.ownsRow w.heap.size 42 6 v n xs) (hs : wr.heap.size ≤ w4.heap.size) (hb : Below w.heap.size w (w4.alloc (.cells cs t))) (hg : ((w4.alloc (.cells cs t)).alloc o2).grownBy w1 v.ownBlock) :
    w1.heap[w4.heap.size]? = some (.cells cs t (0, 0)) ∧ Below w.heap.size w w1 := by
  have hz : w.heap.size ≤ (w4.alloc (.cells cs t)).heap.size := hb.size
  refine ⟨(hg.block w4.heap.size (by simp; omega) (fun e => ?_)).trans (heap_alloc_keeps (heap_alloc_new w4 _) _), (hb.alloc hz o2).grown hg (by simp at hz ⊢; omega) (fun k e => (hrow.lt k e).1)⟩
  have h1 := (hrow.lt _ e.symm).2
  omega
theorem words_base {w w4 : World} {o1 o2 : Obj} (hb : Below w.heap.size w (w4.alloc o1)) : w.heap.size ≤ ((w4.alloc o1).alloc o2).heap.size := by
  have := hb.size; simp at this ⊢; omega
theorem word_sym {p : Int} {l : List UInt8} {o : Option Tok} (ho : Wd p l o) {x : List UInt8} (h1 : (outl l).1 = 4) (hx : wtx l = x) {b : Bool} (hb : symB x = b) : WordP o (.returned (.tuple #[tokV ⟨4, baL x, 0, 0, ⟨#[]⟩, p⟩, .bool b])) := by
  obtain ⟨g1, g2⟩ := ho.at4 h1
  subst hx
  refine ⟨_, _, rfl, fun y hy => ?_, fun hy => by rw [← hb]; exact g2 hy⟩
  obtain ⟨h2, rfl⟩ := g1 y hy
  exact ⟨rfl, by rw [← hb]; exact h2⟩
theorem word_minus {p : Int} {l : List UInt8} {o : Option Tok} (ho : Wd p l o) (h1 : (outl l).1 = 2) (hx : wtx l = [45]) {x : List UInt8} (hxx : x = [45]) : WordP o (.returned (.tuple #[tokV ⟨4, baL x, 0, 0, ⟨#[]⟩, p⟩, .bool (symB x)])) := by
  subst hxx
  obtain ⟨g1, _⟩ := ho.at23 (.inl h1)
  refine ⟨_, _, rfl, fun y hy => ?_, fun _ => by decide⟩
  obtain ⟨k2, n2, t2, h2, _⟩ := g1 y hy
  rw [hx] at h2
  exact absurd h2 (not_says_minus k2 n2 t2)
theorem r5one_any (s : ByteArray) (h4 : 4 * s.size + 2 ≤ 140737488355328) (k : Nat) (hk : k < s.size) (o : Option Tok) (ho : Wd k (s.data.toList.drop k) o) (w : World) :
    Calls Tryd.prog 22 #[.string s, .int .i64 (k : Int)] w fun e w' => WordP o e ∧ Below w.heap.size w w' := by
  have hs : s.size ≤ 140737488355328 := by omega
  have hl := list_at s k hk
  cases hlet : letB (s[k]'hk) with
  | true => exact r5one_name s hs k hk o ho hlet w
  | false =>
    cases hdig : digB (s[k]'hk) with
    | true => exact r5one_dig s hs k hk o ho hlet hdig h4 w
    | false =>
      by_cases hq : (s[k]'hk) = 34
      · cases hcl : clo (s.data.toList.drop (k + 1)) with
        | none => exact r5one_open s hs k hk o ho hlet hdig hq hcl w
        | some m => exact r5one_str s hs k hk o ho hlet hdig hq hcl h4 w
      · by_cases h45 : (s[k]'hk) = 45
        · have hou : outl (s.data.toList.drop k) = (2, 1 + runN digB (s.data.toList.drop (k + 1))) := by
            conv => lhs; rw [hl]
            rw [outl_cons, if_neg (by rw [hlet]; simp), if_pos (.inl h45)]
          by_cases hk1 : k + 1 < s.size
          · have hl1 := list_at s (k + 1) hk1
            cases hd1 : digB (s[k + 1]'hk1) with
            | true => exact r5one_neg s hs k hk o ho hlet h45 hk1 hd1 h4 w
            | false =>
              have hwx : wtx (s.data.toList.drop k) = [45] := by
                unfold wtx; rw [hou, hl1, runN_no hd1, hl, h45]; rfl
              exact r5one_mi1 s hs k hk o ho hlet hdig hq h45 hk1 hd1 (by rw [h45]; exact symB_minus _) (word_minus ho (by rw [hou]) hwx (by rw [h45])) w
          · have hwx : wtx (s.data.toList.drop k) = [45] := by
              unfold wtx; rw [hou, list_end s (k + 1) (by omega), runN_nil, hl, h45]; rfl
            exact r5one_mie s hs k hk o ho hlet hdig hq h45 hk1 (word_minus ho (by rw [hou]) hwx (by rw [h45])) w
        · have hno : ¬ ((s[k]'hk) = 45 ∨ digB (s[k]'hk) = true) := by rw [hdig]; simp [h45]
          by_cases hk1 : k + 1 < s.size
          · have hl1 := list_at s (k + 1) hk1
            have hou : outl (s.data.toList.drop k) = (4, if symB [s[k]'hk, s[k + 1]'hk1] then 2 else 1) := by
              conv => lhs; rw [hl, hl1]
              rw [outl_cons, if_neg (by rw [hlet]; simp), if_neg hno, if_neg hq]
            cases h2 : symB [s[k]'hk, s[k + 1]'hk1] with
            | true =>
              rw [h2] at hou
              have hwx : wtx (s.data.toList.drop k) = [s[k]'hk, s[k + 1]'hk1] := by unfold wtx; rw [hou, hl, hl1]; rfl
              exact r5one_sy2 s hs k hk o ho hlet hdig hq h45 hk1 h2 (word_sym ho (by rw [hou]) hwx h2) w
            | false =>
              rw [h2] at hou
              have hwx : wtx (s.data.toList.drop k) = [s[k]'hk] := by unfold wtx; rw [hou, hl]; rfl
              exact r5one_sy1 s hs k hk o ho hlet hdig hq h45 hk1 h2 (word_sym ho (by rw [hou]) hwx rfl) w
          · have hou : outl (s.data.toList.drop k) = (4, 1) := by
              conv => lhs; rw [hl, list_end s (k + 1) (by omega)]
              rw [outl_cons, if_neg (by rw [hlet]; simp), if_neg hno, if_neg hq]
            have hwx : wtx (s.data.toList.drop k) = [s[k]'hk] := by unfold wtx; rw [hou, hl]; rfl
            exact r5one_sye s hs k hk o ho hlet hdig hq h45 hk1 (word_sym ho (by rw [hou]) hwx rfl) w

set_option maxRecDepth 100000 in
set_option maxHeartbeats 4000000 in
theorem r5Words_any (s : ByteArray) (h4 : 4 * s.size + 2 ≤ 140737488355328) (hb : s.size ≤ 4096) (ts : List Tok) (en : Nat) (hw : Wds s.data.toList (nx s.data.toList 0) ts en) (w : World) :
    Calls Tryd.prog 11 #[.string s] w fun e w' => (∃ v, e = .returned (.tuple #[v, .int .i64 (en : Int)]) ∧ w'.ownsRow w.heap.size 42 6 v ts.length (ts.flatMap encT)) ∧ Below w.heap.size w w' := by
  have hs : s.size ≤ 140737488355328 := by omega
  have hsl : s.data.toList.length = s.size := (Lib.size_eq s).symm
  have hz0 : blkI s.data.toList 0 = ((nx s.data.toList 0 : Nat) : Int) := blk_nx (k := 0) (Nat.zero_le _)
  have hz := fun w => r5Blank_any s hs 0 (by unfold inW; omega) w
  rw [hz0] at hz
  have hp0 : nx s.data.toList 0 ≤ s.size := by rw [← hsl]; exact nx_le (Nat.zero_le _)
  have hlen : ts.length ≤ s.size := by rw [← hsl]; exact Nat.le_trans (Nat.le_add_right _ _) hw.len
  generalize nx s.data.toList 0 = p0 at hw hz hp0
  clear hz0
  have HW := Lib.hid hw
  have HSL := Lib.hid hsl
  obtain ⟨i0, hi, hz0, hz1, hz2⟩ := info_parts infoT
  clear hw hsl
  go_enter Tryd.func11, Tryd.ntmps11
  go_wp2_with (go_at_call 15; (with_reducible refine (hz _).mono ?_); rintro e w3 ⟨rfl, rfl⟩)
  go_loopw [4, 5] (fun v av wr => ∃ (pre rest : List Tok) (p : Nat), Hid (ts = pre ++ rest) ∧ Hid (Wds s.data.toList p rest en) ∧ p ≤ s.size ∧ av = .int .i64 p ∧ wr.ownsRow w.heap.size 42 6 v pre.length (pre.flatMap encT) ∧ Hid (Below w.heap.size w wr)) (fun _ av _ => s.size - (intOf av).toNat)
  case atStart => exact ⟨[], ts, p0, Lib.hid rfl, HW, hp0, rfl, World.ownsRow_nil _ _ _ _, Lib.hid (Below.refl _ _)⟩
  case round =>
    obtain ⟨pre, rest, p, HTS, HWD, hps, rfl, hrow, HB⟩ := hrel
    rcases HWD.out.inv with ⟨hp, hr0, he0⟩ | ⟨hp, hr0, he0, hwn⟩ | ⟨t, r, hr0, hp, hwt, hr⟩
    · have hlt : ¬ (p : Int) < s.size := by rw [hp, HSL.out]; omega
      have hpre : ts = pre := by rw [HTS.out, hr0, List.append_nil]
      have HEN := Lib.hid (show en = s.size by rw [he0, HSL.out])
      rw [← hpre] at hrow
      have HR := Lib.hid hrow
      clear hrow hp hr0 he0 hpre
      go_wp2
      go_ret2
      exact ⟨⟨_, by rw [HEN.out]; rfl, HR.out⟩, HB.out⟩
    · have hlt : p < s.size := by rw [← HSL.out]; exact hp
      have hC := fun w => r5one_any s h4 p hlt none hwn w
      have hpre : ts = pre := by rw [HTS.out, hr0, List.append_nil]
      have HEN := Lib.hid he0
      rw [← hpre] at hrow
      have HR := Lib.hid hrow
      clear hrow hp hr0 he0 hwn hpre
      go_wp2_with (go_at_call 22; (with_reducible refine (hC _).mono ?_); rintro e w4 ⟨⟨t, ok, rfl, _, hno⟩, hb4⟩; obtain rfl := hno rfl; have HB4 := Lib.hid (HB.out.trans (hb4.mono HB.out.size)); have HR4 := Lib.hid (row_later2 HR.out hb4); clear hb4 hno; unfold tokV)
      go_ret2
      exact ⟨⟨_, by rw [HEN.out]; rfl, HR4.out.alloc _⟩, HB4.out.alloc HB4.out.size _⟩
    · have hlt : p < s.size := by rw [← HSL.out]; exact hp
      have hC := fun w => r5one_any s h4 p hlt (some t) hwt w
      have hfit := Wd.fits hp hwt
      have hfs : p + t.text.size ≤ s.size := by rw [← HSL.out]; exact hfit.2
      have hadd := wr_nat hfs hs
      have hbl := fun w => r5Blank_any s hs ((p : Int) + (t.text.size : Int)) (inW_nat hfs hs) w
      rw [show (p : Int) + (t.text.size : Int) = ((p + t.text.size : Nat) : Int) by omega, blk_nx hfit.2] at hbl
      rw [show ((p + t.text.size : Nat) : Int) = (p : Int) + (t.text.size : Int) by omega] at hbl
      have hnx := nx_le (L := s.data.toList) (b := p + t.text.size) hfit.2
      rw [HSL.out] at hnx
      have hng := nx_ge s.data.toList (p + t.text.size)
      have hmeas : s.size - nx s.data.toList (p + t.text.size) < s.size - p := Nat.sub_lt_sub_left hlt (Nat.lt_of_lt_of_le (Nat.lt_add_of_pos_right hfit.1) hng)
      have hln : pre.length + 1 ≤ 4096 := by have := pre_len (hr0 ▸ HTS.out); omega
      have HTS2 : Hid (ts = (pre ++ [t]) ++ r) := Lib.hid (by rw [HTS.out, hr0]; simp)
      have HNX := Lib.hid hr
      generalize nx s.data.toList (p + t.text.size) = p' at hbl hnx HNX hmeas
      have b1 : pre.length + 1 ≤ maxLen := by unfold maxLen; omega
      have b2 : (pre.length + 1) * 64 ≤ 140737488355328 := by omega
      have HR := Lib.hid hrow
      have HME := Lib.hid hmeas
      clear hrow hr0 hwt hr hfit hp hng hmeas hln hz
      go_wp2_with (first
        | (go_at_call 22; (with_reducible refine (hC _).mono ?_); rintro e w4 ⟨⟨t', ok, rfl, hyes, _⟩, hb4⟩; obtain ⟨rfl, rfl⟩ := hyes t rfl; have HB4 := Lib.hid ((HB.out.trans (hb4.mono HB.out.size)).alloc (Nat.le_trans HB.out.size hb4.size) (.cells #[.int .i64 t'.kind, .string t'.text, .int .i64 t'.vk, .int .i64 t'.vn, .string t'.vs, .int .i64 t'.pl] 42)); have HR4 := Lib.hid ((row_later2 HR.out hb4).alloc (.cells #[.int .i64 t'.kind, .string t'.text, .int .i64 t'.vk, .int .i64 t'.vn, .string t'.vs, .int .i64 t'.pl] 42)); have HQ4 := Lib.hid (heap_alloc_new w4 (.cells #[.int .i64 t'.kind, .string t'.text, .int .i64 t'.vk, .int .i64 t'.vn, .string t'.vs, .int .i64 t'.pl] 42)); have HS4 := Lib.hid hb4.size; clear hb4 hyes; unfold tokV)
        | (at_builtin; refine wpList_append_own _ rfl _ _ 22 rfl w.heap.size 42 i0 _ 6 64 Tryd.underlying22 hi hz0 hz1 hz2 rfl (by decide) _ pre.length (pre.flatMap encT) rfl (HR4.out.alloc _) ⟨w4.heap.size + 1, 0, none⟩ 1 1 (encT t') rfl (encT_len t') (cells6 (by have h := heap_alloc_new (w4.alloc (.cells #[.int .i64 t'.kind, .string t'.text, .int .i64 t'.vk, .int .i64 t'.vn, .string t'.vs, .int .i64 t'.pl] 42)) (.cells #[.int .i64 t'.kind, .string t'.text, .int .i64 t'.vk, .int .i64 t'.vn, .string t'.vs, .int .i64 t'.pl] 42); rw [World.size_alloc] at h; exact h)) (encT_one t') b1 b2 (words_base HB4.out) ?_; intro v' w1 hown' hgrow _; obtain ⟨g', cap', rfl⟩ := ownsRow_succ hown'; obtain ⟨hbx, hb1⟩ := words_grow HR.out HS4.out HB4.out hgrow; obtain ⟨_, d1, _, _, _, _⟩ := cell_of_six hbx; have HO1 := Lib.hid hown'; have HB1 := Lib.hid hb1; clear hb1 hbx hown' hgrow hi hz0 hz1 hz2 b1 b2 hb hlen hp0 h4 hC hs hfs hlt hps)
        | (go_at_call 15; (with_reducible refine (hbl _).mono ?_); rintro e w5 ⟨rfl, rfl⟩))
      go_roundw
      case rel => exact ⟨pre ++ [t'], r, p', HTS2, HNX, hnx, rfl, by rw [List.flatMap_append, List.length_append]; simpa using HO1.out, HB1⟩
      case measure => simpa [intOf] using HME.out

set_option maxRecDepth 100000 in
set_option maxHeartbeats 1000000 in
theorem r5Scan_any (s : ByteArray) (hs : s.size ≤ 140737488355328) (ts : List Tok) (en : Nat) (hw : Wds s.data.toList (nx s.data.toList 0) ts en) (w : World) :
    Calls Tryd.prog 8 #[.string s] w fun e w' => ScanP s ts en w e w' := by
  by_cases hlong : 4096 < s.size
  · have hd : (4096 : Int) < s.size := by omega
    go_enter Tryd.func8, Tryd.ntmps8
    go_wp2
    go_ret3
    exact ⟨fun _ => rfl, fun h => absurd h (by omega), fun h => absurd h (by omega), Below.refl _ _⟩
  · have hd : ¬ (4096 : Int) < s.size := by omega
    have HC := Lib.hid (fun w => r5Words_any s (by omega) (by omega) ts en hw w)
    have HL := Lib.hid hlong
    clear hw hlong
    by_cases hf : en < s.size
    · have hlt : (en : Int) < s.size := by omega
      have HF := Lib.hid hf
      clear hf
      go_enter Tryd.func8, Tryd.ntmps8
      go_wp2_with (go_at_call 11; (with_reducible refine (HC.out _).mono ?_); rintro e w4 ⟨⟨v, rfl, hrow⟩, hb4⟩; have HR := Lib.hid hrow; have HB := Lib.hid hb4; clear hrow hb4)
      go_ret3
      exact ⟨fun h => absurd h HL.out, fun _ _ => rfl, fun _ h => absurd h (Nat.ne_of_lt HF.out), HB.out⟩
    · have hlt : ¬ (en : Int) < s.size := by omega
      have HF := Lib.hid hf
      clear hf
      go_enter Tryd.func8, Tryd.ntmps8
      go_wp2_with (go_at_call 11; (with_reducible refine (HC.out _).mono ?_); rintro e w4 ⟨⟨v, rfl, hrow⟩, hb4⟩; have HR := Lib.hid hrow; have HB := Lib.hid hb4; clear hrow hb4)
      go_ret3
      exact ⟨fun h => absurd h HL.out, fun _ h => absurd h HF.out, fun _ _ => ⟨v, rfl, HR.out⟩, HB.out⟩

/-- Words in memory: a row below block B. -/
def Tv (w : World) (B : Nat) (v : Value) (ts : List Tok) : Prop := ∃ ao cap, v = .slice ao ts.length cap ∧ (0 < ts.length → ∃ g a, ao = some ⟨g, a, none⟩ ∧ g < B ∧ ∀ (j : Nat) (u : Value), (ts.flatMap encT)[j]? = some u → w.cell? ⟨g, a + j, none⟩ = some u)
theorem Tv.of_row {w : World} {base : Nat} {e : TypeId} {v : Value} {ts : List Tok} (h : w.ownsRow base e 6 v ts.length (ts.flatMap encT)) : Tv w w.heap.size v ts := by
  rcases h.2 with ⟨rfl, h0⟩ | ⟨g, cap, cur, rfl, _⟩
  · exact ⟨none, 0, by rw [h0], fun h1 => by omega⟩
  · exact ⟨_, _, rfl, fun _ => ⟨g, 0, rfl, (h.lt g rfl).2, fun j u hu => by rw [Nat.zero_add]; exact row_cell h j u hu⟩⟩
theorem Tv.later {w w' : World} {B : Nat} {v : Value} {ts : List Tok} (h : Tv w B v ts) {B' : Nat} (hb : Below B' w w') (hB : B ≤ B') : Tv w' B v ts := by
  obtain ⟨ao, cap, rfl, h2⟩ := h
  refine ⟨ao, cap, rfl, fun h0 => ?_⟩
  obtain ⟨g, a, h3, h4, h5⟩ := h2 h0
  exact ⟨g, a, h3, h4, fun j u hu => (hb.cell (p := ⟨g, a + j, none⟩) (by show g < B'; omega)).trans (h5 j u hu)⟩
theorem flat_six {ts : List Tok} {k : Nat} (hk : k < ts.length) (j : Nat) (u : Value) (hu : (encT ts[k])[j]? = some u) : (ts.flatMap encT)[k * 6 + j]? = some u := by
  have hj : j < 6 := by have := (List.getElem?_eq_some_iff.1 hu).1; rwa [encT_len] at this
  have h1 : ts = ts.take k ++ ts[k] :: ts.drop (k + 1) := by rw [← List.drop_eq_getElem_cons hk, List.take_append_drop]
  conv => lhs; rw [h1]
  have h2 : (ts.take k).length = k := by rw [List.length_take]; omega
  rw [List.flatMap_append, List.flatMap_cons, List.getElem?_append_right (by rw [flatT_len, h2]; omega), flatT_len, h2, List.getElem?_append_left (by rw [encT_len]; omega), show k * 6 + j - k * 6 = j by omega]
  exact hu
theorem Tv.cells {w : World} {B : Nat} {ao : Option Addr} {n cap : Nat} {ts : List Tok} (h : Tv w B (.slice ao n cap) ts) {k : Nat} (hk : k < ts.length) : ∃ g a, ao = some ⟨g, a, none⟩ ∧ g < B ∧
    w.cell? ⟨g, a + k * 6, none⟩ = some (.int .i64 ts[k].kind) ∧ w.cell? ⟨g, a + k * 6 + 1, none⟩ = some (.string ts[k].text) ∧ w.cell? ⟨g, a + k * 6 + 2, none⟩ = some (.int .i64 ts[k].vk) ∧ w.cell? ⟨g, a + k * 6 + 3, none⟩ = some (.int .i64 ts[k].vn) ∧ w.cell? ⟨g, a + k * 6 + 4, none⟩ = some (.string ts[k].vs) ∧ w.cell? ⟨g, a + k * 6 + 5, none⟩ = some (.int .i64 ts[k].pl) := by
  obtain ⟨ao', cap', he, h2⟩ := h
  obtain ⟨rfl, _, _⟩ : ao = ao' ∧ n = ts.length ∧ cap = cap' := by cases he; exact ⟨rfl, rfl, rfl⟩
  obtain ⟨g, a, h3, h4, h5⟩ := h2 (by omega)
  have hx := fun (j : Nat) (u : Value) (hu : (encT ts[k])[j]? = some u) => h5 _ _ (flat_six hk j u hu)
  refine ⟨g, a, h3, h4, ?_, ?_, ?_, ?_, ?_, ?_⟩
  · exact hx 0 _ rfl
  · have := hx 1 _ rfl; rwa [← Nat.add_assoc] at this
  · have := hx 2 _ rfl; rwa [← Nat.add_assoc] at this
  · have := hx 3 _ rfl; rwa [← Nat.add_assoc] at this
  · have := hx 4 _ rfl; rwa [← Nat.add_assoc] at this
  · have := hx 5 _ rfl; rwa [← Nat.add_assoc] at this
end Go.Proofs.YtdmdakkibgjffaaDoor
