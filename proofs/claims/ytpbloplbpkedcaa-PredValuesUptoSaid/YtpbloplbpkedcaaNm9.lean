/- Contract: the variables of a condition: the program's call. -/
import Derived.Test.YtpbloplbpkedcaaNr9
import Derived.Test.YtpbloplbpkedcaaTs9
import Derived.Laws.AppendOwn
import Derived.OwnWalk
namespace Go.Proofs.Ytpbloplbpkedcaa
open Go Go.RowKit Go.Sort

def v1 (o : Opd) : List Nm := if o.attr = em then [] else [nb o.var]
def varsC (c : Cnd) : List Nm := v1 c.left ++ v1 c.right
def namesC (c : Cnd) : List Nm := compS (sortS (varsC c))
theorem v1_const {o : Opd} (h : o.attr = em) : v1 o = [] := if_pos h
theorem v1_var {o : Opd} (h : o.attr ≠ em) : v1 o = [nb o.var] := if_neg h
theorem v1_len (o : Opd) : (v1 o).length ≤ 1 := by unfold v1; split <;> simp
theorem varsC_len (c : Cnd) : (varsC c).length ≤ 2 := by have := v1_len c.left; have := v1_len c.right; unfold varsC; rw [List.length_append]; omega
def opCells (o : Opd) : Array Value := #[.string o.var, .string o.attr, .int .i64 o.vk, .int .i64 o.vn, .string o.vs]
theorem opd_cells {w : World} {q : Nat} {o : Opd} {t : Nat} (h : w.heap[q]? = some (.cells #[.string o.var, .string o.attr, .int .i64 o.vk, .int .i64 o.vn, .string o.vs] t (0, 0))) :
    w.cell? ⟨q, 0, none⟩ = some (.string o.var) ∧ w.cell? ⟨q, 1, none⟩ = some (.string o.attr) ∧ w.cell? ⟨q, 2, none⟩ = some (.int .i64 o.vk) ∧ w.cell? ⟨q, 3, none⟩ = some (.int .i64 o.vn) ∧ w.cell? ⟨q, 4, none⟩ = some (.string o.vs) := cell_of_five h

theorem SOwn.snoc {w : World} {base : Nat} {v : Value} {l : List Nm} {x : ByteArray} (h : w.ownsRow base 9 1 v (l.length + 1) (l.map encStr ++ [.string x])) : SOwn w base v (l ++ [nb x]) := by
  unfold SOwn
  rw [List.length_append, List.map_append]
  have e : List.map encStr [nb x] = [.string x] := by rw [List.map_cons, List.map_nil, encStr_ba, ba_nb]
  rw [e]
  exact h
theorem index_a (c0 c1 c2 c3 c4 c5 c6 c7 c8 c9 : Value) (w : World) : (Instr.index 115 (.agg #[c0, c1, c2, c3, c4, c5, c6, c7, c8, c9]) (.int .i64 0)).run Try.prog w = .ok (.agg #[c0, c1, c2, c3, c4]) w := by kernel_rfl
theorem index_b (c0 c1 c2 c3 c4 c5 c6 c7 c8 c9 : Value) (w : World) : (Instr.index 115 (.agg #[c0, c1, c2, c3, c4, c5, c6, c7, c8, c9]) (.int .i64 1)).run Try.prog w = .ok (.agg #[c5, c6, c7, c8, c9]) w := by kernel_rfl
set_option maxRecDepth 100000 in
set_option maxHeartbeats 4000000 in
theorem pNames_any (c : Cnd) (w : World) :
    Calls Try.prog 34 #[cdV c] w fun e w' => ∃ v', e = .returned v' ∧ SsV w' (fun b => b < w'.heap.size) v' (namesC c) ∧ Below w.heap.size w w' := by
  obtain ⟨i0, hi, hz0, hz1, hz2⟩ := info_parts infoS7
  obtain ⟨P, hP⟩ : ∃ P, P = w.heap.size := ⟨_, rfl⟩
  obtain ⟨W, hW⟩ : ∃ W, W = w.alloc (.cells #[.string c.left.var, .string c.left.attr, .int .i64 c.left.vk, .int .i64 c.left.vn, .string c.left.vs, .int .i64 c.rel, .string c.right.var, .string c.right.attr, .int .i64 c.right.vk, .int .i64 c.right.vn, .string c.right.vs] 27) := ⟨_, rfl⟩
  have hWb : Below P w W := by rw [hW, hP]; exact (Below.refl _ _).alloc (Nat.le_refl _) _
  have hWs : W.heap.size = P + 1 := by rw [hW, hP]; simp
  have C0 := Lib.hid (fun (o : Opd) (u : World) => pConst_any o.var o.attr o.vk o.vn o.vs u)
  have HWB := Lib.hid hWb; have HP := Lib.hid hP; have HW := Lib.hid hW; have HWS := Lib.hid hWs
  clear hWb hWs hP hW
  have hxa := index_a; have hxb := index_b
  unfold cdV
  go_enter Try.func34, Try.ntmps34
  go_wp2_with fail
  rw [← HW.out, ← HP.out]
  go_loopw [3, 11] (fun v iv wr => (iv = .int .i64 0 ∧ v = .slice none 0 0 ∧ W = wr) ∨ (iv = .int .i64 1 ∧ Hid (SOwn wr (P + 1) v (v1 c.left)) ∧ Hid (Below (P + 1) W wr)) ∨ (iv = .int .i64 2 ∧ Hid (SOwn wr (P + 1) v (varsC c)) ∧ Hid (Below (P + 1) W wr))) (fun _ iv _ => 2 - (intOf iv).toNat)
  case atStart => exact .inl ⟨rfl, rfl, rfl⟩
  case round =>
    rcases hrel with ⟨rfl, rfl, rfl⟩ | ⟨rfl, HO, HB⟩ | ⟨rfl, HO, HB⟩
    · have HB : Hid (Below (P + 1) W W) := Lib.hid (Below.refl _ _)
      have HO : Hid (SOwn W (P + 1) (.slice none 0 0) []) := Lib.hid (World.ownsRow_nil _ _ _ _)
      have HC := Lib.hid (C0.out c.left)
      have HBX := heap_alloc_new W (.cells #[.string c.left.var, .string c.left.attr, .int .i64 c.left.vk, .int .i64 c.left.vn, .string c.left.vs] 25)
      have HBA := Lib.hid (HB.out.alloc (by have := HWS.out; have := HB.out.size; omega) (.cells #[.string c.left.var, .string c.left.attr, .int .i64 c.left.vk, .int .i64 c.left.vn, .string c.left.vs] 25))
      have HOA := Lib.hid (HO.out.below ((Below.refl W.heap.size W).alloc (Nat.le_refl _) (.cells #[.string c.left.var, .string c.left.attr, .int .i64 c.left.vk, .int .i64 c.left.vn, .string c.left.vs] 25)))
      have HSZ : Hid (P + 1 ≤ W.heap.size) := Lib.hid (by have := HWS.out; have := HB.out.size; omega)
      have HXX := Lib.hid HBX
      clear HBX
      by_cases ha : c.left.attr = em
      · have hcat : v1 c.left = ([] : List Nm) := by rw [v1_const ha]
        have HCAT := Lib.hid hcat
        have HC := Lib.hid (fun u => by have := HC.out u; rw [decide_eq_true ha] at this; exact this)
        clear hcat ha
        go_wp2_with (first | (go_at_call 44; (with_reducible refine (HC.out _).mono ?_); rintro e u1 ⟨rfl, hb⟩; have HB1 := Lib.hid (HBA.out.trans (hb.mono (by have := HSZ.out; simp; omega))); have HO1 := Lib.hid (HOA.out.below hb); have HX1 := Lib.hid ((hb.block W.heap.size (by simp)).trans HXX.out); clear hb))
        go_roundw
        all_goals first
          | exact .inr (.inl ⟨rfl, by rw [HCAT.out]; exact HO1, HB1⟩)
          | (simp [intOf]; done)
      · have hcat : v1 c.left = ([] : List Nm) ++ [nb c.left.var] := by rw [v1_var ha]; rfl
        have HCAT := Lib.hid hcat
        have HC := Lib.hid (fun u => by have := HC.out u; rw [decide_eq_false ha] at this; exact this)
        clear hcat ha
        go_wp2_with (first
          | (go_at_call 44; (with_reducible refine (HC.out _).mono ?_); rintro e u1 ⟨rfl, hb⟩; have HB1 := Lib.hid (HBA.out.trans (hb.mono (by have := HSZ.out; simp; omega))); have HO1 := Lib.hid (HOA.out.below hb); have HX1 := Lib.hid ((hb.block W.heap.size (by simp)).trans HXX.out); have HS1 : Hid (P + 1 ≤ u1.heap.size) := Lib.hid (by have := HSZ.out; have := hb.size; simp at this; omega); clear hb; obtain ⟨x0, x1, x2, x3, x4⟩ := opd_cells HX1.out)
          | (at_builtin; (refine wpList_append_own _ rfl (.tmp 17) (.tmp 20) 49 rfl (P + 1) 9 i0 (.string ⟨#[]⟩) 1 16 Try.underlying49 hi hz0 hz1 hz2 rfl (by decide) _ ([] : List Nm).length (([] : List Nm).map encStr) rfl (own7_below HO1.out ((Below.refl u1.heap.size u1).alloc (Nat.le_refl _) (.cells #[.string c.left.var] 9))) ⟨u1.heap.size, 0, none⟩ 1 1 [.string c.left.var] rfl rfl (World.news_of_block (heap_alloc_new _ _)) (by intro u hu; simp at hu; subst hu; rfl) (by simp [maxLen]) (by simp) (by have := HS1.out; simp; omega) ?_; intro v2 w2 hown2 hgrow2 hnil2; clear hnil2; have HO2 := Lib.hid hown2; have HB2 := Lib.hid ((HB1.out.alloc HS1.out (.cells #[.string c.left.var] 9)).grown hgrow2 (by have := HS1.out; simp; omega) (fun k hk => by first | (cases hk; done) | exact (HO1.out.lt k hk).1)); clear hown2 hgrow2)))
        go_roundw
        all_goals first
          | exact .inr (.inl ⟨rfl, by rw [HCAT.out]; exact Lib.hid (SOwn.snoc HO2.out), HB2⟩)
          | (simp [intOf]; done)
    · have HB2 := HB
      have HC := Lib.hid (C0.out c.right)
      have HBX := heap_alloc_new wr (.cells #[.string c.right.var, .string c.right.attr, .int .i64 c.right.vk, .int .i64 c.right.vn, .string c.right.vs] 25)
      have HBA := Lib.hid (HB.out.alloc (by have := HWS.out; have := HB.out.size; omega) (.cells #[.string c.right.var, .string c.right.attr, .int .i64 c.right.vk, .int .i64 c.right.vn, .string c.right.vs] 25))
      have HOA := Lib.hid (HO.out.below ((Below.refl wr.heap.size wr).alloc (Nat.le_refl _) (.cells #[.string c.right.var, .string c.right.attr, .int .i64 c.right.vk, .int .i64 c.right.vn, .string c.right.vs] 25)))
      have HSZ : Hid (P + 1 ≤ wr.heap.size) := Lib.hid (by have := HWS.out; have := HB.out.size; omega)
      have HXX := Lib.hid HBX
      clear HBX
      by_cases ha : c.right.attr = em
      · have hcat : varsC c = (v1 c.left) := by unfold varsC; rw [v1_const ha, List.append_nil]
        have HCAT := Lib.hid hcat
        have HC := Lib.hid (fun u => by have := HC.out u; rw [decide_eq_true ha] at this; exact this)
        clear hcat ha
        go_wp2_with (first | (go_at_call 44; (with_reducible refine (HC.out _).mono ?_); rintro e u1 ⟨rfl, hb⟩; have HB1 := Lib.hid (HBA.out.trans (hb.mono (by have := HSZ.out; simp; omega))); have HO1 := Lib.hid (HOA.out.below hb); have HX1 := Lib.hid ((hb.block wr.heap.size (by simp)).trans HXX.out); clear hb))
        go_roundw
        all_goals first
          | exact .inr (.inr ⟨rfl, by rw [HCAT.out]; exact HO1, HB1⟩)
          | (simp [intOf]; done)
      · have hcat : varsC c = (v1 c.left) ++ [nb c.right.var] := by unfold varsC; rw [v1_var ha]
        have HCAT := Lib.hid hcat
        have HC := Lib.hid (fun u => by have := HC.out u; rw [decide_eq_false ha] at this; exact this)
        clear hcat ha
        go_wp2_with (first
          | (go_at_call 44; (with_reducible refine (HC.out _).mono ?_); rintro e u1 ⟨rfl, hb⟩; have HB1 := Lib.hid (HBA.out.trans (hb.mono (by have := HSZ.out; simp; omega))); have HO1 := Lib.hid (HOA.out.below hb); have HX1 := Lib.hid ((hb.block wr.heap.size (by simp)).trans HXX.out); have HS1 : Hid (P + 1 ≤ u1.heap.size) := Lib.hid (by have := HSZ.out; have := hb.size; simp at this; omega); clear hb; obtain ⟨x0, x1, x2, x3, x4⟩ := opd_cells HX1.out)
          | (at_builtin; (refine wpList_append_own _ rfl (.tmp 17) (.tmp 20) 49 rfl (P + 1) 9 i0 (.string ⟨#[]⟩) 1 16 Try.underlying49 hi hz0 hz1 hz2 rfl (by decide) _ (v1 c.left).length ((v1 c.left).map encStr) rfl (own7_below HO1.out ((Below.refl u1.heap.size u1).alloc (Nat.le_refl _) (.cells #[.string c.right.var] 9))) ⟨u1.heap.size, 0, none⟩ 1 1 [.string c.right.var] rfl rfl (World.news_of_block (heap_alloc_new _ _)) (by intro u hu; simp at hu; subst hu; rfl) (by have := v1_len c.left; unfold maxLen; omega) (by have := v1_len c.left; omega) (by have := HS1.out; simp; omega) ?_; intro v2 w2 hown2 hgrow2 hnil2; clear hnil2; have HO2 := Lib.hid hown2; have HB2 := Lib.hid ((HB1.out.alloc HS1.out (.cells #[.string c.right.var] 9)).grown hgrow2 (by have := HS1.out; simp; omega) (fun k hk => by first | (cases hk; done) | exact (HO1.out.lt k hk).1)); clear hown2 hgrow2)))
        go_roundw
        all_goals first
          | exact .inr (.inr ⟨rfl, by rw [HCAT.out]; exact Lib.hid (SOwn.snoc HO2.out), HB2⟩)
          | (simp [intOf]; done)
    · have hs := HO.out
      have HSZ : Hid (P + 1 ≤ wr.heap.size) := Lib.hid (by have := HWS.out; have := HB.out.size; omega)
      have HS := Lib.hid (sort_srt wr (P + 1) _ (varsC c) (SrtV.of_own hs) HSZ.out (by have := varsC_len c; omega))
      clear hs
      go_wp2_with (first
        | (go_at_call 71; (with_reducible refine HS.out.mono ?_); rintro e u1 ⟨rfl, hs1, hb1, hz1⟩; have HC := Lib.hid (comp_srt u1 (P + 1) _ _ hs1 (Nat.le_trans HSZ.out hz1)); have HB1 := Lib.hid (HB.out.trans hb1); clear hs1 hb1 hz1)
        | (go_at_call 72; (with_reducible refine HC.out.mono ?_); rintro e u2 ⟨v', rfl, hs2, hb2, _⟩; have HB2 := Lib.hid (HB1.out.trans hb2); have HS2 := Lib.hid hs2; clear hs2 hb2))
      go_ret
      exact ⟨_, rfl, HS2.out.ss, by rw [← HP.out]; exact HWB.out.trans (HB2.out.mono (Nat.le_succ P))⟩
end Go.Proofs.Ytpbloplbpkedcaa
