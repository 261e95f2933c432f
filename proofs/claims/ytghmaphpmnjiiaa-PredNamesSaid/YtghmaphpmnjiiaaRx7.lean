/- Contract: the document's put. -/
import Derived.Test.YtghmaphpmnjiiaaRo7
import Derived.Test.YtghmaphpmnjiiaaRt7
import Derived.Laws.AppendOwn
import Derived.Laws.AppendOwnNone
import Derived.OwnWalk
import Derived.Deep.AppendLies
namespace Go.Proofs.Ytghmaphpmnjiiaa
open Go Go.RowKit Go.Sort

theorem add_none7' (b o i : Nat) : (⟨b, o, none⟩ : Addr).add i = ⟨b, o + i, none⟩ := by unfold Addr.add; split <;> simp_all
theorem SsV.lt0 {w : World} {G : Nat → Prop} {v : Value} {l : List Nm} (h : SsV w G v l) : SsV w (fun b => b < w.heap.size) v l := by
  obtain ⟨ao, cap, rfl, hh⟩ := h
  refine ⟨ao, cap, rfl, fun hl => ?_⟩
  obtain ⟨b, o, e, _, hc⟩ := hh hl
  refine ⟨b, o, e, ?_, hc⟩
  cases l with
  | nil => exact absurd rfl hl
  | cons x r => simpa using World.block_lt_of_cell? _ _ (hc 0 x rfl)
theorem own7_block {w w' : World} {base : Nat} {e : TypeId} {size n : Nat} {v : Value} {xs : List Value} (h : w.ownsRow base e size v n xs) (hk : ∀ g, g < w.heap.size → base ≤ g → w'.heap[g]? = w.heap[g]?) : w'.ownsRow base e size v n xs := by
  refine ⟨h.1, ?_⟩
  rcases h.2 with hn | ⟨g, cap, cur, rfl, hb, hgg, rest⟩
  · exact .inl hn
  · exact .inr ⟨g, cap, cur, rfl, hb, (hk g (Array.getElem?_eq_some_iff.1 hgg).1 hb).trans hgg, rest⟩
theorem own7_below {w w' : World} {base : Nat} {e : TypeId} {size n : Nat} {v : Value} {xs : List Value} (h : w.ownsRow base e size v n xs) (hk : Below w.heap.size w w') : w'.ownsRow base e size v n xs :=
  own7_block h (fun g hg _ => hk.block g hg)
theorem own7_mono {w : World} {base base' : Nat} {e : TypeId} {size n : Nat} {v : Value} {xs : List Value} (h : w.ownsRow base e size v n xs) (hb' : base' ≤ base) : w.ownsRow base' e size v n xs := by
  refine ⟨h.1, ?_⟩
  rcases h.2 with hn | ⟨g, cap, cur, rfl, hb, rest⟩
  · exact .inl hn
  · exact .inr ⟨g, cap, cur, rfl, Nat.le_trans hb' hb, rest⟩
theorem tw_of {α : Type} {p : α → Bool} : ∀ (l : List α) (i : Nat), (∀ x ∈ l.take i, p x = true) → (∀ y, l[i]? = some y → p y = false) → l.takeWhile p = l.take i ∧ l.dropWhile p = l.drop i
  | [], i, _, _ => by simp
  | x :: r, 0, _, h => by
    have := h x rfl
    simp [List.takeWhile_cons, List.dropWhile_cons, this]
  | x :: r, i + 1, h1, h2 => by
    have hx := h1 x (by simp)
    obtain ⟨a, b⟩ := tw_of r i (fun y hy => h1 y (by simp [hy])) (fun y hy => h2 y (by simpa using hy))
    simp [List.takeWhile_cons, List.dropWhile_cons, hx, a, b]
theorem infoS7 : (Try.prog.info? 9).map (fun i => (i.zero, i.size, i.bytes)) = some (some (.string ⟨#[]⟩), 1, 16) := by kernel_rfl
/-- A row of texts of the call's own. -/
def SOwn (w : World) (base : Nat) (v : Value) (l : List Nm) : Prop := w.ownsRow base 9 1 v l.length (l.map encStr)
theorem SOwn.below {w w' : World} {base : Nat} {v : Value} {l : List Nm} (h : SOwn w base v l) (hk : Below w.heap.size w w') : SOwn w' base v l := own7_below h hk
theorem SOwn.ss {w : World} {base : Nat} {v : Value} {l : List Nm} (h : SOwn w base v l) : SsV w (fun b => b < w.heap.size) v l := (SsV.of_own h).lt0
set_option maxRecDepth 100000 in
set_option maxHeartbeats 2000000 in
theorem r7put_any (base : Nat) (v : Value) (l : List Nm) (s : ByteArray) (w : World) (h : SOwn w base v l) (hb : base ≤ w.heap.size) (hl : l.length ≤ 1048576) :
    Calls Try.prog 79 #[v, .string s] w fun e w' => ∃ v', e = .returned v' ∧ SOwn w' base v' (putL l (nb s)) ∧ Below w.heap.size w w' := by
  obtain ⟨i0, hi, hz0, hz1, hz2⟩ := info_parts infoS7
  have hs := h.ss
  obtain ⟨ao, cap, rfl⟩ := hs.shape
  have HHA := Lib.hid (r7Has_any l s _ ao cap w hs (by omega))
  have HOS := Lib.hid h
  have HBB := Lib.hid hb
  have HL := Lib.hid hl
  by_cases hmem : nb s ∈ l
  · have hput : putL l (nb s) = l := by unfold putL; rw [if_pos hmem]
    rw [hput]
    rw [decide_eq_true hmem] at HHA
    clear hs h hb hl hmem hput hi hz0 hz1 hz2
    go_enter Try.func79, Try.ntmps79
    go_wp2_with (first | (go_at_call 96; (with_reducible refine HHA.out.mono ?_); rintro e w2 ⟨rfl, rfl⟩))
    go_ret
    exact ⟨_, rfl, HOS.out, Below.refl _ _⟩
  rw [decide_eq_false hmem] at HHA
  have hputs : ∀ i, (∀ x ∈ l.take i, Op.bytesLess x (nb s) = true) → (∀ y, l[i]? = some y → Op.bytesLess y (nb s) = false) → putL l (nb s) = l.take i ++ nb s :: l.drop i := fun i h1 h2 => by
    obtain ⟨a, b⟩ := tw_of (p := fun x => Op.bytesLess x (nb s)) l i h1 h2
    unfold putL
    rw [if_neg hmem, a, b]
  have HPUT := Lib.hid hputs
  clear hputs hmem
  rcases h.2 with ⟨he, h0⟩ | ⟨g, cap2, cur, he, hbg, hgg, hrest⟩
  · simp only [Value.slice.injEq] at he
    obtain ⟨rfl, hl0, rfl⟩ := he
    obtain rfl : l = [] := List.eq_nil_of_length_eq_zero hl0
    have HFIN : Hid (∀ v' w', w'.ownsRow w.heap.size 9 1 v' (0 + 1) ([] ++ [.string s]) → SOwn w' base v' (putL [] (nb s))) := Lib.hid (fun v' w' ho => by
      rw [HPUT.out 0 (by simp) (by simp)]
      unfold SOwn
      simp only [List.take_nil, List.drop_nil, List.nil_append, List.length_cons, List.length_nil, List.map_cons, List.map_nil, encStr_ba, ba_nb]
      exact own7_mono ho HBB.out)
    rw [List.length_nil] at HHA ⊢
    clear h0 hl0 hs h hb hl
    go_enter Try.func79, Try.ntmps79
    go_wp2_with (first | (go_at_call 96; (with_reducible refine HHA.out.mono ?_); rintro e w2 ⟨rfl, rfl⟩))
    go_loopw [5] (fun iv wr => iv = .int .i64 0 ∧ w = wr) (fun _ _ => 0)
    case atStart => exact ⟨rfl, rfl⟩
    case round =>
      obtain ⟨rfl, rfl⟩ := hrel
      go_wp2_with (first
      | (at_builtin; refine wpList_append_own_none rfl (.tmp 25) (.tmp 28) 46 rfl w.heap.size 9 i0 1 Try.underlying46 hi _ 0 [] rfl (World.ownsRow_nil _ _ _ _) rfl ?_)
      | (at_builtin; (refine wpList_append_own _ rfl (.tmp 29) (.tmp 31) 46 rfl w.heap.size 9 i0 (.string ⟨#[]⟩) 1 16 Try.underlying46 hi hz0 hz1 hz2 rfl (by decide) _ 0 [] rfl (World.ownsRow_nil _ _ _ _) ⟨w.heap.size, 0, none⟩ 1 1 [.string s] rfl rfl (World.news_of_block (heap_alloc_new _ _)) (by intro u hu; simp at hu; subst hu; rfl) (by unfold maxLen; omega) (by omega) (by simp) ?_; intro v2 w2 hown2 hgrow2 hnil2; clear hnil2; have HO2 := Lib.hid hown2; have HB2 := Lib.hid (((Below.refl w.heap.size w).alloc (Nat.le_refl _) _).grown hgrow2 (by simp) (fun k hk => by cases hk)); clear hown2 hgrow2))
      | (at_builtin; refine wpList_append_own_none rfl (.tmp 33) (.tmp 36) 46 rfl w.heap.size 9 i0 1 Try.underlying46 hi _ 1 _ rfl HO2.out rfl ?_))
      go_ret
      exact ⟨_, rfl, HFIN.out _ _ HO2.out, HB2.out⟩
  · simp only [Value.slice.injEq, true_and] at he
    obtain ⟨rfl, rfl⟩ := he
    have hc : ∀ j x, l[j]? = some x → w.cell? ⟨g, j, none⟩ = some (.string (ba x)) := fun j x hj => by
      have := World.ownsRow.cells h (g := g) rfl j (encStr x) (by rw [List.getElem?_map, hj]; rfl)
      rwa [add_none7', Nat.zero_add] at this
    have HC := Lib.hid hc
    have HG := Lib.hid (Array.getElem?_eq_some_iff.1 hgg).1
    have HCAP : Hid (l.length ≤ cap) := Lib.hid (by first | exact hrest.1 | exact hrest.2.1 | exact hrest.2.2.1 | omega)
    clear hrest hgg hbg h hs hc hb hl
    go_enter Try.func79, Try.ntmps79
    go_wp2_with (first | (go_at_call 96; (with_reducible refine HHA.out.mono ?_); rintro e w2 ⟨rfl, rfl⟩))
    go_loopw [5] (fun iv wr => ∃ i : Nat, i ≤ l.length ∧ iv = .int .i64 (i : Int) ∧ w = wr ∧ Hid (∀ x ∈ l.take i, Op.bytesLess x (nb s) = true)) (fun iv _ => l.length - (intOf iv).toNat)
    case atStart => exact ⟨0, Nat.zero_le _, rfl, rfl, Lib.hid (by simp)⟩
    case round =>
      obtain ⟨i, hil, rfl, rfl, HV⟩ := hrel
      have hcap1 : (i : Int) ≤ (cap : Int) := by have := HCAP.out; omega
      have hi0 : (0 : Int) ≤ (i : Int) := by omega
      have hil' : (i : Int) ≤ (l.length : Int) := by omega
      by_cases hlt : i < l.length
      · have hlti : (i : Int) < (l.length : Int) := by omega
        have hlti' := decide_eq_true hlti
        have hls := wr7t hlt HL.out
        have c0 := HC.out i _ (List.getElem?_eq_getElem hlt)
        have hncap : ¬ cap = i := by have := HCAP.out; omega
        have HTK : Hid (l.take (i + 1) = l.take i ++ [l[i]]) := Lib.hid (List.take_succ_eq_append_getElem hlt)
        have HY : Hid (l[i]? = some l[i]) := Lib.hid (List.getElem?_eq_getElem hlt)
        have HI := Lib.hid (show i ≤ l.length from Nat.le_of_lt hlt)
        have HT1 : Hid (((l.take i).map encStr).length = i * 1) := Lib.hid (by rw [List.length_map, List.length_take]; have := HI.out; omega)
        have HT2 : Hid (((l.drop i).map encStr).length = (l.length - i) * 1) := Lib.hid (by rw [List.length_map, List.length_drop]; omega)
        have HO1 : Hid (∀ u ∈ (l.take i).map encStr, u.oneCell' = true) := Lib.hid (by intro u hu; obtain ⟨x, _, rfl⟩ := List.mem_map.1 hu; rfl)
        have HO4 : Hid (∀ u ∈ (l.drop i).map encStr, u.oneCell' = true) := Lib.hid (by intro u hu; obtain ⟨x, _, rfl⟩ := List.mem_map.1 hu; rfl)
        have HN1 : Hid (∀ j u, ((l.take i).map encStr)[j]? = some u → w.cell? ((⟨g, 0, none⟩ : Addr).add j) = some u) := Lib.hid (fun j u hu => by
          rw [List.getElem?_map, List.getElem?_take] at hu
          split at hu
          · obtain ⟨x, hx, rfl⟩ := Option.map_eq_some_iff.1 hu
            rw [add_none7', Nat.zero_add]; exact HC.out j x hx
          · cases hu)
        have HN2 : Hid (∀ u0, Below w.heap.size w u0 → ∀ j u, ((l.drop i).map encStr)[j]? = some u → u0.cell? ((⟨g, i, none⟩ : Addr).add j) = some u) := Lib.hid (fun u0 hu0 j u hu => by
          rw [List.getElem?_map, List.getElem?_drop] at hu
          obtain ⟨x, hx, rfl⟩ := Option.map_eq_some_iff.1 hu
          rw [add_none7', hu0.cell (p := ⟨g, i + j, none⟩) HG.out]; exact HC.out _ x hx)
        generalize l[i] = y at c0 HTK HY
        cases hbl : Op.bytesLess y (nb s) with
        | true =>
          have e1 : Op.bytesLess (ba y).data.toList s.data.toList = true := hbl
          have e2 : Op.bytesLess (ba y).toList s.toList = true := by rw [Lib.toList_data, Lib.toList_data]; exact hbl
          have HBL := Lib.hid hbl
          clear hbl
          go_wp2_with fail
          go_roundw
          all_goals first
            | exact ⟨i + 1, hlt, by go_num, trivial, Lib.hid (fun x hx => by rw [HTK.out, List.mem_append, List.mem_singleton] at hx; exact hx.elim (HV.out x) (fun e => e ▸ HBL.out))⟩
            | exact ⟨i + 1, hlt, by go_num, rfl, Lib.hid (fun x hx => by rw [HTK.out, List.mem_append, List.mem_singleton] at hx; exact hx.elim (HV.out x) (fun e => e ▸ HBL.out))⟩
            | exact meas7t hlt
            | (rw [hls]; exact meas7t hlt)
        | false =>
          have e1 : Op.bytesLess (ba y).data.toList s.data.toList = false := hbl
          have e2 : Op.bytesLess (ba y).toList s.toList = false := by rw [Lib.toList_data, Lib.toList_data]; exact hbl
          have HFIN : Hid (∀ v' w', w'.ownsRow w.heap.size 9 1 v' (0 + i + 1 + (l.length - i)) ([] ++ (l.take i).map encStr ++ [.string s] ++ (l.drop i).map encStr) → SOwn w' base v' (putL l (nb s))) := Lib.hid (fun v' w' ho => by
            rw [HPUT.out i HV.out (fun y' hy' => by rw [HY.out] at hy'; cases hy'; exact hbl)]
            have e2 : (l.take i ++ nb s :: l.drop i).length = 0 + i + 1 + (l.length - i) := by rw [List.length_append, List.length_cons, List.length_take, List.length_drop]; have := HI.out; omega
            have e3 : (l.take i ++ nb s :: l.drop i).map encStr = [] ++ (l.take i).map encStr ++ [.string s] ++ (l.drop i).map encStr := by simp [encStr_ba, ba_nb]
            unfold SOwn
            rw [e2, e3]
            exact own7_mono ho HBB.out)
          clear hbl
          go_wp2_with (first
            | (at_builtin; (refine wpList_append_own _ rfl (.tmp 25) (.tmp 28) 46 rfl w.heap.size 9 i0 (.string ⟨#[]⟩) 1 16 Try.underlying46 hi hz0 hz1 hz2 rfl (by decide) _ 0 [] rfl (World.ownsRow_nil _ _ _ _) ⟨g, 0, none⟩ i cap ((l.take i).map encStr) rfl HT1.out HN1.out HO1.out (by have := HL.out; have := HI.out; unfold maxLen; omega) (by have := HL.out; have := HI.out; omega) (Nat.le_refl _) ?_; intro v2 w2 hown2 hgrow2 hnil2; clear hnil2; have HO2 := Lib.hid hown2; have HB2 := Lib.hid ((Below.refl w.heap.size w).grown hgrow2 (Nat.le_refl _) (fun k hk => by cases hk)); clear hown2 hgrow2))
            | (at_builtin; (refine wpList_append_own _ rfl (.tmp 29) (.tmp 31) 46 rfl w.heap.size 9 i0 (.string ⟨#[]⟩) 1 16 Try.underlying46 hi hz0 hz1 hz2 rfl (by decide) _ (0 + i) ([] ++ (l.take i).map encStr) rfl (HO2.out.alloc _) ⟨w2.heap.size, 0, none⟩ 1 1 [.string s] rfl rfl (World.news_of_block (heap_alloc_new _ _)) (by intro u hu; simp at hu; subst hu; rfl) (by have := HL.out; have := HI.out; unfold maxLen; omega) (by have := HL.out; have := HI.out; omega) (by have := HB2.out.size; simp; omega) ?_; intro v3 w3 hown3 hgrow3 hnil3; clear hnil3; have HO3 := Lib.hid hown3; have HB3 := Lib.hid ((HB2.out.alloc HB2.out.size _).grown hgrow3 (by have := HB2.out.size; simp; omega) (fun k hk => (HO2.out.lt k hk).1)); clear hown3 hgrow3))
            | (at_builtin; (refine wpList_append_own _ rfl (.tmp 33) (.tmp 36) 46 rfl w.heap.size 9 i0 (.string ⟨#[]⟩) 1 16 Try.underlying46 hi hz0 hz1 hz2 rfl (by decide) _ (0 + i + 1) ([] ++ (l.take i).map encStr ++ [Value.string s]) rfl HO3.out ⟨g, i, none⟩ (l.length - i) (cap - i) ((l.drop i).map encStr) rfl HT2.out (HN2.out _ HB3.out) HO4.out (by have := HL.out; have := HI.out; unfold maxLen; omega) (by have := HL.out; have := HI.out; omega) HB3.out.size ?_; intro v4 w4 hown4 hgrow4 hnil4; clear hnil4; have HO5 := Lib.hid hown4; have HB4 := Lib.hid (HB3.out.grown hgrow4 HB3.out.size (fun k hk => (HO3.out.lt k hk).1)); clear hown4 hgrow4)))
          go_ret
          exact ⟨_, rfl, HFIN.out _ _ HO5.out, HB4.out⟩
      · obtain rfl : i = l.length := by omega
        have hnl : ¬ ((l.length : Int) < (l.length : Int)) := by omega
        have HI := Lib.hid (show l.length ≤ l.length from Nat.le_refl _)
        have HT1 : Hid (((l.take l.length).map encStr).length = l.length * 1) := Lib.hid (by rw [List.length_map, List.length_take]; have := HI.out; omega)
        have HT2 : Hid (((l.drop l.length).map encStr).length = (l.length - l.length) * 1) := Lib.hid (by rw [List.length_map, List.length_drop]; omega)
        have HO1 : Hid (∀ u ∈ (l.take l.length).map encStr, u.oneCell' = true) := Lib.hid (by intro u hu; obtain ⟨x, _, rfl⟩ := List.mem_map.1 hu; rfl)
        have HO4 : Hid (∀ u ∈ (l.drop l.length).map encStr, u.oneCell' = true) := Lib.hid (by intro u hu; obtain ⟨x, _, rfl⟩ := List.mem_map.1 hu; rfl)
        have HN1 : Hid (∀ j u, ((l.take l.length).map encStr)[j]? = some u → w.cell? ((⟨g, 0, none⟩ : Addr).add j) = some u) := Lib.hid (fun j u hu => by
          rw [List.getElem?_map, List.getElem?_take] at hu
          split at hu
          · obtain ⟨x, hx, rfl⟩ := Option.map_eq_some_iff.1 hu
            rw [add_none7', Nat.zero_add]; exact HC.out j x hx
          · cases hu)
        have HN2 : Hid (∀ u0, Below w.heap.size w u0 → ∀ j u, ((l.drop l.length).map encStr)[j]? = some u → u0.cell? ((⟨g, l.length, none⟩ : Addr).add j) = some u) := Lib.hid (fun u0 hu0 j u hu => by
          rw [List.getElem?_map, List.getElem?_drop] at hu
          obtain ⟨x, hx, rfl⟩ := Option.map_eq_some_iff.1 hu
          rw [add_none7', hu0.cell (p := ⟨g, l.length + j, none⟩) HG.out]; exact HC.out _ x hx)
        have HFIN : Hid (∀ v' w', w'.ownsRow w.heap.size 9 1 v' (0 + l.length + 1 + 0) ([] ++ (l.take l.length).map encStr ++ [.string s] ++ []) → SOwn w' base v' (putL l (nb s))) := Lib.hid (fun v' w' ho => by
          rw [HPUT.out l.length HV.out (fun y' hy' => by simp at hy')]
          have e2 : (l.take l.length ++ nb s :: l.drop l.length).length = 0 + l.length + 1 + 0 := by rw [List.length_append, List.length_cons, List.length_take, List.length_drop]; omega
          have e3 : (l.take l.length ++ nb s :: l.drop l.length).map encStr = [] ++ (l.take l.length).map encStr ++ [.string s] ++ [] := by rw [List.map_append, List.map_cons, encStr_ba, ba_nb]; simp
          unfold SOwn
          rw [e2, e3]
          exact own7_mono ho HBB.out)
        clear hlt hil
        by_cases hcc : cap = l.length
        · subst hcc
          go_wp2_with (first
            | (at_builtin; (refine wpList_append_own _ rfl (.tmp 25) (.tmp 28) 46 rfl w.heap.size 9 i0 (.string ⟨#[]⟩) 1 16 Try.underlying46 hi hz0 hz1 hz2 rfl (by decide) _ 0 [] rfl (World.ownsRow_nil _ _ _ _) ⟨g, 0, none⟩ l.length l.length ((l.take l.length).map encStr) rfl HT1.out HN1.out HO1.out (by have := HL.out; have := HI.out; unfold maxLen; omega) (by have := HL.out; have := HI.out; omega) (Nat.le_refl _) ?_; intro v2 w2 hown2 hgrow2 hnil2; clear hnil2; have HO2 := Lib.hid hown2; have HB2 := Lib.hid ((Below.refl w.heap.size w).grown hgrow2 (Nat.le_refl _) (fun k hk => by cases hk)); clear hown2 hgrow2))
            | (at_builtin; (refine wpList_append_own _ rfl (.tmp 29) (.tmp 31) 46 rfl w.heap.size 9 i0 (.string ⟨#[]⟩) 1 16 Try.underlying46 hi hz0 hz1 hz2 rfl (by decide) _ (0 + l.length) ([] ++ (l.take l.length).map encStr) rfl (HO2.out.alloc _) ⟨w2.heap.size, 0, none⟩ 1 1 [.string s] rfl rfl (World.news_of_block (heap_alloc_new _ _)) (by intro u hu; simp at hu; subst hu; rfl) (by have := HL.out; have := HI.out; unfold maxLen; omega) (by have := HL.out; have := HI.out; omega) (by have := HB2.out.size; simp; omega) ?_; intro v3 w3 hown3 hgrow3 hnil3; clear hnil3; have HO3 := Lib.hid hown3; have HB3 := Lib.hid ((HB2.out.alloc HB2.out.size _).grown hgrow3 (by have := HB2.out.size; simp; omega) (fun k hk => (HO2.out.lt k hk).1)); clear hown3 hgrow3))
            | (at_builtin; (refine wpList_append_own _ rfl (.tmp 33) (.tmp 36) 46 rfl w.heap.size 9 i0 (.string ⟨#[]⟩) 1 16 Try.underlying46 hi hz0 hz1 hz2 rfl (by decide) _ (0 + l.length + 1) ([] ++ (l.take l.length).map encStr ++ [Value.string s]) rfl HO3.out ⟨g, 0, none⟩ 0 _ [] rfl rfl (fun j u hu => by simp at hu) (fun u hu => by cases hu) (by have := HL.out; have := HI.out; unfold maxLen; omega) (by have := HL.out; have := HI.out; omega) HB3.out.size ?_; intro v4 w4 hown4 hgrow4 hnil4; clear hnil4; have HO5 := Lib.hid hown4; have HB4 := Lib.hid (HB3.out.grown hgrow4 HB3.out.size (fun k hk => (HO3.out.lt k hk).1)); clear hown4 hgrow4)))
          go_ret
          exact ⟨_, rfl, HFIN.out _ _ HO5.out, HB4.out⟩
        · clear hcap1
          go_wp2_with (first
            | (at_builtin; (refine wpList_append_own _ rfl (.tmp 25) (.tmp 28) 46 rfl w.heap.size 9 i0 (.string ⟨#[]⟩) 1 16 Try.underlying46 hi hz0 hz1 hz2 rfl (by decide) _ 0 [] rfl (World.ownsRow_nil _ _ _ _) ⟨g, 0, none⟩ l.length cap ((l.take l.length).map encStr) rfl HT1.out HN1.out HO1.out (by have := HL.out; have := HI.out; unfold maxLen; omega) (by have := HL.out; have := HI.out; omega) (Nat.le_refl _) ?_; intro v2 w2 hown2 hgrow2 hnil2; clear hnil2; have HO2 := Lib.hid hown2; have HB2 := Lib.hid ((Below.refl w.heap.size w).grown hgrow2 (Nat.le_refl _) (fun k hk => by cases hk)); clear hown2 hgrow2))
            | (at_builtin; (refine wpList_append_own _ rfl (.tmp 29) (.tmp 31) 46 rfl w.heap.size 9 i0 (.string ⟨#[]⟩) 1 16 Try.underlying46 hi hz0 hz1 hz2 rfl (by decide) _ (0 + l.length) ([] ++ (l.take l.length).map encStr) rfl (HO2.out.alloc _) ⟨w2.heap.size, 0, none⟩ 1 1 [.string s] rfl rfl (World.news_of_block (heap_alloc_new _ _)) (by intro u hu; simp at hu; subst hu; rfl) (by have := HL.out; have := HI.out; unfold maxLen; omega) (by have := HL.out; have := HI.out; omega) (by have := HB2.out.size; simp; omega) ?_; intro v3 w3 hown3 hgrow3 hnil3; clear hnil3; have HO3 := Lib.hid hown3; have HB3 := Lib.hid ((HB2.out.alloc HB2.out.size _).grown hgrow3 (by have := HB2.out.size; simp; omega) (fun k hk => (HO2.out.lt k hk).1)); clear hown3 hgrow3))
            | (at_builtin; (refine wpList_append_own _ rfl (.tmp 33) (.tmp 36) 46 rfl w.heap.size 9 i0 (.string ⟨#[]⟩) 1 16 Try.underlying46 hi hz0 hz1 hz2 rfl (by decide) _ (0 + l.length + 1) ([] ++ (l.take l.length).map encStr ++ [Value.string s]) rfl HO3.out ⟨g, l.length, none⟩ 0 _ [] rfl rfl (fun j u hu => by simp at hu) (fun u hu => by cases hu) (by have := HL.out; have := HI.out; unfold maxLen; omega) (by have := HL.out; have := HI.out; omega) HB3.out.size ?_; intro v4 w4 hown4 hgrow4 hnil4; clear hnil4; have HO5 := Lib.hid hown4; have HB4 := Lib.hid (HB3.out.grown hgrow4 HB3.out.size (fun k hk => (HO3.out.lt k hk).1)); clear hown4 hgrow4)))
          go_ret
          exact ⟨_, rfl, HFIN.out _ _ HO5.out, HB4.out⟩
end Go.Proofs.Ytghmaphpmnjiiaa
