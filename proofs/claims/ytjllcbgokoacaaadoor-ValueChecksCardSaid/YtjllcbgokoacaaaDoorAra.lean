/- Contract of the document's own Attrs. -/
import Derived.Test.YtjllcbgokoacaaaDoorAso
import Derived.Test.YtjllcbgokoacaaaDoorAcr
import Derived.Deep.RegionHeld3
import Derived.Deep.AppendLies
import Derived.Deep.DrawnRows
import Derived.Laws.AppendOwnNone
namespace Go.Proofs.YtjllcbgokoacaaaDoor
open Go Go.RowKit Go.Lib Go.Sort
attribute [local go_sem ↓] Go.wp_at_zero Go.wp_at_succ

theorem own_lower {w : World} {B B' e size n : Nat} {v : Value} {xs : List Value} (h : w.ownsRow B e size v n xs) (hB : B' ≤ B) : w.ownsRow B' e size v n xs := by
  refine ⟨h.1, ?_⟩
  rcases h.2 with hn | ⟨g, cap, cur, rfl, hb, rest⟩
  · exact .inl hn
  · exact .inr ⟨g, cap, cur, rfl, Nat.le_trans hB hb, rest⟩
theorem own_some {w : World} {B e size n : Nat} {v : Value} {xs : List Value} (h : w.ownsRow B e size v n xs) (hn : 0 < n) : ∃ g cap, v = .slice (some ⟨g, 0, none⟩) n cap ∧ B ≤ g ∧ g < w.heap.size ∧ n ≤ cap ∧ cap ≤ 9223372036854775807 := by
  rcases h.2 with ⟨_, h0⟩ | ⟨g, cap, cur, hv, hb, hg, h1, h2, _⟩
  · omega
  · exact ⟨g, cap, hv, hb, lt_of_block hg, h1, by unfold maxLen at h2; omega⟩
theorem own_nil {w : World} {B e size : Nat} {v : Value} {xs : List Value} (h : w.ownsRow B e size v 0 xs) : (v = .slice none 0 0) ∨ ∃ g cap, v = .slice (some ⟨g, 0, none⟩) 0 cap := by
  rcases h.2 with ⟨hv, _⟩ | ⟨g, cap, cur, hv, _⟩
  · exact .inl hv
  · exact .inr ⟨g, cap, hv⟩
/-- append(row of the call's own, nil..), as one step of a region that draws its order. -/
theorem step_append_none {ops : Array Oper} {o : Oper} {a : Act} {w : World} {K : Act → World → Prop} {Q : Exit → Act → World → Prop} {E : Prop}
    (hg : o.guard = none) (s x : Operand) (hop : o.op = Op.call { callee := Callee.builtin Builtin.append, args := #[s, x], argTypes := #[24, 24] })
    (base : Nat) (v : Value) (n : Nat) (xs : List Value) (hs : a.eval s = v) (hown : w.ownsRow base 43 4 v n xs) (hx : a.eval x = .slice none 0 0)
    (hK : K (a.put o.dst v) w) :
    if Region.wanted o (yielded ops a.tmps) = true then Oper.wp Tryd.prog o a w K Q else E := by
  obtain ⟨i0, hi, _, _, _⟩ := info_parts infoAttr
  have hw : Region.wanted o (yielded ops a.tmps) = true := by simp [Region.wanted, hg]
  rw [if_pos hw]
  have hrun := run_append_owned_none (P := Tryd.prog) (w := w) base 24 o.type 43 i0 4 Tryd.underlying24 hi v n xs hown
  unfold Oper.wp
  simp [execOp, hop, resolve, invoke, builtin, hs, hx, hrun, Result.andThen]
  exact hK
theorem ins_take {ys : List At} {x : At} {k : Nat} (hk : k ≤ ys.length) (hgt : ∀ j, k ≤ j → j < ys.length → cfA x ys[j]! < 0) (hst : k = 0 ∨ 0 ≤ cfA x ys[k - 1]!) :
    (ys.take k).flatMap enc4 ++ enc4 x ++ (ys.drop k).flatMap enc4 = (insL ys x).flatMap enc4 := by
  have h := insL_at (ys.take k) (ys.drop k) x (fun b hb => by
    obtain ⟨j, hj, rfl⟩ := List.mem_iff_getElem.1 hb
    rw [List.getElem_drop]
    have hlt : k + j < ys.length := by simp at hj; omega
    have := hgt (k + j) (by omega) hlt
    rwa [getElem!_pos ys (k + j) hlt] at this) (fun a ha => by
    rcases hst with h0 | h0
    · subst h0; simp at ha
    · have hpos : 0 < k := by
        rcases Nat.eq_zero_or_pos k with h | h
        · subst h; simp at ha
        · exact h
      rw [List.getLast?_take] at ha
      rw [if_neg (by omega)] at ha
      have hlt : k - 1 < ys.length := by omega
      rw [List.getElem?_eq_getElem hlt] at ha
      simp only [Option.some_or, Option.some.injEq] at ha
      rw [← ha, ← getElem!_pos ys (k - 1) hlt]; omega)
  rw [List.take_append_drop] at h
  rw [h, List.flatMap_append, List.flatMap_cons, List.append_assoc]

set_option maxRecDepth 100000 in
set_option maxHeartbeats 3200000 in
theorem r3Attrs_any (B : Nat) (ao : Option Addr) (n cap : Nat) (xs : List At) (w : World) (h : Av w B (.slice ao n cap) xs) (hB : B ≤ w.heap.size) :
    Calls Tryd.prog 12 #[.slice ao n cap] w (AttrsPost w xs (atErr xs)) := by
  obtain ⟨i0, hi, hz0, hz1, hz2⟩ := info_parts infoAttr
  obtain ⟨hn, hn63⟩ := h.num
  by_cases h8 : 8 < n
  · have he : atErr xs = 3 := by unfold atErr; rw [if_pos (by omega)]
    rw [he]
    clear h hn he
    go_enter Tryd.func12, Tryd.ntmps12
    go_wp2
    go_ret2
    exact ⟨_, rfl, Below.refl _ _, fun hh => absurd hh (by decide), fun _ => rfl⟩
  · have HN := Lib.hid hn; have HH := Lib.hid h
    have HE := Lib.hid (ckAll_sort (xs := xs) (by omega))
    have HW : Hid (∀ x ∈ sortL xs, x.name.size ≤ maxLen ∧ x.s.size ≤ maxLen) := fun x hx => h.wide x (sortL_mem xs x hx)
    have HL : Hid ((sortL xs).length * 48 ≤ 140737488355328) := by have := h.len; show (sortL xs).length * 48 ≤ _; rw [sortL_len]; exact this
    obtain ⟨er, her⟩ : ∃ er, er = atErr xs := ⟨_, rfl⟩
    rw [← her]
    have HER := Lib.hid her
    clear h hn her
    go_enter Tryd.func12, Tryd.ntmps12
    go_wp2_with fail
    go_loopw [4, 5] (fun v iv wr => ∃ i : Nat, i ≤ n ∧ iv = .int .i64 i ∧ wr.ownsRow w.heap.size 43 4 v i ((sortL (xs.take i)).flatMap enc4) ∧ Hid (i = 0 → v = .slice none 0 0) ∧ Below w.heap.size w wr) (fun _ iv _ => n - (intOf iv).toNat)
    case atStart => exact ⟨0, Nat.zero_le _, rfl, by simpa [sortL] using World.ownsRow_nil _ _ _ _, fun _ => rfl, Below.refl _ _⟩
    case round =>
      obtain ⟨i, hi8, rfl, ho, HV, hb⟩ := hrel
      have HO := Lib.hid ho; have HB := Lib.hid hb
      have HS : Hid (w.heap.size ≤ wr.heap.size) := hb.size
      clear ho hb
      by_cases hlt : i < n
      · obtain ⟨b, o, rfl, hbB, hnx, hnc, hcap, hc⟩ := HH.out.at (by omega)
        have hiz : (0 : Int) ≤ (i : Int) := by omega
        obtain ⟨x, hx⟩ : ∃ x, x = xs[i]! := ⟨_, rfl⟩
        have HA : Hid (∀ w', Below w.heap.size w w' → w'.cell? ⟨b, o + i * 4, none⟩ = some (.string x.name) ∧ w'.cell? ⟨b, o + i * 4 + 1, none⟩ = some (.int .i64 x.k) ∧ w'.cell? ⟨b, o + i * 4 + 2, none⟩ = some (.int .i64 x.n) ∧ w'.cell? ⟨b, o + i * 4 + 3, none⟩ = some (.string x.s)) := fun w' hb' =>
          four_cells (fun c u hu => (hb'.cell (p := ⟨b, _, none⟩) (by show b < w.heap.size; omega)).trans (hc i (by omega) c u (by rw [← hx]; exact hu)))
        have HT : Hid (sortL (xs.take (i + 1)) = insL (sortL (xs.take i)) x) := by
          show _ = _
          have hil : i < xs.length := by omega
          rw [List.take_succ_eq_append_getElem hil, sortL_snoc, hx, getElem!_pos xs i hil]
        have HYL : Hid ((sortL (xs.take i)).length = i) := by show _ = _; rw [sortL_len, List.length_take]; omega
        clear hc hx hnx
        generalize sortL (xs.take i) = ys at HO HT HYL
        obtain ⟨a0, a1, a2, a3⟩ := HA.out wr HB.out
        by_cases hi0 : i = 0
        · subst hi0
          obtain rfl := HV.out rfl
          obtain rfl : ys = [] := List.length_eq_zero_iff.1 HYL.out
          simp only [Nat.zero_mul, Nat.add_zero] at a0 a1 a2 a3
          have HA0 : Hid (∀ w', Below w.heap.size w w' → w'.cell? ⟨b, o, none⟩ = some (.string x.name) ∧ w'.cell? ⟨b, o + 1, none⟩ = some (.int .i64 x.k) ∧ w'.cell? ⟨b, o + 2, none⟩ = some (.int .i64 x.n) ∧ w'.cell? ⟨b, o + 3, none⟩ = some (.string x.s)) := fun w' hb' => by
            have := HA.out w' hb'; simpa only [Nat.zero_mul, Nat.add_zero] using this
          have hin : (0 : Int) < (n : Int) := by omega
          go_wp2_with fail
          refine wp_loop_rounds 1 ?_
          rw [rounds_succ]
          go_wp2_with fail
          go_quiet (fail)
          go_wp2_with fail
          generalize hW2 : wr.drewN nq = W2
          have HB2 : Hid (Below w.heap.size w W2) := by rw [← hW2]; exact Below.drewN' HB.out _
          have HS2 : Hid (w.heap.size ≤ W2.heap.size) := HB2.out.size
          clear hW2 a0 a1 a2 a3
          obtain ⟨a0, a1, a2, a3⟩ := HA0.out W2 HB2.out
          go_region_held3 (fun w' => w'.cell? ⟨b, o, none⟩ = some (.string x.name) ∧ w'.cell? ⟨b, o + 1, none⟩ = some (.int .i64 x.k) ∧ w'.cell? ⟨b, o + 2, none⟩ = some (.int .i64 x.n) ∧ w'.cell? ⟨b, o + 3, none⟩ = some (.string x.s))
            (first | exact ⟨a0, a1, a2, a3⟩ | go_keep)
            (first
              | (refine step_append_none (by rfl) (.tmp 38) (.tmp 41) (by rfl) W2.heap.size (.slice none 0 0) 0 [] (by rfl) (World.ownsRow_nil _ _ _ _) (by rfl) ?_)
              | (refine step_append_own (w := W2.drew.alloc (.cells #[.string x.name, .int .i64 x.k, .int .i64 x.n, .string x.s] 43)) (by rfl) (.tmp 42) (.tmp 47) 24 (by rfl) W2.heap.size 43 i0 (.agg #[.string ⟨#[]⟩, .int .i64 0, .int .i64 0, .string ⟨#[]⟩]) 4 48 Tryd.underlying24 hi hz0 hz1 hz2 rfl (by decide) (.slice none 0 0) 0 [] (by rfl) (World.ownsRow_nil _ _ _ _) ⟨W2.heap.size, 0, none⟩ 1 1 (enc4 x) (by rfl) rfl (World.news_of_block (heap_alloc_new _ _)) (enc4_one _) (by unfold maxLen; omega) (by omega) (by simp) ?_; intro v4 w4 hown4 hgrow4; have HO4 := Lib.hid hown4; have HBB4 := Lib.hid (((Below.refl W2.heap.size W2).drew.alloc (Nat.le_refl _) _).grown hgrow4 (by simp) (fun k h => by cases h)); have HB4 := Lib.hid (HB2.out.trans (HBB4.out.mono HS2.out)); clear hown4 hgrow4 a0 a1 a2 a3; obtain ⟨a0, a1, a2, a3⟩ := HA0.out w4 HB4.out))
          all_goals go_wp2_with (at_builtin; refine wpList_append_own_none rfl (.tmp 49) (.tmp 52) 24 rfl W2.heap.size 43 i0 4 Tryd.underlying24 hi v4 (0 + 1) ([] ++ enc4 x) rfl HO4.out rfl ?_)
          all_goals go_roundw
          all_goals first
            | exact ⟨1, by omega, by first | rfl | go_num, by rw [HT.out]; have h5 := own_lower HO4.out HS2.out; simpa [insL, insRev] using h5, fun h0 => absurd h0 (by omega), HB4.out⟩
            | (simp [intOf]; omega)
        · obtain ⟨g, c, rfl, hg1, hg2, hic, hcc⟩ := own_some HO.out (by omega)
          go_wp2_with fail
          go_loopw [6] (fun kv w2 => ∃ (k q : Nat), k ≤ i ∧ kv = .int .i64 k ∧ Hid (∀ j, k ≤ j → j < ys.length → cfA x ys[j]! < 0) ∧ w2 = wr.drewN q) (fun kv _ => (intOf kv).toNat)
          case atStart => exact ⟨i, 0, Nat.le_refl _, rfl, fun j h1 h2 => absurd h2 (by have := HYL.out; omega), rfl⟩
          case round =>
            obtain ⟨k, q, hki, rfl, HK, rfl⟩ := hrel
            have hcells : ∀ j, j < i → wr.cell? ⟨g, j * 4, none⟩ = some (.string ys[j]!.name) := fun j hj => by
              have := HO.out.cells (g := g) rfl (j * 4 + 0) (.string ys[j]!.name) (flat_at ys j 0 (by have := HYL.out; omega) _ rfl)
              rw [Addr.add_lit] at this
              simpa using this
            have HCE := Lib.hid hcells
            clear hcells
            by_cases hgo : ∃ p, k = p + 1 ∧ cfA x ys[p]! < 0
            · obtain ⟨p, rfl, hlt2⟩ := hgo
              obtain ⟨y, hy⟩ : ∃ y, y = ys[p]! := ⟨_, rfl⟩
              have p0 := HCE.out p (by omega)
              rw [← hy] at p0 hlt2
              have hle := leq_at (a := y.name) (b := x.name) rfl
              have hc0 : ¬ Lib.compareBytes y.name.data.toList x.name.data.toList ≤ 0 := by have := cfA_swap y x; unfold cfA at this hlt2; omega
              obtain ⟨hl1, hl2⟩ := hle
              rw [decide_eq_false (by omega)] at hl1 hl2
              have HK2 : Hid (∀ j, p ≤ j → j < ys.length → cfA x ys[j]! < 0) := fun j h1 h2 => by
                rcases Nat.lt_or_ge j (p + 1) with h | h
                · obtain rfl : j = p := by omega
                  rw [← hy]; exact hlt2
                · exact HK.out j h h2
              clear hy hlt2 hc0
              have hpz : (p : Int) < (i : Int) := by omega
              have hpz0 : (0 : Int) ≤ (p : Int) := by omega
              have hin : (i : Int) < (n : Int) := by omega
              have hwp : IntKind.i64.wrap (p : Int) = (p : Int) := IntWalk.i64_in _ (by omega)
              go_wp2_with fail
              go_quiet (fail)
              go_wp2
              go_roundw
              case rel => exact ⟨p, q + nq, by omega, by go_num, HK2, rfl⟩
              case measure => simp [intOf]
            · have hex : k = 0 ∨ ∃ p, k = p + 1 ∧ ¬ cfA x ys[p]! < 0 := by
                rcases Nat.eq_zero_or_pos k with h0 | h0
                · exact .inl h0
                · exact .inr ⟨k - 1, by omega, fun hh => hgo ⟨k - 1, by omega, hh⟩⟩
              clear hgo
              have HST : Hid (k = 0 ∨ 0 ≤ cfA x ys[k - 1]!) := hex.imp id (fun ⟨p, h1, h2⟩ => by rw [h1, Nat.add_sub_cancel]; omega)
              rcases hex with hk0 | ⟨p, rfl, hge⟩
              · have hkd : decide (0 < k) = false := by simp; omega
                have HK0 := Lib.hid hk0
                clear hk0
                go_wp2_with fail
                go_quiet (fail)
                go_wp2_with fail
                generalize hW2 : (wr.drewN q).drewN nq = W2
                have HB2 : Hid (Below w.heap.size w W2) := by rw [← hW2]; exact Below.drewN' (Below.drewN' HB.out _) _
                have HO2 : Hid (W2.ownsRow w.heap.size 43 4 (.slice (some ⟨g, 0, none⟩) i c) i (ys.flatMap enc4)) := by rw [← hW2]; exact HO.out
                have HS2 : Hid (w.heap.size ≤ W2.heap.size) := HB2.out.size
                have HG2 : Hid (g < W2.heap.size) := by rw [← hW2]; exact hg2
                clear hW2 a0 a1 a2 a3
                obtain ⟨a0, a1, a2, a3⟩ := HA.out W2 HB2.out
                have hkc : (k : Int) ≤ (c : Int) := by omega
                have hk0 : (0 : Int) ≤ (k : Int) := by omega
                have hin : (i : Int) < (n : Int) := by omega
                have HN1 : Hid (((ys.take k).flatMap enc4).length = k * 4) := by show _ = _; rw [flat4_len, List.length_take]; have := HYL.out; omega
                have HC1 : Hid (∀ j u, ((ys.take k).flatMap enc4)[j]? = some u → W2.cell? ((⟨g, 0, none⟩ : Addr).add j) = some u) := fun j u hj => HO2.out.cells (g := g) rfl j u (by
                  have hjl := (List.getElem?_eq_some_iff.1 hj).1
                  rw [← List.take_append_drop k ys, List.flatMap_append, List.getElem?_append_left hjl]; exact hj)
                have HN2 : Hid (((ys.drop k).flatMap enc4).length = (i - k) * 4) := by show _ = _; rw [flat4_len, List.length_drop]; have := HYL.out; omega
                have HC2 : Hid (∀ w', Below W2.heap.size W2 w' → ∀ j u, ((ys.drop k).flatMap enc4)[j]? = some u → w'.cell? ((⟨g, k * 4, none⟩ : Addr).add j) = some u) := fun w' hb' j u hj => by
                  have h1 := HO2.out.cells (g := g) rfl (k * 4 + j) u (by
                    rw [← List.take_append_drop k ys, List.flatMap_append, List.getElem?_append_right (by rw [HN1.out]; omega), HN1.out, Nat.add_sub_cancel_left]; exact hj)
                  rw [Addr.add_lit] at h1 ⊢
                  rw [Nat.zero_add] at h1
                  exact (hb'.cell (p := ⟨g, _, none⟩) HG2.out).trans h1
                go_wp2_with fail
                go_region_held3 (fun w' => w'.cell? ⟨b, o + i * 4, none⟩ = some (.string x.name) ∧ w'.cell? ⟨b, o + i * 4 + 1, none⟩ = some (.int .i64 x.k) ∧ w'.cell? ⟨b, o + i * 4 + 2, none⟩ = some (.int .i64 x.n) ∧ w'.cell? ⟨b, o + i * 4 + 3, none⟩ = some (.string x.s))
                  (first | exact ⟨a0, a1, a2, a3⟩ | go_keep)
                  (first
                    | (refine step_append_own (w := W2.drew.alloc (.cells #[.string x.name, .int .i64 x.k, .int .i64 x.n, .string x.s] 43)) (by rfl) (.tmp 38) (.tmp 41) 24 (by rfl) W2.heap.size 43 i0 (.agg #[.string ⟨#[]⟩, .int .i64 0, .int .i64 0, .string ⟨#[]⟩]) 4 48 Tryd.underlying24 hi hz0 hz1 hz2 rfl (by decide) (.slice none 0 0) 0 [] (by rfl) (World.ownsRow_nil _ _ _ _) ⟨g, 0, none⟩ k c ((ys.take k).flatMap enc4) (by rfl) HN1.out (fun j u hj => by first | exact HC1.out j u hj | exact Lib.cell?_alloc_some _ (HC1.out j u hj)) (flat4_one _) (by unfold maxLen; omega) (by omega) (by first | exact Nat.le_refl _ | simp) ?_; intro v3 w3 hown3 hgrow3; have HO3 := Lib.hid hown3; have HX3 := Lib.hid ((hgrow3.block W2.heap.size (by simp) (by simp [Value.ownBlock])).trans (heap_alloc_new W2.drew _)); have HBB3 := Lib.hid (((Below.refl W2.heap.size W2).drew.alloc (Nat.le_refl _) _).grown hgrow3 (by simp) (fun k h => by cases h)); have HB3 := Lib.hid (HB2.out.trans (HBB3.out.mono HS2.out)); clear hown3 hgrow3 a0 a1 a2 a3; obtain ⟨a0, a1, a2, a3⟩ := HA.out w3 HB3.out)
                    | (refine step_append_own (w := W2.drew) (by rfl) (.tmp 38) (.tmp 41) 24 (by rfl) W2.heap.size 43 i0 (.agg #[.string ⟨#[]⟩, .int .i64 0, .int .i64 0, .string ⟨#[]⟩]) 4 48 Tryd.underlying24 hi hz0 hz1 hz2 rfl (by decide) (.slice none 0 0) 0 [] (by rfl) (World.ownsRow_nil _ _ _ _) ⟨g, 0, none⟩ k c ((ys.take k).flatMap enc4) (by rfl) HN1.out (fun j u hj => by first | exact HC1.out j u hj | exact Lib.cell?_alloc_some _ (HC1.out j u hj)) (flat4_one _) (by unfold maxLen; omega) (by omega) (by first | exact Nat.le_refl _ | simp) ?_; intro v3 w3 hown3 hgrow3; have HO3 := Lib.hid hown3; have HBB3 := Lib.hid ((Below.refl W2.heap.size W2).drew.grown hgrow3 (Nat.le_refl _) (fun k h => by cases h)); have HB3 := Lib.hid (HB2.out.trans (HBB3.out.mono HS2.out)); clear hown3 hgrow3 a0 a1 a2 a3; obtain ⟨a0, a1, a2, a3⟩ := HA.out w3 HB3.out)
                    | (refine step_append_own (by rfl) (.tmp 42) (.tmp 47) 24 (by rfl) W2.heap.size 43 i0 (.agg #[.string ⟨#[]⟩, .int .i64 0, .int .i64 0, .string ⟨#[]⟩]) 4 48 Tryd.underlying24 hi hz0 hz1 hz2 rfl (by decide) v3 (0 + k) ([] ++ (ys.take k).flatMap enc4) (by rfl) HO3.out ⟨W2.heap.size, 0, none⟩ 1 1 (enc4 x) (by rfl) rfl (World.news_of_block HX3.out) (enc4_one _) (by unfold maxLen; omega) (by omega) HBB3.out.size ?_; intro v4 w4 hown4 hgrow4; have HO4 := Lib.hid hown4; have HBB4 := Lib.hid (HBB3.out.grown hgrow4 HBB3.out.size (fun k h => (HO3.out.lt k h).1)); have HB4 := Lib.hid (HB2.out.trans (HBB4.out.mono HS2.out)); clear hown4 hgrow4 a0 a1 a2 a3; obtain ⟨a0, a1, a2, a3⟩ := HA.out w4 HB4.out)
                    | (refine step_append_own (by rfl) (.tmp 42) (.tmp 47) 24 (by rfl) W2.heap.size 43 i0 (.agg #[.string ⟨#[]⟩, .int .i64 0, .int .i64 0, .string ⟨#[]⟩]) 4 48 Tryd.underlying24 hi hz0 hz1 hz2 rfl (by decide) v3 (0 + k) ([] ++ (ys.take k).flatMap enc4) (by rfl) (HO3.out.alloc _) ⟨w3.heap.size, 0, none⟩ 1 1 (enc4 x) (by rfl) rfl (World.news_of_block (heap_alloc_new _ _)) (enc4_one _) (by unfold maxLen; omega) (by omega) (by have := HBB3.out.size; simp; omega) ?_; intro v4 w4 hown4 hgrow4; have HO4 := Lib.hid hown4; have HBB4 := Lib.hid ((HBB3.out.alloc HBB3.out.size _).grown hgrow4 (by have := HBB3.out.size; simp; omega) (fun k h => (HO3.out.lt k h).1)); have HB4 := Lib.hid (HB2.out.trans (HBB4.out.mono HS2.out)); clear hown4 hgrow4 a0 a1 a2 a3; obtain ⟨a0, a1, a2, a3⟩ := HA.out w4 HB4.out))
                all_goals
                  by_cases hck : c = k
                  · obtain rfl : k = c := hck.symm
                    go_wp2_with (at_builtin; refine wpList_append_own _ rfl (.tmp 49) (.tmp 52) 24 rfl W2.heap.size 43 i0 (.agg #[.string ⟨#[]⟩, .int .i64 0, .int .i64 0, .string ⟨#[]⟩]) 4 48 Tryd.underlying24 hi hz0 hz1 hz2 rfl (by decide) v4 (0 + k + 1) ([] ++ (ys.take k).flatMap enc4 ++ enc4 x) rfl HO4.out ⟨g, 0, none⟩ 0 0 [] rfl rfl (fun j u hj => by simp at hj) (fun u hu => by cases hu) (by unfold maxLen; omega) (by omega) HBB4.out.size ?_; intro v5 w5 hown5 hgrow5 hnil5; clear hnil5; have HO5 : Hid (w5.ownsRow w.heap.size 43 4 v5 (i + 1) ((sortL (xs.take (i + 1))).flatMap enc4)) := (by rw [HT.out]; have e := ins_take (x := x) (ys := ys) (k := k) (by rw [HYL.out]; exact hki) HK.out HST.out; rw [List.drop_of_length_le (by have := HYL.out; omega), List.flatMap_nil] at e; have h5 := own_lower hown5 HS2.out; rw [List.nil_append, e] at h5; rw [show i + 1 = 0 + k + 1 + 0 by omega]; exact h5); have HBB5 := Lib.hid (HBB4.out.grown hgrow5 HBB4.out.size (fun k h => (HO4.out.lt k h).1)); clear hown5 hgrow5)
                    go_roundw
                    case rel => exact ⟨i + 1, by omega, by go_num, HO5.out, fun h0 => absurd h0 (by omega), HB2.out.trans (HBB5.out.mono HS2.out)⟩
                    case measure => simp [intOf]; omega
                  · go_wp2_with (at_builtin; refine wpList_append_own _ rfl (.tmp 49) (.tmp 52) 24 rfl W2.heap.size 43 i0 (.agg #[.string ⟨#[]⟩, .int .i64 0, .int .i64 0, .string ⟨#[]⟩]) 4 48 Tryd.underlying24 hi hz0 hz1 hz2 rfl (by decide) v4 (0 + k + 1) ([] ++ (ys.take k).flatMap enc4 ++ enc4 x) rfl HO4.out ⟨g, k * 4, none⟩ (i - k) (c - k) ((ys.drop k).flatMap enc4) rfl HN2.out (fun j u hj => HC2.out w4 HBB4.out j u hj) (flat4_one _) (by unfold maxLen; omega) (by omega) HBB4.out.size ?_; intro v5 w5 hown5 hgrow5 hnil5; clear hnil5; have HO5 : Hid (w5.ownsRow w.heap.size 43 4 v5 (i + 1) ((sortL (xs.take (i + 1))).flatMap enc4)) := (by rw [HT.out]; have e := ins_take (x := x) (ys := ys) (k := k) (by rw [HYL.out]; exact hki) HK.out HST.out; have h5 := own_lower hown5 HS2.out; rw [List.nil_append, e] at h5; rw [show i + 1 = 0 + k + 1 + (i - k) by omega]; exact h5); have HBB5 := Lib.hid (HBB4.out.grown hgrow5 HBB4.out.size (fun k h => (HO4.out.lt k h).1)); clear hown5 hgrow5)
                    go_roundw
                    case rel => exact ⟨i + 1, by omega, by go_num, HO5.out, fun h0 => absurd h0 (by omega), HB2.out.trans (HBB5.out.mono HS2.out)⟩
                    case measure => simp [intOf]; omega
              · obtain ⟨y, hy⟩ : ∃ y, y = ys[p]! := ⟨_, rfl⟩
                have p0 := HCE.out p (by omega)
                rw [← hy] at p0 hge
                have hle := leq_at (a := y.name) (b := x.name) rfl
                have hr := cb_range y.name.data.toList x.name.data.toList
                have hc0 : Lib.compareBytes y.name.data.toList x.name.data.toList ≤ 0 := by have := cfA_swap y x; unfold cfA at this hge; omega
                obtain ⟨hl1, hl2⟩ := hle
                generalize Lib.compareBytes y.name.data.toList x.name.data.toList = cc at hl1 hl2 hc0 hr
                have hc3 : cc = -1 ∨ cc = 0 := by omega
                have hpz : (p : Int) < (i : Int) := by omega
                have hpz0 : (0 : Int) ≤ (p : Int) := by omega
                have hin : (i : Int) < (n : Int) := by omega
                have hwp : IntKind.i64.wrap (p : Int) = (p : Int) := IntWalk.i64_in _ (by omega)
                clear hy hge hc0 hr
                rcases hc3 with rfl | rfl
                all_goals
                  simp only [show decide ((-1 : Int) < 0) = true from rfl, show decide ((0 : Int) < 0) = false from rfl, show decide ((-1 : Int) = 0) = false from rfl] at hl1 hl2
                  go_wp2_with fail
                  go_quiet (fail)
                  clear hl1 hl2 hwp p0
                  go_wp2_with fail
                  generalize hW2 : (wr.drewN q).drewN nq = W2
                  have HB2 : Hid (Below w.heap.size w W2) := by rw [← hW2]; exact Below.drewN' (Below.drewN' HB.out _) _
                  have HO2 : Hid (W2.ownsRow w.heap.size 43 4 (.slice (some ⟨g, 0, none⟩) i c) i (ys.flatMap enc4)) := by rw [← hW2]; exact HO.out
                  have HS2 : Hid (w.heap.size ≤ W2.heap.size) := HB2.out.size
                  have HG2 : Hid (g < W2.heap.size) := by rw [← hW2]; exact hg2
                  clear hW2 a0 a1 a2 a3
                  obtain ⟨a0, a1, a2, a3⟩ := HA.out W2 HB2.out
                  have hkc : (p : Int) + 1 ≤ (c : Int) := by omega
                  have hk0 : (0 : Int) ≤ (p : Int) + 1 := by omega
                  have hin : (i : Int) < (n : Int) := by omega
                  have HN1 : Hid (((ys.take (p + 1)).flatMap enc4).length = (p + 1) * 4) := by show _ = _; rw [flat4_len, List.length_take]; have := HYL.out; omega
                  have HC1 : Hid (∀ j u, ((ys.take (p + 1)).flatMap enc4)[j]? = some u → W2.cell? ((⟨g, 0, none⟩ : Addr).add j) = some u) := fun j u hj => HO2.out.cells (g := g) rfl j u (by
                    have hjl := (List.getElem?_eq_some_iff.1 hj).1
                    rw [← List.take_append_drop (p + 1) ys, List.flatMap_append, List.getElem?_append_left hjl]; exact hj)
                  have HN2 : Hid (((ys.drop (p + 1)).flatMap enc4).length = (i - (p + 1)) * 4) := by show _ = _; rw [flat4_len, List.length_drop]; have := HYL.out; omega
                  have HC2 : Hid (∀ w', Below W2.heap.size W2 w' → ∀ j u, ((ys.drop (p + 1)).flatMap enc4)[j]? = some u → w'.cell? ((⟨g, (p + 1) * 4, none⟩ : Addr).add j) = some u) := fun w' hb' j u hj => by
                    have h1 := HO2.out.cells (g := g) rfl ((p + 1) * 4 + j) u (by
                      rw [← List.take_append_drop (p + 1) ys, List.flatMap_append, List.getElem?_append_right (by rw [HN1.out]; omega), HN1.out, Nat.add_sub_cancel_left]; exact hj)
                    rw [Addr.add_lit] at h1 ⊢
                    rw [Nat.zero_add] at h1
                    exact (hb'.cell (p := ⟨g, _, none⟩) HG2.out).trans h1
                  go_wp2_with fail
                  go_region_held3 (fun w' => w'.cell? ⟨b, o + i * 4, none⟩ = some (.string x.name) ∧ w'.cell? ⟨b, o + i * 4 + 1, none⟩ = some (.int .i64 x.k) ∧ w'.cell? ⟨b, o + i * 4 + 2, none⟩ = some (.int .i64 x.n) ∧ w'.cell? ⟨b, o + i * 4 + 3, none⟩ = some (.string x.s))
                    (first | exact ⟨a0, a1, a2, a3⟩ | go_keep)
                    (first
                      | (refine step_append_own (w := W2.drew.alloc (.cells #[.string x.name, .int .i64 x.k, .int .i64 x.n, .string x.s] 43)) (by rfl) (.tmp 38) (.tmp 41) 24 (by rfl) W2.heap.size 43 i0 (.agg #[.string ⟨#[]⟩, .int .i64 0, .int .i64 0, .string ⟨#[]⟩]) 4 48 Tryd.underlying24 hi hz0 hz1 hz2 rfl (by decide) (.slice none 0 0) 0 [] (by rfl) (World.ownsRow_nil _ _ _ _) ⟨g, 0, none⟩ (p + 1) c ((ys.take (p + 1)).flatMap enc4) (by rfl) HN1.out (fun j u hj => by first | exact HC1.out j u hj | exact Lib.cell?_alloc_some _ (HC1.out j u hj)) (flat4_one _) (by unfold maxLen; omega) (by omega) (by first | exact Nat.le_refl _ | simp) ?_; intro v3 w3 hown3 hgrow3; have HO3 := Lib.hid hown3; have HX3 := Lib.hid ((hgrow3.block W2.heap.size (by simp) (by simp [Value.ownBlock])).trans (heap_alloc_new W2.drew _)); have HBB3 := Lib.hid (((Below.refl W2.heap.size W2).drew.alloc (Nat.le_refl _) _).grown hgrow3 (by simp) (fun k h => by cases h)); have HB3 := Lib.hid (HB2.out.trans (HBB3.out.mono HS2.out)); clear hown3 hgrow3 a0 a1 a2 a3; obtain ⟨a0, a1, a2, a3⟩ := HA.out w3 HB3.out)
                      | (refine step_append_own (w := W2.drew) (by rfl) (.tmp 38) (.tmp 41) 24 (by rfl) W2.heap.size 43 i0 (.agg #[.string ⟨#[]⟩, .int .i64 0, .int .i64 0, .string ⟨#[]⟩]) 4 48 Tryd.underlying24 hi hz0 hz1 hz2 rfl (by decide) (.slice none 0 0) 0 [] (by rfl) (World.ownsRow_nil _ _ _ _) ⟨g, 0, none⟩ (p + 1) c ((ys.take (p + 1)).flatMap enc4) (by rfl) HN1.out (fun j u hj => by first | exact HC1.out j u hj | exact Lib.cell?_alloc_some _ (HC1.out j u hj)) (flat4_one _) (by unfold maxLen; omega) (by omega) (by first | exact Nat.le_refl _ | simp) ?_; intro v3 w3 hown3 hgrow3; have HO3 := Lib.hid hown3; have HBB3 := Lib.hid ((Below.refl W2.heap.size W2).drew.grown hgrow3 (Nat.le_refl _) (fun k h => by cases h)); have HB3 := Lib.hid (HB2.out.trans (HBB3.out.mono HS2.out)); clear hown3 hgrow3 a0 a1 a2 a3; obtain ⟨a0, a1, a2, a3⟩ := HA.out w3 HB3.out)
                      | (refine step_append_own (by rfl) (.tmp 42) (.tmp 47) 24 (by rfl) W2.heap.size 43 i0 (.agg #[.string ⟨#[]⟩, .int .i64 0, .int .i64 0, .string ⟨#[]⟩]) 4 48 Tryd.underlying24 hi hz0 hz1 hz2 rfl (by decide) v3 (0 + (p + 1)) ([] ++ (ys.take (p + 1)).flatMap enc4) (by rfl) HO3.out ⟨W2.heap.size, 0, none⟩ 1 1 (enc4 x) (by rfl) rfl (World.news_of_block HX3.out) (enc4_one _) (by unfold maxLen; omega) (by omega) HBB3.out.size ?_; intro v4 w4 hown4 hgrow4; have HO4 := Lib.hid hown4; have HBB4 := Lib.hid (HBB3.out.grown hgrow4 HBB3.out.size (fun k h => (HO3.out.lt k h).1)); have HB4 := Lib.hid (HB2.out.trans (HBB4.out.mono HS2.out)); clear hown4 hgrow4 a0 a1 a2 a3; obtain ⟨a0, a1, a2, a3⟩ := HA.out w4 HB4.out)
                      | (refine step_append_own (by rfl) (.tmp 42) (.tmp 47) 24 (by rfl) W2.heap.size 43 i0 (.agg #[.string ⟨#[]⟩, .int .i64 0, .int .i64 0, .string ⟨#[]⟩]) 4 48 Tryd.underlying24 hi hz0 hz1 hz2 rfl (by decide) v3 (0 + (p + 1)) ([] ++ (ys.take (p + 1)).flatMap enc4) (by rfl) (HO3.out.alloc _) ⟨w3.heap.size, 0, none⟩ 1 1 (enc4 x) (by rfl) rfl (World.news_of_block (heap_alloc_new _ _)) (enc4_one _) (by unfold maxLen; omega) (by omega) (by have := HBB3.out.size; simp; omega) ?_; intro v4 w4 hown4 hgrow4; have HO4 := Lib.hid hown4; have HBB4 := Lib.hid ((HBB3.out.alloc HBB3.out.size _).grown hgrow4 (by have := HBB3.out.size; simp; omega) (fun k h => (HO3.out.lt k h).1)); have HB4 := Lib.hid (HB2.out.trans (HBB4.out.mono HS2.out)); clear hown4 hgrow4 a0 a1 a2 a3; obtain ⟨a0, a1, a2, a3⟩ := HA.out w4 HB4.out))
                  all_goals
                    by_cases hck : c = (p + 1)
                    · obtain rfl : p + 1 = c := hck.symm
                      go_wp2_with (at_builtin; refine wpList_append_own _ rfl (.tmp 49) (.tmp 52) 24 rfl W2.heap.size 43 i0 (.agg #[.string ⟨#[]⟩, .int .i64 0, .int .i64 0, .string ⟨#[]⟩]) 4 48 Tryd.underlying24 hi hz0 hz1 hz2 rfl (by decide) v4 (0 + (p + 1) + 1) ([] ++ (ys.take (p + 1)).flatMap enc4 ++ enc4 x) rfl HO4.out ⟨g, 0, none⟩ 0 0 [] rfl rfl (fun j u hj => by simp at hj) (fun u hu => by cases hu) (by unfold maxLen; omega) (by omega) HBB4.out.size ?_; intro v5 w5 hown5 hgrow5 hnil5; clear hnil5; have HO5 : Hid (w5.ownsRow w.heap.size 43 4 v5 (i + 1) ((sortL (xs.take (i + 1))).flatMap enc4)) := (by rw [HT.out]; have e := ins_take (x := x) (ys := ys) (k := p + 1) (by rw [HYL.out]; exact hki) HK.out HST.out; rw [List.drop_of_length_le (by have := HYL.out; omega), List.flatMap_nil] at e; have h5 := own_lower hown5 HS2.out; rw [List.nil_append, e] at h5; rw [show i + 1 = 0 + (p + 1) + 1 + 0 by omega]; exact h5); have HBB5 := Lib.hid (HBB4.out.grown hgrow5 HBB4.out.size (fun k h => (HO4.out.lt k h).1)); clear hown5 hgrow5)
                      go_roundw
                      case rel => exact ⟨i + 1, by omega, by go_num, HO5.out, fun h0 => absurd h0 (by omega), HB2.out.trans (HBB5.out.mono HS2.out)⟩
                      case measure => simp [intOf]; omega
                    · go_wp2_with (at_builtin; refine wpList_append_own _ rfl (.tmp 49) (.tmp 52) 24 rfl W2.heap.size 43 i0 (.agg #[.string ⟨#[]⟩, .int .i64 0, .int .i64 0, .string ⟨#[]⟩]) 4 48 Tryd.underlying24 hi hz0 hz1 hz2 rfl (by decide) v4 (0 + (p + 1) + 1) ([] ++ (ys.take (p + 1)).flatMap enc4 ++ enc4 x) rfl HO4.out ⟨g, (p + 1) * 4, none⟩ (i - (p + 1)) (c - (p + 1)) ((ys.drop (p + 1)).flatMap enc4) rfl HN2.out (fun j u hj => HC2.out w4 HBB4.out j u hj) (flat4_one _) (by unfold maxLen; omega) (by omega) HBB4.out.size ?_; intro v5 w5 hown5 hgrow5 hnil5; clear hnil5; have HO5 : Hid (w5.ownsRow w.heap.size 43 4 v5 (i + 1) ((sortL (xs.take (i + 1))).flatMap enc4)) := (by rw [HT.out]; have e := ins_take (x := x) (ys := ys) (k := p + 1) (by rw [HYL.out]; exact hki) HK.out HST.out; have h5 := own_lower hown5 HS2.out; rw [List.nil_append, e] at h5; rw [show i + 1 = 0 + (p + 1) + 1 + (i - (p + 1)) by omega]; exact h5); have HBB5 := Lib.hid (HBB4.out.grown hgrow5 HBB4.out.size (fun k h => (HO4.out.lt k h).1)); clear hown5 hgrow5)
                      go_roundw
                      case rel => exact ⟨i + 1, by omega, by go_num, HO5.out, fun h0 => absurd h0 (by omega), HB2.out.trans (HBB5.out.mono HS2.out)⟩
                      case measure => simp [intOf]; omega
      · have hie : i = n := by omega
        have HIE := Lib.hid hie
        clear hie
        have HX : Hid (sortL (xs.take i) = sortL xs) := by show _ = _; rw [List.take_of_length_le (by have := HN.out; have := HIE.out; omega)]
        have h1 := HO.out
        rw [HX.out, show i = (sortL xs).length by rw [sortL_len, ← HN.out]; exact HIE.out] at h1
        have HO2 := Lib.hid h1
        clear h1
        have HV2 := Lib.hid (Hv.of_own HO2.out)
        have hav := HV2.out.av HW.out HL.out
        obtain ⟨ao2, cap2, rfl⟩ := hav.shape
        have C3 := r3CheckAttrs_any wr.heap.size ao2 (sortL xs).length cap2 (sortL xs) wr hav (Nat.le_refl _)
        rw [HE.out, ← HER.out] at C3
        have HC3 := Lib.hid C3
        clear hav C3
        by_cases h0 : er = 0
        · subst h0
          go_wp2_with (go_at_call 19; (with_reducible refine (HC3.out).mono ?_); rintro e w3 ⟨rfl, hb3⟩; have HB3 := Lib.hid hb3; clear hb3)
          go_ret2
          exact ⟨_, rfl, HB.out.trans (HB3.out.mono HB.out.size), fun _ => HV2.out.call HB3.out, fun hh => absurd rfl hh⟩
        · have hb0 : (er == 0) = false := by simpa using h0
          have H0 := Lib.hid h0
          clear h0
          go_wp2_with (go_at_call 19; (with_reducible refine (HC3.out).mono ?_); rintro e w3 ⟨rfl, hb3⟩; have HB3 := Lib.hid hb3; clear hb3)
          go_ret2
          exact ⟨_, rfl, HB.out.trans (HB3.out.mono HB.out.size), fun hh => absurd hh H0.out, fun _ => rfl⟩
end Go.Proofs.YtjllcbgokoacaaaDoor
