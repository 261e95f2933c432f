/- Contracts: the document's node and Shape. -/
import Derived.Test.YtmjajoepgilokaaRu7
import Derived.Test.YtmjajoepgilokaaRo7
import Derived.Test.YtmjajoepgilokaaSp7
namespace Go.Proofs.Ytmjajoepgilokaa
open Go Go.RowKit

theorem condsE_bad {l : List Cnd} {c : Cnd} (hc : c ∈ l) (h : okC c [] = false) : condsE l [] = 74 := by
  unfold condsE
  split
  · rfl
  · rw [if_neg]
    intro hh
    have := List.all_eq_true.1 hh c hc
    rw [h] at this; cases this
theorem nodeF_drop {K : Fo} {i : Nat} {d : Nt} {k : Fo} (h : K.drop i = .cons d k (K.drop (i + 1))) : nodeF (K.drop i) = if nodeN d k ≠ 0 then nodeN d k else nodeF (K.drop (i + 1)) := by rw [h, nodeF_cons]
set_option maxRecDepth 100000 in
set_option maxHeartbeats 2000000 in
theorem r7node_any (d : Nt) (k : Fo) : ∀ (w : World) (v : Value), NdV w (fun x => x < w.heap.size) d k v → szD d + szF k ≤ 1048576 → Calls Try.prog 47 #[v] w (fun e w' => e = .returned (.int .i64 (nodeN d k)) ∧ Below w.heap.size w w') := by
  revert d k
  refine Fo.node_ind (p := fun d k => ∀ (w : World) (v : Value), NdV w (fun x => x < w.heap.size) d k v → szD d + szF k ≤ 1048576 → Calls Try.prog 47 #[v] w (fun e w' => e = .returned (.int .i64 (nodeN d k)) ∧ Below w.heap.size w w')) ?_
  intro d K ih w v hv hsz
  obtain ⟨ta, tc, ka, kc, rfl⟩ := hv.shape
  obtain ⟨ht, hk⟩ := hv.inj
  obtain ⟨W, hW⟩ : ∃ W, W = w.alloc (.cells #[.int .i64 d.kind, .string d.var, .string d.ty, .slice ta d.tests.length tc, .slice ka K.len kc] 25) := ⟨_, rfl⟩
  have hq := heap_alloc_new w (.cells #[.int .i64 d.kind, .string d.var, .string d.ty, .slice ta d.tests.length tc, .slice ka K.len kc] 25)
  have hb0 : Below w.heap.size w W := by rw [hW]; exact (Below.refl _ _).alloc (Nat.le_refl _) _
  rw [← hW] at hq
  have hz : W.heap.size = w.heap.size + 1 := by rw [hW]; simp
  obtain ⟨P, hP⟩ : ∃ P, P = w.heap.size := ⟨_, rfl⟩
  have hlen : K.len ≤ 1048576 := by have := szF_len K; omega
  have HK := Lib.hid (fun (i : Nat) (hi : i < K.len) => (by
    obtain ⟨b, o, e, hb, hf⟩ := hk (nil_of_len hi)
    obtain ⟨d2, k2, hd⟩ := Fo.drop_cons hi
    refine ⟨b, o, d2, k2, e, hd, fun u hu => ?_⟩
    obtain ⟨ta, tc, ka, kc, c0, c1, c2, c3, c4, hv2⟩ := kid_val (W := W) (u := u) ((FoAt.keep (Keep.of_below hb0) hb hf).mono (fun x hx => Nat.lt_of_lt_of_le hx hb0.size)) (Nat.lt_of_lt_of_le hb hb0.size) hu hd
    have h1 := Fo.All.drop i ih
    have h4 := szF_drop K i
    rw [hd] at h1 h4
    simp only [szF] at h4
    exact ⟨ta, tc, ka, kc, c0, c1, c2, c3, c4, (h1.1 u _ hv2 (by omega)).mono (fun e w' h => ⟨h.1, hu.trans (h.2.mono hu.size)⟩)⟩ :
      ∃ b o d2 k2, ka = some ⟨b, o, none⟩ ∧ K.drop i = .cons d2 k2 (K.drop (i + 1)) ∧ ∀ u, Below W.heap.size W u → ∃ ta tc ka kc, u.cell? ⟨b, o + i * 5, none⟩ = some (.int .i64 d2.kind) ∧ u.cell? ⟨b, o + i * 5 + 1, none⟩ = some (.string d2.var) ∧ u.cell? ⟨b, o + i * 5 + 2, none⟩ = some (.string d2.ty) ∧
      u.cell? ⟨b, o + i * 5 + 3, none⟩ = some (.slice ta d2.tests.length tc) ∧ u.cell? ⟨b, o + i * 5 + 4, none⟩ = some (.slice ka k2.len kc) ∧ Calls Try.prog 47 #[.agg #[.int .i64 d2.kind, .string d2.var, .string d2.ty, .slice ta d2.tests.length tc, .slice ka k2.len kc]] u (fun e w' => e = .returned (.int .i64 (nodeN d2 k2)) ∧ Below W.heap.size W w')))
  have HX := Lib.hid (fun (u : World) (hu : Below W.heap.size W u) => (by
    have := (hu.block P (by omega)).trans (hP ▸ hq)
    simp [World.cell?, this] : u.cell? ⟨P, 0, none⟩ = some (.int .i64 d.kind) ∧ u.cell? ⟨P, 1, none⟩ = some (.string d.var) ∧ u.cell? ⟨P, 2, none⟩ = some (.string d.ty) ∧ u.cell? ⟨P, 3, none⟩ = some (.slice ta d.tests.length tc) ∧ u.cell? ⟨P, 4, none⟩ = some (.slice ka K.len kc)))
  have HB0 := Lib.hid hb0; have HW := Lib.hid hW; have HP := Lib.hid hP
  have HR := Lib.hid (Below.refl W.heap.size W)
  have HE := Lib.hid (fun (u : World) (hu : Below W.heap.size W u) => hb0.trans (hu.mono hb0.size))
  have HLEN := Lib.hid hlen
  have hmx : (1048576 : Nat) ≤ maxLen := by unfold maxLen; omega
  have hszd := hsz
  simp only [szD] at hszd
  have HNV := Lib.hid (fun u : World => r3Name_any d.var u (by omega))
  have HNT := Lib.hid (fun u : World => r3Name_any d.ty u (by omega))
  have hT : szT d.tests ≤ 1048576 := by omega
  have HTL : Hid (d.tests.length ≤ 1048576) := Lib.hid (by have := szT_len d.tests; omega)
  have HCD := Lib.hid (fun (i : Nat) (hi : i < d.tests.length) => (by
    obtain ⟨ta', tc', he, hh⟩ := ht
    simp only [Value.slice.injEq, true_and] at he
    obtain ⟨rfl, rfl⟩ := he
    obtain ⟨b, o, e, hb, hc⟩ := hh (fun h => by rw [h] at hi; exact absurd hi (Nat.not_lt_zero _))
    refine ⟨b, o, e, fun u hu => ?_⟩
    have hc' := (CdAt.keep (Keep.of_below (hb0.trans (hu.mono hb0.size))) hb hc).cells hi
    have hwd : wdC d.tests[i] := szC_wd (by have := szT_mem (List.getElem_mem (l := d.tests) hi); omega)
    have hcall := r7Cond_any d.tests[i] (fun x => x < u.heap.size) none 0 [] u hwd (fun _ h => h) (by simp) (SsV.nil _ _)
    rw [List.length_nil] at hcall
    refine ⟨hc'.1, hc'.2.1, hc'.2.2.1, hc'.2.2.2.1, hc'.2.2.2.2.1, hc'.2.2.2.2.2.1, hc'.2.2.2.2.2.2.1, hc'.2.2.2.2.2.2.2.1, hc'.2.2.2.2.2.2.2.2.1, hc'.2.2.2.2.2.2.2.2.2.1, hc'.2.2.2.2.2.2.2.2.2.2, hcall.mono (fun e w' h => ⟨h.1, hu.trans (h.2.mono hu.size)⟩)⟩ :
      ∃ b o, ta = some ⟨b, o, none⟩ ∧ ∀ u, Below W.heap.size W u → u.cell? ⟨b, o + i * 11, none⟩ = some (.string d.tests[i].left.var) ∧ u.cell? ⟨b, o + i * 11 + 1, none⟩ = some (.string d.tests[i].left.attr) ∧ u.cell? ⟨b, o + i * 11 + 2, none⟩ = some (.int .i64 d.tests[i].left.vk) ∧ u.cell? ⟨b, o + i * 11 + 3, none⟩ = some (.int .i64 d.tests[i].left.vn) ∧ u.cell? ⟨b, o + i * 11 + 4, none⟩ = some (.string d.tests[i].left.vs) ∧ u.cell? ⟨b, o + i * 11 + 5, none⟩ = some (.int .i64 d.tests[i].rel) ∧
        u.cell? ⟨b, o + i * 11 + 6, none⟩ = some (.string d.tests[i].right.var) ∧ u.cell? ⟨b, o + i * 11 + 7, none⟩ = some (.string d.tests[i].right.attr) ∧ u.cell? ⟨b, o + i * 11 + 8, none⟩ = some (.int .i64 d.tests[i].right.vk) ∧ u.cell? ⟨b, o + i * 11 + 9, none⟩ = some (.int .i64 d.tests[i].right.vn) ∧ u.cell? ⟨b, o + i * 11 + 10, none⟩ = some (.string d.tests[i].right.vs) ∧
        Calls Try.prog 29 #[cdV d.tests[i], .slice none 0 0] u (fun e w' => e = .returned (.int .i64 (condE d.tests[i] [])) ∧ Below W.heap.size W w')))
  clear hk ih hv hsz hszd hq hb0 hz hW hP hlen ht hT hmx
  obtain ⟨kind, var, ty, tests⟩ := d
  simp only at HX HNV HNT HTL HCD HW
  unfold nodeN nodeE
  simp only
  by_cases h1 : kind = 1
  · subst h1
    rw [if_pos rfl]
    by_cases hn : 0 < K.len
    · rw [if_pos (Or.inl hn), if_pos (by decide)]
      have g1 : (0 : Int) < (K.len : Int) := by omega
      have g1' := decide_eq_true g1
      clear HNV HNT HCD
      go_enter Try.func47, Try.ntmps47
      go_wp2_with fail
      rw [← HW.out, ← HP.out]
      obtain ⟨x0, x1, x2, x3, x4⟩ := HX.out _ HR.out
      go_wp2
      go_ret
      exact ⟨rfl, by first | exact HE.out _ HR.out | (rw [HP.out]; exact HE.out _ HR.out)⟩
    · have g1 : ¬ (0 : Int) < (K.len : Int) := by omega
      have g1' := decide_eq_false g1
      have hkl : K.len = 0 := by omega
      have hkn : K = .nil := (nil_or_len K).elim id (fun h => absurd h (by omega))
      rw [hkl] at HX g1 g1' HW hn ⊢
      clear HK
      cases hv : nameB var.data.toList with
      | false =>
        rw [if_pos (Or.inr (Or.inl (show nameB (nb var) = false from hv))), if_pos (by decide)]
        simp only [hv] at HNV
        clear HNT HCD hn hkl hkn
        go_enter Try.func47, Try.ntmps47
        go_wp2_with fail
        rw [← HW.out, ← HP.out]
        obtain ⟨x0, x1, x2, x3, x4⟩ := HX.out _ HR.out
        go_wp2_with (first | (go_at_call 39; (with_reducible refine (HNV.out _).mono ?_); rintro e u ⟨rfl, rfl⟩))
        go_ret
        exact ⟨rfl, by first | exact HE.out _ HR.out | (rw [HP.out]; exact HE.out _ HR.out)⟩
      | true =>
        simp only [hv] at HNV
        cases hy : nameB ty.data.toList with
        | false =>
          rw [if_pos (Or.inr (Or.inr (show nameB (nb ty) = false from hy))), if_pos (by decide)]
          simp only [hy] at HNT
          clear HCD hn hkl hkn
          go_enter Try.func47, Try.ntmps47
          go_wp2_with fail
          rw [← HW.out, ← HP.out]
          obtain ⟨x0, x1, x2, x3, x4⟩ := HX.out _ HR.out
          go_wp2_with (first | (go_at_call 39; first | ((with_reducible refine (HNV.out _).mono ?_); rintro e u ⟨rfl, rfl⟩; clear HNV) | ((with_reducible refine (HNT.out _).mono ?_); rintro e u ⟨rfl, rfl⟩)))
          go_ret
          exact ⟨rfl, by first | exact HE.out _ HR.out | (rw [HP.out]; exact HE.out _ HR.out)⟩
        | true =>
          rw [if_neg (show ¬ (0 < 0 ∨ nameB (nb var) = false ∨ nameB (nb ty) = false) from fun h => h.elim hn (fun h => h.elim (fun h => by rw [show nameB (nb var) = true from hv] at h; cases h) (fun h => by rw [show nameB (nb ty) = true from hy] at h; cases h)))]
          simp only [hy] at HNT
          have hres : (if condsE tests [] ≠ 0 then condsE tests [] else nodeF K) = condsE tests [] := by
            split
            · rfl
            · rename_i hh; rw [hkn, Classical.not_not.1 hh]; rfl
          rw [hres]
          clear hn hres hkl hkn hv hy
          by_cases h16 : 16 < tests.length
          · have t1 : (16 : Int) < (tests.length : Int) := by omega
            have t1' := decide_eq_true t1
            rw [show condsE tests [] = 74 from by unfold condsE; rw [if_pos h16]]
            clear h16 HCD
            go_enter Try.func47, Try.ntmps47
            go_wp2_with fail
            rw [← HW.out, ← HP.out]
            obtain ⟨x0, x1, x2, x3, x4⟩ := HX.out _ HR.out
            go_wp2_with (first | (go_at_call 39; first | ((with_reducible refine (HNV.out _).mono ?_); rintro e u ⟨rfl, rfl⟩; clear HNV) | ((with_reducible refine (HNT.out _).mono ?_); rintro e u ⟨rfl, rfl⟩)))
            go_ret
            exact ⟨rfl, by first | exact HE.out _ HR.out | (rw [HP.out]; exact HE.out _ HR.out)⟩
          · have t1 : ¬ (16 : Int) < (tests.length : Int) := by omega
            have t1' := decide_eq_false t1
            have HC0 : Hid ((∀ c ∈ tests, okC c [] = true) → condsE tests [] = 0) := Lib.hid (fun h => by unfold condsE; rw [if_neg h16, if_pos (List.all_eq_true.2 h)])
            have HC1 : Hid (∀ c ∈ tests, okC c [] = false → condsE tests [] = 74) := Lib.hid (fun c hc h => condsE_bad hc h)
            generalize condsE tests [] = E at HC0 HC1 ⊢
            clear h16
            go_enter Try.func47, Try.ntmps47
            go_wp2_with fail
            rw [← HW.out, ← HP.out]
            obtain ⟨x0, x1, x2, x3, x4⟩ := HX.out _ HR.out
            go_wp2_with (first | (go_at_call 39; first | ((with_reducible refine (HNV.out _).mono ?_); rintro e u ⟨rfl, rfl⟩; clear HNV) | ((with_reducible refine (HNT.out _).mono ?_); rintro e u ⟨rfl, rfl⟩)))
            go_loopw [3, 4] (fun iv _ wr => ∃ i : Nat, i ≤ tests.length ∧ iv = .int .i64 (i : Int) ∧ Hid (Below W.heap.size W wr) ∧ Hid (∀ c ∈ tests.take i, okC c [] = true)) (fun iv _ _ => tests.length - (intOf iv).toNat)
            case atStart => exact ⟨0, Nat.zero_le _, rfl, HR, Lib.hid (fun c hc => by simp at hc)⟩
            case round =>
              obtain ⟨i, hi, rfl, HB, HV⟩ := hrel
              clear x0 x1 x2 x3 x4
              obtain ⟨x0, x1, x2, x3, x4⟩ := HX.out _ HB.out
              by_cases hlt : i < tests.length
              · have hlti : (i : Int) < (tests.length : Int) := by omega
                have hlti' := decide_eq_true hlti
                have hls := wr7t hlt HTL.out
                obtain ⟨b, o, rfl, hc⟩ := HCD.out i hlt
                have HMM : Hid (tests[i] ∈ tests) := Lib.hid (List.getElem_mem hlt)
                have HTK : Hid (tests.take (i + 1) = tests.take i ++ [tests[i]]) := Lib.hid (List.take_succ_eq_append_getElem hlt)
                have hcu := hc _ HB.out
                clear hc hi
                generalize tests[i] = c at HMM HTK hcu
                obtain ⟨⟨lv, la, lk, ln, ls⟩, rel, ⟨rv, ra, rk, rn, rs⟩⟩ := c
                obtain ⟨c0, c1, c2, c3, c4, c5, c6, c7, c8, c9, c10, hcall⟩ := hcu
                unfold cdV at hcall
                simp only at hcall c0 c1 c2 c3 c4 c5 c6 c7 c8 c9 c10
                cases hok : okC ⟨⟨lv, la, lk, ln, ls⟩, rel, ⟨rv, ra, rk, rn, rs⟩⟩ [] with
                | false =>
                  rw [show condE ⟨⟨lv, la, lk, ln, ls⟩, rel, ⟨rv, ra, rk, rn, rs⟩⟩ [] = 74 from by unfold condE; rw [hok]; rfl] at hcall
                  have HEE := Lib.hid (HC1.out _ HMM.out hok)
                  have HC := Lib.hid hcall
                  clear hcall hok
                  go_wp2_with (first | (go_at_call 29; (with_reducible refine HC.out.mono ?_); rintro e u2 ⟨rfl, hb⟩; have HB2 := Lib.hid hb; clear hb x0 x1 x2 x3 x4 c0 c1 c2 c3 c4 c5 c6 c7 c8 c9 c10))
                  go_ret
                  exact ⟨by rw [HEE.out]; rfl, HE.out _ HB2.out⟩
                | true =>
                  rw [show condE ⟨⟨lv, la, lk, ln, ls⟩, rel, ⟨rv, ra, rk, rn, rs⟩⟩ [] = 0 from by unfold condE; rw [hok]; rfl] at hcall
                  have HOK := Lib.hid hok
                  have HC := Lib.hid hcall
                  clear hcall hok
                  go_wp2_with (first | (go_at_call 29; (with_reducible refine HC.out.mono ?_); rintro e u2 ⟨rfl, hb⟩; have HB2 := Lib.hid hb; clear hb x0 x1 x2 x3 x4 c0 c1 c2 c3 c4 c5 c6 c7 c8 c9 c10; obtain ⟨x0, x1, x2, x3, x4⟩ := HX.out _ HB2.out))
                  go_roundw
                  all_goals first
                    | exact ⟨i + 1, hlt, by go_num, HB2, Lib.hid (fun c hc => by rw [HTK.out, List.mem_append, List.mem_singleton] at hc; exact hc.elim (HV.out c) (fun e => e ▸ HOK.out))⟩
                    | exact meas7t hlt
                    | (rw [hls]; exact meas7t hlt)
              · obtain rfl : i = tests.length := by omega
                have hnl : ¬ ((tests.length : Int) < (tests.length : Int)) := by omega
                have hv := HV.out
                rw [List.take_length] at hv
                have HEE := Lib.hid (HC0.out hv)
                clear hlt hi hv
                go_wp2_with fail
                go_loopw [5, 6] (fun iv _ wr => iv = .int .i64 0 ∧ Hid (Below W.heap.size W wr)) (fun _ _ _ => 0)
                case atStart => exact ⟨rfl, HB⟩
                case round =>
                  obtain ⟨rfl, HB⟩ := hrel
                  clear x0 x1 x2 x3 x4
                  obtain ⟨x0, x1, x2, x3, x4⟩ := HX.out _ HB.out
                  go_wp2
                  go_ret
                  exact ⟨by rw [HEE.out]; rfl, HE.out _ HB.out⟩
  · rw [if_neg h1]
    have b1 : (kind == 1) = false := beq_eq_false_iff_ne.2 h1
    clear HNV HNT HCD
    by_cases h2 : kind = 2 ∨ kind = 3 ∨ kind = 4
    · rw [if_pos h2]
      by_cases hn : 2 ≤ K.len
      · have g1 : ¬ (K.len : Int) < 2 := by omega
        have g1' := decide_eq_false g1
        by_cases hv : var = em
        · by_cases hy : ty = em
          · by_cases hts : tests = []
            · rw [if_pos (show 2 ≤ K.len ∧ var = em ∧ ty = em ∧ tests = [] from ⟨hn, hv, hy, hts⟩), if_neg (show ¬ ((0 : Int) ≠ 0) from by simp)]
              subst hv hy hts
              rw [List.length_nil] at HX HW
              unfold em at *
              clear hn
              rcases h2 with rfl | rfl | rfl
              · go_enter Try.func47, Try.ntmps47
                go_wp2_with fail
                rw [← HW.out, ← HP.out]
                obtain ⟨x0, x1, x2, x3, x4⟩ := HX.out _ HR.out
                go_wp2_with fail
                go_loopw [5, 6] (fun iv _ wr => ∃ i : Nat, i ≤ K.len ∧ iv = .int .i64 (i : Int) ∧ Hid (Below W.heap.size W wr) ∧ Hid (nodeF K = nodeF (K.drop i))) (fun iv _ _ => K.len - (intOf iv).toNat)
                case atStart => exact ⟨0, Nat.zero_le _, rfl, HR, Lib.hid (by rw [Fo.drop_zero])⟩
                case round =>
                  obtain ⟨i, hi, rfl, HB, HV⟩ := hrel
                  clear x0 x1 x2 x3 x4
                  obtain ⟨x0, x1, x2, x3, x4⟩ := HX.out _ HB.out
                  by_cases hlt : i < K.len
                  · have hlti : (i : Int) < (K.len : Int) := by omega
                    have hlti' := decide_eq_true hlti
                    have hls := wr7t hlt HLEN.out
                    obtain ⟨b, o, d2, k2, rfl, hd, hc⟩ := HK.out i hlt
                    obtain ⟨ta2, tc2, ka2, kc2, c0, c1, c2, c3, c4, hcall⟩ := hc _ HB.out
                    have HD := Lib.hid (nodeF_drop hd)
                    clear hd hc hi
                    by_cases h0 : nodeN d2 k2 = 0
                    · rw [h0] at hcall HD
                      have HC := Lib.hid hcall
                      clear hcall h0
                      go_wp2_with (first | (go_at_call 47; (with_reducible refine HC.out.mono ?_); rintro e u2 ⟨rfl, hb⟩; have HB2 := Lib.hid hb; clear hb x0 x1 x2 x3 x4 c0 c1 c2 c3 c4; obtain ⟨x0, x1, x2, x3, x4⟩ := HX.out _ HB2.out))
                      go_roundw
                      all_goals first
                        | exact ⟨i + 1, hlt, by go_num, HB2, Lib.hid (by rw [HV.out, HD.out]; simp)⟩
                        | exact meas7t hlt
                        | (rw [hls]; exact meas7t hlt)
                    · have HN := Lib.hid (show nodeF K = nodeN d2 k2 from by rw [HV.out, HD.out, if_pos h0])
                      generalize nodeN d2 k2 = E2 at hcall h0 HN
                      have n1 : (E2 == 0) = false := beq_eq_false_iff_ne.2 h0
                      have n3 : (E2 != 0) = true := bne_iff_ne.2 h0
                      have HC := Lib.hid hcall
                      clear hcall HD
                      go_wp2_with (first | (go_at_call 47; (with_reducible refine HC.out.mono ?_); rintro e u2 ⟨rfl, hb⟩; have HB2 := Lib.hid hb; clear hb x0 x1 x2 x3 x4 c0 c1 c2 c3 c4))
                      go_ret
                      exact ⟨by rw [HN.out]; rfl, HE.out _ HB2.out⟩
                  · obtain rfl : i = K.len := by omega
                    have hnl : ¬ ((K.len : Int) < (K.len : Int)) := by omega
                    have HN := Lib.hid (show nodeF K = 0 from by rw [HV.out, Fo.drop_end (Nat.le_refl _)]; rfl)
                    clear hlt hi
                    go_wp2
                    go_ret
                    exact ⟨by rw [HN.out]; rfl, HE.out _ HB.out⟩
              · go_enter Try.func47, Try.ntmps47
                go_wp2_with fail
                rw [← HW.out, ← HP.out]
                obtain ⟨x0, x1, x2, x3, x4⟩ := HX.out _ HR.out
                go_wp2_with fail
                go_loopw [5, 6] (fun iv _ wr => ∃ i : Nat, i ≤ K.len ∧ iv = .int .i64 (i : Int) ∧ Hid (Below W.heap.size W wr) ∧ Hid (nodeF K = nodeF (K.drop i))) (fun iv _ _ => K.len - (intOf iv).toNat)
                case atStart => exact ⟨0, Nat.zero_le _, rfl, HR, Lib.hid (by rw [Fo.drop_zero])⟩
                case round =>
                  obtain ⟨i, hi, rfl, HB, HV⟩ := hrel
                  clear x0 x1 x2 x3 x4
                  obtain ⟨x0, x1, x2, x3, x4⟩ := HX.out _ HB.out
                  by_cases hlt : i < K.len
                  · have hlti : (i : Int) < (K.len : Int) := by omega
                    have hlti' := decide_eq_true hlti
                    have hls := wr7t hlt HLEN.out
                    obtain ⟨b, o, d2, k2, rfl, hd, hc⟩ := HK.out i hlt
                    obtain ⟨ta2, tc2, ka2, kc2, c0, c1, c2, c3, c4, hcall⟩ := hc _ HB.out
                    have HD := Lib.hid (nodeF_drop hd)
                    clear hd hc hi
                    by_cases h0 : nodeN d2 k2 = 0
                    · rw [h0] at hcall HD
                      have HC := Lib.hid hcall
                      clear hcall h0
                      go_wp2_with (first | (go_at_call 47; (with_reducible refine HC.out.mono ?_); rintro e u2 ⟨rfl, hb⟩; have HB2 := Lib.hid hb; clear hb x0 x1 x2 x3 x4 c0 c1 c2 c3 c4; obtain ⟨x0, x1, x2, x3, x4⟩ := HX.out _ HB2.out))
                      go_roundw
                      all_goals first
                        | exact ⟨i + 1, hlt, by go_num, HB2, Lib.hid (by rw [HV.out, HD.out]; simp)⟩
                        | exact meas7t hlt
                        | (rw [hls]; exact meas7t hlt)
                    · have HN := Lib.hid (show nodeF K = nodeN d2 k2 from by rw [HV.out, HD.out, if_pos h0])
                      generalize nodeN d2 k2 = E2 at hcall h0 HN
                      have n1 : (E2 == 0) = false := beq_eq_false_iff_ne.2 h0
                      have n3 : (E2 != 0) = true := bne_iff_ne.2 h0
                      have HC := Lib.hid hcall
                      clear hcall HD
                      go_wp2_with (first | (go_at_call 47; (with_reducible refine HC.out.mono ?_); rintro e u2 ⟨rfl, hb⟩; have HB2 := Lib.hid hb; clear hb x0 x1 x2 x3 x4 c0 c1 c2 c3 c4))
                      go_ret
                      exact ⟨by rw [HN.out]; rfl, HE.out _ HB2.out⟩
                  · obtain rfl : i = K.len := by omega
                    have hnl : ¬ ((K.len : Int) < (K.len : Int)) := by omega
                    have HN := Lib.hid (show nodeF K = 0 from by rw [HV.out, Fo.drop_end (Nat.le_refl _)]; rfl)
                    clear hlt hi
                    go_wp2
                    go_ret
                    exact ⟨by rw [HN.out]; rfl, HE.out _ HB.out⟩
              · go_enter Try.func47, Try.ntmps47
                go_wp2_with fail
                rw [← HW.out, ← HP.out]
                obtain ⟨x0, x1, x2, x3, x4⟩ := HX.out _ HR.out
                go_wp2_with fail
                go_loopw [5, 6] (fun iv _ wr => ∃ i : Nat, i ≤ K.len ∧ iv = .int .i64 (i : Int) ∧ Hid (Below W.heap.size W wr) ∧ Hid (nodeF K = nodeF (K.drop i))) (fun iv _ _ => K.len - (intOf iv).toNat)
                case atStart => exact ⟨0, Nat.zero_le _, rfl, HR, Lib.hid (by rw [Fo.drop_zero])⟩
                case round =>
                  obtain ⟨i, hi, rfl, HB, HV⟩ := hrel
                  clear x0 x1 x2 x3 x4
                  obtain ⟨x0, x1, x2, x3, x4⟩ := HX.out _ HB.out
                  by_cases hlt : i < K.len
                  · have hlti : (i : Int) < (K.len : Int) := by omega
                    have hlti' := decide_eq_true hlti
                    have hls := wr7t hlt HLEN.out
                    obtain ⟨b, o, d2, k2, rfl, hd, hc⟩ := HK.out i hlt
                    obtain ⟨ta2, tc2, ka2, kc2, c0, c1, c2, c3, c4, hcall⟩ := hc _ HB.out
                    have HD := Lib.hid (nodeF_drop hd)
                    clear hd hc hi
                    by_cases h0 : nodeN d2 k2 = 0
                    · rw [h0] at hcall HD
                      have HC := Lib.hid hcall
                      clear hcall h0
                      go_wp2_with (first | (go_at_call 47; (with_reducible refine HC.out.mono ?_); rintro e u2 ⟨rfl, hb⟩; have HB2 := Lib.hid hb; clear hb x0 x1 x2 x3 x4 c0 c1 c2 c3 c4; obtain ⟨x0, x1, x2, x3, x4⟩ := HX.out _ HB2.out))
                      go_roundw
                      all_goals first
                        | exact ⟨i + 1, hlt, by go_num, HB2, Lib.hid (by rw [HV.out, HD.out]; simp)⟩
                        | exact meas7t hlt
                        | (rw [hls]; exact meas7t hlt)
                    · have HN := Lib.hid (show nodeF K = nodeN d2 k2 from by rw [HV.out, HD.out, if_pos h0])
                      generalize nodeN d2 k2 = E2 at hcall h0 HN
                      have n1 : (E2 == 0) = false := beq_eq_false_iff_ne.2 h0
                      have n3 : (E2 != 0) = true := bne_iff_ne.2 h0
                      have HC := Lib.hid hcall
                      clear hcall HD
                      go_wp2_with (first | (go_at_call 47; (with_reducible refine HC.out.mono ?_); rintro e u2 ⟨rfl, hb⟩; have HB2 := Lib.hid hb; clear hb x0 x1 x2 x3 x4 c0 c1 c2 c3 c4))
                      go_ret
                      exact ⟨by rw [HN.out]; rfl, HE.out _ HB2.out⟩
                  · obtain rfl : i = K.len := by omega
                    have hnl : ¬ ((K.len : Int) < (K.len : Int)) := by omega
                    have HN := Lib.hid (show nodeF K = 0 from by rw [HV.out, Fo.drop_end (Nat.le_refl _)]; rfl)
                    clear hlt hi
                    go_wp2
                    go_ret
                    exact ⟨by rw [HN.out]; rfl, HE.out _ HB.out⟩
            · rw [if_neg (show ¬ (2 ≤ K.len ∧ var = em ∧ ty = em ∧ tests = []) from fun h => hts h.2.2.2), if_pos (by decide)]
              have t0 : (0 : Int) < (tests.length : Int) := by have := List.length_pos_iff.2 hts; omega
              have t0' := decide_eq_true t0
              subst hv hy
              unfold em at *
              clear HK HTL hts hn
              generalize tests.length = m at *
              rcases h2 with rfl | rfl | rfl
              all_goals go_enter Try.func47, Try.ntmps47
              all_goals go_wp2_with fail
              all_goals rw [← HW.out, ← HP.out]
              all_goals obtain ⟨x0, x1, x2, x3, x4⟩ := HX.out _ HR.out
              all_goals go_wp2
              all_goals go_ret
              all_goals exact ⟨rfl, by first | exact HE.out _ HR.out | (rw [HP.out]; exact HE.out _ HR.out)⟩
          · rw [if_neg (show ¬ (2 ≤ K.len ∧ var = em ∧ ty = em ∧ tests = []) from fun h => hy h.2.2.1), if_pos (by decide)]
            have n1 := ne_em2 hy; have n2 := ne_em3 hy
            subst hv
            unfold em at *
            clear hy HK hn
            rcases h2 with rfl | rfl | rfl
            all_goals go_enter Try.func47, Try.ntmps47
            all_goals go_wp2_with fail
            all_goals rw [← HW.out, ← HP.out]
            all_goals obtain ⟨x0, x1, x2, x3, x4⟩ := HX.out _ HR.out
            all_goals go_wp2
            all_goals go_ret
            all_goals exact ⟨rfl, by first | exact HE.out _ HR.out | (rw [HP.out]; exact HE.out _ HR.out)⟩
        · rw [if_neg (show ¬ (2 ≤ K.len ∧ var = em ∧ ty = em ∧ tests = []) from fun h => hv h.2.1), if_pos (by decide)]
          have n1 := ne_em2 hv; have n2 := ne_em3 hv
          clear hv HK hn
          rcases h2 with rfl | rfl | rfl
          all_goals go_enter Try.func47, Try.ntmps47
          all_goals go_wp2_with fail
          all_goals rw [← HW.out, ← HP.out]
          all_goals obtain ⟨x0, x1, x2, x3, x4⟩ := HX.out _ HR.out
          all_goals go_wp2
          all_goals go_ret
          all_goals exact ⟨rfl, by first | exact HE.out _ HR.out | (rw [HP.out]; exact HE.out _ HR.out)⟩
      · rw [if_neg (show ¬ (2 ≤ K.len ∧ var = em ∧ ty = em ∧ tests = []) from fun h => hn h.1), if_pos (by decide)]
        have g1 : (K.len : Int) < 2 := by omega
        have g1' := decide_eq_true g1
        clear hn HK
        rcases h2 with rfl | rfl | rfl
        all_goals go_enter Try.func47, Try.ntmps47
        all_goals go_wp2_with fail
        all_goals rw [← HW.out, ← HP.out]
        all_goals obtain ⟨x0, x1, x2, x3, x4⟩ := HX.out _ HR.out
        all_goals go_wp2
        all_goals go_ret
        all_goals exact ⟨rfl, by first | exact HE.out _ HR.out | (rw [HP.out]; exact HE.out _ HR.out)⟩
    · rw [if_neg h2, if_pos (by decide)]
      have b2 : (kind == 2) = false := beq_eq_false_iff_ne.2 (fun h => h2 (.inl h))
      have b3 : (kind == 3) = false := beq_eq_false_iff_ne.2 (fun h => h2 (.inr (.inl h)))
      have b4 : (kind == 4) = false := beq_eq_false_iff_ne.2 (fun h => h2 (.inr (.inr h)))
      clear h1 h2 HK
      go_enter Try.func47, Try.ntmps47
      go_wp2_with fail
      rw [← HW.out, ← HP.out]
      obtain ⟨x0, x1, x2, x3, x4⟩ := HX.out _ HR.out
      go_wp2
      go_ret
      exact ⟨rfl, by first | exact HE.out _ HR.out | (rw [HP.out]; exact HE.out _ HR.out)⟩
end Go.Proofs.Ytmjajoepgilokaa
