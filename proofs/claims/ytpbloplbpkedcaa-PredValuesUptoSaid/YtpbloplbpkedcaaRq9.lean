/- Contract: ranks, the map of all attributes' texts, each with its place among them. -/
import Derived.Test.YtpbloplbpkedcaaRm9
import Derived.Test.YtpbloplbpkedcaaAp9
import Derived.Test.YtpbloplbpkedcaaSx9
import Derived.Test.YtpbloplbpkedcaaBf9
namespace Go.Proofs.Ytpbloplbpkedcaa
open Go Go.RowKit Go.Sort Go.Maps Go.WideMaps

theorem strsB_take (bs : List Bd) (k : Nat) (x : Bd) (h : bs[k]? = some x) : strsB (bs.take (k + 1)) = strsB (bs.take k) ++ strsA x.ats := by
  obtain ⟨hk, rfl⟩ := List.getElem?_eq_some_iff.1 h
  unfold strsB
  rw [List.take_succ_eq_append_getElem hk, List.flatMap_append]
  simp
theorem strsA_take (xs : List At) (k : Nat) (h : k < xs.length) : strsA (xs.take (k + 1)) = strsA (xs.take k) ++ [nb xs[k].s] := by
  unfold strsA
  rw [List.take_succ_eq_append_getElem h, List.map_append]; rfl
theorem strsB_cons (x : Bd) (r : List Bd) : strsB (x :: r) = strsA x.ats ++ strsB r := by simp [strsB]
theorem strsA_len (xs : List At) : (strsA xs).length = xs.length := by simp [strsA]
theorem strsB_len : ∀ bs : List Bd, (strsB bs).length + bs.length ≤ attrsB bs
  | [] => Nat.le_refl _
  | x :: r => by
    have := strsB_len r
    rw [strsB_cons, List.length_append, strsA_len, attrsB, List.length_cons]; omega
theorem strsB_pre (bs : List Bd) (k : Nat) (x : Bd) (h : bs[k]? = some x) (j : Nat) : (strsB (bs.take k)).length + (strsA (x.ats.take j)).length ≤ (strsB bs).length := by
  obtain ⟨hk, rfl⟩ := List.getElem?_eq_some_iff.1 h
  have e : strsB bs = strsB (bs.take (k + 1)) ++ strsB (bs.drop (k + 1)) := by
    unfold strsB; rw [← List.flatMap_append, List.take_append_drop]
  rw [e, strsB_take bs k _ h, List.length_append, List.length_append]
  unfold strsA
  rw [List.length_map, List.length_map, List.length_take]; omega
theorem srt_below9 {w w' : World} {base : Nat} {v : Value} {l : List Nm} (h : SrtV w base v l) (hb : Below w.heap.size w w') : SrtV w' base v l := by
  obtain ⟨ao, cap, rfl, h1, h2, hh⟩ := h
  refine ⟨ao, cap, rfl, h1, h2, fun hl => ?_⟩
  obtain ⟨g, e, hg1, hg2, hH⟩ := hh hl
  exact ⟨g, e, hg1, Nat.lt_of_lt_of_le hg2 hb.size, fun j hj => ⟨(hb.cell (p := ⟨g, _, none⟩) hg2).trans (hH j hj).1, (hb.frozen (p := ⟨g, _, none⟩) hg2).trans (hH j hj).2⟩⟩
theorem some_eq9 {x M : Nat} (h : some x = some M ∨ some M = some x) : x = M := by
  rcases h with h | h <;> simpa [eq_comm] using h
/-- A map in which each text of a row has its place. -/
def RkAt (w : World) (b : Nat) (l : List Nm) : Prop :=
  ∃ n D, w.ownsMap Try.prog 9 (plainElem (H := Unit) Try.prog 3) b n D ∧ ∀ i (h : i < l.length), D.atKey (.string l[i]) (.lit (.int .i64 0)) = .lit (.int .i64 (i : Int))
theorem RkAt.below {w w' : World} {b : Nat} {l : List Nm} (h : RkAt w b l) (hb : w'.heap[b]? = w.heap[b]?) : RkAt w' b l := by
  obtain ⟨n, D, ⟨es, c, h4, h5⟩, h3⟩ := h
  exact ⟨n, D, ⟨es, c, hb.trans h4, h5⟩, h3⟩
theorem RkAt.lt {w : World} {b : Nat} {l : List Nm} (h : RkAt w b l) : b < w.heap.size := by
  obtain ⟨n, D, h2, _⟩ := h; exact h2.lt
theorem intE (x : Int) (h : (Lit.int .i64 x).wf = true) : plainElem (H := Unit) Try.prog 3 (.int .i64 x) = some (.lit (.int .i64 x), []) := by
  unfold plainElem
  rw [Try.underlying3]
  simp [h]
theorem wf_small {i : Nat} (h : i ≤ 140737488355328) : (Lit.int .i64 (i : Int)).wf = true := by
  show (decide (IntKind.i64.min ≤ (i : Int)) && decide ((i : Int) ≤ IntKind.i64.max)) = true
  rw [show IntKind.i64.min = -9223372036854775808 from by decide, show IntKind.i64.max = 9223372036854775807 from by decide]
  simp; omega
theorem atKey_step {D : DataW Unit} (hD : IsMap D) {l : List Nm} (hp : l.Pairwise (fun x y => x < y)) {k : Nat} (hk : k < l.length)
    (h : ∀ i (h : i < l.length), i < k → D.atKey (.string l[i]) (.lit (.int .i64 0)) = .lit (.int .i64 (i : Int))) :
    ∀ i (h : i < l.length), i < k + 1 → (D.put (.string l[k]) (.lit (.int .i64 (k : Int)))).atKey (.string l[i]) (.lit (.int .i64 0)) = .lit (.int .i64 (i : Int)) := by
  intro i hi hik
  rcases Nat.lt_succ_iff_lt_or_eq.1 hik with h1 | rfl
  · have hne : l[i] ≠ l[k] := fun e => by
      have := List.pairwise_iff_getElem.1 hp i k hi hk h1
      rw [e] at this; exact List.lt_irrefl _ this
    rw [atKey_put_other (by intro e; exact hne (by injection e))]
    exact h i hi h1
  · exact atKey_put_same hD (by first | exact trivial | simp [WideAt.IsKeyLit]) _ _

set_option maxRecDepth 100000 in
set_option maxHeartbeats 4000000 in
theorem pRanks_any (B : Nat) (ao : Option Addr) (n cap : Nat) (bs : List Bd) (w : World) (h : BsV w B (.slice ao n cap) bs) (hB : B ≤ w.heap.size) (hT : attrsB bs ≤ 1048576) (hws : ∀ s ∈ strsB bs, s.length ≤ maxLen) :
    Calls Try.prog 79 #[.slice ao n cap] w fun e w' => ∃ b, e = .returned (.map (some b)) ∧ RkAt w' b (compS (sortS (strsB bs))) ∧ w.heap.size ≤ b ∧ Below w.heap.size w w' := by
  obtain ⟨i0, hi, hz0, hz1, hz2⟩ := info_parts infoS7
  have hnl : n = bs.length := by obtain ⟨_, _, he, _⟩ := h; simp only [Value.slice.injEq] at he; exact he.2.1
  have hsl := strsB_len bs
  have HSL : Hid ((strsB bs).length ≤ 1048576 ∧ n ≤ 1048576) := Lib.hid (by omega)
  have HH := Lib.hid (fun (u : World) (hu : Below w.heap.size w u) => h.below hu hB)
  have HB := Lib.hid hB; have HNL := Lib.hid hnl; have HWS := Lib.hid hws
  have HDP := Lib.hid (dist_lt (strsB bs)); have HDL := Lib.hid (dist_len (strsB bs)); have HDM := Lib.hid (fun s (hs : s ∈ compS (sortS (strsB bs))) => (by
    obtain ⟨j, hj, e⟩ := (comp_inv (sortS (strsB bs)) (sortS_le _) _ (Nat.le_refl _)).2.2 s hs
    rw [e, getElem!_pos _ j hj]
    have := List.getElem_mem hj
    unfold sortS at this
    exact List.mem_mergeSort.1 this : s ∈ strsB bs))
  clear h hB hT hnl hsl hws
  go_enter Try.func79, Try.ntmps79
  go_wp2_with fail
  go_loopw [3, 13] (fun v iv wr => ∃ k : Nat, k ≤ n ∧ iv = .int .i64 k ∧ Hid (SOwn wr w.heap.size v (strsB (bs.take k))) ∧ Hid (Below w.heap.size w wr)) (fun _ iv _ => n - (intOf iv).toNat)
  case atStart => exact ⟨0, Nat.zero_le _, rfl, Lib.hid (World.ownsRow_nil _ _ _ _), Lib.hid (Below.refl _ _)⟩
  case round =>
    obtain ⟨k, hk, rfl, HO, HBR⟩ := hrel
    by_cases hlt : k < n
    · have hlti : (k : Int) < (n : Int) := by omega
      have hls := wr7 hlt (by have := HSL.out; omega)
      obtain ⟨x, hx⟩ : ∃ x, bs[k]? = some x := ⟨_, List.getElem?_eq_getElem (by have := HNL.out; omega)⟩
      obtain ⟨b, o, aa, ac, rfl, hbB, _, _, hc, hav⟩ := (HH.out wr HBR.out).at hx
      obtain ⟨d0, d1, d2, d3, d4, d5⟩ := six_cells hc
      have HXX := Lib.hid hx; have HLT := Lib.hid hlt
      have hbw : b < wr.heap.size := by have := HB.out; have := HBR.out.size; omega
      have hbne : b ≠ wr.heap.size := by omega
      have HAV := Lib.hid (fun (u : World) (hu : Below w.heap.size w u) => hav.keep (w' := u) (fun b2 o2 h2 => by have h3 := HB.out; simp only [World.cell?, hu.block b2 (by omega), HBR.out.block b2 (by omega)]))
      have HAL := Lib.hid hav.len
      have HB1 := Lib.hid (HBR.out.alloc HBR.out.size (.cells #[.string x.var, .int .i64 x.src, .int .i64 x.seq, .int .i64 x.time, .string x.ty, .slice aa x.ats.length ac] 91))
      have HO1 := Lib.hid (HO.out.below ((Below.refl wr.heap.size wr).alloc (Nat.le_refl _) (.cells #[.string x.var, .int .i64 x.src, .int .i64 x.seq, .int .i64 x.time, .string x.ty, .slice aa x.ats.length ac] 91)))
      clear hc hav hx hk hbB hlt
      go_wp2_with fail
      generalize hW : wr.alloc (.cells #[.string x.var, .int .i64 x.src, .int .i64 x.seq, .int .i64 x.time, .string x.ty, .slice aa x.ats.length ac] 91) = W1 at HB1 HO1 ⊢
      clear hW hbw hbne d0 d1 d2 d3 d4 d5
      go_loopw [3, 21] (fun v iv wq => ∃ j : Nat, j ≤ x.ats.length ∧ iv = .int .i64 j ∧ Hid (SOwn wq w.heap.size v (strsB (bs.take k) ++ strsA (x.ats.take j))) ∧ Hid (Below w.heap.size w wq)) (fun _ iv _ => x.ats.length - (intOf iv).toNat)
      case atStart => exact ⟨0, Nat.zero_le _, rfl, by simpa [strsA] using HO1, HB1⟩
      case round =>
        obtain ⟨j, hj, rfl, HOq, HBq⟩ := hrel
        by_cases hlt2 : j < x.ats.length
        · have hlti2 : (j : Int) < (x.ats.length : Int) := by omega
          have hls2 := wr7 hlt2 (by have := HAL.out; omega)
          obtain ⟨b2, o2, rfl, hb2B, _, _, _, hc2⟩ := (HAV.out wr HBq.out).at (Nat.lt_of_le_of_lt (Nat.zero_le j) hlt2)
          obtain ⟨y, hy⟩ : ∃ y, y = x.ats[j]! := ⟨_, rfl⟩
          obtain ⟨e0, e1, e2, e3⟩ := four_cells (w := wr) (b := b2) (a := o2 + j * 4) (x := y) (fun i u hu => hc2 j hlt2 i u (by rw [← hy]; exact hu))
          have HTK := Lib.hid (show strsA (x.ats.take (j + 1)) = strsA (x.ats.take j) ++ [nb y.s] from by rw [hy, getElem!_pos x.ats j hlt2]; exact strsA_take x.ats j hlt2)
          have HROOM := Lib.hid (show (strsB (bs.take k) ++ strsA (x.ats.take j)).length ≤ 1048576 from by rw [List.length_append]; have := strsB_pre bs k x HXX.out j; have := HSL.out; omega)
          have HLT2 := Lib.hid hlt2
          have hbw2 : b2 < wr.heap.size := by have := HB.out; have := HBq.out.size; omega
          have hbne2 : b2 ≠ wr.heap.size := by omega
          have HSW : Hid (w.heap.size ≤ wr.heap.size) := Lib.hid HBq.out.size
          have HAP := Lib.hid (List.append_assoc (strsB (bs.take k)) (strsA (x.ats.take j)) [nb y.s])
          generalize strsB (bs.take k) ++ strsA (x.ats.take j) = L at HOq HROOM HAP
          have HB2 := Lib.hid ((HBq.out.alloc HBq.out.size (.cells #[.string y.name, .int .i64 y.k, .int .i64 y.n, .string y.s] 78)).alloc (by simp; have := HSW.out; omega) (.cells #[.string y.s] 9))
          have HO2 := Lib.hid ((HOq.out.below ((Below.refl wr.heap.size wr).alloc (Nat.le_refl _) (.cells #[.string y.name, .int .i64 y.k, .int .i64 y.n, .string y.s] 78))).below ((Below.refl _ (wr.alloc (.cells #[.string y.name, .int .i64 y.k, .int .i64 y.n, .string y.s] 78))).alloc (Nat.le_refl _) (.cells #[.string y.s] 9)))
          clear hc2 hy hlt2 hj hb2B
          go_wp2_with (first
            | (at_builtin; (refine wpList_append_own _ rfl (.tmp 25) (.tmp 29) 49 rfl w.heap.size 9 i0 (.string ⟨#[]⟩) 1 16 Try.underlying49 hi hz0 hz1 hz2 rfl (by decide) _ L.length (L.map encStr) rfl HO2.out ⟨wr.heap.size + 1, 0, none⟩ 1 1 [.string y.s] rfl rfl (World.news_of_block (by have := heap_alloc_new (wr.alloc (.cells #[.string y.name, .int .i64 y.k, .int .i64 y.n, .string y.s] 78)) (.cells #[.string y.s] 9); simpa using this)) (by intro u hu; simp at hu; subst hu; rfl) (by have := HROOM.out; unfold maxLen; omega) (by have := HROOM.out; omega) (by have := HSW.out; simp; omega) ?_; intro v2 w2 hown2 hgrow2 hnil2; clear hnil2; have HO3 := Lib.hid (SOwn.snoc hown2); have HG3 := Lib.hid hgrow2; have HB3 := Lib.hid (HB2.out.grown hgrow2 (by have := HSW.out; simp; omega) (fun k hk => (HO2.out.lt k hk).1)); clear hown2 hgrow2)))
          go_roundw
          all_goals first
            | exact ⟨j + 1, HLT2.out, by go_num, by rw [HTK.out, ← HAP.out]; exact HO3, HB3⟩
            | exact meas7 HLT2.out
            | (rw [hls2]; exact meas7 HLT2.out)
        · obtain rfl : j = x.ats.length := by omega
          have hnl2 : ¬ ((x.ats.length : Int) < (x.ats.length : Int)) := by omega
          have hTK := strsB_take bs k x HXX.out
          have hfull : strsA (x.ats.take x.ats.length) = strsA x.ats := by rw [List.take_length]
          rw [hfull, ← hTK] at HOq
          clear hlt2 hj hTK hfull
          go_wp2_with fail
          go_roundw
          all_goals first
            | exact ⟨k + 1, HLT.out, by go_num, HOq, HBq⟩
            | exact meas7 HLT.out
            | (rw [hls]; exact meas7 HLT.out)
    · obtain rfl : k = n := by omega
      have hnl : ¬ ((k : Int) < (k : Int)) := by omega
      have hfull : bs.take k = bs := by rw [HNL.out, List.take_length]
      rw [hfull] at HO
      have HSZ : Hid (w.heap.size ≤ wr.heap.size) := Lib.hid HBR.out.size
      have HS := Lib.hid (sort_srt wr w.heap.size _ (strsB bs) (SrtV.of_own HO.out) HSZ.out (by have := HSL.out; omega))
      have HVL := Lib.hid (fun x hx => (HO.out.lt x hx).2)
      have hmm := @run_makeMap Try.prog
      obtain ⟨L, hL⟩ : ∃ L, L = compS (sortS (strsB bs)) := ⟨_, rfl⟩
      have HLL := Lib.hid hL
      rw [← hL] at HDP HDL HDM
      clear hL
      clear hlt hk hfull
      go_wp2_with (first
        | (go_at_call 71; (with_reducible refine HS.out.mono ?_); rintro e u1 ⟨rfl, hs1, hb1, hz1⟩; have HB1 := Lib.hid (HBR.out.trans hb1); have HZ1 := Lib.hid (Nat.le_trans HSZ.out hz1); have HZ2 := Lib.hid hz1; have hs2 := srt_below9 hs1 ((Below.refl u1.heap.size u1).alloc (Nat.le_refl _) (.map #[] 0)); have HC := Lib.hid (comp_srt (u1.alloc (.map #[] 0)) w.heap.size _ _ hs2 (by have := HZ1.out; simp; omega)); clear hs1 hb1 hz1 hs2)
        | (go_at_call 72; (with_reducible refine HC.out.mono ?_); rintro e u2 ⟨v', rfl, hs2, hb2, hz2, hot⟩; have HSV := Lib.hid hs2.ss; have HB2 := Lib.hid ((HB1.out.alloc HZ1.out (.map #[] 0)).trans hb2); have HOM := Lib.hid (hot u1.heap.size (fun e => by have := HVL.out _ e; have := HZ2.out; omega)); have HZ3 := Lib.hid hz2; clear hs2 hb2 hz2 hot; have hsv := HSV.out; rw [← HLL.out] at hsv; obtain ⟨a', c', rfl, hcc⟩ := hsv; have HCC := Lib.hid hcc; clear hcc))
      obtain ⟨M, hM⟩ : ∃ M, M = u1.heap.size := ⟨_, rfl⟩
      have hmade : (u1.alloc (.map #[] 0)).ownsMap Try.prog 9 (plainElem (H := Unit) Try.prog 3) u1.heap.size 0 (.map []) := World.ownsMap_made u1 Try.prog 9 (plainElem (H := Unit) Try.prog 3)
      have hMb : u2.heap[M]? = some (.map #[] 0) := by rw [hM, HOM.out]; exact heap_alloc_new _ _
      have hown0 : u2.ownsMap Try.prog 9 (plainElem (H := Unit) Try.prog 3) M 0 (.map []) := by
        obtain ⟨es, c, h4, h5⟩ := hmade
        exact ⟨es, c, by rw [hM, HOM.out]; exact h4, h5⟩
      have HO0 := Lib.hid hown0
      have HMW : Hid (w.heap.size ≤ M ∧ M < u2.heap.size) := Lib.hid ⟨by rw [hM]; exact HZ1.out, lt_of_block hMb⟩
      have HMB := Lib.hid hMb
      have HLEN : Hid (L.length ≤ 1048576) := Lib.hid (by have := HDL.out; have := HSL.out; omega)
      rw [← hM]
      clear hmade hMb hown0 hM
      go_loopw [39] (fun iv wr => ∃ (k n : Nat) (D : DataW Unit), k ≤ L.length ∧ iv = .int .i64 k ∧ wr.ownsMap Try.prog 9 (plainElem (H := Unit) Try.prog 3) M n D ∧ Hid (n = k) ∧ Hid (∀ i (h : i < L.length), i < k → D.atKey (.string L[i]) (.lit (.int .i64 0)) = .lit (.int .i64 (i : Int))) ∧ Hid (u2.heap.size ≤ wr.heap.size ∧ ∀ x, x < u2.heap.size → x ≠ M → wr.heap[x]? = u2.heap[x]?) ∧ Hid (Below w.heap.size w wr)) (fun iv _ => L.length - (intOf iv).toNat)
      case atStart => exact ⟨0, 0, _, Nat.zero_le _, rfl, HO0.out, Lib.hid rfl, Lib.hid (fun i _ hi => absurd hi (Nat.not_lt_zero _)), Lib.hid ⟨Nat.le_refl _, fun _ _ _ => rfl⟩, HB2⟩
      case round =>
        obtain ⟨k, n, D, hk, rfl, hown, HNK, HD, HK, HBr⟩ := hrel
        by_cases hlt : k < L.length
        · have hlti : (k : Int) < (L.length : Int) := by omega
          have hls := wr7 hlt (by have := HLEN.out; omega)
          obtain ⟨b, o, rfl, hb, hc⟩ := HCC.out (fun h => by rw [h] at hlt; exact absurd hlt (Nat.not_lt_zero _))
          have d0' := hc k _ (List.getElem?_eq_getElem hlt)
          have hbM : b ≠ M := fun e => by
            subst e
            simp [World.cell?, HMB.out] at d0'
          have d0 : wr.cell? ⟨b, o + k, none⟩ = some (.string (ba L[k])) := by
            rw [← d0']
            simp only [World.cell?, HK.out.2 b hb hbM]
          have hsz : (ba L[k]).size ≤ maxLen := by have := HWS.out _ (HDM.out _ (List.getElem_mem hlt)); simpa [ba, ByteArray.size] using this
          have HST := Lib.hid (atKey_step hown.isMap HDP.out hlt HD.out)
          have hkey0 : ∀ x : Nm, (ba x).size ≤ maxLen → keyOf Try.prog 9 (.string (ba x)) = some (.string x) := fun x hx => by have := keyOf_string_mk (P := Try.prog) (k := 9) Try.underlying9 hx; rw [show (ba x).data.toList = x from nb_ba x] at this; exact this
          have hkey := hkey0 _ hsz
          have hnl : n < maxLen := by have := HNK.out; have := HLEN.out; unfold maxLen; omega
          have hval := intE (k : Int) (wf_small (by have := HLEN.out; omega))
          have HLT := Lib.hid hlt
          have hPl := hown.lt
          clear hc hsz hk hkey0 d0'
          generalize L[k] = x at d0 HST hkey
          clear hlt
          go_wp2_with (first
            | (at_mapUpdate; refine wpList_mapUpdate_own _ rfl _ _ _ 85 rfl 9 3 lawS9 Try.underlying85 (plainElem (H := Unit) Try.prog 3) M n D rfl hown hnl _ _ _ rfl rfl hkey _ [] hval ?_; intro w1 hown1 hgrow1)
            | go_in)
          have HN1 := Lib.hid hown1
          have HK1 := Lib.hid (show u2.heap.size ≤ w1.heap.size ∧ ∀ x, x < u2.heap.size → x ≠ M → w1.heap[x]? = u2.heap[x]? from ⟨Nat.le_trans HK.out.1 hgrow1.size, fun x hx hxM => (hgrow1.block x (Nat.lt_of_lt_of_le hx HK.out.1) (fun e => hxM (some_eq9 (by first | exact .inl e | exact .inr e)))).trans (HK.out.2 x hx hxM)⟩)
          have HB1' := Lib.hid (HBr.out.grown hgrow1 HBr.out.size (fun k hk => by cases hk; exact HMW.out.1))
          clear hown1 hgrow1
          go_roundw
          all_goals first
            | exact ⟨k + 1, n + 1, _, HLT.out, by go_num, HN1.out, Lib.hid (by rw [HNK.out]), HST, HK1, HB1'⟩
            | exact meas7 HLT.out
            | (rw [hls]; exact meas7 HLT.out)
        · obtain rfl : k = L.length := by omega
          have hnl : ¬ ((L.length : Int) < (L.length : Int)) := by omega
          have HOO := Lib.hid hown
          clear hlt hk
          go_wp2
          go_ret
          exact ⟨M, rfl, by rw [← HLL.out]; exact ⟨n, D, HOO.out, fun i hi => HD.out i hi hi⟩, HMW.out.1, HBr.out⟩
end Go.Proofs.Ytpbloplbpkedcaa
