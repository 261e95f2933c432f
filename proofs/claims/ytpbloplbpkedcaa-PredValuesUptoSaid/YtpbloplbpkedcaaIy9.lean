/- Contract: indexed: the walk. -/
import Derived.Test.YtpbloplbpkedcaaIx9
import Derived.Test.YtpbloplbpkedcaaWp0
namespace Go.Proofs.Ytpbloplbpkedcaa
open Go Go.RowKit Go.Sort Go.Maps Go.WideMaps

theorem wpList_lookup_ok9 {H : Type} {P : Program} (w : World) {ops : Array Oper} {rest : List Oper} {o : Oper} {a : Act} {Q : Exit → Act → World → Prop}
    (hg : o.guard = none) (m x : Operand) (t : TypeId) (hop : o.op = Op.lookup t m x true)
    (k e : TypeId) (K : Keyed P k) (ht : P.underlying t = some (.map k e)) (R : Value → Option (DataW H × List MemPlace)) {z : Value} (hz : (zeroValue e).run P w = .ok z w) (zd : DataW H) (zp : List MemPlace) (hzd : R z = some (zd, zp)) (b n : Nat) (D : DataW H)
    (hm : a.eval m = .map (some b)) (hown : w.ownsMap P k R b n D) (key : Value) (kl : Lit) (hx : a.eval x = key) (hkey : keyOf P k key = some kl) (val : Value) (hval : ∀ v ps, R v = some (D.atKey kl zd, ps) → v = val) (bb : Bool) (hh : Maps.has D kl = bb)
    (hK : wpList P ops Q rest (a.put o.dst (.tuple #[val, .bool bb])) w) : wpList P ops Q (o :: rest) a w :=
  wpList_lookup_own_ok w hg m x t hop k e K ht R hz zd zp hzd b n D hm hown key kl hx hkey (fun v ps hv => by
    obtain rfl := hval v ps hv
    rw [hh]; exact hK)

theorem step_mapUpdate9 {H : Type} {P : Program} {w : World} {ops : Array Oper} {o : Oper} {a : Act} {K : Act → World → Prop} {Q : Exit → Act → World → Prop} {E : Prop}
    (hg : o.guard = none) (m x v : Operand) (t : TypeId) (hop : o.op = Op.mapUpdate t m x v)
    (k e : TypeId) (KK : Keyed P k) (ht : P.underlying t = some (.map k e)) (R : Value → Option (DataW H × List MemPlace)) (b n : Nat) (D : DataW H)
    (hm : a.eval m = .map (some b)) (hown : w.ownsMap P k R b n D) (hn : n < maxLen) (key val : Value) (kl : Lit) (hx : a.eval x = key) (hv : a.eval v = val) (hkey : keyOf P k key = some kl)
    (d : DataW H) (ps : List MemPlace) (hval : R val = some (d, ps))
    (hK : ∀ w', w'.ownsMap P k R b (n + 1) (D.put kl d) → w.grownBy w' (some b) → K (a.put o.dst undef) w') :
    if Region.wanted o (yielded ops a.tmps) = true then Oper.wp P o a w K Q else E := by
  rw [if_pos (by simp [Region.wanted, hg])]
  obtain ⟨w', hrun, r1, r2⟩ := hown.update KK ht hn hkey hval
  unfold Oper.wp
  simp [execOp, hop, hm, hx, hv, hrun, Result.andThen]
  exact hK w' r1 r2
theorem Hd9.all {P A mo k r : Nat} {y : At} {u : World} (h : Hd9 P A mo k r y u) : u.cell? ⟨P + 1 + 1 + 1, 1, none⟩ = some (.map (some (P + 1 + 1))) ∧ u.cell? ⟨A + 1, 0, none⟩ = some (.int .i64 (k : Int)) ∧ u.cell? ⟨A + 1, 1, none⟩ = some (.string y.name) ∧
    u.cell? ⟨A, 1, none⟩ = some (.int .i64 y.k) ∧ u.cell? ⟨A, 2, none⟩ = some (.int .i64 y.n) ∧ u.cell? ⟨A, 3, none⟩ = some (.string y.s) ∧ (Instr.lookup 85 (.map (some mo)) (.string y.s) false).run Try.prog u = .ok (.int .i64 (r : Int)) u := ⟨h.x1, h.s0, h.s1, h.a1, h.a2, h.a3, h.lk⟩
theorem rank_le9 (l : List Nm) (s : Nm) : rankIn l s ≤ l.length := List.idxOf_le_length
theorem num_rank {L : List Nm} {x : Nm} (h : L.length ≤ 1048576) (hr : rankIn L x ≤ L.length) : rankIn L x < 4294967296 := by omega
theorem idx_small {bs : List Bd} (h : bs.length ≤ 1048576) : ∀ v i, (idxOf bs).1 v = some i → i ≤ 140737488355328 := by
  intro v i hi
  obtain ⟨h1, h2, _⟩ := tells_all (rankIn (compS (sortS (strsB bs)))) bs
  cases hf : bs.find? (isV v) with
  | none => rw [show (idxOf bs).1 v = none from h1 v hf] at hi; cases hi
  | some b =>
    obtain ⟨j, hj, e, _⟩ := h2 v b hf
    rw [show (idxOf bs).1 v = some j from e] at hi
    cases hi
    omega
theorem num_ng {a b c d nG2 nG j : Nat} (h1 : nG2 ≤ nG + j) (h2 : nG ≤ a) (h3 : a + j ≤ b) (h4 : b ≤ 1048576) : nG2 < maxLen := by unfold maxLen; omega

set_option maxRecDepth 100000 in
set_option maxHeartbeats 4000000 in
theorem pIndexed_any (B : Nat) (ao : Option Addr) (n cap : Nat) (bs : List Bd) (w : World) (h : BsV w B (.slice ao n cap) bs) (hB : B ≤ w.heap.size) (hT : attrsB bs ≤ 1048576) (hvs : ∀ b ∈ bs, b.var.size ≤ maxLen) (hws : ∀ s ∈ strsB bs, s.length ≤ maxLen) :
    Calls Try.prog 41 #[.slice ao n cap] w fun e w' => ∃ M1 M2, e = .returned (.agg #[.map (some M1), .map (some M2)]) ∧ IdxAt w' M1 M2 (idxOf bs).1 (idxOf bs).2 ∧ Below w.heap.size w w' := by
  have hnl : n = bs.length := by obtain ⟨_, _, he, _⟩ := h; simp only [Value.slice.injEq] at he; exact he.2.1
  have hsl := strsB_len bs
  have HSL : Hid ((strsB bs).length ≤ 1048576 ∧ n ≤ 1048576) := Lib.hid (by omega)
  obtain ⟨P, hP⟩ : ∃ P, P = w.heap.size := ⟨_, rfl⟩
  obtain ⟨W, hW⟩ : ∃ W, W = (((w.alloc (.cells #[.map none, .map none] 88)).alloc (.map #[] 0)).alloc (.map #[] 0)).alloc (.cells #[.map (some (P + 1)), .map (some (P + 1 + 1))] 88) := ⟨_, rfl⟩
  have hq1 : W.heap[P + 1]? = some (.map #[] 0) := by
    rw [hW, hP, heap_alloc_old _ _ (by simp), heap_alloc_old _ _ (by simp)]
    have := heap_alloc_new (w.alloc (.cells #[.map none, .map none] 88)) (.map #[] 0)
    simpa using this
  have hq2 : W.heap[P + 1 + 1]? = some (.map #[] 0) := by
    rw [hW, hP, heap_alloc_old _ _ (by simp)]
    have := heap_alloc_new ((w.alloc (.cells #[.map none, .map none] 88)).alloc (.map #[] 0)) (.map #[] 0)
    simpa using this
  have hq3 : W.heap[P + 1 + 1 + 1]? = some (.cells #[.map (some (P + 1)), .map (some (P + 1 + 1))] 88 (0, 0)) := by
    rw [hW, hP]
    have := heap_alloc_new (((w.alloc (.cells #[.map none, .map none] 88)).alloc (.map #[] 0)).alloc (.map #[] 0)) (.cells #[.map (some (w.heap.size + 1)), .map (some (w.heap.size + 1 + 1))] 88)
    simpa using this
  have hq0 : W.heap[P]? = some (.cells #[.map none, .map none] 88 (0, 0)) := by
    rw [hW, hP, heap_alloc_old _ _ (by simp; omega), heap_alloc_old _ _ (by simp; omega), heap_alloc_old _ _ (by simp)]
    exact heap_alloc_new _ _
  have hb : Below P w W := by rw [hW, hP]; exact ((((Below.refl _ _).alloc (Nat.le_refl _) _).alloc (by simp) _).alloc (by simp; omega) _).alloc (by simp; omega) _
  have hz : P + 1 + 1 + 1 < W.heap.size := lt_of_block hq3
  have HR := Lib.hid (pRanks_any B ao n cap bs W (h.below (hP ▸ hb) hB) (by omega) hT hws)
  have HH := Lib.hid (fun (u : World) (hu : Below w.heap.size w u) => h.below hu hB)
  have HB := Lib.hid hB; have HNL := Lib.hid hnl; have HWS := Lib.hid hws; have HVS := Lib.hid hvs; have HP := Lib.hid hP; have HW := Lib.hid hW
  have HBW := Lib.hid hb; have HZ := Lib.hid hz
  have HQ := Lib.hid (show _ ∧ _ ∧ _ ∧ _ from ⟨hq0, hq1, hq2, hq3⟩)
  have hmm := @run_makeMap Try.prog
  clear h hB hT hnl hsl hws hvs hP hW hq0 hq1 hq2 hq3 hb hz
  go_enter Try.func41, Try.ntmps41
  go_wp2_with fail
  rw [← HP.out, ← HW.out]
  go_wp2_with (go_at_call 79; (with_reducible refine HR.out.mono ?_); rintro e u1 ⟨mo, rfl, hrk, hmo, hb1⟩)
  have hst : IxS P w u1 (fun _ => none) (fun _ _ => none) 0 0 u1 := ⟨⟨_, made9 ((hb1.block _ (by have := HZ.out; omega)).trans HQ.out.2.1) _ _, MapF.nil⟩, ⟨_, made9 ((hb1.block _ (by have := HZ.out; omega)).trans HQ.out.2.2.1) _ _, MapG.nil⟩, Nat.le_refl _, fun _ _ _ _ => rfl, HBW.out.trans (hb1.mono (by have := HZ.out; omega)), by have := HZ.out; have := hb1.size; omega⟩
  have hx3 : u1.heap[P + 1 + 1 + 1]? = some (.cells #[.map (some (P + 1)), .map (some (P + 1 + 1))] 88 (0, 0)) := (hb1.block _ (by have := HZ.out; omega)).trans HQ.out.2.2.2
  have hx0 : u1.heap[P]? = some (.cells #[.map none, .map none] 88 (0, 0)) := (hb1.block _ (by have := HZ.out; omega)).trans HQ.out.1
  have HXB := Lib.hid (fun (u : World) (F : Nm → Option Nat) (G : Nat → ByteArray → Option (Vl × Vl)) (nF nG : Nat) (hu : IxS P w u1 F G nF nG u) => (⟨cell_of_two9 ((hu.block (P + 1 + 1 + 1) hu.hp (by omega) (by omega)).trans hx3), (hu.block P (by have := hu.hp; omega) (by omega) (by omega)).trans hx0, by have := hu.size; have := hu.hp; omega, by have := hu.size; have := hu.hp; omega⟩ : _ ∧ _ ∧ P + 1 + 1 + 1 < u.heap.size ∧ P + 1 + 1 + 1 ≠ u.heap.size))
  have HST := Lib.hid hst
  have HRK := Lib.hid (fun (u : World) (F : Nm → Option Nat) (G : Nat → ByteArray → Option (Vl × Vl)) (nF nG : Nat) (hu : IxS P w u1 F G nF nG u) => (⟨hrk.below (hu.block mo hrk.lt (by have := HZ.out; omega) (by have := HZ.out; omega)), by have := hrk.lt; have := hu.size; omega, by have := HZ.out; omega⟩ : RkAt u mo (compS (sortS (strsB bs))) ∧ mo < u.heap.size ∧ mo ≠ P + 1 + 1))
  have HDP := Lib.hid (dist_lt (strsB bs)); have HDM := Lib.hid (fun s (hs : s ∈ strsB bs) => dist_mem (strsB bs) hs)
  have HIO := Lib.hid (show idxOf bs = procB (rankIn (compS (sortS (strsB bs)))) bs (fun _ => none, fun _ _ => none) 0 from rfl)
  have HDL : Hid ((compS (sortS (strsB bs))).length ≤ 1048576) := Lib.hid (by have := dist_len (strsB bs); have := HSL.out; omega)
  generalize compS (sortS (strsB bs)) = L at HRK HDP HDM HIO HDL
  clear hrk hmo hb1 hst hx3 hx0 HR hmm HQ
  go_loopw [21] (fun iv wr => ∃ (k : Nat) (F : Nm → Option Nat) (G : Nat → ByteArray → Option (Vl × Vl)) (nF nG : Nat), k ≤ n ∧ iv = .int .i64 k ∧ Hid (IxS P w u1 F G nF nG wr) ∧ Hid ((F, G) = procB (rankIn L) (bs.take k) (fun _ => none, fun _ _ => none) 0) ∧ Hid (nF ≤ k ∧ nG ≤ (strsB (bs.take k)).length)) (fun iv _ => n - (intOf iv).toNat)
  case atStart => exact ⟨0, _, _, 0, 0, Nat.zero_le _, rfl, HST, Lib.hid rfl, Lib.hid ⟨Nat.le_refl _, Nat.zero_le _⟩⟩
  case round =>
    obtain ⟨k, F, G, nF, nG, hk, rfl, HS, HFG, HNN⟩ := hrel
    by_cases hlt : k < n
    · have hlti : (k : Int) < (n : Int) := by omega
      have hls := wr7 hlt (by have := HSL.out; omega)
      obtain ⟨x, hx⟩ : ∃ x, bs[k]? = some x := ⟨_, List.getElem?_eq_getElem (by have := HNL.out; omega)⟩
      obtain ⟨b, o, aa, ac, rfl, hbB, -, -, hc, hav⟩ := (HH.out wr (HP.out ▸ HS.out.below)).at hx
      obtain ⟨d0, d1, d2, d3, d4, d5⟩ := six_cells hc
      obtain ⟨⟨i0, i1⟩, -, hxw, hxne⟩ := HXB.out _ _ _ _ _ HS.out
      have HXX := Lib.hid hx; have HLT := Lib.hid hlt
      have hbw : b < wr.heap.size := by have := HB.out; have := HS.out.size; have := HS.out.hp; have := HP.out; omega
      have hbne : b ≠ wr.heap.size := by omega
      have HAV := Lib.hid (fun (u : World) (hu : Below P w u) => hav.keep (w' := u) (fun b2 o2 h2 => by have h3 := HB.out; have h4 := HP.out; simp only [World.cell?, hu.block b2 (by omega), HS.out.below.block b2 (by omega)]))
      have HAL := Lib.hid hav.len; have HAW := Lib.hid hav.wide
      have hvz := HVS.out x (List.mem_of_getElem? hx)
      have hkey : keyOf Try.prog 9 (.string x.var) = some (.string (nb x.var)) := keyOf_string_mk Try.underlying9 hvz
      have HS1 := Lib.hid (HS.out.later ((Below.refl wr.heap.size wr).alloc (Nat.le_refl _) (.cells #[.string x.var, .int .i64 x.src, .int .i64 x.seq, .int .i64 x.time, .string x.ty, .slice aa x.ats.length ac] 91)))
      obtain ⟨⟨D1, hown1, hF1⟩, -, -, -, -, -⟩ := HS1.out
      have HTS := Lib.hid (show procB (rankIn L) (bs.take (k + 1)) (fun _ => none, fun _ _ => none) 0 = stepB (rankIn L) (F, G) x k from by
        have e : bs.take (k + 1) = bs.take k ++ [x] := by rw [List.take_add_one, hx]; rfl
        have hkl : k ≤ bs.length := by have := HNL.out; omega
        rw [e, procB_snoc, ← HFG.out, List.length_take, Nat.min_eq_left hkl, Nat.zero_add])
      have HTL := Lib.hid (strsB_take bs k x hx)
      have HH1 := Lib.hid hF1
      cases hF : F (nb x.var) with
      | some i =>
        have hh : Maps.has D1 (.string (nb x.var)) = true := by rw [(hF1.2 _).1, hF]; rfl
        have hat := (hF1.2 _).2 i hF
        have HSP := Lib.hid (show stepB (rankIn L) (F, G) x k = (F, G) from by unfold stepB; simp [hF])
        clear hc hav hx hk hbB hlt hF1 hF hvz HAV
        go_wp2_with (first
          | (at_lookup; refine wpList_lookup_own_ok_int _ rfl _ _ 85 rfl 9 3 .i64 lawS9 Try.underlying85 Try.underlying3 (zeroI _) (P + 1) nF D1 rfl hown1 _ _ rfl hkey ?_; intro c hc hwc; rw [hat] at hc; obtain rfl := lit_inj9 hc; rw [hh]))
        go_roundw
        all_goals first
          | exact ⟨k + 1, F, G, nF, nG, HLT.out, by go_num, HS1, Lib.hid (by rw [HTS.out, HSP.out]), Lib.hid (by have := HNN.out; rw [HTL.out, List.length_append]; omega)⟩
          | exact meas7 HLT.out
          | (rw [hls]; exact meas7 HLT.out)
      | none =>
        have hh : Maps.has D1 (.string (nb x.var)) = false := by rw [(hF1.2 _).1, hF]; rfl
        have hat := atKey_no hown1.isMap hh (.lit (.int .i64 0))
        have HSP := Lib.hid (fun (G2 : Nat → ByteArray → Option (Vl × Vl)) (h2 : G2 = procA (rankIn L) k G x.ats) => (show stepB (rankIn L) (F, G) x k = (updF F (nb x.var) k, G2) from by unfold stepB; simp [hF, h2]))
        have hval := intE (k : Int) (wf_small (by have := HSL.out; omega))
        have hnm : nF < maxLen := by have := HNN.out; have := HSL.out; unfold maxLen; omega
        have HKS : Hid (k ≤ 140737488355328 ∧ (Lit.int .i64 (k : Int)).wf = true) := Lib.hid (by have := HSL.out; exact ⟨by omega, wf_small (by omega)⟩)
        have HPR := Lib.hid (fun (j : Nat) => strsB_pre bs k x hx j)
        clear hc hav hx hk hbB hlt hF1 hF hvz
        go_wp2_with (first
          | (at_lookup; refine wpList_lookup_own_ok_int _ rfl _ _ 85 rfl 9 3 .i64 lawS9 Try.underlying85 Try.underlying3 (zeroI _) (P + 1) nF D1 rfl hown1 _ _ rfl hkey ?_; intro c hc hwc; rw [hat] at hc; obtain rfl := lit_inj9 hc; rw [hh])
          | (at_mapUpdate; refine wpList_mapUpdate_own _ rfl _ _ _ 85 rfl 9 3 lawS9 Try.underlying85 (plainElem (H := Unit) Try.prog 3) (P + 1) nF D1 rfl hown1 hnm _ _ _ rfl rfl hkey _ [] hval ?_; intro w1 hown2 hgrow1; have HS2 := Lib.hid (HS1.out.put1 HH1.out hown2 hgrow1); have hq6 := (hgrow1.block wr.heap.size (by simp) (by simp; omega)).trans (heap_alloc_new wr (.cells #[.string x.var, .int .i64 x.src, .int .i64 x.seq, .int .i64 x.time, .string x.ty, .slice aa x.ats.length ac] 91)); obtain ⟨⟨g0, g1, g2, g3, g4, g5⟩, -⟩ := cell_of_six9 hq6; clear hq6 hown2 hgrow1 hown1 d0 d1 d2 d3 d4 d5 i0 i1))
        clear hat hh hval hnm hkey
        go_loopw [44] (fun iv wq => ∃ (j : Nat) (G2 : Nat → ByteArray → Option (Vl × Vl)) (nG2 : Nat), j ≤ x.ats.length ∧ iv = .int .i64 j ∧ Hid (IxS P w u1 (updF F (nb x.var) k) G2 (nF + 1) nG2 wq) ∧ Hid (G2 = procA (rankIn L) k G (x.ats.take j) ∧ nG2 ≤ nG + j)) (fun iv _ => x.ats.length - (intOf iv).toNat)
        case atStart => exact ⟨0, G, nG, Nat.zero_le _, rfl, HS2, Lib.hid ⟨rfl, Nat.le_refl _⟩⟩
        case round =>
          obtain ⟨j, G2, nG2, hj, rfl, HSq, HGG⟩ := hrel
          by_cases hlt2 : j < x.ats.length
          · have hlti2 : (j : Int) < (x.ats.length : Int) := by omega
            have hls2 := wr7 hlt2 (by have := HAL.out; omega)
            obtain ⟨b2, o2, rfl, hb2B, -, -, -, hc2⟩ := (HAV.out wr HSq.out.below).at (Nat.lt_of_le_of_lt (Nat.zero_le j) hlt2)
            obtain ⟨wq, hwq⟩ : ∃ wq, wq = wr := ⟨_, rfl⟩
            obtain ⟨y, hy⟩ : ∃ y, y = x.ats[j]! := ⟨_, rfl⟩
            have hym : y ∈ x.ats := by rw [hy, getElem!_pos x.ats j hlt2]; exact List.getElem_mem hlt2
            obtain ⟨e0, e1, e2, e3⟩ := four_cells (w := wr) (b := b2) (a := o2 + j * 4) (x := y) (fun i u hu => hc2 j hlt2 i u (by rw [← hy]; exact hu))
            obtain ⟨hyn, hys⟩ := HAW.out y hym
            obtain ⟨⟨i0, i1⟩, -, hxw, hxne⟩ := HXB.out _ _ _ _ _ HSq.out
            have hxne2 : P + 1 + 1 + 1 ≠ wr.heap.size + 1 := by omega
            have hxw2 : P + 1 + 1 + 1 < wr.heap.size + 1 := by omega
            have HYS := Lib.hid (show nb y.s ∈ strsB bs from List.mem_flatMap.2 ⟨x, List.mem_of_getElem? HXX.out, List.mem_map_of_mem (f := fun x : At => nb x.s) hym⟩)
            have HTK := Lib.hid (show procA (rankIn L) k G (x.ats.take (j + 1)) = stepA (rankIn L) k G2 y from by
              have e : x.ats.take (j + 1) = x.ats.take j ++ [y] := by rw [List.take_add_one, List.getElem?_eq_getElem hlt2, hy, getElem!_pos x.ats j hlt2]; rfl
              rw [e, procA_snoc, ← HGG.out.1])
            have HLT2 := Lib.hid hlt2
            have hbw2 : b2 < wr.heap.size := by have := HB.out; have := HSq.out.size; have := HSq.out.hp; have := HP.out; omega
            have hbne2 : b2 ≠ wr.heap.size := by omega
            have HSA := Lib.hid ((HSq.out.later ((Below.refl wr.heap.size wr).alloc (Nat.le_refl _) (.cells #[.string y.name, .int .i64 y.k, .int .i64 y.n, .string y.s] 78))).later ((Below.refl _ _).alloc (Nat.le_refl _) (.cells #[.int .i64 (k : Int), .string y.name] 125)))
            obtain ⟨-, ⟨D2, hown2, hG2⟩, -, -, -, -⟩ := HSA.out
            obtain ⟨⟨-, i3⟩, -, -, -⟩ := HXB.out _ _ _ _ _ HSA.out
            have hkey2 := spot_key (i := (k : Int)) HKS.out.2 hyn
            obtain ⟨hh2, hat2⟩ := hG2.2 k y.name HKS.out.1 hyn
            obtain ⟨vx, vy, hxy⟩ : ∃ vx vy, (G2 k y.name).getD (zeroL, zeroL) = (vx, vy) := ⟨_, _, rfl⟩
            have hv2 : ∀ v ps, fndE v = some (D2.atKey (.string (keyBytes [.int .i64 (k : Int), .string (nb y.name)])) (fndD zeroL zeroL), ps) → v = .agg #[.int .i64 vx.k, .int .i64 vx.n, .string vx.s, .int .i64 vy.k, .int .i64 vy.n, .string vy.s] := fun v ps hv => by
              have e : D2.atKey (.string (keyBytes [.int .i64 (k : Int), .string (nb y.name)])) (fndD zeroL zeroL) = fndD vx vy := by rw [hxy] at hat2; exact hat2
              rw [e] at hv
              exact fndE_inv hv
            have HV2 := Lib.hid hv2
            have HK2 := Lib.hid hkey2
            clear hv2 hkey2
            have HG2 := Lib.hid hG2
            cases hg : G2 k y.name with
            | some p =>
              have hh3 : Maps.has D2 (.string (keyBytes [.int .i64 (k : Int), .string (nb y.name)])) = true := by rw [hg] at hh2; exact hh2
              have HH3 := Lib.hid hh3; have HOW2 := Lib.hid hown2
              have HST2 := Lib.hid (show stepA (rankIn L) k G2 y = G2 from by unfold stepA; simp [hg])
              have HS3 := Lib.hid (HSA.out.later ((Below.refl _ _).alloc (Nat.le_refl _) (.cells #[.int .i64 vx.k, .int .i64 vx.n, .string vx.s, .int .i64 vy.k, .int .i64 vy.n, .string vy.s] 127)))
              clear hh3 hown2 hc2 hy hym hlt2 hj hb2B hg hh2 hat2 hG2 hxy hyn hys hwq
              go_wp2_with (first
                | (at_lookup; refine wpList_lookup_ok9 _ rfl _ _ 86 rfl 125 127 spotLaw Try.underlying86 fndE (zeroF _) _ _ (fndE_mk zeroL zeroL) (P + 1 + 1) nG2 D2 rfl HOW2.out _ _ rfl HK2.out _ HV2.out true HH3.out ?_))
              go_roundw
              all_goals first
                | exact ⟨j + 1, G2, nG2, HLT2.out, by go_num, HS3, Lib.hid ⟨by rw [HTK.out, HST2.out], by have := HGG.out.2; omega⟩⟩
                | exact meas7 HLT2.out
                | (rw [hls2]; exact meas7 HLT2.out)
            | none =>
              have hh3 : Maps.has D2 (.string (keyBytes [.int .i64 (k : Int), .string (nb y.name)])) = false := by rw [hg] at hh2; exact hh2
              have HH3 := Lib.hid hh3; have HOW2 := Lib.hid hown2
              have HST2 := Lib.hid (show stepA (rankIn L) k G2 y = updG G2 k y.name (⟨y.k, y.n, y.s⟩, briefL (rankIn L) ⟨y.k, y.n, y.s⟩) from by unfold stepA; simp [hg])
              have HS3 := Lib.hid (HSA.out.later ((Below.refl _ _).alloc (Nat.le_refl _) (.cells #[.int .i64 vx.k, .int .i64 vx.n, .string vx.s, .int .i64 vy.k, .int .i64 vy.n, .string vy.s] 127)))
              have hown3 := hown2.alloc (.cells #[.int .i64 vx.k, .int .i64 vx.n, .string vx.s, .int .i64 vy.k, .int .i64 vy.n, .string vy.s] 127)
              have HO3 := Lib.hid hown3
              have HYN := Lib.hid (show y.name.size ≤ maxLen ∧ y.s.size ≤ maxLen from ⟨hyn, hys⟩)
              have HNG : Hid (nG2 < maxLen) := Lib.hid (by have h3 := HPR.out j; rw [show (strsA (x.ats.take j)).length = j from by unfold strsA; rw [List.length_map, List.length_take, Nat.min_eq_left (Nat.le_of_lt hlt2)]] at h3; exact num_ng (a := (strsB (bs.take k)).length) (b := (strsB bs).length) (c := 0) (d := 0) HGG.out.2 HNN.out.2 h3 HSL.out.1)
              obtain ⟨r, hr⟩ : ∃ r, r = rankIn L (nb y.s) := ⟨_, rfl⟩
              have HRR := Lib.hid hr
              have HD := Lib.hid (fun (u : World) (hu : ∀ z, z < (((wr.alloc (.cells #[.string y.name, .int .i64 y.k, .int .i64 y.n, .string y.s] 78)).alloc (.cells #[.int .i64 (k : Int), .string y.name] 125)).alloc (.cells #[.int .i64 vx.k, .int .i64 vx.n, .string vx.s, .int .i64 vy.k, .int .i64 vy.n, .string vy.s] 127)).heap.size → z ≠ P + 1 + 1 → u.heap[z]? = (((wr.alloc (.cells #[.string y.name, .int .i64 y.k, .int .i64 y.n, .string y.s] 78)).alloc (.cells #[.int .i64 (k : Int), .string y.name] 125)).alloc (.cells #[.int .i64 vx.k, .int .i64 vx.n, .string vx.s, .int .i64 vy.k, .int .i64 vy.n, .string vy.s] 127)).heap[z]?) => (by
                have hsz : (((wr.alloc (.cells #[.string y.name, .int .i64 y.k, .int .i64 y.n, .string y.s] 78)).alloc (.cells #[.int .i64 (k : Int), .string y.name] 125)).alloc (.cells #[.int .i64 vx.k, .int .i64 vx.n, .string vx.s, .int .i64 vy.k, .int .i64 vy.n, .string vy.s] 127)).heap.size = wr.heap.size + 1 + 1 + 1 := by simp
                obtain ⟨hrk, hml, hmne⟩ := HRK.out _ _ _ _ _ HSq.out
                have t0 := (HXB.out _ _ _ _ _ HSq.out)
                have ea : u.heap[wr.heap.size]? = some (.cells #[.string y.name, .int .i64 y.k, .int .i64 y.n, .string y.s] 78 (0, 0)) := by
                  rw [hu _ (by omega) (by have := HSq.out.hp; have := HSq.out.size; omega), heap_alloc_old _ _ (by simp; omega), heap_alloc_old _ _ (by simp)]; exact heap_alloc_new _ _
                have es : u.heap[wr.heap.size + 1]? = some (.cells #[.int .i64 (k : Int), .string y.name] 125 (0, 0)) := by
                  rw [hu _ (by omega) (by have := HSq.out.hp; have := HSq.out.size; omega), heap_alloc_old _ _ (by simp)]
                  have := heap_alloc_new (wr.alloc (.cells #[.string y.name, .int .i64 y.k, .int .i64 y.n, .string y.s] 78)) (.cells #[.int .i64 (k : Int), .string y.name] 125)
                  simpa using this
                have hold : ∀ z, z < wr.heap.size → z ≠ P + 1 + 1 → u.heap[z]? = wr.heap[z]? := fun z hz hzn => by
                  rw [hu z (by omega) hzn, heap_alloc_old _ _ (by simp; omega), heap_alloc_old _ _ (by simp; omega), heap_alloc_old _ _ hz]
                refine ⟨?_, (cell_of_two9 es).1, (cell_of_two9 es).2, ?_, ?_, ?_, ?_⟩
                · have h3 := t0.1.2
                  simp only [World.cell?] at h3 ⊢
                  rw [hold _ t0.2.2.1 (by omega)]; exact h3
                · simp [World.cell?, ea]
                · simp [World.cell?, ea]
                · simp [World.cell?, ea]
                · rw [hr]
                  exact rk_lookup hrk HDP.out (HDM.out _ HYS.out) hys (hold mo hml hmne)
                : Hd9 P wr.heap.size mo k r y u))
              clear hh3 hown2 hc2 hy hym hlt2 hj hb2B hg hh2 hat2 hG2 hxy hyn hys hwq hr
              go_wp2_with (first
                | (at_lookup; refine wpList_lookup_ok9 _ rfl _ _ 86 rfl 125 127 spotLaw Try.underlying86 fndE (zeroF _) _ _ (fndE_mk zeroL zeroL) (P + 1 + 1) nG2 D2 rfl HOW2.out _ _ rfl HK2.out _ HV2.out false HH3.out ?_))
              have HRL : Hid (r < 4294967296) := Lib.hid (by rw [HRR.out]; exact num_rank HDL.out (rank_le9 _ _))
              obtain ⟨W3, hW3⟩ : ∃ W3, W3 = ((wr.alloc (.cells #[.string y.name, .int .i64 y.k, .int .i64 y.n, .string y.s] 78)).alloc (.cells #[.int .i64 (k : Int), .string y.name] 125)).alloc (.cells #[.int .i64 vx.k, .int .i64 vx.n, .string vx.s, .int .i64 vy.k, .int .i64 vy.n, .string vy.s] 127) := ⟨_, rfl⟩
              have HD3 : Hid (∀ u : World, (∀ z, z < W3.heap.size → z ≠ P + 1 + 1 → u.heap[z]? = W3.heap[z]?) → Hd9 P wr.heap.size mo k r y u) := by rw [hW3]; exact HD
              have HS4 : Hid (IxS P w u1 (updF F (nb x.var) k) G2 (nF + 1) nG2 W3) := by rw [hW3]; exact HS3
              have HO4 : Hid (W3.ownsMap Try.prog 125 fndE (P + 1 + 1) nG2 D2) := by rw [hW3]; exact HO3
              have HLT3 : Hid (P + 1 + 1 < W3.heap.size) := Lib.hid HO4.out.lt
              rw [← hW3]
              have HW3 := Lib.hid hW3
              have SF := (HD3.out W3.drew (fun z _ _ => rfl)).all
              clear hW3 HD HS3 HO3 e0 e1 e2 e3 i0 i1 g0 g1 g2 g3 g4 g5
              refine wp_region_held_drew (S := (fun w' => w'.cell? ⟨P + 1 + 1 + 1, 1, none⟩ = some (.map (some (P + 1 + 1))) ∧ w'.cell? ⟨wr.heap.size + 1, 0, none⟩ = some (.int .i64 (k : Int)) ∧ w'.cell? ⟨wr.heap.size + 1, 1, none⟩ = some (.string y.name) ∧ w'.cell? ⟨wr.heap.size, 1, none⟩ = some (.int .i64 y.k) ∧ w'.cell? ⟨wr.heap.size, 2, none⟩ = some (.int .i64 y.n) ∧ w'.cell? ⟨wr.heap.size, 3, none⟩ = some (.string y.s) ∧ (Instr.lookup 85 (.map (some mo)) (.string y.s) false).run Try.prog w' = .ok (.int .i64 (r : Int)) w')) (by kernel_rfl) SF (fun _ => ?_)
              refine takeR (i := 0) (v := ?_) rfl (by as_aux_lemma => kernel_rfl) (by as_aux_lemma => kernel_rfl) (by as_aux_lemma => kernel_rfl) (fun _ _ _ h => h) (by rfl) ?_ (by assumption) ?_
              rotate_left
              · (intro w hSw; (try dsimp only at hSw); go_simp <;> with_reducible rfl)
              try simp only [Act.put, List.setIfInBounds_toArray, List.set_cons_zero, List.set_cons_succ]
              refine takeR (i := 1) (v := ?_) rfl (by as_aux_lemma => kernel_rfl) (by as_aux_lemma => kernel_rfl) (by as_aux_lemma => kernel_rfl) (fun _ _ _ h => h) (by rfl) ?_ (by assumption) ?_
              rotate_left
              · (intro w hSw; (try dsimp only at hSw); go_simp <;> with_reducible rfl)
              try simp only [Act.put, List.setIfInBounds_toArray, List.set_cons_zero, List.set_cons_succ]
              refine takeR (i := 2) (v := ?_) rfl (by as_aux_lemma => kernel_rfl) (by as_aux_lemma => kernel_rfl) (by as_aux_lemma => kernel_rfl) (fun _ _ _ h => h) (by rfl) ?_ (by assumption) ?_
              rotate_left
              · (intro w hSw; (try dsimp only at hSw); go_simp <;> with_reducible rfl)
              try simp only [Act.put, List.setIfInBounds_toArray, List.set_cons_zero, List.set_cons_succ]
              refine takeR (i := 3) (v := ?_) rfl (by as_aux_lemma => kernel_rfl) (by as_aux_lemma => kernel_rfl) (by as_aux_lemma => kernel_rfl) (fun _ _ _ h => h) (by rfl) ?_ (by assumption) ?_
              rotate_left
              · (intro w hSw; (try dsimp only at hSw); go_simp <;> with_reducible rfl)
              try simp only [Act.put, List.setIfInBounds_toArray, List.set_cons_zero, List.set_cons_succ]
              refine takeR (i := 4) (v := ?_) rfl (by as_aux_lemma => kernel_rfl) (by as_aux_lemma => kernel_rfl) (by as_aux_lemma => kernel_rfl) (fun _ _ _ h => h) (by rfl) ?_ (by assumption) ?_
              rotate_left
              · (intro w hSw; (try dsimp only at hSw); go_simp <;> with_reducible rfl)
              try simp only [Act.put, List.setIfInBounds_toArray, List.set_cons_zero, List.set_cons_succ]
              refine takeR (i := 5) (v := ?_) rfl (by as_aux_lemma => kernel_rfl) (by as_aux_lemma => kernel_rfl) (by as_aux_lemma => kernel_rfl) (fun _ _ _ h => h) (by rfl) ?_ (by assumption) ?_
              rotate_left
              · (intro w hSw; (try dsimp only at hSw); go_simp <;> with_reducible rfl)
              try simp only [Act.put, List.setIfInBounds_toArray, List.set_cons_zero, List.set_cons_succ]
              refine takeR (i := 6) (v := ?_) rfl (by as_aux_lemma => kernel_rfl) (by as_aux_lemma => kernel_rfl) (by as_aux_lemma => kernel_rfl) (fun _ _ _ h => h) (by rfl) ?_ (by assumption) ?_
              rotate_left
              · (intro w hSw; (try dsimp only at hSw); go_simp <;> with_reducible rfl)
              try simp only [Act.put, List.setIfInBounds_toArray, List.set_cons_zero, List.set_cons_succ]
              refine takeR (i := 7) (v := ?_) rfl (by as_aux_lemma => kernel_rfl) (by as_aux_lemma => kernel_rfl) (by as_aux_lemma => kernel_rfl) (fun _ _ _ h => h) (by rfl) ?_ (by assumption) ?_
              rotate_left
              · (intro w hSw; (try dsimp only at hSw); go_simp <;> with_reducible rfl)
              try simp only [Act.put, List.setIfInBounds_toArray, List.set_cons_zero, List.set_cons_succ]
              refine takeR (i := 8) (v := ?_) rfl (by as_aux_lemma => kernel_rfl) (by as_aux_lemma => kernel_rfl) (by as_aux_lemma => kernel_rfl) (fun _ _ _ h => h) (by rfl) ?_ (by assumption) ?_
              rotate_left
              · (intro w hSw; (try dsimp only at hSw); go_simp <;> with_reducible rfl)
              try simp only [Act.put, List.setIfInBounds_toArray, List.set_cons_zero, List.set_cons_succ]
              refine takeR (i := 9) (v := ?_) rfl (by as_aux_lemma => kernel_rfl) (by as_aux_lemma => kernel_rfl) (by as_aux_lemma => kernel_rfl) (fun _ _ _ h => h) (by rfl) ?_ (by assumption) ?_
              rotate_left
              · (intro w hSw; (try dsimp only at hSw); go_simp <;> with_reducible rfl)
              try simp only [Act.put, List.setIfInBounds_toArray, List.set_cons_zero, List.set_cons_succ]
              refine takeR (i := 10) (v := ?_) rfl (by as_aux_lemma => kernel_rfl) (by as_aux_lemma => kernel_rfl) (by as_aux_lemma => kernel_rfl) (fun _ _ _ h => h) (by rfl) ?_ (by assumption) ?_
              rotate_left
              · (intro w hSw; (try dsimp only at hSw); go_simp <;> with_reducible rfl)
              try simp only [Act.put, List.setIfInBounds_toArray, List.set_cons_zero, List.set_cons_succ]
              refine takeR (i := 11) (v := ?_) rfl (by as_aux_lemma => kernel_rfl) (by as_aux_lemma => kernel_rfl) (by as_aux_lemma => kernel_rfl) (fun _ _ _ h => h) (by rfl) ?_ (by assumption) ?_
              rotate_left
              · (intro w hSw; (try dsimp only at hSw); first | (go_simp <;> with_reducible rfl) | (simp [execOp, go_sem, hSw]; rfl))
              try simp only [Act.put, List.setIfInBounds_toArray, List.set_cons_zero, List.set_cons_succ]
              refine oneR (i := 12) rfl (by as_aux_lemma => kernel_rfl) (fun K hK => ?_)
              go_simp
              (with_reducible refine (pBrief_any _ _ _ _ _ HRL.out).mono ?_)
              rintro e w4 ⟨rfl, hb⟩
              have HB4 := Lib.hid ((show Below W3.heap.size W3 W3.drew from (Below.refl _ _).drew).trans hb)
              clear hb SF
              have SF := (HD3.out w4 (fun z hz _ => HB4.out.block z hz)).all
              refine hK.out _ _ SF (fun _ => ?_)
              clear hK K
              try simp only [Act.put, List.setIfInBounds_toArray, List.set_cons_zero, List.set_cons_succ]
              refine takeR (i := 13) (v := ?_) rfl (by as_aux_lemma => kernel_rfl) (by as_aux_lemma => kernel_rfl) (by as_aux_lemma => kernel_rfl) (fun _ _ _ h => h) (by rfl) ?_ (by assumption) ?_
              rotate_left
              · (intro w hSw; (try dsimp only at hSw); go_simp <;> with_reducible rfl)
              try simp only [Act.put, List.setIfInBounds_toArray, List.set_cons_zero, List.set_cons_succ]
              refine oneR (i := 14) rfl (by as_aux_lemma => kernel_rfl) (fun K hK => ?_)
              refine step_mapUpdate9 rfl _ _ _ 86 rfl 125 127 spotLaw Try.underlying86 fndE (P + 1 + 1) nG2 D2 rfl (owns_below9 HO4.out (HB4.out.block _ HLT3.out)) HNG.out _ _ _ rfl rfl HK2.out _ [] (fndE_mk ⟨y.k, y.n, y.s⟩ ⟨y.k, y.n, ba (be4 r)⟩) ?_
              intro w5 hown5 hg5
              have HS5 := Lib.hid ((HS4.out.later HB4.out).put2 HG2.out HKS.out.1 HYN.out.1 hown5 hg5)
              clear SF
              have SF := (HD3.out w5 (fun z hz hne => (hg5.block z (Nat.lt_of_lt_of_le hz HB4.out.size) (by simpa using hne)).trans (HB4.out.block z hz))).all
              clear hown5 hg5
              refine hK.out _ _ SF (fun _ => ?_)
              clear hK K
              refine wpAnyH_done (by kernel_rfl) ?_ _
              clear SF
              go_wp2
              go_roundw
              all_goals first
                | exact ⟨j + 1, _, _, HLT2.out, by go_num, HS5, Lib.hid ⟨by rw [HTK.out, HST2.out, HRR.out]; rfl, by have := HGG.out.2; omega⟩⟩
                | exact meas7 HLT2.out
                | (rw [hls2]; exact meas7 HLT2.out)
          · obtain rfl : j = x.ats.length := by omega
            have hnl2 : ¬ ((x.ats.length : Int) < (x.ats.length : Int)) := by omega
            have hfull : x.ats.take x.ats.length = x.ats := List.take_length
            rw [hfull] at HGG
            clear hlt2 hj hfull
            go_wp2_with fail
            go_roundw
            all_goals first
              | exact ⟨k + 1, _, _, nF + 1, nG2, HLT.out, by go_num, HSq, Lib.hid (by rw [HTS.out]; exact (HSP.out _ HGG.out.1).symm), Lib.hid (by have h1 := HGG.out.2; have h2 := HNN.out; rw [HTL.out, List.length_append, show (strsA x.ats).length = x.ats.length from by unfold strsA; rw [List.length_map]]; omega)⟩
              | exact meas7 HLT.out
              | (rw [hls]; exact meas7 HLT.out)
    · obtain rfl : k = n := by omega
      have hnl : ¬ ((k : Int) < (k : Int)) := by omega
      have hfull : bs.take k = bs := by rw [HNL.out, List.take_length]
      obtain ⟨⟨i0, i1⟩, hx0, hxw, hxne⟩ := HXB.out _ _ _ _ _ HS.out
      have c0 := (cell_of_two9 hx0).1; have c1 := (cell_of_two9 hx0).2
      rw [hfull, ← HIO.out] at HFG
      have z0 : wr.frozen? ⟨P, 0, none⟩ = false := by simp [World.frozen?, hx0]
      have z1 : wr.frozen? ⟨P, 1, none⟩ = false := by simp [World.frozen?, hx0]
      have HZ2 := Lib.hid (show ((wr.setCell ⟨P, 0, none⟩ (.map (some (P + 1)))).setCell ⟨P, 1, none⟩ (.map (some (P + 1 + 1)))).heap[P]? = some (.cells #[.map (some (P + 1)), .map (some (P + 1 + 1))] 88 (0, 0)) by rw [heap_setCell_same (k := 1) (heap_setCell_same (k := 0) hx0 _) _]; rfl)
      have HSM := Lib.hid (idx_small (bs := bs) (by have := HSL.out.2; have := HNL.out; omega))
      clear hlt hk hfull hx0
      go_wp2_with fail
      have hz := cell_of_two9 HZ2.out
      refine bodyPost_ret (v := .agg #[.map (some (P + 1)), .map (some (P + 1 + 1))]) (by simp [results, Try.results41, go_sem, hz]) rfl ?_
      obtain ⟨⟨D1, h1, h2⟩, ⟨D2, h3, h4⟩, h5, h6, h7, h8⟩ := HS.out
      have e1 : (idxOf bs).1 = F := by rw [← HFG.out]
      have e2 : (idxOf bs).2 = G := by rw [← HFG.out]
      have hne : ∀ x, x ≠ P → ((wr.setCell ⟨P, 0, none⟩ (.map (some (P + 1)))).setCell ⟨P, 1, none⟩ (.map (some (P + 1 + 1)))).heap[x]? = wr.heap[x]? := fun x hx => by rw [Below.heap_setCell _ _ _ _ hx, Below.heap_setCell _ _ _ _ hx]
      refine ⟨_, _, rfl, ⟨⟨_, _, owns_below9 h1 (hne _ (by omega)), by rw [e1]; exact h2⟩, ⟨_, _, owns_below9 h3 (hne _ (by omega)), by rw [e2]; exact h4⟩, HSM.out⟩, ?_⟩
      rw [← HP.out]
      exact (h7.setCell (p := ⟨P, 0, none⟩) (Nat.le_refl _) _).setCell (p := ⟨P, 1, none⟩) (Nat.le_refl _) _
end Go.Proofs.Ytpbloplbpkedcaa
