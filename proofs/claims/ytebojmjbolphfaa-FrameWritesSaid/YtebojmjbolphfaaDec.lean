/- Contracts: number, open, Decode of the program. -/
import Derived.Test.YtebojmjbolphfaaRdd
import Derived.Test.YtebojmjbolphfaaSums
import Derived.BigRegion
namespace Go.Proofs.Ytebojmjbolphfaa
open Go Go.RowKit Crc

theorem or_byte (u c : Nat) (hu : u < 16777216) (hc : c < 256) : bits BinOp.or IntKind.u32 ((u : Int) * 256) (c : Int) = ((u * 256 + c : Nat) : Int) := by
  have h := u32_or_nat (u * 256) c (by omega) (by omega)
  rw [Int.natCast_mul] at h
  have e := Nat.shiftLeft_add_eq_or_of_lt (i := 8) (b := c) hc u
  rw [Nat.shiftLeft_eq, show (2 : Nat) ^ 8 = 256 from rfl] at e
  rw [← e] at h
  exact h

set_option maxRecDepth 100000 in
set_option maxHeartbeats 800000 in
theorem fNumber_any (B : Nat) (v : Value) (bytes : List Nat) (w : World) (hb : Bv w B v bytes) (h4 : bytes.length = 4) :
    Calls Try.prog 49 #[v] w fun e w' => e = .returned (.int .u32 ((num32 bytes : Nat) : Int)) ∧ w = w' := by
  obtain ⟨ao, cap1, rfl, h2, h2', h2n, h3⟩ := hb.row
  have HSm := hide hb.small; have HR := hide h3
  have Hn := hide h4
  clear hb h3 h2 h2' h2n
  rw [h4]
  clear h4
  go_enter Try.func49, Try.ntmps49
  go_wp2
  go_loop [3, 8] (fun v i => ∃ j : Nat, j ≤ 4 ∧ i = .int .i64 j ∧ v = .int .u32 ((num32 (bytes.take j) : Nat) : Int)) (fun _ i => 4 - (intOf i).toNat)
  case atStart => exact ⟨0, Nat.zero_le _, rfl, rfl⟩
  case round =>
    obtain ⟨j, hj, rfl, rfl⟩ := hrel
    by_cases hltj : j < 4
    · have hj' : j < bytes.length := by rw [Hn.out]; exact hltj
      obtain ⟨b, o, rfl, _, hcell⟩ := HR.out (by omega)
      have hcj := hcell j hj'
      have hsm : bytes.getD j 0 < 256 := by
        rw [List.getD, List.getElem?_eq_getElem hj']; exact HSm.out _ (List.getElem_mem _)
      have hst : num32 (bytes.take (j + 1)) = num32 (bytes.take j) * 256 + bytes.getD j 0 := by
        rw [List.take_succ_eq_append_getElem hj', num32_snoc]; simp [List.getD, hj']
      have hlt : num32 (bytes.take j) < 16777216 := by
        have h1 := num32_lt (bytes.take j) (fun c hc => HSm.out c (List.mem_of_mem_take hc))
        have h2 : (bytes.take j).length ≤ 3 := by rw [List.length_take]; omega
        have := Nat.pow_le_pow_right (n := 256) (by omega) h2
        omega
      have HO := hide hst
      obtain ⟨c, hcc⟩ : ∃ c, c = bytes.getD j 0 := ⟨_, rfl⟩
      rw [← hcc] at hcj hsm
      obtain ⟨u, hu⟩ : ∃ u, u = num32 (bytes.take j) := ⟨_, rfl⟩
      rw [← hu] at hlt ⊢
      have HOr := hide (or_byte u c hlt hsm)
      have HC := hide hcc; have HU := hide hu
      clear hcc hcell hj' hst hu
      go_wp2
      go_round
      case rel => exact ⟨j + 1, by omega, by go_num, by rw [HO.out, ← HU.out, ← HC.out]; exact congrArg (Value.int .u32) HOr.out⟩
      case measure => simp [intOf]; omega
    · go_wp2
      go_ret
      obtain rfl : j = 4 := by omega
      rw [List.take_of_length_le (by rw [Hn.out]; omega)]
      exact ⟨rfl, rfl⟩

/-- What a slice's parts read as. -/
theorem Bv.upTo {w : World} {B : Nat} {ao : Option Addr} {n cap k : Nat} {bytes : List Nat} (h : Bv w B (.slice ao n cap) bytes) (hk : k ≤ n) : Bv w B (.slice ao k cap) (bytes.take k) := by
  obtain ⟨ao', cap', h1, h2, h2', h2n, h3⟩ := h.row
  simp only [Value.slice.injEq] at h1
  obtain ⟨rfl, rfl, rfl⟩ := h1
  have hl : (bytes.take k).length = k := by rw [List.length_take]; omega
  refine ⟨fun c hc => h.small c (List.mem_of_mem_take hc), by rw [hl]; have := h.len; omega, ao, cap, by rw [hl], by omega, h2', h2n, fun hn => ?_⟩
  obtain ⟨b, o, h4, h5, h6⟩ := h3 (by omega)
  refine ⟨b, o, h4, h5, fun j hj => ?_⟩
  rw [hl] at hj
  rw [h6 j (by omega)]
  simp [List.getD, hj]
theorem Bv.from_ {w : World} {B b o n cap k : Nat} {bytes : List Nat} (h : Bv w B (.slice (some ⟨b, o, none⟩) n cap) bytes) (hk : k < n) : Bv w B (.slice (some ⟨b, o + k, none⟩) (n - k) (cap - k)) (bytes.drop k) := by
  obtain ⟨ao', cap', h1, h2, h2', h2n, h3⟩ := h.row
  simp only [Value.slice.injEq] at h1
  obtain ⟨rfl, rfl, rfl⟩ := h1
  have hl : (bytes.drop k).length = bytes.length - k := List.length_drop
  refine ⟨fun c hc => h.small c (List.mem_of_mem_drop hc), by rw [hl]; have := h.len; omega, _, cap - k, by rw [hl], by omega, by omega, (fun h => by cases h), fun hn => ?_⟩
  obtain ⟨b', o', h4, h5, h6⟩ := h3 (by omega)
  simp only [Option.some.injEq, Addr.mk.injEq] at h4
  obtain ⟨rfl, rfl, _⟩ := h4
  refine ⟨b, o + k, rfl, h5, fun j hj => ?_⟩
  rw [hl] at hj
  rw [Nat.add_assoc, h6 (k + j) (by omega)]
  simp [List.getD]

/-- What open leaves: a datagram, and what is wrong. -/
def OpenPost (b : List Nat) (w : World) (e : Ending) (w' : World) : Prop :=
  ∃ (f t k s a : Int) (v : Value) (x : List Nat), e = .returned (.tuple #[.agg #[.int .i64 f, .int .i64 t, .int .i64 k, .int .i64 s, .int .i64 a, v], .int .i64 ((openErr b : Nat) : Int)]) ∧ w'.ownsRow w.heap.size 5 1 v x.length (byteVs x) ∧ Below w.heap.size w w' ∧ x.length ≤ 16384 ∧
    (openErr b = 0 → f = (((r3 (bitsAll (told b))).1 : Nat) : Int) ∧ t = (((r4 (bitsAll (told b))).1 : Nat) : Int) ∧ k = (((r1 (bitsAll (told b))).1 : Nat) : Int) ∧ s = dS (bitsAll (told b)) ∧ a = wrap64 (((r5 (bitsAll (told b))).1 : Nat) : Int) ∧ x = dX (bitsAll (told b)))
theorem OpenPost.bad {b : List Nat} {w w' : World} {n : Nat} (h : openErr b = n) (hn : n ≠ 0) (hb : Below w.heap.size w w') : OpenPost b w (.returned (.tuple #[.agg #[.int .i64 0, .int .i64 0, .int .i64 0, .int .i64 0, .int .i64 0, .slice none 0 0], .int .i64 (n : Int)])) w' :=
  ⟨0, 0, 0, 0, 0, .slice none 0 0, [], by rw [h], World.ownsRow_nil _ _ _ _, hb, by simp, fun h0 => absurd (h.symm.trans h0) hn⟩

set_option maxRecDepth 100000 in
set_option maxHeartbeats 3200000 in
theorem fOpen_short (B : Nat) (v : Value) (b : List Nat) (w : World) (hb : Bv w B v b) (h6 : b.length < 6) :
    Calls Try.prog 37 #[v] w (OpenPost b w) := by
  obtain ⟨ao, cap1, rfl, _, _, _, _⟩ := hb.row
  have HE := hide (show openErr b = 10 by unfold openErr; rw [if_pos h6])
  obtain ⟨n, hn⟩ : ∃ n, n = b.length := ⟨_, rfl⟩
  rw [← hn] at h6 ⊢
  clear hb hn
  go_enter Try.func37, Try.ntmps37
  go_wp2
  have hz := cell_of_six (heap_alloc_new w (.cells #[.int .i64 0, .int .i64 0, .int .i64 0, .int .i64 0, .int .i64 0, .slice none 0 0] 24))
  refine bodyPost_ret (v := .tuple #[.agg #[.int .i64 0, .int .i64 0, .int .i64 0, .int .i64 0, .int .i64 0, .slice none 0 0], .int .i64 10]) (by simp [results, Try.results37, go_sem, hz]) rfl ?_
  exact OpenPost.bad HE.out (by decide) ((Below.refl _ _).alloc (Nat.le_refl _) _)

set_option maxRecDepth 100000 in
set_option maxHeartbeats 3200000 in
theorem fOpen_long (B : Nat) (v : Value) (b : List Nat) (w : World) (hb : Bv w B v b) (hB : B ≤ w.heap.size) (h6 : 6 ≤ b.length) :
    Calls Try.prog 37 #[v] w (OpenPost b w) := by
  obtain ⟨ao, cap, rfl, h2, h2', h2n, h3⟩ := hb.row
  obtain ⟨bk, o, rfl, hbk, hcell⟩ := h3 (by omega)
  have hlen := hb.len
  obtain ⟨n, hn⟩ : ∃ n, n = b.length := ⟨_, rfl⟩
  obtain ⟨tb, htb⟩ : ∃ tb, tb = told b := ⟨_, rfl⟩
  obtain ⟨ta, hta⟩ : ∃ ta, ta = tail4 b := ⟨_, rfl⟩
  have hE1 : num32 ta ≠ sumN tb → openErr b = 20 := fun h => by unfold openErr; rw [if_neg (by omega), if_pos (by rw [← hta, ← htb]; exact h)]
  have hE2 : num32 ta = sumN tb → openErr b = readErr (bitsAll tb) := fun h => by unfold openErr; rw [if_neg (by omega), if_neg (by rw [← hta, ← htb]; exact not_not_intro h), ← htb]
  have ht4 : ta.length = 4 := by rw [hta]; exact tail4_length b (by omega)
  have htl : tb.length = n - 4 := by rw [htb, told_length, hn]
  rw [← hn] at h2 h6 hlen hb ⊢
  obtain ⟨P, hP⟩ : ∃ P, P = w.heap.size := ⟨_, rfl⟩
  obtain ⟨W, hW⟩ : ∃ W, W = ((w.alloc (.cells #[.int .i64 0, .int .i64 0, .int .i64 0, .int .i64 0, .int .i64 0, .slice none 0 0] 24)).alloc (.cells #[.slice (some ⟨bk, o, none⟩) (n - 4) cap] 22)).drew := ⟨_, rfl⟩
  have hbW : Below P w W := by rw [hW, hP]; exact (((Below.refl _ _).alloc (Nat.le_refl _) _).alloc (by simp) _).drew
  have hqW : W.heap[P]? = some (.cells #[.int .i64 0, .int .i64 0, .int .i64 0, .int .i64 0, .int .i64 0, .slice none 0 0] 24 (0, 0)) := by rw [hW, hP]; exact heap_alloc_keeps (heap_alloc_new w _) _
  have hlW : W.cell? ⟨P + 1, 0, none⟩ = some (.slice (some ⟨bk, o, none⟩) (n - 4) cap) := by rw [hW, hP]; exact cell_alloc_one _ _ (by simp) _ _
  have hVt : Bv W P (.slice (some ⟨bk, o, none⟩) (n - 4) cap) tb := by
    have h := (hb.upTo (k := n - 4) (by omega)).mono hB
    rw [show b.take (n - 4) = tb by rw [htb, told, hn]] at h
    exact h.below hbW (by rw [hP]; exact Nat.le_refl _) |>.mono (by rw [hP]; exact Nat.le_refl _)
  have hVa : Bv W P (.slice (some ⟨bk, o + (n - 4), none⟩) (n - (n - 4)) (cap - (n - 4))) ta := by
    have h := (hb.from_ (k := n - 4) (by omega)).mono hB
    rw [show b.drop (n - 4) = ta by rw [hta, tail4, hn]] at h
    exact h.below hbW (by rw [hP]; exact Nat.le_refl _) |>.mono (by rw [hP]; exact Nat.le_refl _)
  have CS := sum_any (P + 1) 1 [(.slice (some ⟨bk, o, none⟩) (n - 4) cap, tb)] W (fun j hj => by
    simp at hj; subst hj
    exact ⟨hlW, _, hVt⟩) (by simp)
  rw [show [(Value.slice (some ⟨bk, o, none⟩) (n - 4) cap, tb)].flatMap (·.2) = tb by simp] at CS
  have CN := fNumber_any P _ ta W hVa ht4
  have CQ := newSource_any (some ⟨bk, o, none⟩) cap tb W (by have := hVt.len; omega) hVt.small hVt.bytesAt'
  rw [htl] at CQ
  have hPW : P < W.heap.size := lt_of_block hqW
  have HW := hide hW; have HP := hide hP; have HBW := hide hbW; have HQW := hide hqW; have HTB := hide htb; have HPW := hide hPW
  have HE1 := hide hE1; have HE2 := hide hE2
  obtain ⟨sm, hsm⟩ : ∃ sm, sm = sumN tb := ⟨_, rfl⟩
  obtain ⟨nm, hnm⟩ : ∃ nm, nm = num32 ta := ⟨_, rfl⟩
  rw [← hsm] at CS; rw [← hnm] at CN
  rw [← hsm, ← hnm] at HE1 HE2
  have hcap : ¬ cap = n - 4 := by omega
  clear hb h3 hcell hn h2n hW hP hbW hqW hlW hVt hVa hta htb hE1 hE2 ht4 htl hPW hsm hnm
  go_enter Try.func37, Try.ntmps37
  go_wp2_with fail
  go_region
  go_wp2_with fail
  rw [← HW.out, ← HP.out]
  refine CS.mono ?_
  clear CS
  rintro e w' ⟨rfl, rfl⟩
  go_wp2_with fail
  refine CN.mono ?_
  clear CN
  rintro e w' ⟨rfl, rfl⟩
  by_cases heq : nm = sm
  · subst heq
    have HE := hide (HE2.out rfl)
    clear HE1 HE2
    go_wp2_with fail
    refine CQ.mono ?_
    clear CQ
    rintro e w2 ⟨q, rfl, hs2, b2⟩
    obtain ⟨p, hp⟩ : ∃ p, p = w2.heap.size := ⟨_, rfl⟩
    have hRd : RdIs (w2.alloc (.cells #[.pointer (some ⟨q, 0, none⟩), .int .i64 0] 74)) W.heap.size p q tb (0, bitsAll tb) := by
      refine ⟨by rw [hp]; exact b2.size, by rw [hp]; exact heap_alloc_new w2 _, bitsAll tb, ⟨0, hs2.below ((Below.refl _ _).alloc (Nat.le_refl _) _) (Nat.le_refl _), by simp [leftL]⟩, fun _ => rfl⟩
    have hB3 : W.heap.size ≤ (w2.alloc (.cells #[.pointer (some ⟨q, 0, none⟩), .int .i64 0] 74)).heap.size := by have := b2.size; simp; omega
    have HB3 := hide (HBW.out.trans ((b2.alloc b2.size (.cells #[.pointer (some ⟨q, 0, none⟩), .int .i64 0] 74)).mono (Nat.le_of_lt HPW.out)))
    have HQ3 := hide (((b2.alloc b2.size (.cells #[.pointer (some ⟨q, 0, none⟩), .int .i64 0] 74)).block P HPW.out).trans HQW.out)
    have CD := fdDatagram_any W.heap.size p q tb (bitsAll tb) _ hRd hB3
    have HP2 := hide hp; have H3sz := hide hB3
    obtain ⟨vf, hvf⟩ : ∃ vf : Int, vf = (((r3 (bitsAll tb)).1 : Nat) : Int) := ⟨_, rfl⟩
    obtain ⟨vt, hvt⟩ : ∃ vt : Int, vt = (((r4 (bitsAll tb)).1 : Nat) : Int) := ⟨_, rfl⟩
    obtain ⟨vk, hvk⟩ : ∃ vk : Int, vk = (((r1 (bitsAll tb)).1 : Nat) : Int) := ⟨_, rfl⟩
    obtain ⟨vs, hvs⟩ : ∃ vs : Int, vs = dS (bitsAll tb) := ⟨_, rfl⟩
    obtain ⟨va, hva⟩ : ∃ va : Int, va = wrap64 (((r5 (bitsAll tb)).1 : Nat) : Int) := ⟨_, rfl⟩
    obtain ⟨X, hX⟩ : ∃ X, X = dX (bitsAll tb) := ⟨_, rfl⟩
    obtain ⟨st, hst⟩ : ∃ st, st = rEnd (bitsAll tb) := ⟨_, rfl⟩
    rw [← hvf, ← hvt, ← hvk, ← hvs, ← hva, ← hX, ← hst] at CD
    have HVs := hide (show vf = (((r3 (bitsAll tb)).1 : Nat) : Int) ∧ vt = (((r4 (bitsAll tb)).1 : Nat) : Int) ∧ vk = (((r1 (bitsAll tb)).1 : Nat) : Int) ∧ vs = dS (bitsAll tb) ∧ va = wrap64 (((r5 (bitsAll tb)).1 : Nat) : Int) ∧ X = dX (bitsAll tb) from ⟨hvf, hvt, hvk, hvs, hva, hX⟩)
    have HSt := hide hst
    have HpP := hide (show ¬ p = P by rw [hp]; have := b2.size; have := HPW.out; omega)
    clear hs2 b2 hRd hB3 hvf hvt hvk hvs hva hX hst
    go_wp2_with fail
    rw [← hp]
    clear hp
    refine CD.mono ?_
    clear CD
    rintro e w4 ⟨v4, rfl, ho4, hr4, b4⟩
    obtain ⟨ao4, c4, rfl⟩ := own_slice ho4
    have HO4 := hide ho4; have HR4 := hide hr4; have HB4 := hide b4
    clear ho4 hr4 b4
    go_wp2_with fail
    refine (fdEnd_any W.heap.size p q tb st _ (HR4.out.below ((Below.refl w4.heap.size w4).alloc (Nat.le_refl _) _) (Nat.le_refl _))).mono ?_
    rintro e w6 ⟨rfl, hb6, k6⟩
    obtain ⟨d0, d1, d2, d3, d4, d5⟩ := cell_of_six (k6.typed _ _ _ _ (heap_alloc_new w4 (.cells #[.int .i64 vf, .int .i64 vt, .int .i64 vk, .int .i64 vs, .int .i64 va, .slice ao4 X.length c4] 24)) (by decide))
    obtain ⟨p0, p1⟩ := cell_of_two hb6
    have b45 := (HB4.out.alloc (Nat.le_trans H3sz.out HB4.out.size) (.cells #[.int .i64 vf, .int .i64 vt, .int .i64 vk, .int .i64 vs, .int .i64 va, .slice ao4 X.length c4] 24)).trans k6.below
    have hq6 := (b45.block P HPW.out).trans HQ3.out
    obtain ⟨x0, x1, x2, x3, x4, x5⟩ := cell_of_six hq6
    obtain ⟨y0, y1, y2, y3, y4, y5⟩ := free_of_six hq6
    have HQ6 := hide hq6
    have HB6 := hide (HB3.out.trans (b45.mono (Nat.le_of_lt HPW.out)))
    have HO6 := hide (k6.ownsRow (HO4.out.alloc (.cells #[.int .i64 vf, .int .i64 vt, .int .i64 vk, .int .i64 vs, .int .i64 va, .slice ao4 X.length c4] 24)) (by decide))
    have HEr := hide (show openErr b = rdE st by rw [HE.out, readErr, HSt.out])
    obtain ⟨er, her⟩ : ∃ er, er = rdE st := ⟨_, rfl⟩
    rw [← her] at p1 HEr
    have HPp := hide (show P ≤ (w2.alloc (.cells #[.pointer (some ⟨q, 0, none⟩), .int .i64 0] 74)).heap.size from Nat.le_trans (Nat.le_of_lt HPW.out) H3sz.out)
    clear hb6 k6 b45 hq6 her
    go_wp2_with fail
    have hpP := HpP.out
    have hPp : ¬ P = p := fun h => hpP h.symm
    go_region
    go_wp2
    have hz := cell_of_six (six_set HQ6.out (.int .i64 vf) (.int .i64 vt) (.int .i64 vk) (.int .i64 vs) (.int .i64 va) (.slice ao4 X.length c4))
    refine bodyPost_ret (v := .tuple #[.agg #[.int .i64 vf, .int .i64 vt, .int .i64 vk, .int .i64 vs, .int .i64 va, .slice ao4 X.length c4], .int .i64 (er : Int)]) (by simp [results, Try.results37, go_sem, hz]) rfl ?_
    have hlow := ownsRow_lower HO6.out HPp.out
    have hown := ownsRow_drew (own_six hlow HQ6.out (by decide) (.int .i64 vf) (.int .i64 vt) (.int .i64 vk) (.int .i64 vs) (.int .i64 va) (.slice ao4 X.length c4))
    have hbel := (below_six HB6.out (Nat.le_refl _) (.int .i64 vf) (.int .i64 vt) (.int .i64 vk) (.int .i64 vs) (.int .i64 va) (.slice ao4 X.length c4)).drew
    refine ⟨vf, vt, vk, vs, va, .slice ao4 X.length c4, X, by rw [HEr.out], ?_, ?_, by rw [HVs.out.2.2.2.2.2]; exact dX_le _, fun _ => ?_⟩
    · rw [← HP.out]; exact hown
    · rw [← HP.out]; exact hbel
    · rw [← HTB.out]; exact HVs.out
  · have hne : ((sm : Int) != (nm : Int)) = true := by simp; omega
    have HE := hide (HE1.out heq)
    clear HE1 HE2 heq CQ
    obtain ⟨x0, x1, x2, x3, x4, x5⟩ := cell_of_six HQW.out
    obtain ⟨y0, y1, y2, y3, y4, y5⟩ := free_of_six HQW.out
    go_wp2
    have hz := cell_of_six (six_set HQW.out (.int .i64 0) (.int .i64 0) (.int .i64 0) (.int .i64 0) (.int .i64 0) (.slice none 0 0))
    refine bodyPost_ret (v := .tuple #[.agg #[.int .i64 0, .int .i64 0, .int .i64 0, .int .i64 0, .int .i64 0, .slice none 0 0], .int .i64 20]) (by simp [results, Try.results37, go_sem, hz]) rfl ?_
    exact OpenPost.bad HE.out (by decide) (by rw [← HP.out]; exact below_six HBW.out (Nat.le_refl _) (.int .i64 0) (.int .i64 0) (.int .i64 0) (.int .i64 0) (.int .i64 0) (.slice none 0 0))
end Go.Proofs.Ytebojmjbolphfaa
