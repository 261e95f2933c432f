/- Contract: two partial matches put together: the document's. -/
import Derived.Test.YtppacelaeaaodaaMg0
import Derived.Test.YtppacelaeaaodaaCr0
import Derived.Test.YtppacelaeaaodaaRc0
import Derived.BigQuiet
import Derived.Deep.QuietTactic
namespace Go.Proofs.Ytppacelaeaaodaa
open Go Go.RowKit

/-- What has been put together of the first i and the first k. -/
structure MgS (a b : List Bd) (i k : Nat) (m : List Bd) : Prop where
  perm : m.Perm (a.take i ++ b.take k)
  srt : m.Pairwise fun x y => cbV x y ≤ 0
  la : ∀ x ∈ m, i < a.length → cbV x a[i]! ≤ 0
  lb : ∀ x ∈ m, k < b.length → cbV x b[k]! ≤ 0
theorem MgS.start (a b : List Bd) : MgS a b 0 0 [] := ⟨List.Perm.refl _, List.Pairwise.nil, (fun x h => by cases h), fun x h => by cases h⟩
theorem ris_next {a : List Bd} (h : ckP a = 0) {i : Nat} (hi : i + 1 < a.length) : cbV a[i]! a[i + 1]! ≤ 0 := by
  have := (List.pairwise_iff_getElem.1 ((ckP_iff a).1 h).ris) i (i + 1) (by omega) hi (by omega)
  rw [getElem!_pos a i (by omega), getElem!_pos a (i + 1) hi]; omega
theorem cbV_le_trans {x y z : Bd} (h1 : cbV x y ≤ 0) (h2 : cbV y z ≤ 0) : cbV x z ≤ 0 := (cb_trans _ _ _ h1 h2).1
theorem MgS.stepA {a b : List Bd} {i k : Nat} {m : List Bd} (h : MgS a b i k m) (ha : ckP a = 0) (hi : i < a.length) (hk : k < b.length → cbV a[i]! b[k]! ≤ 0) : MgS a b (i + 1) k (m ++ [a[i]!]) := by
  refine ⟨?_, ?_, fun x hx hi' => ?_, fun x hx hk' => ?_⟩
  · rw [take_one hi]
    refine (h.perm.append_right _).trans ?_
    rw [List.append_assoc, List.append_assoc]
    exact List.Perm.append_left _ List.perm_append_comm
  · rw [List.pairwise_append]
    exact ⟨h.srt, List.pairwise_singleton _ _, fun x hx y hy => by rw [List.mem_singleton.1 hy]; exact h.la x hx hi⟩
  · rcases List.mem_append.1 hx with hx | hx
    · exact cbV_le_trans (h.la x hx hi) (ris_next ha hi')
    · rw [List.mem_singleton.1 hx]; exact ris_next ha hi'
  · rcases List.mem_append.1 hx with hx | hx
    · exact h.lb x hx hk'
    · rw [List.mem_singleton.1 hx]; exact hk hk'
theorem MgS.stepB {a b : List Bd} {i k : Nat} {m : List Bd} (h : MgS a b i k m) (hb : ckP b = 0) (hk : k < b.length) (hi : i < a.length → ¬ cbV a[i]! b[k]! ≤ 0) : MgS a b i (k + 1) (m ++ [b[k]!]) := by
  refine ⟨?_, ?_, fun x hx hi' => ?_, fun x hx hk' => ?_⟩
  · rw [take_one hk, ← List.append_assoc]
    exact h.perm.append_right _
  · rw [List.pairwise_append]
    exact ⟨h.srt, List.pairwise_singleton _ _, fun x hx y hy => by rw [List.mem_singleton.1 hy]; exact h.lb x hx hk⟩
  · rcases List.mem_append.1 hx with hx | hx
    · exact h.la x hx hi'
    · rw [List.mem_singleton.1 hx]
      have := hi hi'; have := cbV_swap a[i]! b[k]!; omega
  · rcases List.mem_append.1 hx with hx | hx
    · exact cbV_le_trans (h.lb x hx hk) (ris_next hb hk')
    · rw [List.mem_singleton.1 hx]; exact ris_next hb hk'
theorem MgS.fin {a b m : List Bd} (h : MgS a b a.length b.length m) : MrgR a b m := ⟨by have := h.perm; rwa [List.take_length, List.take_length] at this, h.srt⟩

/-- How things stand within the document's Merge: a row of its own, from block base on. -/
structure RmS (W : World) (base : Nat) (w : World) (P : Nat) (v : Value) (N : Nat) (m : List Bd) (u : World) : Prop where
  below : Below W.heap.size W u
  le : base ≤ u.heap.size
  len : m.length = N
  row : ∃ ys, u.ownsRow base 39 6 v N ys ∧ RwL (AvN w P) m ys
theorem numsM {n n2 i k N : Nat} (h1 : n * 80 ≤ 140737488355328) (h2 : n2 * 80 ≤ 140737488355328) (hi : i ≤ n) (hk : k ≤ n2) (hN : N = i + k) (hl : i < n ∨ k < n2) (h12 : n ≤ 12) (h13 : n2 ≤ 12) : N + 1 ≤ maxLen ∧ (N + 1) * 80 ≤ 140737488355328 := by unfold maxLen; omega
theorem RmS.step {W w u w4 : World} {base P N q c4 : Nat} {v : Value} {m : List Bd} {Y : Obj} {x : Bd} {aa lo4 : Option Addr} {ac : Nat} {ys : List Value} (h : RmS W base w P v N m u) (hrow : u.ownsRow base 39 6 v N ys) (hrw : RwL (AvN w P) m ys) (hav : AvN w P (.slice aa x.ev.ats.length ac) x.ev.ats) (hWb : W.heap.size ≤ base)
    (hown : w4.ownsRow base 39 6 (.slice lo4 (N + 1) c4) (N + 1) (ys ++ encB x (.slice aa x.ev.ats.length ac))) (hg : ((u.drewN q).alloc Y).grownBy w4 v.ownBlock) : RmS W base w P (.slice lo4 (N + 1) c4) (N + 1) (m ++ [x]) w4 := by
  have hs := hg.size
  have hl := h.le
  have hz : ((u.drewN q).alloc Y).heap.size = u.heap.size + 1 := by simp [World.size_alloc]
  refine ⟨((Below.drewN' h.below q).alloc (show W.heap.size ≤ u.heap.size by omega) Y).grown hg (by omega) (fun k hk => by have := hrow.lt k hk; omega), by omega, by rw [List.length_append, h.len, List.length_singleton], _, hown, hrw.app (RwL.single hav)⟩
theorem RmS.bsv {W w u : World} {base P N : Nat} {v : Value} {m : List Bd} (h : RmS W base w P v N m u) (hb : Below P w u) (hP : P ≤ u.heap.size) (hw : ∀ x ∈ m, x.var.size ≤ maxLen ∧ x.ev.ty.size ≤ maxLen) (hl : m.length * 80 ≤ 140737488355328) : BsV u u.heap.size v m := by
  obtain ⟨ys, h1, h2⟩ := h.row
  rw [← h.len] at h1
  exact BsV.of_own h1 (h2.imp fun v x _ hx => (hx.below hb (Nat.le_refl _)).mono hP) hw hl

set_option maxRecDepth 100000 in
set_option maxHeartbeats 12800000 in
theorem r10Merge_any (B C : Nat) (ao : Option Addr) (n cap : Nat) (ao2 : Option Addr) (n2 cap2 : Nat) (cs bs : List Bd) (w : World) (h1 : BsV w B (.slice ao n cap) cs) (h2 : BsV w C (.slice ao2 n2 cap2) bs) (hB : B ≤ w.heap.size) (hC : C ≤ w.heap.size) :
    Calls Try.prog 28 #[.agg #[.slice ao n cap], .agg #[.slice ao2 n2 cap2]] w fun e w' => ∃ v', e = .returned (.tuple #[.agg #[v'], .bool (mergeO cs bs).isSome]) ∧ BsO w' w.heap.size v' ((mergeO cs bs).getD []) ∧ Below w.heap.size w w' := by
  obtain ⟨i0, hi0, hz0, hz1, hz2⟩ := info_parts infoBd
  obtain ⟨P, hP⟩ : ∃ P, P = w.heap.size := ⟨_, rfl⟩
  obtain ⟨W, hW⟩ : ∃ W, W = ((w.alloc (.cells #[.slice ao n cap] 24)).alloc (.cells #[.slice ao2 n2 cap2] 24)).alloc (.cells #[.slice none 0 0] 24) := ⟨_, rfl⟩
  have HB0 : Hid (Below P w W) := by rw [hW, hP]; exact (((Below.refl _ _).alloc (Nat.le_refl _) _).alloc (by simp) _).alloc (by simp; omega) _
  have p0 : W.heap[P]? = some (.cells #[.slice ao n cap] 24 (0, 0)) := by rw [hW, hP]; exact heap_alloc_keeps (heap_alloc_keeps (heap_alloc_new w _) _) _
  have p1 : W.heap[P + 1]? = some (.cells #[.slice ao2 n2 cap2] 24 (0, 0)) := by rw [hW, hP]; exact heap_alloc_keeps (heap_alloc_at (by simp) rfl) _
  have p2 : W.heap[P + 1 + 1]? = some (.cells #[.slice none 0 0] 24 (0, 0)) := by rw [hW, hP]; exact heap_alloc_at (by simp) rfl
  have hWs := lt_of_block p2
  have k1 := (h1.below HB0.out (by omega)).mono (show B ≤ P by omega)
  have k2 := (h2.below HB0.out (by omega)).mono (show C ≤ P by omega)
  have HK1 := Lib.hid (fun u (hu : Below W.heap.size W u) => k1.below hu (by omega)); have HK2 := Lib.hid (fun u (hu : Below W.heap.size W u) => k2.below hu (by omega))
  have HPS : Hid (P ≤ W.heap.size) := Lib.hid (by omega)
  have HPS2 : Hid (P + 1 + 1 < W.heap.size) := Lib.hid hWs
  have HC1 := Lib.hid (fun u (hu : Below W.heap.size W u) => r10Check_any P ao n cap cs u (HK1.out u hu) (Nat.le_trans HPS.out hu.size))
  have HC2 := Lib.hid (fun u (hu : Below W.heap.size W u) => r10Check_any P ao2 n2 cap2 bs u (HK2.out u hu) (Nat.le_trans HPS.out hu.size))
  have HX := Lib.hid (fun u (hu : Below W.heap.size W u) => And.intro (cells_one0 ((hu.block P (by omega)).trans p0)) (cells_one0 ((hu.block (P + 1) (by omega)).trans p1)))
  have HX2 := Lib.hid (fun u (hu : Below W.heap.size W u) => (hu.block (P + 1 + 1) hWs).trans p2)
  have HBR : Hid (Below W.heap.size W W) := Lib.hid (Below.refl _ _)
  obtain ⟨c0, c1⟩ := HX.out _ HBR.out
  have HN1 := Lib.hid h1.num.1; have HN2 := Lib.hid h2.num.1
  have HL1 := Lib.hid h1.num.2.2.2.2.2; have HL2 := Lib.hid h2.num.2.2.2.2.2
  have HH1 := Lib.hid (h1.mono (show B ≤ P by omega)); have HH2 := Lib.hid (h2.mono (show C ≤ P by omega))
  have HWD : Hid (∀ x ∈ cs ++ bs, x.var.size ≤ maxLen ∧ x.ev.ty.size ≤ maxLen) := Lib.hid (fun x hx => (List.mem_append.1 hx).elim (h1.wide x) (h2.wide x))
  have HW := Lib.hid hW; have HP := Lib.hid hP
  have MA := Lib.hid (mergeO_a (a := cs) (b := bs)); have MB := Lib.hid (mergeO_b (a := cs) (b := bs))
  have MN := Lib.hid (fun m => mergeO_no (a := cs) (b := bs) (m := m)); have MY := Lib.hid (fun m => mergeO_yes (a := cs) (b := bs) (m := m))
  have ML := Lib.hid (merge_len (a := cs) (b := bs))
  rw [← hP]
  clear h1 h2 hB hC hP hW p0 p1 p2 hWs k1 k2
  by_cases za : ckP cs = 0
  case neg =>
    have HR := Lib.hid (MA.out za)
    have hz1 : (ckP cs == 0) = false := beq_eq_false_iff_ne.2 za
    have hz2 : (ckP cs != 0) = true := by simp [za]
    generalize ckP cs = ca at HC1 hz1 hz2
    clear za
    go_enter Try.func28, Try.ntmps28
    go_wp2_with fail
    rw [← HP.out, ← HW.out]
    refine (HC1.out _ HBR.out).mono ?_
    rintro e w1 ⟨rfl, hb1⟩
    have x2 := HX2.out _ hb1
    have d2 := cells_one0 x2
    have z2 : w1.frozen? ⟨P + 1 + 1, 0, none⟩ = false := by simp [World.frozen?, x2]
    have HS := Lib.hid (heap_setCell_same (k := 0) x2 (.slice none 0 0))
    have HB2 := Lib.hid ((HB0.out.trans (hb1.mono HPS.out)).setCell (p := ⟨P + 1 + 1, 0, none⟩) (by show P ≤ P + 1 + 1; omega) (.slice none 0 0))
    clear hb1 x2 c0 c1
    go_wp2
    have z := cells_one0 HS.out
    refine bodyPost_ret (v := .tuple #[.agg #[.slice none 0 0], .bool false]) (by simp [results, Try.results28, go_sem, z]) rfl ⟨_, by rw [HR.out]; rfl, ?_, HB2.out⟩
    rw [HR.out]; exact BsO.nil _ _
  case pos =>
    by_cases zb : ckP bs = 0
    case neg =>
      have HR := Lib.hid (MB.out zb)
      rw [za] at HC1
      have hz1 : (ckP bs == 0) = false := beq_eq_false_iff_ne.2 zb
      have hz2 : (ckP bs != 0) = true := by simp [zb]
      generalize ckP bs = cb at HC2 hz1 hz2
      clear za zb
      go_enter Try.func28, Try.ntmps28
      go_wp2_with fail
      rw [← HP.out, ← HW.out]
      refine (HC1.out _ HBR.out).mono ?_
      rintro e w1 ⟨rfl, hb1⟩
      clear c0 c1
      obtain ⟨c0, c1⟩ := HX.out _ hb1
      have HB1 := Lib.hid hb1
      clear hb1
      go_wp2_with fail
      refine (HC2.out _ HB1.out).mono ?_
      rintro e w2 ⟨rfl, hb2⟩
      have hb12 := HB1.out.trans (hb2.mono HB1.out.size)
      have x2 := HX2.out _ hb12
      have d2 := cells_one0 x2
      have z2 : w2.frozen? ⟨P + 1 + 1, 0, none⟩ = false := by simp [World.frozen?, x2]
      have HS := Lib.hid (heap_setCell_same (k := 0) x2 (.slice none 0 0))
      have HB2 := Lib.hid ((HB0.out.trans (hb12.mono HPS.out)).setCell (p := ⟨P + 1 + 1, 0, none⟩) (by show P ≤ P + 1 + 1; omega) (.slice none 0 0))
      clear hb2 hb12 x2 c0 c1
      go_wp2
      have z := cells_one0 HS.out
      refine bodyPost_ret (v := .tuple #[.agg #[.slice none 0 0], .bool false]) (by simp [results, Try.results28, go_sem, z]) rfl ⟨_, by rw [HR.out]; rfl, ?_, HB2.out⟩
      rw [HR.out]; exact BsO.nil _ _
    case pos =>
      rw [za] at HC1
      rw [zb] at HC2
      have HZA := Lib.hid za; have HZB := Lib.hid zb
      have HL12 : Hid (n ≤ 12) := Lib.hid (by rw [HN1.out]; exact ((ckP_iff _).1 za).len)
      have HL13 : Hid (n2 ≤ 12) := Lib.hid (by rw [HN2.out]; exact ((ckP_iff _).1 zb).len)
      have HMS := Lib.hid (fun m (h : MrgR cs bs m) => And.intro (fun x hx => HWD.out x (h.1.mem_iff.1 hx)) (show m.length * 80 ≤ 140737488355328 by rw [h.1.length_eq]; exact ML.out za zb))
      clear za zb
      go_enter Try.func28, Try.ntmps28
      go_wp2_with fail
      rw [← HP.out, ← HW.out]
      refine (HC1.out _ HBR.out).mono ?_
      rintro e w1 ⟨rfl, hb1⟩
      clear c0 c1
      obtain ⟨c0, c1⟩ := HX.out _ hb1
      have HB1 := Lib.hid hb1
      clear hb1
      go_wp2_with fail
      refine (HC2.out _ HB1.out).mono ?_
      rintro e w2 ⟨rfl, hb2⟩
      have HB2 := Lib.hid (HB1.out.trans (hb2.mono HB1.out.size))
      clear hb2 c0 c1
      obtain ⟨c0, c1⟩ := HX.out _ HB2.out
      go_wp2_with fail
      have HBL : Hid (RmS W w2.heap.size w P (.slice none 0 0) 0 [] w2) := Lib.hid ⟨HB2.out, Nat.le_refl _, rfl, [], World.ownsRow_nil _ _ _ _, rfl⟩
      have HM0 := Lib.hid (MgS.start cs bs)
      go_loopw [6, 7, 8] (fun lv iv kv wr => ∃ (i k N c : Nat) (lo : Option Addr) (m : List Bd), i ≤ n ∧ k ≤ n2 ∧ N = i + k ∧ iv = .int .i64 i ∧ kv = .int .i64 k ∧ lv = .slice lo N c ∧ Hid (MgS cs bs i k m) ∧ Hid (RmS W w2.heap.size w P (.slice lo N c) N m wr)) (fun _ iv kv _ => (n - (intOf iv).toNat) + (n2 - (intOf kv).toNat))
      case atStart => exact ⟨0, 0, 0, 0, none, [], Nat.zero_le _, Nat.zero_le _, rfl, rfl, rfl, rfl, HM0, HBL⟩
      case round =>
        obtain ⟨i, k, N, c, lo, m, hi, hk, hN, rfl, rfl, rfl, HG, HR⟩ := hrel
        have HNE := Lib.hid hN
        clear hN
        clear c0 c1
        obtain ⟨c0, c1⟩ := HX.out _ HR.out.below
        have HBW : Hid (Below P w wr) := Lib.hid (HB0.out.trans (HR.out.below.mono HPS.out))
        have hii : (0 : Int) ≤ (i : Int) := by omega
        have hkk : (0 : Int) ≤ (k : Int) := by omega
        by_cases hin : i < n
        · have hin' : (i : Int) < (n : Int) := by omega
          have hin2 := decide_eq_true hin'
          have HNU := Lib.hid (numsM HL1.out HL2.out hi hk HNE.out (.inl hin) HL12.out HL13.out)
          have e1 : IntKind.i64.wrap ((i : Int) + 1) = (i : Int) + 1 := IntWalk.i64_in _ (by have := HL12.out; omega)
          obtain ⟨b, o, aa, ac, rfl, _, hklx, _, _, hnil, hav, hc⟩ := HH1.out.at hin
          have HCx := Lib.hid (fun u (hu : Below P w u) => six_cells (hc u hu))
          have HAVx := Lib.hid (show AvN w P _ _ from ⟨hav, fun n c e => by simp only [Value.slice.injEq] at e; rw [← e.2.2]; exact hnil e.1⟩)
          clear hc hav hnil
          by_cases hkn : k < n2
          · have hkn' : (k : Int) < (n2 : Int) := by omega
            have hkn2 := decide_eq_true hkn'
            have hkn3 : ((k : Int) == (n2 : Int)) = false := by simp; omega
            have e2 : IntKind.i64.wrap ((k : Int) + 1) = (k : Int) + 1 := IntWalk.i64_in _ (by have := HL13.out; omega)
            obtain ⟨b2, o2, aa2, ac2, rfl, _, hkly, _, _, hnil, hav, hc⟩ := HH2.out.at hkn
            have HCy := Lib.hid (fun u (hu : Below P w u) => six_cells (hc u hu))
            have HAVy := Lib.hid (show AvN w P _ _ from ⟨hav, fun n c e => by simp only [Value.slice.injEq] at e; rw [← e.2.2]; exact hnil e.1⟩)
            clear hc hav hnil
            obtain ⟨a0, a1, a2, a3, a4, a5⟩ := HCx.out _ HBW.out
            obtain ⟨d0, d1, d2, d3, d4, d5⟩ := HCy.out _ HBW.out
            have HSA := Lib.hid (fun h => HG.out.stepA HZA.out hklx h); have HSB := Lib.hid (fun h => HG.out.stepB HZB.out hkly h)
            have hle := leq_at (a := cs[i]!.var) (b := bs[k]!.var) rfl
            have hcv : cbV cs[i]! bs[k]! = Lib.compareBytes cs[i]!.var.data.toList bs[k]!.var.data.toList := rfl
            by_cases hlec : cbV cs[i]! bs[k]! ≤ 0
            · have HMG := Lib.hid (HSA.out (fun _ => hlec))
              have hr := cb_range cs[i]!.var.data.toList bs[k]!.var.data.toList
              have HAV := HAVx
              clear HSA HSB HAVx HAVy HCx HCy hklx hkly
              generalize cs[i]! = x at a0 a1 a2 a3 a4 a5 hle hcv hlec HMG HAV hr
              generalize bs[k]! = y at d0 d1 d2 d3 d4 d5 hle hcv hlec hr
              rw [hcv] at hlec
              obtain ⟨hl1, hl2⟩ := hle
              generalize Lib.compareBytes x.var.data.toList y.var.data.toList = cc at hl1 hl2 hlec hr
              have hc3 : cc = -1 ∨ cc = 0 := by omega
              clear hlec hr hcv d1 d2 d3 d4 d5
              obtain ⟨ys, how, hrw⟩ := HR.out.row
              have HOW := Lib.hid (fun q => own_call0 how (Below.alloc (Below.drewN' (Below.refl wr.heap.size wr) q) (Nat.le_refl _) (.cells #[.string x.var, .int .i64 x.ev.src, .int .i64 x.ev.seq, .int .i64 x.ev.time, .string x.ev.ty, .slice aa x.ev.ats.length ac] 39)))
              have HLE := Lib.hid (fun q => show w2.heap.size ≤ ((wr.drewN q).alloc (.cells #[.string x.var, .int .i64 x.ev.src, .int .i64 x.ev.seq, .int .i64 x.ev.time, .string x.ev.ty, .slice aa x.ev.ats.length ac] 39)).heap.size from Nat.le_trans HR.out.le (Below.alloc (Below.drewN' (Below.refl wr.heap.size wr) q) (Nat.le_refl _) (.cells #[.string x.var, .int .i64 x.ev.src, .int .i64 x.ev.seq, .int .i64 x.ev.time, .string x.ev.ty, .slice aa x.ev.ats.length ac] 39)).size)
              have HST := Lib.hid (fun q (w4 : World) (lo4 : Option Addr) (c4 : Nat) (h1 : w4.ownsRow w2.heap.size 39 6 (.slice lo4 (N + 1) c4) (N + 1) (ys ++ encB x (.slice aa x.ev.ats.length ac))) (h2 : ((wr.drewN q).alloc (.cells #[.string x.var, .int .i64 x.ev.src, .int .i64 x.ev.seq, .int .i64 x.ev.time, .string x.ev.ty, .slice aa x.ev.ats.length ac] 39)).grownBy w4 (Value.slice lo N c).ownBlock) => HR.out.step how hrw HAV.out HB2.out.size h1 h2)
              clear how hrw
              rcases hc3 with rfl | rfl
              all_goals
                simp only [show decide ((-1 : Int) < 0) = true from rfl, show decide ((0 : Int) < 0) = false from rfl, show decide ((-1 : Int) = 0) = false from rfl] at hl1 hl2
                go_wp2_with fail
                go_quiet (fail)
                go_wp2_with (at_builtin; refine wpList_append_own _ rfl _ _ 22 rfl w2.heap.size 39 i0 (.agg #[.string ⟨#[]⟩, .int .i64 0, .int .i64 0, .int .i64 0, .string ⟨#[]⟩, .slice none 0 0]) 6 80 Try.underlying22 hi0 hz0 hz1 hz2 rfl (by decide) _ N ys rfl (HOW.out _) ⟨wr.heap.size, 0, none⟩ 1 1 (encB x (.slice aa x.ev.ats.length ac)) rfl rfl (RwL.news _ x aa ac) (encB_one _ _ _ _) HNU.out.1 HNU.out.2 (HLE.out _) ?_; intro v4 w4 hown4 hg4 hn4; clear hn4; obtain ⟨lo4, c4, rfl⟩ := own_slice hown4; have HF := Lib.hid (HST.out _ w4 lo4 c4 hown4 hg4); clear hown4 hg4)
                go_roundw
                case rel => exact ⟨i + 1, k, N + 1, c4, lo4, _, by omega, by omega, by have := HNE.out; omega, by go_num, by go_num, rfl, HMG, HF⟩
                case measure => simp [intOf]; omega
            · have HMG := Lib.hid (HSB.out (fun _ => hlec))
              have HAV := HAVy
              clear HSA HSB HAVx HAVy HCx HCy hklx hkly
              generalize cs[i]! = y at a0 a1 a2 a3 a4 a5 hle hcv hlec HMG
              generalize bs[k]! = x at d0 d1 d2 d3 d4 d5 hle hcv hlec HMG HAV
              rw [hcv] at hlec
              obtain ⟨hl1, hl2⟩ := hle
              rw [decide_eq_false (by omega)] at hl1 hl2
              clear hlec hcv a1 a2 a3 a4 a5
              obtain ⟨ys, how, hrw⟩ := HR.out.row
              have HOW := Lib.hid (fun q => own_call0 how (Below.alloc (Below.drewN' (Below.refl wr.heap.size wr) q) (Nat.le_refl _) (.cells #[.string x.var, .int .i64 x.ev.src, .int .i64 x.ev.seq, .int .i64 x.ev.time, .string x.ev.ty, .slice aa2 x.ev.ats.length ac2] 39)))
              have HLE := Lib.hid (fun q => show w2.heap.size ≤ ((wr.drewN q).alloc (.cells #[.string x.var, .int .i64 x.ev.src, .int .i64 x.ev.seq, .int .i64 x.ev.time, .string x.ev.ty, .slice aa2 x.ev.ats.length ac2] 39)).heap.size from Nat.le_trans HR.out.le (Below.alloc (Below.drewN' (Below.refl wr.heap.size wr) q) (Nat.le_refl _) (.cells #[.string x.var, .int .i64 x.ev.src, .int .i64 x.ev.seq, .int .i64 x.ev.time, .string x.ev.ty, .slice aa2 x.ev.ats.length ac2] 39)).size)
              have HST := Lib.hid (fun q (w4 : World) (lo4 : Option Addr) (c4 : Nat) (h1 : w4.ownsRow w2.heap.size 39 6 (.slice lo4 (N + 1) c4) (N + 1) (ys ++ encB x (.slice aa2 x.ev.ats.length ac2))) (h2 : ((wr.drewN q).alloc (.cells #[.string x.var, .int .i64 x.ev.src, .int .i64 x.ev.seq, .int .i64 x.ev.time, .string x.ev.ty, .slice aa2 x.ev.ats.length ac2] 39)).grownBy w4 (Value.slice lo N c).ownBlock) => HR.out.step how hrw HAV.out HB2.out.size h1 h2)
              clear how hrw
              go_wp2_with fail
              go_quiet (fail)
              go_wp2_with (at_builtin; refine wpList_append_own _ rfl _ _ 22 rfl w2.heap.size 39 i0 (.agg #[.string ⟨#[]⟩, .int .i64 0, .int .i64 0, .int .i64 0, .string ⟨#[]⟩, .slice none 0 0]) 6 80 Try.underlying22 hi0 hz0 hz1 hz2 rfl (by decide) _ N ys rfl (HOW.out _) ⟨wr.heap.size, 0, none⟩ 1 1 (encB x (.slice aa2 x.ev.ats.length ac2)) rfl rfl (RwL.news _ x aa2 ac2) (encB_one _ _ _ _) HNU.out.1 HNU.out.2 (HLE.out _) ?_; intro v4 w4 hown4 hg4 hn4; clear hn4; obtain ⟨lo4, c4, rfl⟩ := own_slice hown4; have HF := Lib.hid (HST.out _ w4 lo4 c4 hown4 hg4); clear hown4 hg4)
              go_roundw
              case rel => exact ⟨i, k + 1, N + 1, c4, lo4, _, by omega, by omega, by have := HNE.out; omega, by go_num, by go_num, rfl, HMG, HF⟩
              case measure => simp [intOf]; omega
          · have hkn' : ¬ (k : Int) < (n2 : Int) := by omega
            have hkn2 := decide_eq_false hkn'
            have hkn3 : ((k : Int) == (n2 : Int)) = true := by simp; omega
            have HMG := Lib.hid (HG.out.stepA HZA.out hklx (fun h => absurd h (by rw [← HN2.out]; exact hkn)))
            obtain ⟨a0, a1, a2, a3, a4, a5⟩ := HCx.out _ HBW.out
            have HAV := HAVx
            clear HAVx HCx hklx
            generalize cs[i]! = x at a0 a1 a2 a3 a4 a5 HMG HAV
            obtain ⟨ys, how, hrw⟩ := HR.out.row
            have HOW := Lib.hid (fun q => own_call0 how (Below.alloc (Below.drewN' (Below.refl wr.heap.size wr) q) (Nat.le_refl _) (.cells #[.string x.var, .int .i64 x.ev.src, .int .i64 x.ev.seq, .int .i64 x.ev.time, .string x.ev.ty, .slice aa x.ev.ats.length ac] 39)))
            have HLE := Lib.hid (fun q => show w2.heap.size ≤ ((wr.drewN q).alloc (.cells #[.string x.var, .int .i64 x.ev.src, .int .i64 x.ev.seq, .int .i64 x.ev.time, .string x.ev.ty, .slice aa x.ev.ats.length ac] 39)).heap.size from Nat.le_trans HR.out.le (Below.alloc (Below.drewN' (Below.refl wr.heap.size wr) q) (Nat.le_refl _) (.cells #[.string x.var, .int .i64 x.ev.src, .int .i64 x.ev.seq, .int .i64 x.ev.time, .string x.ev.ty, .slice aa x.ev.ats.length ac] 39)).size)
            have HST := Lib.hid (fun q (w4 : World) (lo4 : Option Addr) (c4 : Nat) (h1 : w4.ownsRow w2.heap.size 39 6 (.slice lo4 (N + 1) c4) (N + 1) (ys ++ encB x (.slice aa x.ev.ats.length ac))) (h2 : ((wr.drewN q).alloc (.cells #[.string x.var, .int .i64 x.ev.src, .int .i64 x.ev.seq, .int .i64 x.ev.time, .string x.ev.ty, .slice aa x.ev.ats.length ac] 39)).grownBy w4 (Value.slice lo N c).ownBlock) => HR.out.step how hrw HAV.out HB2.out.size h1 h2)
            clear how hrw
            go_wp2_with fail
            go_quiet (fail)
            go_wp2_with (at_builtin; refine wpList_append_own _ rfl _ _ 22 rfl w2.heap.size 39 i0 (.agg #[.string ⟨#[]⟩, .int .i64 0, .int .i64 0, .int .i64 0, .string ⟨#[]⟩, .slice none 0 0]) 6 80 Try.underlying22 hi0 hz0 hz1 hz2 rfl (by decide) _ N ys rfl (HOW.out _) ⟨wr.heap.size, 0, none⟩ 1 1 (encB x (.slice aa x.ev.ats.length ac)) rfl rfl (RwL.news _ x aa ac) (encB_one _ _ _ _) HNU.out.1 HNU.out.2 (HLE.out _) ?_; intro v4 w4 hown4 hg4 hn4; clear hn4; obtain ⟨lo4, c4, rfl⟩ := own_slice hown4; have HF := Lib.hid (HST.out _ w4 lo4 c4 hown4 hg4); clear hown4 hg4)
            go_roundw
            case rel => exact ⟨i + 1, k, N + 1, c4, lo4, _, by omega, by omega, by have := HNE.out; omega, by go_num, by go_num, rfl, HMG, HF⟩
            case measure => simp [intOf]; omega
        · have hin' : ¬ (i : Int) < (n : Int) := by omega
          have hin2 := decide_eq_false hin'
          by_cases hkn : k < n2
          · have hkn' : (k : Int) < (n2 : Int) := by omega
            have hkn2 := decide_eq_true hkn'
            have hkn3 : ((k : Int) == (n2 : Int)) = false := by simp; omega
            have HNU := Lib.hid (numsM HL1.out HL2.out hi hk HNE.out (.inr hkn) HL12.out HL13.out)
            have e2 : IntKind.i64.wrap ((k : Int) + 1) = (k : Int) + 1 := IntWalk.i64_in _ (by have := HL13.out; omega)
            obtain ⟨b2, o2, aa2, ac2, rfl, _, hkly, _, _, hnil, hav, hc⟩ := HH2.out.at hkn
            have HCy := Lib.hid (fun u (hu : Below P w u) => six_cells (hc u hu))
            have HAVy := Lib.hid (show AvN w P _ _ from ⟨hav, fun n c e => by simp only [Value.slice.injEq] at e; rw [← e.2.2]; exact hnil e.1⟩)
            clear hc hav hnil
            obtain ⟨d0, d1, d2, d3, d4, d5⟩ := HCy.out _ HBW.out
            have HMG := Lib.hid (HG.out.stepB HZB.out hkly (fun h => absurd h (by rw [← HN1.out]; exact hin)))
            have HAV := HAVy
            clear HAVy HCy hkly
            generalize bs[k]! = x at d0 d1 d2 d3 d4 d5 HMG HAV
            obtain ⟨ys, how, hrw⟩ := HR.out.row
            have HOW := Lib.hid (fun q => own_call0 how (Below.alloc (Below.drewN' (Below.refl wr.heap.size wr) q) (Nat.le_refl _) (.cells #[.string x.var, .int .i64 x.ev.src, .int .i64 x.ev.seq, .int .i64 x.ev.time, .string x.ev.ty, .slice aa2 x.ev.ats.length ac2] 39)))
            have HLE := Lib.hid (fun q => show w2.heap.size ≤ ((wr.drewN q).alloc (.cells #[.string x.var, .int .i64 x.ev.src, .int .i64 x.ev.seq, .int .i64 x.ev.time, .string x.ev.ty, .slice aa2 x.ev.ats.length ac2] 39)).heap.size from Nat.le_trans HR.out.le (Below.alloc (Below.drewN' (Below.refl wr.heap.size wr) q) (Nat.le_refl _) (.cells #[.string x.var, .int .i64 x.ev.src, .int .i64 x.ev.seq, .int .i64 x.ev.time, .string x.ev.ty, .slice aa2 x.ev.ats.length ac2] 39)).size)
            have HST := Lib.hid (fun q (w4 : World) (lo4 : Option Addr) (c4 : Nat) (h1 : w4.ownsRow w2.heap.size 39 6 (.slice lo4 (N + 1) c4) (N + 1) (ys ++ encB x (.slice aa2 x.ev.ats.length ac2))) (h2 : ((wr.drewN q).alloc (.cells #[.string x.var, .int .i64 x.ev.src, .int .i64 x.ev.seq, .int .i64 x.ev.time, .string x.ev.ty, .slice aa2 x.ev.ats.length ac2] 39)).grownBy w4 (Value.slice lo N c).ownBlock) => HR.out.step how hrw HAV.out HB2.out.size h1 h2)
            clear how hrw
            go_wp2_with fail
            go_quiet (fail)
            go_wp2_with (at_builtin; refine wpList_append_own _ rfl _ _ 22 rfl w2.heap.size 39 i0 (.agg #[.string ⟨#[]⟩, .int .i64 0, .int .i64 0, .int .i64 0, .string ⟨#[]⟩, .slice none 0 0]) 6 80 Try.underlying22 hi0 hz0 hz1 hz2 rfl (by decide) _ N ys rfl (HOW.out _) ⟨wr.heap.size, 0, none⟩ 1 1 (encB x (.slice aa2 x.ev.ats.length ac2)) rfl rfl (RwL.news _ x aa2 ac2) (encB_one _ _ _ _) HNU.out.1 HNU.out.2 (HLE.out _) ?_; intro v4 w4 hown4 hg4 hn4; clear hn4; obtain ⟨lo4, c4, rfl⟩ := own_slice hown4; have HF := Lib.hid (HST.out _ w4 lo4 c4 hown4 hg4); clear hown4 hg4)
            go_roundw
            case rel => exact ⟨i, k + 1, N + 1, c4, lo4, _, by omega, by omega, by have := HNE.out; omega, by go_num, by go_num, rfl, HMG, HF⟩
            case measure => simp [intOf]; omega
          · have hkn' : ¬ (k : Int) < (n2 : Int) := by omega
            have hkn2 := decide_eq_false hkn'
            have hm : MrgR cs bs m := by
              have hg := HG.out
              rw [show i = cs.length by have := HN1.out; omega, show k = bs.length by have := HN2.out; omega] at hg
              exact hg.fin
            have HMR := Lib.hid hm
            have hms := HMS.out m hm
            have HCL := Lib.hid (r10Clone_any wr.heap.size lo N c m wr (HR.out.bsv HBW.out (Nat.le_trans HPS.out HR.out.below.size) hms.1 hms.2) (Nat.le_refl _))
            have HMN := Lib.hid (MN.out m hm); have HMY := Lib.hid (MY.out m hm HZA.out HZB.out)
            clear hm hms
            go_wp2_with fail
            (with_reducible refine HCL.out.mono ?_)
            rintro e w3 ⟨v3, rfl, ho, hb3⟩
            obtain ⟨ao3, c3, rfl⟩ := ho.shape
            obtain ⟨M, hM⟩ : ∃ M, M = m.length := ⟨_, rfl⟩
            rw [← hM] at ho ⊢
            clear hM
            obtain ⟨W4, hW4⟩ : ∃ W4, W4 = w3.alloc (.cells #[.slice ao3 M c3] 24) := ⟨_, rfl⟩
            have hb4 : Below w3.heap.size w3 W4 := by rw [hW4]; exact (Below.refl _ _).alloc (Nat.le_refl _) _
            have h4 : W4.heap[w3.heap.size]? = some (.cells #[.slice ao3 M c3] 24 (0, 0)) := by rw [hW4]; exact heap_alloc_new _ _
            have hq4 := lt_of_block h4
            have ho4 := ho.call hb4
            have HCK := Lib.hid (r10Check_any W4.heap.size ao3 M c3 m W4 ho4.bsv (Nat.le_refl _))
            have HO4 := Lib.hid (ho4.lower (Nat.le_trans HPS.out HR.out.below.size))
            have HB4 := Lib.hid ((HR.out.below.trans (hb3.mono HR.out.below.size)).trans (hb4.mono (Nat.le_trans HR.out.below.size hb3.size)))
            have HQ4 := Lib.hid (fun u (hu : Below W4.heap.size W4 u) => cells_one0 ((hu.block w3.heap.size hq4).trans h4))
            have c4 := cells_one0 h4
            rw [hW4] at c4
            have HW4 := Lib.hid hW4
            clear ho hb3 hb4 h4 hq4 ho4 hW4 c0 c1
            go_wp2_with fail
            rw [← HW4.out]
            clear c4
            by_cases zm : ckP m = 0
            · have HRR := Lib.hid (HMY.out zm)
              rw [zm] at HCK
              clear zm
              (with_reducible refine HCK.out.mono ?_)
              rintro e w5 ⟨rfl, hb5⟩
              have q5 := HQ4.out _ hb5
              have hb15 := HB4.out.trans (hb5.mono HB4.out.size)
              have x2 := HX2.out _ hb15
              have d2 := cells_one0 x2
              have z2 : w5.frozen? ⟨P + 1 + 1, 0, none⟩ = false := by simp [World.frozen?, x2]
              have HS := Lib.hid (heap_setCell_same (k := 0) x2 (.slice ao3 M c3))
              have HO := Lib.hid (BsO.setP (k := 0) (HO4.out.call hb5) x2 (.slice ao3 M c3))
              have HBF := Lib.hid ((HB0.out.trans (hb15.mono HPS.out)).setCell (p := ⟨P + 1 + 1, 0, none⟩) (by show P ≤ P + 1 + 1; omega) (.slice ao3 M c3))
              clear hb5 hb15 x2
              go_wp2
              have z := cells_one0 HS.out
              refine bodyPost_ret (v := .tuple #[.agg #[.slice ao3 M c3], .bool true]) (by simp [results, Try.results28, go_sem, z]) rfl ⟨_, by rw [HRR.out]; rfl, ?_, HBF.out⟩
              rw [HRR.out]; exact HO.out
            · have HRR := Lib.hid (HMN.out zm)
              have hz1 : (ckP m == 0) = false := beq_eq_false_iff_ne.2 zm
              have hz2 : (ckP m != 0) = true := by simp [zm]
              generalize ckP m = cm at HCK hz1 hz2
              clear zm
              (with_reducible refine HCK.out.mono ?_)
              rintro e w5 ⟨rfl, hb5⟩
              have hb15 := HB4.out.trans (hb5.mono HB4.out.size)
              have x2 := HX2.out _ hb15
              have d2 := cells_one0 x2
              have z2 : w5.frozen? ⟨P + 1 + 1, 0, none⟩ = false := by simp [World.frozen?, x2]
              have HS := Lib.hid (heap_setCell_same (k := 0) x2 (.slice none 0 0))
              have HBF := Lib.hid ((HB0.out.trans (hb15.mono HPS.out)).setCell (p := ⟨P + 1 + 1, 0, none⟩) (by show P ≤ P + 1 + 1; omega) (.slice none 0 0))
              clear hb5 hb15 x2
              go_wp2
              have z := cells_one0 HS.out
              refine bodyPost_ret (v := .tuple #[.agg #[.slice none 0 0], .bool false]) (by simp [results, Try.results28, go_sem, z]) rfl ⟨_, by rw [HRR.out]; rfl, ?_, HBF.out⟩
              rw [HRR.out]; exact BsO.nil _ _
end Go.Proofs.Ytppacelaeaaodaa
