/- Contract of NewSet; a row of partial matches. -/
import Derived.Test.YtiinljljbjjaeaaGreatDoorSe1
import Derived.IntWalk
namespace Go.Proofs.YtiinljljbjjaeaaGreatDoor
open Go Go.RowKit Go.Maps Go.WideMaps

/-- In w the value v is a row of partial matches; all of it lies below block B. -/
structure LpV (w : World) (B : Nat) (v : Value) (ls : List (List Bd)) : Prop where
  len : ls.length ≤ 5864062014805
  ky : ∀ bs ∈ ls, ckP bs = 0 → KyB bs
  row : ∃ ao cap, v = .slice ao ls.length cap ∧ ls.length ≤ cap ∧ cap ≤ 9223372036854775807 ∧ (0 < ls.length → ∃ b o, ao = some ⟨b, o, none⟩ ∧ b < B ∧ ∀ j, j < ls.length → ∃ aa n c, w.cell? ⟨b, o + j, none⟩ = some (.slice aa n c) ∧ BsV w B (.slice aa n c) ls[j]!)
theorem LpV.below {w w' : World} {B : Nat} {v : Value} {ls : List (List Bd)} (h : LpV w B v ls) (hb : Below B w w') : LpV w' B v ls := by
  obtain ⟨ao, cap, h1, h2, h3, h4⟩ := h.row
  refine ⟨h.len, h.ky, ao, cap, h1, h2, h3, fun h0 => ?_⟩
  obtain ⟨b, o, e, hb1, hc⟩ := h4 h0
  refine ⟨b, o, e, hb1, fun j hj => ?_⟩
  obtain ⟨aa, n, c, h5, h6⟩ := hc j hj
  exact ⟨aa, n, c, (hb.cell (p := ⟨b, o + j, none⟩) hb1).trans h5, h6.below hb (Nat.le_refl _)⟩

/-- What a set has behind one more that is put to it; behind all of a row. -/
def addK (ks : List (List Bd)) (bs : List Bd) : List (List Bd) := if ckP bs = 0 ∧ keyL bs ∉ ks.map keyL then ks ++ [bs] else ks
def setK (ls : List (List Bd)) : List (List Bd) := ls.foldl addK []
theorem setK_snoc (ls : List (List Bd)) (bs : List Bd) : setK (ls ++ [bs]) = addK (setK ls) bs := by unfold setK; rw [List.foldl_append]; rfl
theorem addB_K (L : List (Value × List Bd)) (bs : List Bd) : addB L bs = decide (ckP bs = 0 ∧ keyL bs ∉ (L.map Prod.snd).map keyL) := by
  unfold addB hasL
  rw [List.map_map, Bool.decide_and]
  congr 1
  simp [Function.comp_def]
theorem addK_len (ks : List (List Bd)) (bs : List Bd) : (addK ks bs).length ≤ ks.length + 1 := by unfold addK; split <;> simp
theorem setK_len (ls : List (List Bd)) : (setK ls).length ≤ ls.length := by
  refine snocInd (P := fun ls => (setK ls).length ≤ ls.length) (Nat.le_refl _) (fun l b ih => ?_) ls
  rw [setK_snoc, List.length_append]
  have := addK_len (setK l) b
  simp; omega
theorem add_snd {L : List (Value × List Bd)} {v : Value} {bs : List Bd} : (if addB L bs = true then L ++ [(v, bs)] else L).map Prod.snd = addK (L.map Prod.snd) bs := by
  rw [addB_K]
  unfold addK
  by_cases h : ckP bs = 0 ∧ keyL bs ∉ (L.map Prod.snd).map keyL
  · rw [if_pos (decide_eq_true h), if_pos h]; simp
  · rw [if_neg (by rw [decide_eq_false h]; decide), if_neg h]

set_option maxRecDepth 100000 in
set_option maxHeartbeats 3200000 in
theorem mNewSet_any (G : Nat → Prop) (C B : Nat) (v : Value) (ls : List (List Bd)) (w : World) (h : LpV w B v ls) (hB : B ≤ w.heap.size) (hC : C ≤ w.heap.size) (hG : ∀ k, G k → C ≤ k ∧ k < w.heap.size) (htab : Lib.TabBelow Tryz.prog C w "internal/strconv.uint64pow10" .u64 Lib.pow10Tab) :
    Calls Tryz.prog 6 #[v] w fun e w' => ∃ q b L, e = .returned (.pointer (some ⟨q, 0, none⟩)) ∧ w.heap.size ≤ q ∧ w.heap.size ≤ b ∧ SetAt (fun k => k = b ∨ G k) C w' q b L ∧ L.map Prod.snd = setK ls ∧ Below w.heap.size w w' := by
  obtain ⟨ao, cap, rfl, hcap, hcap2, hrow⟩ := h.row
  obtain ⟨N, hN⟩ : ∃ N, N = ls.length := ⟨_, rfl⟩
  have hlen := h.len
  rw [← hN] at hcap hlen ⊢
  have hmm := @run_makeMap Tryz.prog
  obtain ⟨b, hb⟩ : ∃ b, b = w.heap.size := ⟨_, rfl⟩
  obtain ⟨w0, hw0⟩ : ∃ w0, w0 = (w.alloc (.map #[] 0)).alloc (.cells #[.map (some b)] 62) := ⟨_, rfl⟩
  have HS0 : Hid (SetAt (fun k => k = b ∨ G k) C w0 (b + 1) b []) := by
    have h1 : Below w.heap.size w w0 := by rw [hw0]; exact ((Below.refl _ _).alloc (Nat.le_refl _) _).alloc (by simp) _
    have hsz : w0.heap.size = b + 2 := by rw [hw0, hb]; simp
    refine ⟨.inl rfl, fun hf => hf.elim (fun e => by omega) (fun hg => by have := (hG _ hg).2; omega), fun k hk => hk.elim (fun e => by omega) (fun hg => (hG k hg).1), fun k hk => hk.elim (fun e => by omega) (fun hg => by have := (hG _ hg).2; omega), ?_, htab.on (h1.mono hC), ⟨0, .map [], ?_, Nat.le_refl _, MapL.nil⟩, (fun x hx => by cases hx), by simp⟩
    · rw [hw0, show b + 1 = (w.alloc (.map #[] 0)).heap.size by rw [hb]; simp]; exact heap_alloc_new _ _
    · rw [hw0, hb]; exact (World.ownsMap_made w Tryz.prog 9 heldE).alloc _
  have HBW0 : Hid (Below w.heap.size w w0) := by rw [hw0]; exact ((Below.refl _ _).alloc (Nat.le_refl _) _).alloc (by simp) _
  have HH := Lib.hid h; have HN := Lib.hid hN; have HROW := Lib.hid hrow; have HBL := Lib.hid hB; have HW0 := Lib.hid hw0; have HBB := Lib.hid hb
  have H63 : Hid (N ≤ 5864062014805) := hlen
  clear h hN hrow hlen hcap hcap2 hB hC hG htab hw0 hb
  go_enter Tryz.func6, Tryz.ntmps6
  go_wp2_with fail
  rw [← HBB.out, ← HW0.out]
  go_loopw [11] (fun iv wr => ∃ (k : Nat) (L : List (Value × List Bd)), k ≤ N ∧ iv = .int .i64 (k : Int) ∧ Hid (SetAt (fun k => k = b ∨ G k) C wr (b + 1) b L) ∧ Hid (L.map Prod.snd = setK (ls.take k)) ∧ Hid (Below w.heap.size w wr)) (fun iv _ => N - (intOf iv).toNat)
  case atStart => exact ⟨0, [], Nat.zero_le _, rfl, HS0, Lib.hid rfl, HBW0⟩
  case round =>
    obtain ⟨k, L, hk, rfl, HS, HL, HBW⟩ := hrel
    by_cases hlt : k < N
    · obtain ⟨bb, o, rfl, hbB, hcell⟩ := HROW.out (by have := HN.out; omega)
      have hkl : k < ls.length := by have := HN.out; omega
      obtain ⟨aa, n, c, hc, hbs⟩ := hcell k hkl
      have a0 := (HBW.out.cell (p := ⟨bb, o + k, none⟩) (show bb < w.heap.size by have := HBL.out; omega)).trans hc
      have HSN : Hid (setK (ls.take (k + 1)) = addK (setK (ls.take k)) ls[k]!) := by
        rw [List.take_succ_eq_append_getElem hkl, setK_snoc, getElem!_pos ls k hkl]; exact Lib.hid rfl
      have HKY : Hid (ckP ls[k]! = 0 → KyB ls[k]!) := HH.out.ky _ (by rw [getElem!_pos ls k hkl]; exact List.getElem_mem _)
      have HBS := Lib.hid (hbs.below (HBW.out.mono HBL.out) (Nat.le_refl _))
      have HLM : Hid (L.length < 5864062014805) := by
        have h1 := congrArg List.length HL.out
        rw [List.length_map] at h1
        have h2 := setK_len (ls.take k)
        rw [List.length_take] at h2
        have := H63.out
        unfold Hid; omega
      generalize ls[k]! = x at HSN HKY HBS
      obtain ⟨w1, hw1⟩ : ∃ w1, w1 = wr.alloc (.cells #[.slice aa n c] 38) := ⟨_, rfl⟩
      have HB1 : Hid (Below wr.heap.size wr w1) := by rw [hw1]; exact (Below.refl _ _).alloc (Nat.le_refl _) _
      have HS1 := Lib.hid (HS.out.call HB1.out)
      have HADD := Lib.hid (mSetAdd_any _ C (b + 1) b L B aa n c x w1 HS1.out (HBS.out.below (HB1.out.mono (Nat.le_trans HBL.out HBW.out.size)) (Nat.le_refl _)) (Nat.le_trans HBL.out (Nat.le_trans HBW.out.size HB1.out.size)) HKY.out HLM.out)
      have e1 : IntKind.i64.wrap ((k : Int) + 1) = (k : Int) + 1 := IntWalk.i64_in _ (by have := H63.out; omega)
      have hbne : bb ≠ wr.heap.size := by have := HBW.out.size; have := HBL.out; omega
      have hkz : (0 : Int) ≤ (k : Int) := by omega
      have HW1 := Lib.hid hw1
      clear hcell hc hbs hkl hw1
      go_wp2_with fail
      rw [← HW1.out]
      (with_reducible refine HADD.out.mono ?_)
      rintro e w2 ⟨rfl, ⟨v', hs⟩, hch⟩
      have HS2 := Lib.hid hs
      have HCH := Lib.hid hch
      clear hs hch
      go_wp2
      go_roundw
      case rel =>
        refine ⟨k + 1, _, by omega, by go_num, HS2, ?_, ?_⟩
        · rw [HSN.out, ← HL.out]; exact Lib.hid add_snd
        · exact Lib.hid (HBW.out.trans ((HB1.out.mono HBW.out.size).trans (HCH.out.below (Nat.le_trans HBW.out.size HB1.out.size) (fun k hk => by have := HBB.out; omega))))
      case measure => simp [intOf]; omega
    · have HT : Hid (ls.take k = ls) := List.take_of_length_le (by have := HN.out; omega)
      rw [HT.out] at HL
      go_wp2
      go_ret
      exact ⟨_, b, L, rfl, by have := HBB.out; omega, by have := HBB.out; omega, HS.out, HL.out, HBW.out⟩
end Go.Proofs.YtiinljljbjjaeaaGreatDoor
