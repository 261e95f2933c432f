/- How two words are held against each other; the document's Same of words; the walk of LexScans. -/
import Derived.Test.YtdmdakkibgjffaaDoorRoa
import Derived.Deep.RegionHeld3
namespace Go.Proofs.YtdmdakkibgjffaaDoor
open Go Go.RowKit

def tEq (x y : Tok) : Bool := x.kind == y.kind && (x.text.toList == y.text.toList && (vEq x.vk x.vn x.vs y.vk y.vn y.vs && x.pl == y.pl))
theorem tEq_iff {x y : Tok} : tEq x y = true ↔ x = y := by
  unfold tEq
  rw [Bool.and_eq_true, Bool.and_eq_true, Bool.and_eq_true, vEq_iff]
  simp only [beq_iff_eq]
  constructor
  · rintro ⟨a, b, ⟨c, d, e⟩, f⟩
    cases x; cases y
    simp only at a b c d e f
    subst a c d e f
    rw [ba_ext2 b]
  · rintro rfl; simp
theorem tEq_refl (x : Tok) : tEq x x = true := tEq_iff.2 rfl
theorem tNe_run (x y : Tok) (w : World) :
    (binOp .neq 42 (.agg #[.int .i64 x.kind, .string x.text, .int .i64 x.vk, .int .i64 x.vn, .string x.vs, .int .i64 x.pl]) (.agg #[.int .i64 y.kind, .string y.text, .int .i64 y.vk, .int .i64 y.vn, .string y.vs, .int .i64 y.pl])).run Tryd.prog w = .ok (.bool (!tEq x y)) w := by
  have a2 := Tryd.isAgg2; have z2 := Tryd.sizeOf2; have u2 := Tryd.underlying2
  have a3 := Tryd.isAgg3; have z3 := Tryd.sizeOf3; have u3 := Tryd.underlying3
  have a9 := Tryd.isAgg9; have z9 := Tryd.sizeOf9; have u9 := Tryd.underlying9
  have a23 := Tryd.isAgg40; have z23 := Tryd.sizeOf40
  have hS : Tryd.prog.underlying 42 = some (.struct (Tryd.prog.fieldsOf 42)) := by kernel_rfl
  have hp : Tryd.prog.stoodInHeld 42 = false := by kernel_rfl
  have hS2 : Tryd.prog.underlying 40 = some (.struct (Tryd.prog.fieldsOf 40)) := by kernel_rfl
  have hp2 : Tryd.prog.stoodInHeld 40 = false := by kernel_rfl
  obtain ⟨k1, t1, a1, b1, c1, p1⟩ := x
  obtain ⟨k2, t2, a2', b2, c2, p2⟩ := y
  simp only
  rw [run_neq_struct, show (10000 : Nat) = 9998 + 1 + 1 from rfl, run_equalIn_agg w (9998 + 1) 42 _ _ hS hp]
  simp only [Program.fieldsOf, Tryd.underlying42]
  have hq : ∀ w : World, (Op.equalIn (9998 + 1) 40 (.agg #[.int .i64 a1, .int .i64 b1, .string c1]) (.agg #[.int .i64 a2', .int .i64 b2, .string c2])).run Tryd.prog w = .ok (vEq a1 b1 c1 a2' b2 c2) w := fun w => by
    rw [run_equalIn_agg w 9998 40 _ _ hS2 hp2]
    simp only [Program.fieldsOf, Tryd.underlying40]
    go_simp
    unfold vEq
    by_cases h1 : a1 = a2' <;> by_cases h2 : b1 = b2 <;> by_cases h3 : c1.toList = c2.toList <;> simp [h1, h2, h3]
  go_simp
  unfold tEq
  by_cases h0 : k1 = k2 <;> by_cases h1 : t1.toList = t2.toList <;> cases h2 : vEq a1 b1 c1 a2' b2 c2 <;> by_cases h3 : p1 = p2 <;> simp [h0, h1, h3]
theorem tGuard (op : BinOp) (a b : Operand) (x y : Tok) (w : World) :
    (eqGuard op 42 a b (.agg #[.int .i64 x.kind, .string x.text, .int .i64 x.vk, .int .i64 x.vn, .string x.vs, .int .i64 x.pl]) (.agg #[.int .i64 y.kind, .string y.text, .int .i64 y.vk, .int .i64 y.vn, .string y.vs, .int .i64 y.pl])).run Tryd.prog w = .ok () w := run_eqGuard_agg w op _ a b _ _ (by kernel_rfl)

set_option maxRecDepth 100000 in
set_option maxHeartbeats 2000000 in
theorem r5Same_any (ao1 ao2 : Option Addr) (cap1 cap2 B1 B2 : Nat) (ts : List Tok) (hm : ts.length ≤ 4096) (w : World) (h1 : Tv w B1 (.slice ao1 ts.length cap1) ts) (h2 : Tv w B2 (.slice ao2 ts.length cap2) ts) :
    Calls Tryd.prog 10 #[.slice ao1 ts.length cap1, .slice ao2 ts.length cap2] w fun e w' => e = .returned (.bool true) ∧ Below w.heap.size w w' := by
  have H1 := Lib.hid h1; have H2 := Lib.hid h2
  clear h1 h2
  go_enter Tryd.func10, Tryd.ntmps10
  go_wp2_with fail
  go_loopw [5] (fun iv wr => ∃ i : Nat, i ≤ ts.length ∧ iv = .int .i64 i ∧ Hid (Below w.heap.size w wr) ∧ Hid (wr.heap = w.heap)) (fun iv _ => ts.length - (intOf iv).toNat)
  case atStart => exact ⟨0, Nat.zero_le _, rfl, Lib.hid (Below.refl _ _), Lib.hid rfl⟩
  case round =>
    obtain ⟨i, hi, rfl, HB, HH⟩ := hrel
    by_cases hlt : i < ts.length
    · have hlti : (i : Int) < (ts.length : Int) := by omega
      obtain ⟨g, a, rfl, _, c0, c1, c2, c3, c4, c5⟩ := H1.out.cells hlt
      obtain ⟨g2, a2, rfl, _, d0, d1, d2, d3, d4, d5⟩ := H2.out.cells hlt
      have hcell : ∀ b o, wr.cell? ⟨b, o, none⟩ = w.cell? ⟨b, o, none⟩ := fun b o => by simp only [World.cell?, HH.out]
      rw [← hcell] at c0 c1 c2 c3 c4 c5 d0 d1 d2 d3 d4 d5
      have he := fun w => tNe_run ts[i] ts[i] w
      have hgd := fun (op : BinOp) (a b : Operand) (w : World) => tGuard op a b ts[i] ts[i] w
      simp only [tEq_refl, Bool.not_true] at he
      generalize ts[i] = x at c0 c1 c2 c3 c4 c5 d0 d1 d2 d3 d4 d5 he hgd
      clear hcell hi
      go_wp2_with fail
      go_region
      all_goals go_wp2
      all_goals go_roundw
      all_goals first | exact ⟨i + 1, by omega, by go_num, Lib.hid (by first | exact HB.out.drew | exact HB.out), HH⟩ | (simp [intOf]; omega)
    · obtain rfl : i = ts.length := by omega
      go_wp2
      go_ret
      exact ⟨rfl, HB.out⟩

def sT (s : ByteArray) (ts : List Tok) (en : Nat) : List Tok := if 4096 < s.size then [] else if en < s.size then [] else ts
def sP (s : ByteArray) (en : Nat) : Int := if 4096 < s.size then 0 else if en < s.size then en else 0
def sE (s : ByteArray) (en : Nat) : Int := if 4096 < s.size then 3 else if en < s.size then 50 else 0
theorem ScanP.uni {s : ByteArray} {ts : List Tok} {en : Nat} {w w' : World} {e : Ending} (h : ScanP s ts en w e w') (hen : en ≤ s.size) :
    ∃ ao cap, e = .returned (.tuple #[.slice ao (sT s ts en).length cap, .int .i64 (sP s en), .int .i64 (sE s en)]) ∧ Tv w' w'.heap.size (.slice ao (sT s ts en).length cap) (sT s ts en) ∧ Below w.heap.size w w' := by
  obtain ⟨h1, h2, h3, h4⟩ := h
  unfold sT sP sE
  by_cases hl : 4096 < s.size
  · simp only [if_pos hl]
    exact ⟨none, 0, h1 hl, ⟨none, 0, rfl, fun h => absurd h (by simp)⟩, h4⟩
  · simp only [if_neg hl]
    by_cases hf : en < s.size
    · simp only [if_pos hf]
      exact ⟨none, 0, h2 (by omega) hf, ⟨none, 0, rfl, fun h => absurd h (by simp)⟩, h4⟩
    · simp only [if_neg hf]
      obtain ⟨v, he, hrow⟩ := h3 (by omega) (by omega)
      have ht := Tv.of_row hrow
      obtain ⟨ao, cap, rfl, _⟩ := id ht
      exact ⟨ao, cap, he, ht, h4⟩
theorem sT_len {s : ByteArray} {ts : List Tok} {en : Nat} (h : ts.length ≤ s.size) : (sT s ts en).length ≤ 4096 := by
  unfold sT
  by_cases hl : 4096 < s.size
  · rw [if_pos hl]; simp
  · rw [if_neg hl]
    by_cases hf : en < s.size
    · rw [if_pos hf]; simp
    · rw [if_neg hf]; omega

set_option maxRecDepth 100000 in
set_option maxHeartbeats 2000000 in
theorem scans_walk (s : ByteArray) (hs : s.size ≤ 140737488355328) (w : World) (hE : ErrV w) :
    Calls Tryd.prog 3 #[.string s] w fun e w' => e = .returned (.bool true) ∧ Below w.heap.size w w' := by
  obtain ⟨ts, en, hw⟩ := Wds.all s.data.toList
  have hsl : s.data.toList.length = s.size := (Lib.size_eq s).symm
  have hen : en ≤ s.size := by rw [← hsl]; exact hw.le.2
  have hlen : ts.length ≤ s.size := by rw [← hsl]; exact Nat.le_trans (Nat.le_add_right _ _) hw.len
  have HM := Lib.hid (sT_len (en := en) hlen)
  have H1 := Lib.hid ((lScan_any s hs ts en hw w hE).mono fun e w' h => h.uni hen)
  have H2 := Lib.hid (fun w => (r5Scan_any s hs ts en hw w).mono fun e w' h => h.uni hen)
  generalize sT s ts en = T at HM H1 H2
  generalize sP s en = P at H1 H2
  generalize sE s en = E at H1 H2
  have HE := Lib.hid hE
  have bp : (P == P) = true := by simp
  have be : (E == E) = true := by simp
  clear hw hsl hen hlen hE hs
  go_enter Tryd.func3, Tryd.ntmps3
  go_wp2_with (first
    | (go_at_call 7; refine H1.out.mono ?_; rintro e w1 ⟨ao1, cap1, rfl, ht1, hb1⟩; have T1 := Lib.hid ht1; have B1 := Lib.hid hb1; clear ht1 hb1)
    | (go_at_call 8; refine (H2.out _).mono ?_; rintro e w2 ⟨ao2, cap2, rfl, ht2, hb2⟩; have T2 := Lib.hid ht2; have T1b := Lib.hid (T1.out.later hb2 (Nat.le_refl _)); have B2 := Lib.hid (B1.out.trans (hb2.mono B1.out.size)); have S12 := Lib.hid hb2.size; clear ht2 hb2)
    | (go_at_call 9; refine (live5_any _ (HE.out.keep B2.out)).mono ?_; rintro e w3 ⟨rfl, hb3⟩; have T1c := Lib.hid (T1b.out.later hb3 S12.out); have T2c := Lib.hid (T2.out.later hb3 (Nat.le_refl _)); have B3 := Lib.hid (B2.out.trans (hb3.mono B2.out.size)); clear hb3)
    | (go_at_call 10; refine (r5Same_any ao1 ao2 cap1 cap2 _ _ T HM.out _ T1c.out T2c.out).mono ?_; rintro e w4 ⟨rfl, hb4⟩))
  go_ret
  exact ⟨rfl, B3.out.trans (hb4.mono B3.out.size)⟩
end Go.Proofs.YtdmdakkibgjffaaDoor
