/- What a sink is in memory, and the contract of put: it lays the low n bits of a number behind the bits that are there. -/
import Derived.Test.YtiljekpfkkocnaaLaw
import Derived.Test.YtiljekpfkkocnaaSmall
import Derived.BigRegion
namespace Go.Proofs.Ytiljekpfkkocnaa
open Go Go.RowKit

theorem Try.info5 : (Try.prog.info? 5).map (fun i => (i.zero, i.size, i.bytes)) = some (some (.int .u8 0), 1, 1) := by kernel_rfl

/-- The types that a sink's memory is of: its struct, bytes. -/
def sinkT (e : Nat) : Bool := e == 5 || e == 109

/-- In w the block q is a sink that holds the bits bs; its row of bytes is owned, from block B on. -/
structure SinkIs (w : World) (B q : Nat) (bs : List Bool) : Prop where
  from_ : B ≤ q
  len : bs.length ≤ 1048576
  row : ∃ v, w.heap[q]? = some (.cells #[.bool true, v, .int .u8 ((restOf bs : Nat) : Int), .int .i64 ((bs.length : Nat) : Int)] 109 (0, 0)) ∧
    w.ownsRow B 5 1 v (bs.length / 8) ((fullOf bs).map fun x : Nat => Value.int .u8 (x : Int))

theorem SinkIs.lt {w : World} {B q : Nat} {bs : List Bool} (h : SinkIs w B q bs) : q < w.heap.size := by
  obtain ⟨v, h1, _⟩ := h.row
  exact lt_of_block h1
theorem SinkIs.made {w : World} {B q : Nat} {bs : List Bool} (h : SinkIs w B q bs) : w.cell? ⟨q, 0, none⟩ = some (.bool true) := by
  obtain ⟨v, h1, _⟩ := h.row
  exact (cell_of_four h1).1
theorem SinkIs.count {w : World} {B q : Nat} {bs : List Bool} (h : SinkIs w B q bs) : w.cell? ⟨q, 3, none⟩ = some (.int .i64 ((bs.length : Nat) : Int)) := by
  obtain ⟨v, h1, _⟩ := h.row
  exact (cell_of_four h1).2.2.2
/-- What keeps all blocks of a sink's types keeps the sink. -/
theorem SinkIs.kept {w w' : World} {B B' q : Nat} {bs : List Bool} {T : Nat → Bool} (h : SinkIs w B q bs) (hk : Kept B' T w w') (h1 : T 5 = false) (h2 : T 109 = false) : SinkIs w' B q bs := by
  obtain ⟨v, hq, ho⟩ := h.row
  exact ⟨h.from_, h.len, v, hk.typed _ _ _ _ hq h2, hk.ownsRow ho h1⟩
theorem SinkIs.below {w w' : World} {B B' q : Nat} {bs : List Bool} (h : SinkIs w B q bs) (hk : Below B' w w') (hB : w.heap.size ≤ B') : SinkIs w' B q bs := by
  obtain ⟨v, hq, ho⟩ := h.row
  refine ⟨h.from_, h.len, v, ?_, ho.1, ?_⟩
  · rw [hk.block q (by have := lt_of_block hq; omega)]; exact hq
  · rcases ho.2 with hn | ⟨g, cap, cur, rfl, hb, hgg, rest⟩
    · exact .inl hn
    · exact .inr ⟨g, cap, cur, rfl, hb, by rw [hk.block g (by have := lt_of_block hgg; omega)]; exact hgg, rest⟩

theorem SinkIs.drew {w : World} {B q : Nat} {bs : List Bool} (h : SinkIs w B q bs) : SinkIs w.drew B q bs := ⟨h.from_, h.len, h.row⟩
theorem SinkIs.drewN {w : World} {B q : Nat} {bs : List Bool} (h : SinkIs w B q bs) (n : Nat) : SinkIs (w.drewN n) B q bs := ⟨h.from_, h.len, h.row⟩
/-- One bit more, the byte not full by it. -/
theorem SinkIs.bit_ne {w : World} {B q : Nat} {bs : List Bool} (h : SinkIs w B q bs) (b : Bool) (hl : bs.length + 1 ≤ 1048576) (hm : (bs.length + 1) % 8 ≠ 0) :
    SinkIs ((w.setCell ⟨q, 2, none⟩ (.int .u8 ((2 * restOf bs + b.toNat : Nat) : Int))).setCell ⟨q, 3, none⟩ (.int .i64 ((bs.length + 1 : Nat) : Int))) B q (bs ++ [b]) := by
  obtain ⟨v, hq, ho⟩ := h.row
  have q1 := heap_setCell_same (k := 2) hq (.int .u8 ((2 * restOf bs + b.toNat : Nat) : Int))
  have q2 := heap_setCell_same (k := 3) q1 (.int .i64 ((bs.length + 1 : Nat) : Int))
  refine ⟨h.from_, by simpa using hl, v, ?_, ?_⟩
  · rw [q2, restOf_snoc_ne bs b hm]; simp
  · rw [fullOf_snoc_ne bs b hm, show (bs ++ [b]).length / 8 = bs.length / 8 by simp; omega]
    exact ownsRow_setCell_typed (ownsRow_setCell_typed ho hq (by decide) _) q1 (by decide) _

/-- One bit more, the byte full by it: its byte is laid into the row. -/
theorem SinkIs.bit_eq {w2 : World} {B q : Nat} {bs : List Bool} {v : Value} (b : Bool) (hB : B ≤ q) (hl : bs.length + 1 ≤ 1048576) (hm : (bs.length + 1) % 8 = 0) {x1 x2 : Value}
    (hq : w2.heap[q]? = some (.cells #[.bool true, x1, x2, .int .i64 ((bs.length + 1 : Nat) : Int)] 109 (0, 0)))
    (ho : w2.ownsRow B 5 1 v (bs.length / 8 + 1) ((fullOf bs).map (fun x : Nat => Value.int .u8 (x : Int)) ++ [.int .u8 ((2 * restOf bs + b.toNat : Nat) : Int)])) :
    SinkIs ((w2.setCell ⟨q, 1, none⟩ v).setCell ⟨q, 2, none⟩ (.int .u8 0)) B q (bs ++ [b]) := by
  have q1 := heap_setCell_same (k := 1) hq v
  have q2 := heap_setCell_same (k := 2) q1 (.int .u8 0)
  refine ⟨hB, by simpa using hl, v, ?_, ?_⟩
  · rw [q2, restOf_snoc_eq bs b hm]; simp
  · rw [fullOf_snoc_eq bs b hm, show (bs ++ [b]).length / 8 = bs.length / 8 + 1 by simp; omega, List.map_append]
    exact ownsRow_setCell_typed (ownsRow_setCell_typed ho hq (by decide) _) q1 (by decide) _

set_option maxRecDepth 100000 in
set_option maxHeartbeats 1000000 in
theorem kPut_any (B q : Nat) (x n : Nat) (bs : List Bool) (w : World) (hx : x < 2 ^ 64) (hn : n ≤ 64) (hs : SinkIs w B q bs) (hl : bs.length + n ≤ 1048576) :
    Calls Try.prog 72 #[.pointer (some ⟨q, 0, none⟩), .int .u64 (x : Int), .int .i64 (n : Int)] w fun e w' => e = .returned (.tuple #[]) ∧ SinkIs w' B q (bs ++ bitsOf x n) ∧ Kept B sinkT w w' := by
  obtain ⟨i0, hi, hz0, hz1, hz2⟩ := info_parts Try.info5
  have hx' : (x : Int) ≤ 18446744073709551615 := by omega
  go_enter Try.func72, Try.ntmps72
  go_wp2
  go_loopw [8] (fun i wr => ∃ k : Nat, k ≤ n ∧ i = .int .i64 k ∧ SinkIs wr B q (bs ++ (bitsOf x n).take k) ∧ Kept B sinkT w wr) (fun i _ => n - (intOf i).toNat)
  case atStart => exact ⟨0, Nat.zero_le _, rfl, by simpa using hs, Kept.refl _ _ _⟩
  case round =>
    obtain ⟨k, hk, rfl, hsr, hkr⟩ := hrel
    by_cases hlt : k < n
    · have HT := hide (bitsOf_take_succ x n k hlt)
      obtain ⟨cs, hcs⟩ : ∃ cs, cs = bs ++ (bitsOf x n).take k := ⟨_, rfl⟩
      rw [← hcs] at hsr
      have hcl : cs.length = bs.length + k := by rw [hcs]; simp [bitsOf_length]; omega
      have HC := hide hcs; clear hcs
      obtain ⟨v, hq, ho⟩ := hsr.row
      obtain ⟨h0, h1, h2, h3⟩ := cell_of_four hq
      obtain ⟨f0, f1, f2, f3⟩ := free_of_four hq
      have hr0 := restOf_lt cs
      obtain ⟨r, hr⟩ : ∃ r, r = restOf cs := ⟨_, rfl⟩
      obtain ⟨L, hL⟩ : ∃ L, L = cs.length := ⟨_, rfl⟩
      rw [← hr] at h2 hr0
      rw [← hL] at h3
      have HR := hide hr; clear hr
      have HL := hide hL
      have hL1 : L + 1 ≤ 1048576 := by omega
      clear hL hcl
      have HQ := hide hq; clear hq
      have HO := hide ho; clear ho
      obtain ⟨b, hb⟩ : ∃ b, b = x.testBit (n - 1 - k) := ⟨_, rfl⟩
      obtain ⟨R, hR⟩ : ∃ R : Int, R = ((2 * r + b.toNat : Nat) : Int) := ⟨_, rfl⟩
      have e : bits BinOp.or IntKind.u8 ((r : Int) * 2) (bits BinOp.and IntKind.u64 ((x : Int) / 2 ^ (n - 1 - k)) 1 % 256) = R := by rw [hR, bit_of _ _ hx, ← hb, or_bit _ _ hr0]
      have HB := hide hb; clear hb
      have HRR := hide hR; clear hR
      by_cases hm : (L + 1) % 8 = 0
      · have hm2 : (L + 1) % 8 ≤ 0 := by omega
        have HM := hide hm; clear hm
        have hown1 : ((wr.setCell ⟨q, 2, none⟩ (.int .u8 R)).setCell ⟨q, 3, none⟩ (.int .i64 ((L : Int) + 1))).ownsRow B 5 1 v (cs.length / 8) ((fullOf cs).map fun x : Nat => Value.int .u8 (x : Int)) :=
          ownsRow_setCell_typed (ownsRow_setCell_typed HO.out HQ.out (by decide) _) (heap_setCell_same (k := 2) HQ.out _) (by decide) _
        have HO1 := hide hown1; clear hown1
        have hq1 : ((wr.setCell ⟨q, 2, none⟩ (.int .u8 R)).setCell ⟨q, 3, none⟩ (.int .i64 ((L : Int) + 1))).heap[q]? = some (.cells #[.bool true, v, .int .u8 R, .int .i64 ((L : Int) + 1)] 109 (0, 0)) := by
          rw [heap_setCell_same (heap_setCell_same HQ.out _) _]; simp
        have hA : (((wr.setCell ⟨q, 2, none⟩ (.int .u8 R)).setCell ⟨q, 3, none⟩ (.int .i64 ((L : Int) + 1))).alloc (.cells #[.int .u8 R] 5)).cell? ⟨q, 1, none⟩ = some v := (cell_of_four (heap_alloc_keeps hq1 _)).2.1
        have HQ1 := hide hq1; clear hq1
        have hBq : B ≤ wr.heap.size := by have := hsr.lt; have := hsr.from_; omega
        go_wp2
        go_region
        go_wp2
        go_region_law (refine step_append_own rfl (.tmp 45) (.tmp 50) 33 rfl B 5 i0 (.int .u8 0) 1 1 Try.underlying33 hi hz0 hz1 hz2 rfl (by decide) v (cs.length / 8) _ (by simp [Act.eval]) (HO1.out.alloc _) ⟨wr.heap.size, 0, none⟩ 1 1 [.int .u8 R] (by simp [Act.eval]) rfl (by intro j u hj; match j, hj with | 0, hj => simp at hj; subst hj; simp only [Addr.add]; exact cell_alloc_one _ _ (by simp) _ _) (by intro u hu; simp at hu; subst hu; rfl) (by have := HL.out; unfold maxLen; omega) (by have := HL.out; omega) (by simp; omega) ?_; intro v' w' hown' hgrow'; obtain ⟨g, cap', rfl⟩ := own_shape hown'; have HQ2 := hide (grow_keeps (heap_alloc_keeps HQ1.out _) (HO1.out.alloc _) (by decide) hgrow' rfl); obtain ⟨c0, c1, c2, c3⟩ := cell_of_four HQ2.out; obtain ⟨g0, g1, g2, g3⟩ := free_of_four HQ2.out; have HO2 := hide hown'; have HG2 := hide hgrow'; clear hown' hgrow')
        all_goals go_wp2
        all_goals go_roundw
        all_goals try (case' measure => simp [intOf]; omega)
        all_goals
          have hb1 := SinkIs.bit_eq (bs := cs) (w2 := w') (v := .slice (some ⟨g, 0, none⟩) (cs.length / 8 + 1) cap') (x1 := v) (x2 := .int .u8 R) b hsr.from_ (by have := HL.out; omega) (by rw [← HL.out]; exact HM.out)
            (by rw [← HL.out, Int.natCast_add]; exact HQ2.out) (by rw [← HR.out, ← HRR.out]; exact HO2.out)
          have K1 := ((hkr.setCell (p := ⟨q, 2, none⟩) hsr.from_ HQ.out rfl (.int .u8 R)).setCell (p := ⟨q, 3, none⟩) hsr.from_ (heap_setCell_same HQ.out _) rfl (.int .i64 ((L : Int) + 1))).alloc (by simp; omega) (.cells #[.int .u8 R] 5)
          have K3 := (K1.drewN 2).grown (ownsRow_drewN (HO1.out.alloc _) 2) rfl HG2.out (by simp; omega) (Nat.le_refl _)
          have K4 := (K3.setCell (p := ⟨q, 1, none⟩) hsr.from_ HQ2.out rfl (.slice (some ⟨g, 0, none⟩) (cs.length / 8 + 1) cap')).setCell (p := ⟨q, 2, none⟩) hsr.from_ (heap_setCell_same HQ2.out _) rfl (.int .u8 0)
          refine ⟨k + 1, by omega, by go_num, ?_, K4⟩
          rw [HT.out, ← HB.out, ← List.append_assoc, ← HC.out]
          exact hb1
      · have hm2 : 1 ≤ (L + 1) % 8 := by omega
        have HM := hide hm; clear hm
        go_wp2
        go_region
        go_wp2
        go_roundw
        case rel =>
          have hb1 := hsr.bit_ne b (by have := HL.out; omega) (by rw [← HL.out]; exact HM.out)
          rw [← HR.out, ← HRR.out, ← HL.out] at hb1
          have K1 := (hkr.setCell (p := ⟨q, 2, none⟩) hsr.from_ HQ.out rfl (.int .u8 R)).setCell (p := ⟨q, 3, none⟩) hsr.from_ (heap_setCell_same HQ.out _) rfl (.int .i64 ((L : Int) + 1))
          refine ⟨k + 1, by omega, by go_num, ?_, K1.drew⟩
          rw [HT.out, ← HB.out, ← List.append_assoc, ← HC.out]
          exact hb1.drew
        case measure => simp [intOf]; omega
    · go_wp2
      go_end0
      obtain rfl : k = n := by omega
      rw [List.take_of_length_le (by simp [bitsOf_length])] at hsr
      exact ⟨rfl, hsr, hkr⟩
end Go.Proofs.Ytiljekpfkkocnaa
