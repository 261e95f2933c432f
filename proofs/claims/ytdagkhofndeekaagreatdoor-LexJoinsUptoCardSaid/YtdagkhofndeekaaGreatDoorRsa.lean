/- How two words are held against each other; the document's Same of words; the walk of LexScans. -/
import Derived.Test.YtdagkhofndeekaaGreatDoorRoa
import Derived.Deep.RegionHeld3
namespace Go.Proofs.YtdagkhofndeekaaGreatDoor
open Go Go.RowKit

def tEq (x y : Tok) : Bool := x.kind == y.kind && (x.text.toList == y.text.toList && (vEq x.vk x.vn x.vs y.vk y.vn y.vs && x.pl == y.pl))
theorem tEq_iff {x y : Tok} : tEq x y = true ↔ x = y := by
  unfold tEq
  rw [Bool.and_eq_true, Bool.and_eq_true, Bool.and_eq_true, vEq_iff]
  simp only [beq_iff_eq]
  constructor
  · rintro ⟨a, b, ⟨c, d, e⟩, f⟩
    cases x; cases y
    simp only at a b c d e f
    subst a c d e f
    rw [ba_ext2 b]
  · rintro rfl; simp
theorem tEq_refl (x : Tok) : tEq x x = true := tEq_iff.2 rfl
theorem tNe_run (x y : Tok) (w : World) :
    (binOp .neq 30 (.agg #[.int .i64 x.kind, .string x.text, .int .i64 x.vk, .int .i64 x.vn, .string x.vs, .int .i64 x.pl]) (.agg #[.int .i64 y.kind, .string y.text, .int .i64 y.vk, .int .i64 y.vn, .string y.vs, .int .i64 y.pl])).run Tryz.prog w = .ok (.bool (!tEq x y)) w := by
  have a2 := Tryz.isAgg2; have z2 := Tryz.sizeOf2; have u2 := Tryz.underlying2
  have a3 := Tryz.isAgg3; have z3 := Tryz.sizeOf3; have u3 := Tryz.underlying3
  have a9 := Tryz.isAgg9; have z9 := Tryz.sizeOf9; have u9 := Tryz.underlying9
  have a23 := Tryz.isAgg28; have z23 := Tryz.sizeOf28
  have hS : Tryz.prog.underlying 30 = some (.struct (Tryz.prog.fieldsOf 30)) := by kernel_rfl
  have hp : Tryz.prog.stoodInHeld 30 = false := by kernel_rfl
  have hS2 : Tryz.prog.underlying 28 = some (.struct (Tryz.prog.fieldsOf 28)) := by kernel_rfl
  have hp2 : Tryz.prog.stoodInHeld 28 = false := by kernel_rfl
  obtain ⟨k1, t1, a1, b1, c1, p1⟩ := x
  obtain ⟨k2, t2, a2', b2, c2, p2⟩ := y
  simp only
  rw [run_neq_struct, show (10000 : Nat) = 9998 + 1 + 1 from rfl, run_equalIn_agg w (9998 + 1) 30 _ _ hS hp]
  simp only [Program.fieldsOf, Tryz.underlying30]
  have hq : ∀ w : World, (Op.equalIn (9998 + 1) 28 (.agg #[.int .i64 a1, .int .i64 b1, .string c1]) (.agg #[.int .i64 a2', .int .i64 b2, .string c2])).run Tryz.prog w = .ok (vEq a1 b1 c1 a2' b2 c2) w := fun w => by
    rw [run_equalIn_agg w 9998 28 _ _ hS2 hp2]
    simp only [Program.fieldsOf, Tryz.underlying28]
    go_simp
    unfold vEq
    by_cases h1 : a1 = a2' <;> by_cases h2 : b1 = b2 <;> by_cases h3 : c1.toList = c2.toList <;> simp [h1, h2, h3]
  go_simp
  unfold tEq
  by_cases h0 : k1 = k2 <;> by_cases h1 : t1.toList = t2.toList <;> cases h2 : vEq a1 b1 c1 a2' b2 c2 <;> by_cases h3 : p1 = p2 <;> simp [h0, h1, h3]
theorem tGuard (op : BinOp) (a b : Operand) (x y : Tok) (w : World) :
    (eqGuard op 30 a b (.agg #[.int .i64 x.kind, .string x.text, .int .i64 x.vk, .int .i64 x.vn, .string x.vs, .int .i64 x.pl]) (.agg #[.int .i64 y.kind, .string y.text, .int .i64 y.vk, .int .i64 y.vn, .string y.vs, .int .i64 y.pl])).run Tryz.prog w = .ok () w := run_eqGuard_agg w op _ a b _ _ (by kernel_rfl)

def sT (s : ByteArray) (ts : List Tok) (en : Nat) : List Tok := if 4096 < s.size then [] else if en < s.size then [] else ts
def sP (s : ByteArray) (en : Nat) : Int := if 4096 < s.size then 0 else if en < s.size then en else 0
def sE (s : ByteArray) (en : Nat) : Int := if 4096 < s.size then 3 else if en < s.size then 50 else 0
theorem ScanP.uni {s : ByteArray} {ts : List Tok} {en : Nat} {w w' : World} {e : Ending} (h : ScanP s ts en w e w') (hen : en ≤ s.size) :
    ∃ ao cap, e = .returned (.tuple #[.slice ao (sT s ts en).length cap, .int .i64 (sP s en), .int .i64 (sE s en)]) ∧ Tv w' w'.heap.size (.slice ao (sT s ts en).length cap) (sT s ts en) ∧ Below w.heap.size w w' := by
  obtain ⟨h1, h2, h3, h4⟩ := h
  unfold sT sP sE
  by_cases hl : 4096 < s.size
  · simp only [if_pos hl]
    exact ⟨none, 0, h1 hl, ⟨none, 0, rfl, fun h => absurd h (by simp)⟩, h4⟩
  · simp only [if_neg hl]
    by_cases hf : en < s.size
    · simp only [if_pos hf]
      exact ⟨none, 0, h2 (by omega) hf, ⟨none, 0, rfl, fun h => absurd h (by simp)⟩, h4⟩
    · simp only [if_neg hf]
      obtain ⟨v, he, hrow⟩ := h3 (by omega) (by omega)
      have ht := Tv.of_row hrow
      obtain ⟨ao, cap, rfl, _⟩ := id ht
      exact ⟨ao, cap, he, ht, h4⟩
theorem sT_len {s : ByteArray} {ts : List Tok} {en : Nat} (h : ts.length ≤ s.size) : (sT s ts en).length ≤ 4096 := by
  unfold sT
  by_cases hl : 4096 < s.size
  · rw [if_pos hl]; simp
  · rw [if_neg hl]
    by_cases hf : en < s.size
    · rw [if_pos hf]; simp
    · rw [if_neg hf]; omega

end Go.Proofs.YtdagkhofndeekaaGreatDoor
