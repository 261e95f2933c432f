/- How the program holds two attributes against each other. -/
import Derived.Test.YtiinljljbjjaeaaGreatDoorAm
import Derived.Test.YtiinljljbjjaeaaGreatDoorVe
import Derived.Laws.StructEq
import Derived.Shelf.SlicesE.Equal
namespace Go.Proofs.YtiinljljbjjaeaaGreatDoor
open Go Go.RowKit

/-- Whether two attributes are the same. -/
def aEq (x y : At) : Bool := x.name.toList == y.name.toList && vEq x.k x.n x.s y.k y.n y.s
theorem aEq_iff {x y : At} : aEq x y = true ↔ x = y := by
  unfold aEq
  rw [Bool.and_eq_true, vEq_iff, beq_iff_eq]
  constructor
  · rintro ⟨a, b, c, d⟩
    cases x; cases y
    simp only at a b c d
    subst b c d
    rw [ba_ext2 a]
  · rintro rfl; simp
theorem aNe : NeqAt Tryz.prog 58 (fun x : At => .agg (enc4 x).toArray) aEq := by
  refine ⟨fun x y w => ?_, GuardAt.agg _ (by kernel_rfl)⟩
  have a2 := Tryz.isAgg2; have z2 := Tryz.sizeOf2; have u2 := Tryz.underlying2
  have a3 := Tryz.isAgg3; have z3 := Tryz.sizeOf3; have u3 := Tryz.underlying3
  have a9 := Tryz.isAgg9; have z9 := Tryz.sizeOf9; have u9 := Tryz.underlying9
  have a23 := Tryz.isAgg56; have z23 := Tryz.sizeOf56
  have hS : Tryz.prog.underlying 58 = some (.struct (Tryz.prog.fieldsOf 58)) := by kernel_rfl
  have hp : Tryz.prog.stoodInHeld 58 = false := by kernel_rfl
  have hS2 : Tryz.prog.underlying 56 = some (.struct (Tryz.prog.fieldsOf 56)) := by kernel_rfl
  have hp2 : Tryz.prog.stoodInHeld 56 = false := by kernel_rfl
  obtain ⟨n1, k1, m1, s1⟩ := x
  obtain ⟨n2, k2, m2, s2⟩ := y
  simp only [enc4]
  rw [run_neq_struct, show (10000 : Nat) = 9998 + 1 + 1 from rfl, run_equalIn_agg w (9998 + 1) 58 _ _ hS hp]
  simp only [Program.fieldsOf, Tryz.underlying58]
  have hq : ∀ w : World, (Op.equalIn (9998 + 1) 56 (.agg #[.int .i64 k1, .int .i64 m1, .string s1]) (.agg #[.int .i64 k2, .int .i64 m2, .string s2])).run Tryz.prog w = .ok (vEq k1 m1 s1 k2 m2 s2) w := fun w => by
    rw [run_equalIn_agg w 9998 56 _ _ hS2 hp2]
    simp only [Program.fieldsOf, Tryz.underlying56]
    go_simp
    unfold vEq
    by_cases h1 : k1 = k2 <;> by_cases h2 : m1 = m2 <;> by_cases h3 : s1.toList = s2.toList <;> simp [h1, h2, h3]
  go_simp
  unfold aEq
  by_cases h1 : n1.toList = n2.toList <;> cases h2 : vEq k1 m1 s1 k2 m2 s2 <;> simp [h1]
end Go.Proofs.YtiinljljbjjaeaaGreatDoor
