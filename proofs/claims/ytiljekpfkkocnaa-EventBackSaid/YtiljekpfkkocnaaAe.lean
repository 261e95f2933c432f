/- How the program holds two values, and two attributes, against each other. -/
import Derived.Test.YtiljekpfkkocnaaAm
import Derived.Test.YtiljekpfkkocnaaVc
import Derived.Laws.StructEq
import Derived.Shelf.SlicesE.Equal
namespace Go.Proofs.Ytiljekpfkkocnaa
open Go Go.RowKit

/-- Whether two values are the same; two attributes. -/
def vEq (k1 n1 : Int) (s1 : ByteArray) (k2 n2 : Int) (s2 : ByteArray) : Bool := k1 == k2 && (n1 == n2 && s1.toList == s2.toList)
def aEq (x y : At) : Bool := x.name.toList == y.name.toList && vEq x.k x.n x.s y.k y.n y.s
theorem ba_ext2 {a b : ByteArray} (h : a.toList = b.toList) : a = b := by
  rw [Lib.toList_data, Lib.toList_data] at h
  cases a; cases b; simp at h; rw [h]
theorem vEq_iff {k1 n1 : Int} {s1 : ByteArray} {k2 n2 : Int} {s2 : ByteArray} : vEq k1 n1 s1 k2 n2 s2 = true ↔ k1 = k2 ∧ n1 = n2 ∧ s1 = s2 := by
  unfold vEq
  simp only [Bool.and_eq_true, beq_iff_eq]
  exact ⟨fun ⟨a, b, c⟩ => ⟨a, b, ba_ext2 c⟩, fun ⟨a, b, c⟩ => ⟨a, b, by rw [c]⟩⟩
theorem aEq_iff {x y : At} : aEq x y = true ↔ x = y := by
  unfold aEq
  rw [Bool.and_eq_true, vEq_iff, beq_iff_eq]
  constructor
  · rintro ⟨a, b, c, d⟩
    cases x; cases y
    simp only at a b c d
    subst b c d
    rw [ba_ext2 a]
  · rintro rfl; simp
theorem vEq_run (k1 n1 : Int) (s1 : ByteArray) (k2 n2 : Int) (s2 : ByteArray) (w : World) :
    (binOp .eql 89 (.agg #[.int .i64 k1, .int .i64 n1, .string s1]) (.agg #[.int .i64 k2, .int .i64 n2, .string s2])).run Try.prog w = .ok (.bool (vEq k1 n1 s1 k2 n2 s2)) w := by
  have a2 := Try.isAgg2; have z2 := Try.sizeOf2; have u2 := Try.underlying2
  have a3 := Try.isAgg3; have z3 := Try.sizeOf3; have u3 := Try.underlying3
  have a9 := Try.isAgg9; have z9 := Try.sizeOf9; have u9 := Try.underlying9
  have hS : Try.prog.underlying 89 = some (.struct (Try.prog.fieldsOf 89)) := by kernel_rfl
  have hp : Try.prog.stoodInHeld 89 = false := by kernel_rfl
  rw [run_eql_struct, show (10000 : Nat) = 9999 + 1 from rfl, run_equalIn_agg w 9999 89 _ _ hS hp]
  simp only [Program.fieldsOf, Try.underlying89]
  go_simp
  unfold vEq
  by_cases h1 : k1 = k2 <;> by_cases h2 : n1 = n2 <;> by_cases h3 : s1.toList = s2.toList <;> simp [h1, h2, h3]
theorem vNe_run (k1 n1 : Int) (s1 : ByteArray) (k2 n2 : Int) (s2 : ByteArray) (w : World) :
    (binOp .neq 89 (.agg #[.int .i64 k1, .int .i64 n1, .string s1]) (.agg #[.int .i64 k2, .int .i64 n2, .string s2])).run Try.prog w = .ok (.bool (!vEq k1 n1 s1 k2 n2 s2)) w := by
  have h := vEq_run k1 n1 s1 k2 n2 s2 w
  rw [run_eql_struct] at h
  rw [run_neq_struct]
  cases hr : (Op.equalIn 10000 89 (.agg #[.int .i64 k1, .int .i64 n1, .string s1]) (.agg #[.int .i64 k2, .int .i64 n2, .string s2])).run Try.prog w with
  | ok b w' =>
    rw [hr] at h
    simp only [Result.andThen, Result.ok.injEq, Value.bool.injEq] at h
    obtain ⟨rfl, rfl⟩ := h
    rfl
  | _ => rw [hr] at h; simp [Result.andThen] at h
theorem vGuard (op : BinOp) (x y : Operand) (k1 n1 : Int) (s1 : ByteArray) (k2 n2 : Int) (s2 : ByteArray) (w : World) :
    (eqGuard op 89 x y (.agg #[.int .i64 k1, .int .i64 n1, .string s1]) (.agg #[.int .i64 k2, .int .i64 n2, .string s2])).run Try.prog w = .ok () w := run_eqGuard_agg w op _ x y _ _ (by kernel_rfl)

theorem aNe : NeqAt Try.prog 91 (fun x : At => .agg (enc4 x).toArray) aEq := by
  refine ⟨fun x y w => ?_, GuardAt.agg _ (by kernel_rfl)⟩
  have a2 := Try.isAgg2; have z2 := Try.sizeOf2; have u2 := Try.underlying2
  have a3 := Try.isAgg3; have z3 := Try.sizeOf3; have u3 := Try.underlying3
  have a9 := Try.isAgg9; have z9 := Try.sizeOf9; have u9 := Try.underlying9
  have a23 := Try.isAgg89; have z23 := Try.sizeOf89
  have hS : Try.prog.underlying 91 = some (.struct (Try.prog.fieldsOf 91)) := by kernel_rfl
  have hp : Try.prog.stoodInHeld 91 = false := by kernel_rfl
  have hS2 : Try.prog.underlying 89 = some (.struct (Try.prog.fieldsOf 89)) := by kernel_rfl
  have hp2 : Try.prog.stoodInHeld 89 = false := by kernel_rfl
  obtain ⟨n1, k1, m1, s1⟩ := x
  obtain ⟨n2, k2, m2, s2⟩ := y
  simp only [enc4]
  rw [run_neq_struct, show (10000 : Nat) = 9998 + 1 + 1 from rfl, run_equalIn_agg w (9998 + 1) 91 _ _ hS hp]
  simp only [Program.fieldsOf, Try.underlying91]
  have hq : ∀ w : World, (Op.equalIn (9998 + 1) 89 (.agg #[.int .i64 k1, .int .i64 m1, .string s1]) (.agg #[.int .i64 k2, .int .i64 m2, .string s2])).run Try.prog w = .ok (vEq k1 m1 s1 k2 m2 s2) w := fun w => by
    rw [run_equalIn_agg w 9998 89 _ _ hS2 hp2]
    simp only [Program.fieldsOf, Try.underlying89]
    go_simp
    unfold vEq
    by_cases h1 : k1 = k2 <;> by_cases h2 : m1 = m2 <;> by_cases h3 : s1.toList = s2.toList <;> simp [h1, h2, h3]
  go_simp
  unfold aEq
  by_cases h1 : n1.toList = n2.toList <;> cases h2 : vEq k1 m1 s1 k2 m2 s2 <;> simp [h1]
end Go.Proofs.Ytiljekpfkkocnaa
