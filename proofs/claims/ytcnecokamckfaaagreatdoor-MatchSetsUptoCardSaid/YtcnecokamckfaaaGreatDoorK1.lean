/- Joined: Vc, Ve, Ae. -/
import Derived.Test.YtcnecokamckfaaaGreatDoorVm
import Derived.Test.YtcnecokamckfaaaGreatDoorRows
import Derived.Test.YtcnecokamckfaaaGreatDoorShelf
import Derived.WalkKit
import Derived.WalkLawsBesides
import Derived.Outline
import Derived.BigQuiet
import Derived.Deep.QuietTactic
import Derived.OneCell
import Derived.Lib.Hide
import Derived.Laws.StructEq
import Derived.Shelf.SlicesE.Equal
import Derived.Test.YtcnecokamckfaaaGreatDoorAm
/- Contracts: which values may be, how two stand, relations: the program's calls and the document's. -/
namespace Go.Proofs.YtcnecokamckfaaaGreatDoor
open Go Go.RowKit

theorem ckI_ok {k n : Int} {s : List UInt8} (h : ckB k n s = true) : ckI k n s = 0 := by unfold ckI; rw [if_pos h]
theorem ckI_no {k n : Int} {s : List UInt8} (h : ckB k n s = false) : ckI k n s = 30 := by unfold ckI; rw [h]; rfl

set_option maxHeartbeats 1000000 in
theorem vCheck_any (k n : Int) (s : ByteArray) (w : World) (hs : s.size ≤ maxLen) :
    Calls Tryz.prog 131 #[.agg #[.int .i64 k, .int .i64 n, .string s]] w fun e w' => e = .returned (.int .i64 (ckI k n s.data.toList)) ∧ Below w.heap.size w w' := by
  unfold maxLen at hs
  have hl : s.data.toList.length = s.size := by simp
  have ht := Lib.toList_data s
  by_cases h1 : k = 1
  · subst h1
    cases he : s.toList.isEmpty with
    | true =>
      rw [ckI_ok (by simp only [ckB, if_true]; rw [← ht]; exact he)]
      have he' : s.toList = [] := by simpa using he
      clear hl ht he
      go_enter Tryz.func131, Tryz.ntmps131
      go_wp2
      go_ret
      exact ⟨rfl, (Below.refl _ _).alloc (Nat.le_refl _) _⟩
    | false =>
      rw [ckI_no (by simp only [ckB, if_true]; rw [← ht]; exact he)]
      clear hl ht
      go_enter Tryz.func131, Tryz.ntmps131
      go_wp2
      go_ret
      exact ⟨rfl, (Below.refl _ _).alloc (Nat.le_refl _) _⟩
  · have b1 : (k == 1) = false := by simpa using h1
    by_cases h2 : k = 2
    · subst h2
      by_cases hn : n = 0
      · subst hn
        by_cases hz : s.size ≤ 64
        · rw [ckI_ok (by simp [ckB]; omega)]
          clear hl ht b1 h1
          go_enter Tryz.func131, Tryz.ntmps131
          go_wp2
          go_ret
          exact ⟨rfl, (Below.refl _ _).alloc (Nat.le_refl _) _⟩
        · rw [ckI_no (by simp [ckB]; omega)]
          have hz' : ¬ ((s.size : Int) ≤ 64) := by omega
          clear hl ht b1 h1
          go_enter Tryz.func131, Tryz.ntmps131
          go_wp2
          go_ret
          exact ⟨rfl, (Below.refl _ _).alloc (Nat.le_refl _) _⟩
      · rw [ckI_no (by simp [ckB, hn])]
        have bn : (n == 0) = false := by simpa using hn
        clear hl ht b1 h1
        go_enter Tryz.func131, Tryz.ntmps131
        go_wp2
        go_ret
        exact ⟨rfl, (Below.refl _ _).alloc (Nat.le_refl _) _⟩
    · have b2 : (k == 2) = false := by simpa using h2
      rw [ckI_no (by simp [ckB, h1, h2])]
      clear hl ht h1 h2
      go_enter Tryz.func131, Tryz.ntmps131
      go_wp2
      go_ret
      exact ⟨rfl, (Below.refl _ _).alloc (Nat.le_refl _) _⟩
set_option maxHeartbeats 1000000 in
theorem r3Check_any (k n : Int) (s : ByteArray) (w : World) (hs : s.size ≤ maxLen) :
    Calls Tryz.prog 132 #[.agg #[.int .i64 k, .int .i64 n, .string s]] w fun e w' => e = .returned (.int .i64 (ckI k n s.data.toList)) ∧ Below w.heap.size w w' := by
  unfold maxLen at hs
  have hl : s.data.toList.length = s.size := by simp
  have ht := Lib.toList_data s
  by_cases h1 : k = 1
  · subst h1
    cases he : s.toList.isEmpty with
    | true =>
      rw [ckI_ok (by simp only [ckB, if_true]; rw [← ht]; exact he)]
      have he' : s.toList = [] := by simpa using he
      clear hl ht he
      go_enter Tryz.func132, Tryz.ntmps132
      go_wp2
      go_ret
      exact ⟨rfl, (Below.refl _ _).alloc (Nat.le_refl _) _⟩
    | false =>
      rw [ckI_no (by simp only [ckB, if_true]; rw [← ht]; exact he)]
      clear hl ht
      go_enter Tryz.func132, Tryz.ntmps132
      go_wp2
      go_ret
      exact ⟨rfl, (Below.refl _ _).alloc (Nat.le_refl _) _⟩
  · have b1 : (k == 1) = false := by simpa using h1
    by_cases h2 : k = 2
    · subst h2
      by_cases hn : n = 0
      · subst hn
        by_cases hz : s.size ≤ 64
        · rw [ckI_ok (by simp [ckB]; omega)]
          clear hl ht b1 h1
          go_enter Tryz.func132, Tryz.ntmps132
          go_wp2
          go_ret
          exact ⟨rfl, (Below.refl _ _).alloc (Nat.le_refl _) _⟩
        · rw [ckI_no (by simp [ckB]; omega)]
          have hz' : ¬ ((s.size : Int) ≤ 64) := by omega
          clear hl ht b1 h1
          go_enter Tryz.func132, Tryz.ntmps132
          go_wp2
          go_ret
          exact ⟨rfl, (Below.refl _ _).alloc (Nat.le_refl _) _⟩
      · rw [ckI_no (by simp [ckB, hn])]
        have bn : (n == 0) = false := by simpa using hn
        clear hl ht b1 h1
        go_enter Tryz.func132, Tryz.ntmps132
        go_wp2
        go_ret
        exact ⟨rfl, (Below.refl _ _).alloc (Nat.le_refl _) _⟩
    · have b2 : (k == 2) = false := by simpa using h2
      rw [ckI_no (by simp [ckB, h1, h2])]
      clear hl ht h1 h2
      go_enter Tryz.func132, Tryz.ntmps132
      go_wp2
      go_ret
      exact ⟨rfl, (Below.refl _ _).alloc (Nat.le_refl _) _⟩

theorem isNaN_any (n : Int) (w : World) : Calls Tryz.prog 134 #[.int .i64 n] w fun e w' => e = .returned (.bool false) ∧ w = w' := by
  go_enter Tryz.func134, Tryz.ntmps134
  go_wp2
  go_ret
  exact ⟨by simp, rfl⟩
theorem cmpI_any (a b : Int) (w : World) : Calls Tryz.prog 100 #[.int .i64 a, .int .i64 b] w fun e w' => e = .returned (.int .i64 (cmpI a b)) ∧ w = w' := by
  rcases Int.lt_trichotomy a b with h | h | h
  · rw [cmpI_lt h]
    go_enter Tryz.func100, Tryz.ntmps100
    go_wp2_with (go_at_call 134; refine (isNaN_any _ _).mono ?_; rintro e w' ⟨rfl, rfl⟩)
    go_ret
    exact ⟨rfl, rfl⟩
  · subst h
    rw [cmpI_eq]
    go_enter Tryz.func100, Tryz.ntmps100
    go_wp2_with (go_at_call 134; refine (isNaN_any _ _).mono ?_; rintro e w' ⟨rfl, rfl⟩)
    go_ret
    exact ⟨rfl, rfl⟩
  · rw [cmpI_gt h]
    have h' : ¬ a < b := by omega
    go_enter Tryz.func100, Tryz.ntmps100
    go_wp2_with (go_at_call 134; refine (isNaN_any _ _).mono ?_; rintro e w' ⟨rfl, rfl⟩)
    go_ret
    exact ⟨rfl, rfl⟩
theorem sCompare_any (a b : ByteArray) (w : World) : Calls Tryz.prog 46 #[.string a, .string b] w fun e w' => e = .returned (.int .i64 (Lib.compareBytes a.data.toList b.data.toList)) ∧ w = w' :=
  (Tryz.strings_Compare a b w).mono fun _ _ ⟨h, k⟩ => ⟨h, k.symm⟩

/-- Two values' answers of Compare. -/
def cmpT (k1 n1 : Int) (s1 : ByteArray) (k2 n2 : Int) (s2 : ByteArray) : Value := .tuple #[.int .i64 (cmpV k1 n1 s1.data.toList k2 n2 s2.data.toList), .bool (cmpB k1 k2)]
theorem cmpT_no {k1 k2 : Int} (h : cmpB k1 k2 = false) (n1 : Int) (s1 : ByteArray) (n2 : Int) (s2 : ByteArray) : cmpT k1 n1 s1 k2 n2 s2 = .tuple #[.int .i64 0, .bool false] := by unfold cmpT; rw [cmpV_no h, h]
theorem cmpT_ii (n1 : Int) (s1 : ByteArray) (n2 : Int) (s2 : ByteArray) : cmpT 1 n1 s1 1 n2 s2 = .tuple #[.int .i64 (cmpI n1 n2), .bool true] := by unfold cmpT; rw [cmpV_ii]; rfl
theorem cmpT_ss (n1 : Int) (s1 : ByteArray) (n2 : Int) (s2 : ByteArray) : cmpT 2 n1 s1 2 n2 s2 = .tuple #[.int .i64 (Lib.compareBytes s1.data.toList s2.data.toList), .bool true] := by unfold cmpT; rw [cmpV_ss]; rfl

end Go.Proofs.YtcnecokamckfaaaGreatDoor
namespace Go.Proofs.YtcnecokamckfaaaGreatDoor
open Go Go.RowKit

end Go.Proofs.YtcnecokamckfaaaGreatDoor
namespace Go.Proofs.YtcnecokamckfaaaGreatDoor
open Go Go.RowKit

theorem bcell {W w1 : World} (hb : Below W.heap.size W w1) : (∀ b o, b < W.heap.size → w1.cell? ⟨b, o, none⟩ = W.cell? ⟨b, o, none⟩) ∧ (∀ b o, b < W.heap.size → w1.frozen? ⟨b, o, none⟩ = W.frozen? ⟨b, o, none⟩) :=
  ⟨fun b o h => hb.cell (p := ⟨b, o, none⟩) h, fun b o h => hb.frozen (p := ⟨b, o, none⟩) h⟩
theorem holdsB_yes {rel k1 n1 : Int} {s1 : List UInt8} {k2 n2 : Int} {s2 : List UInt8} (h : cmpB k1 k2 = true) : holdsB rel k1 n1 s1 k2 n2 s2 = relB rel (cmpV k1 n1 s1 k2 n2 s2) := by unfold holdsB; rw [if_pos h]
theorem holdsB_no {rel k1 n1 : Int} {s1 : List UInt8} {k2 n2 : Int} {s2 : List UInt8} (h : cmpB k1 k2 = false) : holdsB rel k1 n1 s1 k2 n2 s2 = (decide (rel = 2) && (kindB k1 && kindB k2)) := by unfold holdsB; rw [h]; rfl

end Go.Proofs.YtcnecokamckfaaaGreatDoor

/- How the program holds two values against each other. -/
namespace Go.Proofs.YtcnecokamckfaaaGreatDoor
open Go Go.RowKit

/-- Whether two values are the same. -/
def vEq (k1 n1 : Int) (s1 : ByteArray) (k2 n2 : Int) (s2 : ByteArray) : Bool := k1 == k2 && (n1 == n2 && s1.toList == s2.toList)
theorem ba_ext2 {a b : ByteArray} (h : a.toList = b.toList) : a = b := by
  rw [Lib.toList_data, Lib.toList_data] at h
  cases a; cases b; simp at h; rw [h]
theorem vEq_iff {k1 n1 : Int} {s1 : ByteArray} {k2 n2 : Int} {s2 : ByteArray} : vEq k1 n1 s1 k2 n2 s2 = true ↔ k1 = k2 ∧ n1 = n2 ∧ s1 = s2 := by
  unfold vEq
  simp only [Bool.and_eq_true, beq_iff_eq]
  exact ⟨fun ⟨a, b, c⟩ => ⟨a, b, ba_ext2 c⟩, fun ⟨a, b, c⟩ => ⟨a, b, by rw [c]⟩⟩
theorem vEq_run (k1 n1 : Int) (s1 : ByteArray) (k2 n2 : Int) (s2 : ByteArray) (w : World) :
    (binOp .eql 56 (.agg #[.int .i64 k1, .int .i64 n1, .string s1]) (.agg #[.int .i64 k2, .int .i64 n2, .string s2])).run Tryz.prog w = .ok (.bool (vEq k1 n1 s1 k2 n2 s2)) w := by
  have a2 := Tryz.isAgg2; have z2 := Tryz.sizeOf2; have u2 := Tryz.underlying2
  have a3 := Tryz.isAgg3; have z3 := Tryz.sizeOf3; have u3 := Tryz.underlying3
  have a9 := Tryz.isAgg9; have z9 := Tryz.sizeOf9; have u9 := Tryz.underlying9
  have hS : Tryz.prog.underlying 56 = some (.struct (Tryz.prog.fieldsOf 56)) := by kernel_rfl
  have hp : Tryz.prog.stoodInHeld 56 = false := by kernel_rfl
  rw [run_eql_struct, show (10000 : Nat) = 9999 + 1 from rfl, run_equalIn_agg w 9999 56 _ _ hS hp]
  simp only [Program.fieldsOf, Tryz.underlying56]
  go_simp
  unfold vEq
  by_cases h1 : k1 = k2 <;> by_cases h2 : n1 = n2 <;> by_cases h3 : s1.toList = s2.toList <;> simp [h1, h2, h3]
theorem vNe_run (k1 n1 : Int) (s1 : ByteArray) (k2 n2 : Int) (s2 : ByteArray) (w : World) :
    (binOp .neq 56 (.agg #[.int .i64 k1, .int .i64 n1, .string s1]) (.agg #[.int .i64 k2, .int .i64 n2, .string s2])).run Tryz.prog w = .ok (.bool (!vEq k1 n1 s1 k2 n2 s2)) w := by
  have h := vEq_run k1 n1 s1 k2 n2 s2 w
  rw [run_eql_struct] at h
  rw [run_neq_struct]
  cases hr : (Op.equalIn 10000 56 (.agg #[.int .i64 k1, .int .i64 n1, .string s1]) (.agg #[.int .i64 k2, .int .i64 n2, .string s2])).run Tryz.prog w with
  | ok b w' =>
    rw [hr] at h
    simp only [Result.andThen, Result.ok.injEq, Value.bool.injEq] at h
    obtain ⟨rfl, rfl⟩ := h
    rfl
  | _ => rw [hr] at h; simp [Result.andThen] at h
theorem vGuard (op : BinOp) (x y : Operand) (k1 n1 : Int) (s1 : ByteArray) (k2 n2 : Int) (s2 : ByteArray) (w : World) :
    (eqGuard op 56 x y (.agg #[.int .i64 k1, .int .i64 n1, .string s1]) (.agg #[.int .i64 k2, .int .i64 n2, .string s2])).run Tryz.prog w = .ok () w := run_eqGuard_agg w op _ x y _ _ (by kernel_rfl)

end Go.Proofs.YtcnecokamckfaaaGreatDoor

/- How the program holds two attributes against each other. -/
namespace Go.Proofs.YtcnecokamckfaaaGreatDoor
open Go Go.RowKit

/-- Whether two attributes are the same. -/
def aEq (x y : At) : Bool := x.name.toList == y.name.toList && vEq x.k x.n x.s y.k y.n y.s
theorem aEq_iff {x y : At} : aEq x y = true ↔ x = y := by
  unfold aEq
  rw [Bool.and_eq_true, vEq_iff, beq_iff_eq]
  constructor
  · rintro ⟨a, b, c, d⟩
    cases x; cases y
    simp only at a b c d
    subst b c d
    rw [ba_ext2 a]
  · rintro rfl; simp
theorem aNe : NeqAt Tryz.prog 58 (fun x : At => .agg (enc4 x).toArray) aEq := by
  refine ⟨fun x y w => ?_, GuardAt.agg _ (by kernel_rfl)⟩
  have a2 := Tryz.isAgg2; have z2 := Tryz.sizeOf2; have u2 := Tryz.underlying2
  have a3 := Tryz.isAgg3; have z3 := Tryz.sizeOf3; have u3 := Tryz.underlying3
  have a9 := Tryz.isAgg9; have z9 := Tryz.sizeOf9; have u9 := Tryz.underlying9
  have a23 := Tryz.isAgg56; have z23 := Tryz.sizeOf56
  have hS : Tryz.prog.underlying 58 = some (.struct (Tryz.prog.fieldsOf 58)) := by kernel_rfl
  have hp : Tryz.prog.stoodInHeld 58 = false := by kernel_rfl
  have hS2 : Tryz.prog.underlying 56 = some (.struct (Tryz.prog.fieldsOf 56)) := by kernel_rfl
  have hp2 : Tryz.prog.stoodInHeld 56 = false := by kernel_rfl
  obtain ⟨n1, k1, m1, s1⟩ := x
  obtain ⟨n2, k2, m2, s2⟩ := y
  simp only [enc4]
  rw [run_neq_struct, show (10000 : Nat) = 9998 + 1 + 1 from rfl, run_equalIn_agg w (9998 + 1) 58 _ _ hS hp]
  simp only [Program.fieldsOf, Tryz.underlying58]
  have hq : ∀ w : World, (Op.equalIn (9998 + 1) 56 (.agg #[.int .i64 k1, .int .i64 m1, .string s1]) (.agg #[.int .i64 k2, .int .i64 m2, .string s2])).run Tryz.prog w = .ok (vEq k1 m1 s1 k2 m2 s2) w := fun w => by
    rw [run_equalIn_agg w 9998 56 _ _ hS2 hp2]
    simp only [Program.fieldsOf, Tryz.underlying56]
    go_simp
    unfold vEq
    by_cases h1 : k1 = k2 <;> by_cases h2 : m1 = m2 <;> by_cases h3 : s1.toList = s2.toList <;> simp [h1, h2, h3]
  go_simp
  unfold aEq
  by_cases h1 : n1.toList = n2.toList <;> cases h2 : vEq k1 m1 s1 k2 m2 s2 <;> simp [h1]
end Go.Proofs.YtcnecokamckfaaaGreatDoor
