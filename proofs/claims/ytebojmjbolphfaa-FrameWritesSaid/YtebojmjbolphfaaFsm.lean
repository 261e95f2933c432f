/- Contracts: Same and Clone, the program's and the document's. -/
import Derived.Test.YtebojmjbolphfaaFck
import Derived.Laws.AppendOwnNone
namespace Go.Proofs.Ytebojmjbolphfaa
open Go Go.RowKit

def sameB (f t k s a f' t' k' s' a' : Int) (x y : List Nat) : Bool := decide (f = f') && decide (t = t') && decide (k = k') && decide (s = s') && decide (a = a') && decide (x = y)
theorem sameB_refl (f t k s a : Int) (x : List Nat) : sameB f t k s a f t k s a x x = true := by simp [sameB]

set_option maxRecDepth 100000 in
set_option maxHeartbeats 1600000 in
theorem fSame_any (f t k s a f' t' k' s' a' : Int) (ao ao' : Option Addr) (n cap n' cap' B B' : Nat) (x y : List Nat) (w : World) (hx : Bv w B (.slice ao n cap) x) (hy : Bv w B' (.slice ao' n' cap') y) (hB : B ≤ w.heap.size) (hB' : B' ≤ w.heap.size) :
    Calls Try.prog 13 #[.agg #[.int .i64 f, .int .i64 t, .int .i64 k, .int .i64 s, .int .i64 a, .slice ao n cap], .agg #[.int .i64 f', .int .i64 t', .int .i64 k', .int .i64 s', .int .i64 a', .slice ao' n' cap']] w
      fun e w' => e = .returned (.bool (sameB f t k s a f' t' k' s' a' x y)) ∧ Below w.heap.size w w' := by
  rcases Decidable.em (f = f') with hf | hf
  case inr =>
    have ef : (f == f') = false := by simp [hf]
    rw [show sameB _ _ _ _ _ _ _ _ _ _ x y = false by simp [sameB, hf]]
    clear hx hy
    go_enter Try.func13, Try.ntmps13
    go_wp2
    go_ret
    exact ⟨rfl, ((Below.refl _ _).alloc (Nat.le_refl _) _).alloc (by simp) _⟩
  subst hf
  rcases Decidable.em (t = t') with ht | ht
  case inr =>
    have et : (t == t') = false := by simp [ht]
    rw [show sameB _ _ _ _ _ _ _ _ _ _ x y = false by simp [sameB, ht]]
    clear hx hy
    go_enter Try.func13, Try.ntmps13
    go_wp2
    go_ret
    exact ⟨rfl, ((Below.refl _ _).alloc (Nat.le_refl _) _).alloc (by simp) _⟩
  subst ht
  rcases Decidable.em (k = k') with hk | hk
  case inr =>
    have ek : (k == k') = false := by simp [hk]
    rw [show sameB _ _ _ _ _ _ _ _ _ _ x y = false by simp [sameB, hk]]
    clear hx hy
    go_enter Try.func13, Try.ntmps13
    go_wp2
    go_ret
    exact ⟨rfl, ((Below.refl _ _).alloc (Nat.le_refl _) _).alloc (by simp) _⟩
  subst hk
  rcases Decidable.em (s = s') with hs | hs
  case inr =>
    have es : (s == s') = false := by simp [hs]
    rw [show sameB _ _ _ _ _ _ _ _ _ _ x y = false by simp [sameB, hs]]
    clear hx hy
    go_enter Try.func13, Try.ntmps13
    go_wp2
    go_ret
    exact ⟨rfl, ((Below.refl _ _).alloc (Nat.le_refl _) _).alloc (by simp) _⟩
  subst hs
  rcases Decidable.em (a = a') with ha | ha
  case inr =>
    have ea : (a == a') = false := by simp [ha]
    rw [show sameB _ _ _ _ _ _ _ _ _ _ x y = false by simp [sameB, ha]]
    clear hx hy
    go_enter Try.func13, Try.ntmps13
    go_wp2
    go_ret
    exact ⟨rfl, ((Below.refl _ _).alloc (Nat.le_refl _) _).alloc (by simp) _⟩
  subst ha
  have hbel : Below w.heap.size w ((w.alloc (.cells #[.int .i64 f, .int .i64 t, .int .i64 k, .int .i64 s, .int .i64 a, .slice ao n cap] 24)).alloc (.cells #[.int .i64 f, .int .i64 t, .int .i64 k, .int .i64 s, .int .i64 a, .slice ao' n' cap'] 24)) := ((Below.refl _ _).alloc (Nat.le_refl _) _).alloc (by simp) _
  have hx2 := hx.below hbel hB
  have hy2 := hy.below hbel hB'
  have HBel := hide hbel
  rw [show sameB f t k s a f t k s a x y = decide (x = y) by simp [sameB]]
  obtain ⟨b, hb⟩ : ∃ b, b = decide (x = y) := ⟨_, rfl⟩
  have C := hx2.equal hy2
  rw [← hb] at C ⊢
  clear hx hy hx2 hy2 hbel hb
  go_enter Try.func13, Try.ntmps13
  go_wp2_with fail
  refine C.mono ?_
  rintro e w' ⟨rfl, rfl⟩
  go_wp2
  go_ret
  exact ⟨rfl, HBel.out⟩

set_option maxRecDepth 100000 in
set_option maxHeartbeats 1600000 in
theorem r2Same_any (f t k s a f' t' k' s' a' : Int) (ao ao' : Option Addr) (n cap n' cap' B B' : Nat) (x y : List Nat) (w : World) (hx : Bv w B (.slice ao n cap) x) (hy : Bv w B' (.slice ao' n' cap') y) (hB : B ≤ w.heap.size) (hB' : B' ≤ w.heap.size) :
    Calls Try.prog 14 #[.agg #[.int .i64 f, .int .i64 t, .int .i64 k, .int .i64 s, .int .i64 a, .slice ao n cap], .agg #[.int .i64 f', .int .i64 t', .int .i64 k', .int .i64 s', .int .i64 a', .slice ao' n' cap']] w
      fun e w' => e = .returned (.bool (sameB f t k s a f' t' k' s' a' x y)) ∧ Below w.heap.size w w' := by
  rcases Decidable.em (f = f') with hf | hf
  case inr =>
    have ef : (f == f') = false := by simp [hf]
    rw [show sameB _ _ _ _ _ _ _ _ _ _ x y = false by simp [sameB, hf]]
    clear hx hy
    go_enter Try.func14, Try.ntmps14
    go_wp2
    go_ret
    exact ⟨rfl, ((Below.refl _ _).alloc (Nat.le_refl _) _).alloc (by simp) _⟩
  subst hf
  rcases Decidable.em (t = t') with ht | ht
  case inr =>
    have et : (t == t') = false := by simp [ht]
    rw [show sameB _ _ _ _ _ _ _ _ _ _ x y = false by simp [sameB, ht]]
    clear hx hy
    go_enter Try.func14, Try.ntmps14
    go_wp2
    go_ret
    exact ⟨rfl, ((Below.refl _ _).alloc (Nat.le_refl _) _).alloc (by simp) _⟩
  subst ht
  rcases Decidable.em (k = k') with hk | hk
  case inr =>
    have ek : (k == k') = false := by simp [hk]
    rw [show sameB _ _ _ _ _ _ _ _ _ _ x y = false by simp [sameB, hk]]
    clear hx hy
    go_enter Try.func14, Try.ntmps14
    go_wp2
    go_ret
    exact ⟨rfl, ((Below.refl _ _).alloc (Nat.le_refl _) _).alloc (by simp) _⟩
  subst hk
  rcases Decidable.em (s = s') with hs | hs
  case inr =>
    have es : (s == s') = false := by simp [hs]
    rw [show sameB _ _ _ _ _ _ _ _ _ _ x y = false by simp [sameB, hs]]
    clear hx hy
    go_enter Try.func14, Try.ntmps14
    go_wp2
    go_ret
    exact ⟨rfl, ((Below.refl _ _).alloc (Nat.le_refl _) _).alloc (by simp) _⟩
  subst hs
  rcases Decidable.em (a = a') with ha | ha
  case inr =>
    have ea : (a == a') = false := by simp [ha]
    rw [show sameB _ _ _ _ _ _ _ _ _ _ x y = false by simp [sameB, ha]]
    clear hx hy
    go_enter Try.func14, Try.ntmps14
    go_wp2
    go_ret
    exact ⟨rfl, ((Below.refl _ _).alloc (Nat.le_refl _) _).alloc (by simp) _⟩
  subst ha
  have hbel : Below w.heap.size w ((w.alloc (.cells #[.int .i64 f, .int .i64 t, .int .i64 k, .int .i64 s, .int .i64 a, .slice ao n cap] 24)).alloc (.cells #[.int .i64 f, .int .i64 t, .int .i64 k, .int .i64 s, .int .i64 a, .slice ao' n' cap'] 24)) := ((Below.refl _ _).alloc (Nat.le_refl _) _).alloc (by simp) _
  have hx2 := hx.below hbel hB
  have hy2 := hy.below hbel hB'
  have HBel := hide hbel
  have c1 := hx2.convert
  have c2 := hy2.convert
  have hsx := hx.small; have hsy := hy.small
  by_cases hxy : x = y
  · subst hxy
    rw [sameB_refl]
    obtain ⟨sx, hsx0⟩ : ∃ sx, sx = strN x := ⟨_, rfl⟩
    rw [← hsx0] at c1 c2
    clear hx hy hx2 hy2 hbel hsx hsy hsx0
    go_enter Try.func14, Try.ntmps14
    go_wp2
    go_ret
    exact ⟨rfl, HBel.out⟩
  · rw [show sameB f t k s a f t k s a x y = false by simp [sameB, hxy]]
    have hne : ¬ strN x = strN y := fun h => hxy (strN_inj hsx hsy h)
    obtain ⟨sx, hsx0⟩ : ∃ sx, sx = strN x := ⟨_, rfl⟩
    obtain ⟨sy, hsy0⟩ : ∃ sy, sy = strN y := ⟨_, rfl⟩
    rw [← hsx0] at c1 hne; rw [← hsy0] at c2 hne
    have hne1 : (sx.toList == sy.toList) = false := by rw [Lib.toList_data, Lib.toList_data]; exact beq_false_of_ne fun h => hne (WideShapes.bytes_inj h)
    clear hx hy hx2 hy2 hbel hsx hsy hsx0 hsy0 hxy
    go_enter Try.func14, Try.ntmps14
    go_wp2
    go_ret
    exact ⟨rfl, HBel.out⟩

end Go.Proofs.Ytebojmjbolphfaa
