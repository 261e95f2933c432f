/- Contract of each: a walk through a tree, with whatever closure is handed over. -/
import Derived.Test.YtpbloplbpkedcaaCo7
import Derived.Shelf.AbstractIn
import Derived.Shelf.Abstract
import Derived.Lib.Hide
import Derived.Laws.EntriesVeiled
import Derived.Deep.RegionHeld3
namespace Go.Proofs.Ytpbloplbpkedcaa
open Go Go.RowKit

theorem meas7 {k n : Nat} (h : k < n) : n - ((k : Int) + 1).toNat < n - ((k : Nat) : Int).toNat := by omega
theorem wr7 {k n : Nat} (h : k < n) (hN : n ≤ 140737488355328) : wrap64 ((k : Int) + 1) = (k : Int) + 1 := by unfold wrap64; omega
theorem wrI7 {k n : Nat} (h : k < n) (hN : n ≤ 140737488355328) : IntKind.i64.wrap ((k : Int) + 1) = (k : Int) + 1 := by
  rw [IntKind.wrap_i64]; omega
/-- How a walk goes through a row of nodes, from a state on; it ends where the closure says no. -/
def walkG {S : Type} (g : S → Nt → Fo → Nat → S × Bool) : Fo → Nat → S → S × Bool
  | .nil, _, s => (s, true)
  | .cons d k n, lv, s => if (g s d k lv).2 = true then (if (walkG g k (lv + 1) (g s d k lv).1).2 = true then walkG g n lv (walkG g k (lv + 1) (g s d k lv).1).1 else walkG g k (lv + 1) (g s d k lv).1) else g s d k lv
def walkN {S : Type} (g : S → Nt → Fo → Nat → S × Bool) (d : Nt) (k : Fo) (lv : Nat) (s : S) : S × Bool := if (g s d k lv).2 = true then walkG g k (lv + 1) (g s d k lv).1 else g s d k lv
theorem walkG_cons {S : Type} (g : S → Nt → Fo → Nat → S × Bool) (d : Nt) (k n : Fo) (lv : Nat) (s : S) :
    walkG g (.cons d k n) lv s = if (walkN g d k lv s).2 = true then walkG g n lv (walkN g d k lv s).1 else walkN g d k lv s := by
  unfold walkN
  by_cases h : (g s d k lv).2 = true
  · simp only [walkG, h, if_true]
  · simp only [walkG, h, if_false]; simp [h]

/-- How many nodes a row has, with all below. -/
def ndF : Fo → Nat
  | .nil => 0
  | .cons _ k n => 1 + ndF k + ndF n
theorem ndF_sz : ∀ f : Fo, ndF f ≤ szF f
  | .nil => Nat.le_refl _
  | .cons d k n => by have := ndF_sz k; have := ndF_sz n; simp only [ndF, szF, szD]; omega
theorem walkG_Q {S : Type} {g : S → Nt → Fo → Nat → S × Bool} {Q : S → Nat → Prop} (qs : ∀ s d k lv m, Q s (m + 1) → Q (g s d k lv).1 m) : ∀ (f : Fo) (lv : Nat) (s : S) (m : Nat), Q s (ndF f + m) → (walkG g f lv s).2 = true → Q (walkG g f lv s).1 m
  | .nil, _, s, m, h, _ => by rw [show ndF .nil + m = m from Nat.zero_add m] at h; exact h
  | .cons d k n, lv, s, m, h, ht => by
    simp only [walkG] at ht ⊢
    have h1 : Q (g s d k lv).1 (ndF k + (ndF n + m)) := qs s d k lv _ (by
      simp only [ndF] at h
      rw [show ndF k + (ndF n + m) + 1 = 1 + ndF k + ndF n + m by omega]
      exact h)
    by_cases hg : (g s d k lv).2 = true
    · simp only [hg, if_true] at ht ⊢
      by_cases hk : (walkG g k (lv + 1) (g s d k lv).1).2 = true
      · simp only [hk, if_true] at ht ⊢
        exact walkG_Q qs n lv _ m (walkG_Q qs k (lv + 1) _ _ h1 hk) ht
      · rw [if_neg hk] at ht; exact absurd ht hk
    · rw [if_neg hg] at ht; exact absurd ht hg
theorem walkN_Q {S : Type} {g : S → Nt → Fo → Nat → S × Bool} {Q : S → Nat → Prop} (qs : ∀ s d k lv m, Q s (m + 1) → Q (g s d k lv).1 m) (d : Nt) (k : Fo) (lv : Nat) (s : S) (m : Nat) (h : Q s (1 + ndF k + m)) (ht : (walkN g d k lv s).2 = true) : Q (walkN g d k lv s).1 m := by
  unfold walkN at ht ⊢
  have h1 : Q (g s d k lv).1 (ndF k + m) := qs s d k lv _ (by rw [show ndF k + m + 1 = 1 + ndF k + m by omega]; exact h)
  by_cases hg : (g s d k lv).2 = true
  · simp only [hg, if_true] at ht ⊢
    exact walkG_Q qs k _ _ _ h1 ht
  · rw [if_neg hg] at ht; exact absurd ht hg
/-- What a closure does at each node: S what it keeps, g how it turns it and whether it goes on; I how it stands in memory; Q s m that it may go on for m nodes more; the blocks of G it leaves alone. -/
structure Mo {S : Type} (g : S → Nt → Fo → Nat → S × Bool) (gf : Nat) (caps : Array Value) (I : S → World → Prop) (Q : S → Nat → Prop) (G : Nat → Prop) (w0 : World) : Prop where
  eg : ∀ args w, (callFunc gf args).run Try.prog w = .ok (.enter gf args) w
  keep : ∀ s w, I s w → Keep G w0 w
  dr : ∀ s w n, I s w → I s (w.drewN n)
  qs : ∀ s d k lv m, Q s (m + 1) → Q (g s d k lv).1 m
  call : ∀ s w d k b o (lv m : Nat), I s w → Q s (m + 1) → NdP w G d k b o → G b → lv ≤ 1048576 → szD d + szF k ≤ 1048576 →
    Calls Try.prog gf (#[.pointer (some ⟨b, o, none⟩), .int .i64 (lv : Int)] ++ caps) w fun e w' => e = .returned (.bool (g s d k lv).2) ∧ I (g s d k lv).1 w'

theorem deepF_drop : ∀ (f : Fo) (i : Nat), deepF (f.drop i) ≤ deepF f
  | f, 0 => by rw [Fo.drop_zero]; exact Nat.le_refl _
  | .nil, _ + 1 => Nat.le_refl _
  | .cons d k n, i + 1 => by have := deepF_drop n i; simp only [deepF]; show deepF (n.drop i) ≤ _; omega
theorem Mo.dr1 {S : Type} {g : S → Nt → Fo → Nat → S × Bool} {gf : Nat} {caps : Array Value} {I : S → World → Prop} {Q : S → Nat → Prop} {G : Nat → Prop} {w0 : World} (M : Mo g gf caps I Q G w0) {s : S} {w : World} (h : I s w) : I s w.drew := M.dr s w 1 h
theorem NdP.drew {w : World} {G : Nat → Prop} {d : Nt} {k : Fo} {b o : Nat} (h : NdP w G d k b o) : NdP w.drew G d k b o := h.keep (fun _ _ => rfl) rfl
end Go.Proofs.Ytpbloplbpkedcaa
