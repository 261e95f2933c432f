/- Contract of Close. -/
import Derived.Test.YthjhbnfedelniaaBg4
namespace Go.Proofs.Ythjhbnfedelniaa
open Go Go.RowKit

/-- What Close answers; what it makes of what was said. -/
def clsErr (k : Nat) (sd : List Sd) (n : Int) : Int := if hasB k n = false then 1 else if sd[n.toNat]!.gone then 43 else 0
def clsSd (k : Nat) (sd : List Sd) (n : Int) : List Sd := if clsErr k sd n = 0 then sd.set n.toNat ⟨sd[n.toNat]!.many, sd[n.toNat]!.last, true⟩ else sd
theorem StAt.closed {w : World} {F : Nat → Prop} {q k : Nat} {sd : List Sd} {evs : List Ev} {v : Value} {vs : List Value} (h : StAt w F q k sd evs v vs) (j : Nat) (hj : j < 16) (g : Bool) :
    StAt (w.setCell ⟨q, 1 + j * 3 + 2, none⟩ (.bool g)) F q k (sd.set j ⟨sd[j]!.many, sd[j]!.last, g⟩) evs v vs := by
  refine h.store ((Chg.refl (fun b => b = q) _).setCell (p := ⟨q, 1 + j * 3 + 2, none⟩) rfl _) ?_ (by rw [List.length_set]; exact h.sdl)
  rw [setCell_list h.blk, stCells_setg _ _ _ _ _ (by rw [h.sdl]; exact hj)]

set_option maxRecDepth 100000 in
set_option maxHeartbeats 1600000 in
theorem sClose_any (F : Nat → Prop) (q k : Nat) (sd : List Sd) (evs : List Ev) (n : Int) (w : World) (h : StIs w F q k sd evs) :
    Calls Try.prog 10 #[.pointer (some ⟨q, 0, none⟩), .int .i64 n] w fun e w' => e = .returned (.int .i64 (clsErr k sd n)) ∧ StIs w' F q k (clsSd k sd n) evs ∧ Chg F w w' := by
  have C1 := sIsMadeS_any q k w h.num h.k0
  have C2 := sHas_any q k n w h.num
  cases hh : hasB k n with
  | false =>
    have he : clsErr k sd n = 1 := by unfold clsErr; rw [hh]; rfl
    rw [show clsSd k sd n = sd by unfold clsSd; rw [he]; rfl, he]
    rw [hh] at C2
    have HC1 := hide C1; have HC2 := hide C2; have HH := hide h
    clear C1 C2 h hh he
    go_enter Try.func10, Try.ntmps10
    go_wp2_with (first | (go_at_call 29; (with_reducible refine (HC1.out).mono ?_); rintro e w1 ⟨rfl, rfl⟩) | (go_at_call 31; (with_reducible refine (HC2.out).mono ?_); rintro e w1 ⟨rfl, rfl⟩))
    go_ret
    exact ⟨rfl, HH.out, Chg.refl _ _⟩
  | true =>
    rw [hh] at C2
    obtain ⟨j, rfl, hj⟩ := hasB_nat hh
    have hj16 : j < 16 := by have := h.k16; omega
    obtain ⟨s0, s1, s2⟩ := h.said j hj16
    have f2 := h.free (1 + j * 3 + 2)
    have hj0 : (0 : Int) ≤ (j : Int) := by omega
    have hj1 : (j : Int) < 16 := by omega
    have hn : ((j : Int)).toNat = j := rfl
    cases hg : sd[j]!.gone with
    | true =>
      have he : clsErr k sd j = 43 := by unfold clsErr; rw [hh, hn, hg]; rfl
      rw [show clsSd k sd j = sd by unfold clsSd; rw [he]; rfl, he]
      rw [hg] at s2
      have HC1 := hide C1; have HC2 := hide C2; have HH := hide h
      clear C1 C2 h hh he hg hn
      go_enter Try.func10, Try.ntmps10
      go_wp2_with (first | (go_at_call 29; (with_reducible refine (HC1.out).mono ?_); rintro e w1 ⟨rfl, rfl⟩) | (go_at_call 31; (with_reducible refine (HC2.out).mono ?_); rintro e w1 ⟨rfl, rfl⟩))
      all_goals try go_quiet (fail)
      all_goals try go_wp2
      go_ret
      exact ⟨rfl, HH.out, Chg.refl _ _⟩
    | false =>
      have he : clsErr k sd j = 0 := by unfold clsErr; rw [hh, hn, hg]; rfl
      rw [show clsSd k sd j = sd.set j ⟨sd[j]!.many, sd[j]!.last, true⟩ by unfold clsSd; rw [he, hn]; rfl, he]
      rw [hg] at s2
      have HC1 := hide C1; have HC2 := hide C2; have HH := hide h
      clear C1 C2 h hh he hg hn
      go_enter Try.func10, Try.ntmps10
      go_wp2_with (first | (go_at_call 29; (with_reducible refine (HC1.out).mono ?_); rintro e w1 ⟨rfl, rfl⟩) | (go_at_call 31; (with_reducible refine (HC2.out).mono ?_); rintro e w1 ⟨rfl, rfl⟩))
      go_ret
      obtain ⟨v, vs, hat⟩ := HH.out
      exact ⟨rfl, ⟨v, vs, hat.closed j hj16 true⟩, (Chg.refl F _).setCell (p := ⟨q, 1 + j * 3 + 2, none⟩) hat.fq _⟩
end Go.Proofs.Ythjhbnfedelniaa
