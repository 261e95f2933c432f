/- same: whether the program's shelf is as the document's. -/
import Derived.Test.YtehdimaihkckkaaSn13
namespace Go.Proofs.Ytehdimaihkckkaa
open Go Go.RowKit
variable {w0 : World} {F0 G0 : Nat → Prop} {q r most : Nat}

/-- What stands within same. -/
structure Sm (w0 : World) (F0 G0 : Nat → Prop) (q r most nx : Nat) (ts : List Tg) (F G : Nat → Prop) (ra : Option Addr) (rc : Nat) (w u : World) : Prop where
  t : T2 w0 F0 G0 q r most nx ts ts F G u
  b : Below w.heap.size w u
  r : RsAt u G r most ts (.slice ra ts.length rc)
theorem Sm.call {nx : Nat} {ts : List Tg} {F G : Nat → Prop} {ra : Option Addr} {rc : Nat} {w u u' : World} (h : Sm w0 F0 G0 q r most nx ts F G ra rc w u) (hb : Below u.heap.size u u') : Sm w0 F0 G0 q r most nx ts F G ra rc w u' :=
  ⟨h.t.call hb, h.b.trans (hb.mono h.b.size), h.r.below hb⟩

set_option maxRecDepth 100000 in
set_option maxHeartbeats 6400000 in
theorem same13_any (nx : Nat) (ts : List Tg) (F G : Nat → Prop) (at' stop : Int) (w : World) (h : T2 w0 F0 G0 q r most nx ts ts F G w) :
    Calls Try.prog 10 #[.pointer (some ⟨q, 0, none⟩), .pointer (some ⟨r, 0, none⟩), .int .i64 at', .int .i64 stop] w fun e w' => e = .returned (.bool true) ∧ Below w.heap.size w w' := by
  obtain ⟨rv, hrv⟩ := h.rs
  obtain ⟨ra, rc, rfl⟩ := hrv.slice
  have hS : Sm w0 F0 G0 q r most nx ts F G ra rc w w := ⟨h, Below.refl _ _, hrv⟩
  have HO := Lib.hid (hOldest_any F q most nx ts w h.sh)
  have HRO : Hid (∀ u, Sm w0 F0 G0 q r most nx ts F G ra rc w u → Calls Try.prog 34 #[.pointer (some ⟨r, 0, none⟩)] u fun v u' => v = .returned (.tuple #[.int .i64 (oldI ts), .bool (decide (0 < ts.length))]) ∧ ∃ m, u' = u.drewN m) := Lib.hid (fun u hu => r13Oldest_any G r most ts u hu.t.rs)
  have HLEN : Hid (∀ u, Sm w0 F0 G0 q r most nx ts F G ra rc w u → Calls Try.prog 18 #[.pointer (some ⟨q, 0, none⟩)] u fun v u' => v = .returned (.int .i64 (ts.length : Int)) ∧ u = u') := Lib.hid (fun u hu => by
    obtain ⟨v, hv⟩ := hu.t.sh
    obtain ⟨va, vc, rfl⟩ := hv.slice
    exact hLen_any _ va ts.length vc u (hList_any q va ts.length vc u (cells_three hv.blk).2.2.1))
  have HMOST : Hid (∀ u, Sm w0 F0 G0 q r most nx ts F G ra rc w u → Calls Try.prog 19 #[.pointer (some ⟨q, 0, none⟩)] u fun v u' => v = .returned (.int .i64 (most : Int)) ∧ u = u') := Lib.hid (fun u hu => by
    obtain ⟨v, hv⟩ := hu.t.sh
    exact hMost_any q most u (cells_three hv.blk).1 hv.m1)
  have HALL : Hid (∀ u, Sm w0 F0 G0 q r most nx ts F G ra rc w u → Calls Try.prog 15 #[.pointer (some ⟨q, 0, none⟩)] u fun e w' => ∃ Bs, e = .returned (.func (.func 46) #[] #[.pointer (some ⟨Bs, 0, none⟩)]) ∧ AllAt w' u.heap.size Bs ts ∧ Below u.heap.size u w') := Lib.hid (fun u hu => hAll_any F q most nx ts u u hu.t.sh (Below.refl _ _))
  have HTELLS : Hid (∀ u n₀ Bs, AllAt u n₀ Bs ts → Sm w0 F0 G0 q r most nx ts F G ra rc w u → Calls Try.prog 16 #[.func (.func 46) #[] #[.pointer (some ⟨Bs, 0, none⟩)], .slice ra ts.length rc, .int .i64 stop] u fun e w' => e = .returned (.bool true) ∧ Below u.heap.size u w') := Lib.hid (fun u n₀ Bs ha hu => tells13_any n₀ Bs ts _ stop u ha hu.r.td)
  have HEND : Hid (∀ u, Sm w0 F0 G0 q r most nx ts F G ra rc w u → _) := Lib.hid (fun u hu => hEnding_any F q most nx ts at' u hu.t.sh)
  have HREND : Hid (∀ u, Sm w0 F0 G0 q r most nx ts F G ra rc w u → _) := Lib.hid (fun u hu => r13Ending_any G r most ts at' u hu.t.rs)
  have HBEG : Hid (∀ u, Sm w0 F0 G0 q r most nx ts F G ra rc w u → _) := Lib.hid (fun u hu => hBeginning_any F q most nx ts at' u hu.t.sh)
  have HRBEG : Hid (∀ u, Sm w0 F0 G0 q r most nx ts F G ra rc w u → _) := Lib.hid (fun u hu => r13Beginning_any G r most ts at' u hu.t.rs)
  have HCELL : Hid (∀ u, Sm w0 F0 G0 q r most nx ts F G ra rc w u → u.cell? ⟨r, 0, none⟩ = some (.slice ra ts.length rc) ∧ u.cell? ⟨r, 1, none⟩ = some (.int .i64 (most : Int))) := Lib.hid (fun u hu => ⟨(cells_two hu.r.blk).1, (cells_two hu.r.blk).2.1⟩)
  have HS := Lib.hid hS
  clear h hrv hS
  generalize oldI ts = old at HO HRO
  generalize decide (0 < ts.length) = nz at HO HRO
  go_enter Try.func10, Try.ntmps10
  go_wp2_with (first
    | (go_at_call 17; (with_reducible refine (HO.out).mono ?_); rintro e w1 ⟨rfl, hb⟩; have HS := Lib.hid (HS.out.call hb); clear hb)
    | (go_at_call 34; (with_reducible refine (HRO.out _ HS.out).mono ?_); rintro e w2 ⟨rfl, m, rfl⟩))
  have hs2 := HS.out.call (⟨rfl, rfl, rfl, Nat.le_refl _, fun _ _ => rfl⟩ : Below w1.heap.size w1 (w1.drewN m))
  generalize w1.drewN m = w2 at hs2 ⊢
  obtain ⟨t0, t1⟩ := HCELL.out _ hs2
  have HS := Lib.hid (hs2.call (Below.refl _ _).drew)
  clear hs2 HO HRO
  go_region_held3 (fun w' => w'.cell? ⟨r, 0, none⟩ = some (.slice ra ts.length rc) ∧ w'.cell? ⟨r, 1, none⟩ = some (.int .i64 (most : Int)))
    (first | (with_reducible exact ⟨t0, t1⟩) | go_keep)
    (first
      | (go_at_call 18; (with_reducible refine (HLEN.out _ HS.out).mono ?_); rintro e u1 ⟨rfl, rfl⟩)
      | (go_at_call 19; (with_reducible refine (HMOST.out _ HS.out).mono ?_); rintro e u1 ⟨rfl, rfl⟩)
      | (go_at_call 15; (with_reducible refine (HALL.out _ HS.out).mono ?_); rintro e u1 ⟨Bs, rfl, ha, hb⟩; have HA := Lib.hid ha; have HS := Lib.hid (HS.out.call hb); obtain ⟨t0, t1⟩ := HCELL.out _ HS.out; clear ha hb)
      | (go_at_call 16; (with_reducible refine (HTELLS.out _ _ _ HA.out HS.out).mono ?_); rintro e u1 ⟨rfl, hb⟩; have HS := Lib.hid (HS.out.call hb); obtain ⟨t0, t1⟩ := HCELL.out _ HS.out; clear hb)
      | (go_at_call 21; (with_reducible refine (HEND.out _ HS.out).mono ?_); rintro e u1 ⟨n₀, Ba, Bf, gf, cp, rfl, ha, hb⟩; have HM := Lib.hid ha; (try have HX := Lib.hid (HX.out.below hb)); have HS := Lib.hid (HS.out.call hb); obtain ⟨t0, t1⟩ := HCELL.out _ HS.out; clear ha hb)
      | (go_at_call 35; (with_reducible refine (HREND.out _ HS.out).mono ?_); rintro e u1 ⟨v1, rfl, ho, hb⟩; obtain ⟨a1, k1, rfl⟩ := own_slice ho.own; have HX := Lib.hid ho.at; (try have HM := Lib.hid (HM.out.below hb)); have HS := Lib.hid (HS.out.call hb); obtain ⟨t0, t1⟩ := HCELL.out _ HS.out; clear ho hb)
      | (go_at_call 22; (with_reducible refine (HBEG.out _ HS.out).mono ?_); rintro e u1 ⟨n₀, Ba, Bf, gf, cp, rfl, ha, hb⟩; have HM := Lib.hid ha; (try have HX := Lib.hid (HX.out.below hb)); have HS := Lib.hid (HS.out.call hb); obtain ⟨t0, t1⟩ := HCELL.out _ HS.out; clear ha hb)
      | (go_at_call 36; (with_reducible refine (HRBEG.out _ HS.out).mono ?_); rintro e u1 ⟨v1, rfl, ho, hb⟩; obtain ⟨a1, k1, rfl⟩ := own_slice ho.own; have HX := Lib.hid ho.at; (try have HM := Lib.hid (HM.out.below hb)); have HS := Lib.hid (HS.out.call hb); obtain ⟨t0, t1⟩ := HCELL.out _ HS.out; clear ho hb)
      | (go_at_call 20; (with_reducible refine (told13_any _ _ _ _ _ _ _ _ stop _ HM.out HX.out).mono ?_); rintro e u1 ⟨rfl, hb⟩; have HS := Lib.hid (HS.out.call hb); obtain ⟨t0, t1⟩ := HCELL.out _ HS.out; clear hb))
  all_goals go_wp2
  all_goals go_ret
  all_goals exact ⟨by simp, HS.out.b⟩
end Go.Proofs.Ytehdimaihkckkaa
