/- The walk of ShelfNone. -/
import Derived.Test.YtehdimaihkckkaaSq13
import Derived.Test.YtehdimaihkckkaaShelf
namespace Go.Proofs.Ytehdimaihkckkaa
open Go Go.RowKit Go.Shelf
attribute [local go_sem] Oper.semAt_some

theorem T2.turn {w0 : World} {F0 G0 : Nat → Prop} {q r most nx : Nat} {ts us : List Tg} {F G H : Nat → Prop} {u u' : World} (h : T2 w0 F0 G0 q r most nx ts us F G u) (hc : Chg H u u') (hF : ∀ b, H b → ¬ F b) (hG : ∀ b, H b → ¬ G b) (h0 : ∀ b, H b → w0.heap.size ≤ b) : T2 w0 F0 G0 q r most nx ts us F G u' :=
  ⟨h.sh.chg hc (fun b hb hh => hF b hh hb), h.rs.chg hc (fun b hb hh => hG b hh hb), h.fg, h.f0, h.g0, h.chg.trans hc (fun j hj => .inr (h0 j hj))⟩

set_option maxRecDepth 100000 in
set_option maxHeartbeats 12000000 in
theorem shelfNone_any (v : Value) (xs : List Op13) (v2 : Value) (ys : List Op13) (w : World) (hl : Ov w w.heap.size v xs) (hl2 : Ov w w.heap.size v2 ys) : Calls Try.prog 5 #[v, v2] w fun e w' => e = .returned (.bool true) ∧ Below w.heap.size w w' := by
  obtain ⟨ao, cap, rfl, _⟩ := id hl.row
  obtain ⟨ao2, cap2, rfl, _⟩ := id hl2.row
  obtain ⟨P, hP⟩ : ∃ P, P = w.heap.size := ⟨_, rfl⟩
  obtain ⟨W0, hW0⟩ : ∃ W0, W0 = w.alloc (.cells #[.bool false] 4) := ⟨_, rfl⟩
  have hb0 : Below P w W0 := by rw [hW0, hP]; exact (Below.refl _ _).alloc (Nat.le_refl _) _
  have hs0 : W0.heap.size = P + 1 := by rw [hW0, hP]; simp
  have h0 : W0.heap[P]? = some (.cells #[.bool false] 4 (0, 0)) := by rw [hW0, hP]; exact heap_alloc_new w _
  have HBX : Hid (∀ u, Below W0.heap.size W0 u → u.heap[P]? = some (.cells #[.bool false] 4 (0, 0)) ∧ Below P w u) := Lib.hid (fun u hu => ⟨(hu.block _ (by omega)).trans h0, hb0.trans (hu.mono (by omega))⟩)
  have hlen := hl.len
  have hlen2 := hl2.len
  obtain ⟨n, hn⟩ : ∃ n, n = xs.length := ⟨_, rfl⟩
  obtain ⟨m, hm⟩ : ∃ m, m = ys.length := ⟨_, rfl⟩
  have HROW : Hid (∀ u, Below P w u → ∀ k, k < n → ∃ b o, ao = some ⟨b, o, none⟩ ∧ b < P ∧ u.cell? ⟨b, o + k * 5, none⟩ = some (.int .i64 xs[k]!.d) ∧ u.cell? ⟨b, o + k * 5 + 1, none⟩ = some (.int .i64 xs[k]!.b) ∧ u.cell? ⟨b, o + k * 5 + 2, none⟩ = some (.int .i64 xs[k]!.e) ∧ u.cell? ⟨b, o + k * 5 + 3, none⟩ = some (.string xs[k]!.x) ∧ u.cell? ⟨b, o + k * 5 + 4, none⟩ = some (.int .i64 xs[k]!.t)) := Lib.hid (fun u hu k hk => by
    rw [hP] at hu ⊢
    exact hl.at u (fun b hb o => hu.cell (p := ⟨b, o, none⟩) hb) k (by omega))
  have HROW2 : Hid (∀ u, Below P w u → ∀ k, k < m → ∃ b o, ao2 = some ⟨b, o, none⟩ ∧ b < P ∧ u.cell? ⟨b, o + k * 5, none⟩ = some (.int .i64 ys[k]!.d) ∧ u.cell? ⟨b, o + k * 5 + 1, none⟩ = some (.int .i64 ys[k]!.b) ∧ u.cell? ⟨b, o + k * 5 + 2, none⟩ = some (.int .i64 ys[k]!.e) ∧ u.cell? ⟨b, o + k * 5 + 3, none⟩ = some (.string ys[k]!.x) ∧ u.cell? ⟨b, o + k * 5 + 4, none⟩ = some (.int .i64 ys[k]!.t)) := Lib.hid (fun u hu k hk => by
    rw [hP] at hu ⊢
    exact hl2.at u (fun b hb o => hu.cell (p := ⟨b, o, none⟩) hb) k (by omega))
  have H3 := Lib.hid (fun u => live13_any u)
  rw [← hn, ← hm]
  rw [← hn] at hlen
  rw [← hm] at hlen2
  have HP := Lib.hid hP; have HW0 := Lib.hid hW0; have HS0 := Lib.hid hs0
  have HCAP : Hid (n ≤ 140737488355328) := hlen
  have HCAP2 : Hid (m ≤ 140737488355328) := hlen2
  clear hl hl2 hn hm hP hW0 hb0 h0 hs0
  refine (callsIn_wide (n := 12)).1 ?_
  refine callsIn_of_wp_marks Try.func5 rfl trivial ?_ rfl
  simp only [Try.ntmps5, List.size_toArray, List.length_cons, List.length_nil, Nat.reduceAdd, Nat.reduceSub, Array.replicate_succ, Array.replicate_zero, List.push_toArray, List.append_toArray, List.nil_append, List.cons_append]
  refine wpIn_wide.2 ?_
  go_wp2_with fail
  rw [← HW0.out, ← HP.out]
  refine (H3.out _).mono ?_
  rintro e u0 ⟨rfl, hbl⟩
  obtain ⟨Z, hZ⟩ : ∃ Z, Z = u0.heap.size := ⟨_, rfl⟩
  obtain ⟨W1, hW1⟩ : ∃ W1, W1 = (u0.alloc (.cells #[.int .i64 0, .int .i64 0, .slice none 0 0] 52)).alloc (.cells #[.pointer none, .pointer (some ⟨Z, 0, none⟩)] 23) := ⟨_, rfl⟩
  have hb1 : Below u0.heap.size u0 W1 := by rw [hW1]; exact ((Below.refl _ _).alloc (Nat.le_refl _) _).alloc (by simp) _
  have hz1 : W1.heap[Z]? = some (.cells #[.int .i64 0, .int .i64 0, .slice none 0 0] 52 (0, 0)) := by rw [hW1, hZ]; exact heap_alloc_keeps (heap_alloc_new u0 _) _
  have hr1 : W1.heap[Z + 1]? = some (.cells #[.pointer none, .pointer (some ⟨Z, 0, none⟩)] 23 (0, 0)) := by rw [hW1, hZ]; exact heap_alloc_at (by simp) rfl
  have HB01 : Hid (Below W0.heap.size W0 W1) := Lib.hid (hbl.trans (hb1.mono hbl.size))
  have HZ : Hid (∀ u, Below W1.heap.size W1 u → u.heap[Z]? = some (.cells #[.int .i64 0, .int .i64 0, .slice none 0 0] 52 (0, 0)) ∧ u.heap[Z + 1]? = some (.cells #[.pointer none, .pointer (some ⟨Z, 0, none⟩)] 23 (0, 0))) := Lib.hid (fun u hu => ⟨(hu.block _ (lt_of_block hz1)).trans hz1, (hu.block _ (lt_of_block hr1)).trans hr1⟩)
  have HHZ := Lib.hid hZ; have HW1 := Lib.hid hW1
  clear hz1 hr1 hb1 hbl hZ hW1 H3
  go_wp2_with fail
  rw [← HHZ.out]
  rw [← HW1.out]
  go_loopw [28] (fun iv wr => ∃ k : Nat, k ≤ 2 ∧ iv = .int .i64 (k : Int) ∧ Hid (Below W1.heap.size W1 wr)) (fun iv _ => 2 - (intOf iv).toNat)
  case atStart => exact ⟨0, Nat.zero_le _, rfl, Lib.hid (Below.refl _ _)⟩
  case round =>
    obtain ⟨k, hk, rfl, HB⟩ := hrel
    obtain ⟨c0, c1, -⟩ := cells_two (HZ.out wr HB.out).2
    have c0' : wr.cell? ⟨Z + 1, 0, none⟩ = some (.pointer none) := c0
    by_cases hlt : k = 0
    · subst hlt
      have HM : Hid (∀ u, Below W1.heap.size W1 u → Calls Try.prog 42 #[.pointer none] u fun e w' => e = .returned (.bool false) ∧ u = w') := Lib.hid (fun u _ => hIsMade_nil u)
      have HL : Hid (∀ u, Below W1.heap.size W1 u → Calls Try.prog 37 #[.pointer none] u fun e w' => e = .returned (.slice none 0 0) ∧ u = w') := Lib.hid (fun u _ => hList_nil u)
      have hlt := 0
      have HO : Hid (∀ u, Below W1.heap.size W1 u → Calls Try.prog 17 #[.pointer none] u fun e w' => e = .returned (.tuple #[.int .i64 0, .bool false]) ∧ u = w') := Lib.hid (fun u hu => hOldest_no _ u (hLen_any _ none 0 0 u (HL.out u hu)))
      have HPT : Hid (∀ u, Below W1.heap.size W1 u → Calls Try.prog 12 #[.pointer none, .agg #[.int .i64 0, .int .i64 0], .string ⟨#[97]⟩] u fun r w' => r = .returned (.int .i64 2) ∧ Below u.heap.size u w') := Lib.hid (fun u hu => hPut_made _ 0 0 _ u (fun v hv => HM.out v (hu.trans (hv.mono hu.size))))
      have HCLR : Hid (∀ u, Below W1.heap.size W1 u → Calls Try.prog 14 #[.pointer none, .int .i64 9] u fun r w' => r = .returned (.int .i64 0) ∧ Below u.heap.size u w') := Lib.hid (fun u hu => hClear_no _ 9 u (fun v hv => HM.out v (hu.trans (hv.mono hu.size))))
      have HLEN : Hid (∀ u, Below W1.heap.size W1 u → Calls Try.prog 18 #[.pointer none] u fun r w' => r = .returned (.int .i64 0) ∧ u = w') := Lib.hid (fun u hu => hLen_any _ none 0 0 u (HL.out u hu))
      have HMOST : Hid (∀ u, Below W1.heap.size W1 u → Calls Try.prog 19 #[.pointer none] u fun r w' => r = .returned (.int .i64 0) ∧ u = w') := Lib.hid (fun u hu => hMost_no _ u (HM.out u hu))
      have HALL : Hid (∀ u, Below W1.heap.size W1 u → Calls Try.prog 15 #[.pointer none] u fun e w' => ∃ Bs, e = .returned (.func (.func 46) #[] #[.pointer (some ⟨Bs, 0, none⟩)]) ∧ AllAt w' u.heap.size Bs [] ∧ Below u.heap.size u w') := Lib.hid (fun u hu => hAll_no _ u (HL.out u hu))
      have HEND : Hid (∀ u, Below W1.heap.size W1 u → _) := Lib.hid (fun u hu => hEnding_no (.pointer none) 9 u (fun v hv => HL.out v (hu.trans (hv.mono hu.size))))
      have HBEG : Hid (∀ u, Below W1.heap.size W1 u → _) := Lib.hid (fun u hu => hBeginning_no (.pointer none) (-9) u (fun v hv => HL.out v (hu.trans (hv.mono hu.size))))
      have HTAKE : Hid (∀ u, Below W1.heap.size W1 u → Calls Try.prog 11 #[.pointer none, .func (.func 23) #[] #[]] u fun e w' => e = .returned (.int .i64 0) ∧ Below u.heap.size u w') := Lib.hid (fun u hu => hTake_no _ 23 u (fun v hv => HM.out v (hu.trans (hv.mono hu.size))) (fun v hv => HL.out v (hu.trans (hv.mono hu.size))))
      have HCLONE : Hid (∀ u, Below W1.heap.size W1 u → Calls Try.prog 13 #[.pointer none] u fun e w' => e = .returned (.pointer none) ∧ u = w') := Lib.hid (fun u hu => hClone_no _ u (HM.out u hu))
      clear hlt hk
      go_wp2_with (first
        | (go_at_call 17; (with_reducible refine (HO.out _ HB.out).mono ?_); rintro e u1 ⟨rfl, rfl⟩)
        | (go_at_call 12; (with_reducible refine (HPT.out _ HB.out).mono ?_); rintro e u1 ⟨rfl, hb⟩; have HB := Lib.hid (HB.out.trans (hb.mono HB.out.size)); clear hb)
        | (go_at_call 14; (with_reducible refine (HCLR.out _ HB.out).mono ?_); rintro e u1 ⟨rfl, hb⟩; have HB := Lib.hid (HB.out.trans (hb.mono HB.out.size)); clear hb)
        | (go_at_call 18; (with_reducible refine (HLEN.out _ HB.out).mono ?_); rintro e u1 ⟨rfl, rfl⟩)
        | (go_at_call 19; (with_reducible refine (HMOST.out _ HB.out).mono ?_); rintro e u1 ⟨rfl, rfl⟩)
        | (go_at_call 15; (with_reducible refine (HALL.out _ HB.out).mono ?_); rintro e u1 ⟨Bs, rfl, ha, hb⟩; have HA := Lib.hid ha; clear ha; have HB := Lib.hid (HB.out.trans (hb.mono HB.out.size)); clear hb)
        | (go_at_call 16; (with_reducible refine (tells13_any _ _ _ _ 0 _ HA.out (TdAt.nil _)).mono ?_); rintro e u1 ⟨rfl, hb⟩; have HB := Lib.hid (HB.out.trans (hb.mono HB.out.size)); clear hb)
        | (go_at_call 21; (with_reducible refine (HEND.out _ HB.out).mono ?_); rintro e u1 ⟨n₀, Ba, Bf, gf, cp, rfl, ha, hb⟩; have HS := Lib.hid ha; clear ha; have HB := Lib.hid (HB.out.trans (hb.mono HB.out.size)); clear hb)
        | (go_at_call 22; (with_reducible refine (HBEG.out _ HB.out).mono ?_); rintro e u1 ⟨n₀, Ba, Bf, gf, cp, rfl, ha, hb⟩; have HS := Lib.hid ha; clear ha; have HB := Lib.hid (HB.out.trans (hb.mono HB.out.size)); clear hb)
        | (go_at_call 20; (with_reducible refine (told13_any _ _ _ _ _ _ _ _ 0 _ HS.out (TxAt.nil _)).mono ?_); rintro e u1 ⟨rfl, hb⟩; have HB := Lib.hid (HB.out.trans (hb.mono HB.out.size)); clear hb)
        | (go_at_call 11; (with_reducible refine (HTAKE.out _ HB.out).mono ?_); rintro e u1 ⟨rfl, hb⟩; have HB := Lib.hid (HB.out.trans (hb.mono HB.out.size)); clear hb)
        | (go_at_call 13; (with_reducible refine (HCLONE.out _ HB.out).mono ?_); rintro e u1 ⟨rfl, rfl⟩))
      go_roundw
      case rel => exact ⟨1, by omega, by go_num, HB⟩
      case measure => simp [intOf]
    · by_cases hlt1 : k = 1
      · subst hlt1
        have HM : Hid (∀ u, Below W1.heap.size W1 u → Calls Try.prog 42 #[.pointer (some ⟨Z, 0, none⟩)] u fun e w' => e = .returned (.bool false) ∧ u = w') := Lib.hid (fun u hu => hIsMade_any Z 0 u (cells_three (HZ.out u hu).1).1)
        have HL : Hid (∀ u, Below W1.heap.size W1 u → Calls Try.prog 37 #[.pointer (some ⟨Z, 0, none⟩)] u fun e w' => e = .returned (.slice none 0 0) ∧ u = w') := Lib.hid (fun u hu => hList_any Z none 0 0 u (cells_three (HZ.out u hu).1).2.2.1)
        have HO : Hid (∀ u, Below W1.heap.size W1 u → Calls Try.prog 17 #[.pointer (some ⟨Z, 0, none⟩)] u fun e w' => e = .returned (.tuple #[.int .i64 0, .bool false]) ∧ u = w') := Lib.hid (fun u hu => hOldest_no _ u (hLen_any _ none 0 0 u (HL.out u hu)))
        have HPT : Hid (∀ u, Below W1.heap.size W1 u → Calls Try.prog 12 #[.pointer (some ⟨Z, 0, none⟩), .agg #[.int .i64 0, .int .i64 0], .string ⟨#[97]⟩] u fun r w' => r = .returned (.int .i64 2) ∧ Below u.heap.size u w') := Lib.hid (fun u hu => hPut_made _ 0 0 _ u (fun v hv => HM.out v (hu.trans (hv.mono hu.size))))
        have HCLR : Hid (∀ u, Below W1.heap.size W1 u → Calls Try.prog 14 #[.pointer (some ⟨Z, 0, none⟩), .int .i64 9] u fun r w' => r = .returned (.int .i64 0) ∧ Below u.heap.size u w') := Lib.hid (fun u hu => hClear_no _ 9 u (fun v hv => HM.out v (hu.trans (hv.mono hu.size))))
        have HLEN : Hid (∀ u, Below W1.heap.size W1 u → Calls Try.prog 18 #[.pointer (some ⟨Z, 0, none⟩)] u fun r w' => r = .returned (.int .i64 0) ∧ u = w') := Lib.hid (fun u hu => hLen_any _ none 0 0 u (HL.out u hu))
        have HMOST : Hid (∀ u, Below W1.heap.size W1 u → Calls Try.prog 19 #[.pointer (some ⟨Z, 0, none⟩)] u fun r w' => r = .returned (.int .i64 0) ∧ u = w') := Lib.hid (fun u hu => hMost_no _ u (HM.out u hu))
        have HALL : Hid (∀ u, Below W1.heap.size W1 u → Calls Try.prog 15 #[.pointer (some ⟨Z, 0, none⟩)] u fun e w' => ∃ Bs, e = .returned (.func (.func 46) #[] #[.pointer (some ⟨Bs, 0, none⟩)]) ∧ AllAt w' u.heap.size Bs [] ∧ Below u.heap.size u w') := Lib.hid (fun u hu => hAll_no _ u (HL.out u hu))
        have HEND : Hid (∀ u, Below W1.heap.size W1 u → _) := Lib.hid (fun u hu => hEnding_no (.pointer (some ⟨Z, 0, none⟩)) 9 u (fun v hv => HL.out v (hu.trans (hv.mono hu.size))))
        have HBEG : Hid (∀ u, Below W1.heap.size W1 u → _) := Lib.hid (fun u hu => hBeginning_no (.pointer (some ⟨Z, 0, none⟩)) (-9) u (fun v hv => HL.out v (hu.trans (hv.mono hu.size))))
        have HTAKE : Hid (∀ u, Below W1.heap.size W1 u → Calls Try.prog 11 #[.pointer (some ⟨Z, 0, none⟩), .func (.func 23) #[] #[]] u fun e w' => e = .returned (.int .i64 0) ∧ Below u.heap.size u w') := Lib.hid (fun u hu => hTake_no _ 23 u (fun v hv => HM.out v (hu.trans (hv.mono hu.size))) (fun v hv => HL.out v (hu.trans (hv.mono hu.size))))
        have HCLONE : Hid (∀ u, Below W1.heap.size W1 u → Calls Try.prog 13 #[.pointer (some ⟨Z, 0, none⟩)] u fun e w' => e = .returned (.pointer none) ∧ u = w') := Lib.hid (fun u hu => hClone_no _ u (HM.out u hu))
        clear hlt hk
        go_wp2_with (first
          | (go_at_call 17; (with_reducible refine (HO.out _ HB.out).mono ?_); rintro e u1 ⟨rfl, rfl⟩)
          | (go_at_call 12; (with_reducible refine (HPT.out _ HB.out).mono ?_); rintro e u1 ⟨rfl, hb⟩; have HB := Lib.hid (HB.out.trans (hb.mono HB.out.size)); clear hb)
          | (go_at_call 14; (with_reducible refine (HCLR.out _ HB.out).mono ?_); rintro e u1 ⟨rfl, hb⟩; have HB := Lib.hid (HB.out.trans (hb.mono HB.out.size)); clear hb)
          | (go_at_call 18; (with_reducible refine (HLEN.out _ HB.out).mono ?_); rintro e u1 ⟨rfl, rfl⟩)
          | (go_at_call 19; (with_reducible refine (HMOST.out _ HB.out).mono ?_); rintro e u1 ⟨rfl, rfl⟩)
          | (go_at_call 15; (with_reducible refine (HALL.out _ HB.out).mono ?_); rintro e u1 ⟨Bs, rfl, ha, hb⟩; have HA := Lib.hid ha; clear ha; have HB := Lib.hid (HB.out.trans (hb.mono HB.out.size)); clear hb)
          | (go_at_call 16; (with_reducible refine (tells13_any _ _ _ _ 0 _ HA.out (TdAt.nil _)).mono ?_); rintro e u1 ⟨rfl, hb⟩; have HB := Lib.hid (HB.out.trans (hb.mono HB.out.size)); clear hb)
          | (go_at_call 21; (with_reducible refine (HEND.out _ HB.out).mono ?_); rintro e u1 ⟨n₀, Ba, Bf, gf, cp, rfl, ha, hb⟩; have HS := Lib.hid ha; clear ha; have HB := Lib.hid (HB.out.trans (hb.mono HB.out.size)); clear hb)
          | (go_at_call 22; (with_reducible refine (HBEG.out _ HB.out).mono ?_); rintro e u1 ⟨n₀, Ba, Bf, gf, cp, rfl, ha, hb⟩; have HS := Lib.hid ha; clear ha; have HB := Lib.hid (HB.out.trans (hb.mono HB.out.size)); clear hb)
          | (go_at_call 20; (with_reducible refine (told13_any _ _ _ _ _ _ _ _ 0 _ HS.out (TxAt.nil _)).mono ?_); rintro e u1 ⟨rfl, hb⟩; have HB := Lib.hid (HB.out.trans (hb.mono HB.out.size)); clear hb)
          | (go_at_call 11; (with_reducible refine (HTAKE.out _ HB.out).mono ?_); rintro e u1 ⟨rfl, hb⟩; have HB := Lib.hid (HB.out.trans (hb.mono HB.out.size)); clear hb)
          | (go_at_call 13; (with_reducible refine (HCLONE.out _ HB.out).mono ?_); rintro e u1 ⟨rfl, rfl⟩))
        go_roundw
        case rel => exact ⟨2, by omega, by go_num, HB⟩
        case measure => simp [intOf]
      · obtain rfl : k = 2 := by omega
        have HBB := Lib.hid (HB01.out.trans (HB.out.mono HB01.out.size))
        clear HB HZ HB01 HHZ HW1 c0 c1 c0' hlt hlt1 hk
        -- New, and the first row of operations
        generalize wr = Wa at HBB ⊢
        obtain ⟨q, hq⟩ : ∃ q, q = Wa.heap.size := ⟨_, rfl⟩
        have H1 : Hid (Calls Try.prog 6 #[.int .i64 9] Wa fun e w' => e = .returned (.tuple #[.pointer (some ⟨q, 0, none⟩), .int .i64 0]) ∧ ShIs w' (fun b => b = q) q 9 0 [] ∧ Below Wa.heap.size Wa w') := Lib.hid (by rw [hq]; exact hNew_ok 9 (by decide) (by decide) Wa)
        have H2 : Hid (∀ u, Calls Try.prog 7 #[.int .i64 9] u fun e w' => e = .returned (.tuple #[.pointer (some ⟨u.heap.size, 0, none⟩), .int .i64 0]) ∧ RsIs w' (fun b => b = u.heap.size) u.heap.size 9 [] ∧ Below u.heap.size u w') := Lib.hid (fun u => r13New_ok 9 (by decide) (by decide) u)
        have HT0 : Hid (∀ u1 u2, ShIs u1 (fun b => b = q) q 9 0 [] → Below Wa.heap.size Wa u1 → RsIs u2 (fun b => b = u1.heap.size) u1.heap.size 9 [] → Below u1.heap.size u1 u2 → T2 Wa noB noB q u1.heap.size 9 0 [] [] (fun b => b = q) (fun b => b = u1.heap.size) u2) := Lib.hid (fun u1 u2 a b c d => T2.new hq rfl a b c d)
        clear hq
        go_wp2_with (first
          | (go_at_call 6; (with_reducible refine (H1.out).mono ?_); rintro e u1 ⟨rfl, ha, hb⟩; have HA1 := Lib.hid ha; have HB1 := Lib.hid hb; clear ha hb)
          | (go_at_call 7; (with_reducible refine (H2.out _).mono ?_); rintro e u2 ⟨rfl, hc, hd⟩; have HK := Lib.hid (HT0.out _ _ HA1.out HB1.out hc hd); clear hc hd))
        generalize u1.heap.size = r at HK HT0 ⊢
        clear HT0 HA1 HB1 H1 H2
        go_loopw [100] (fun iv ws => ∃ (k nx : Nat) (ts : List Tg) (F G : Nat → Prop), k ≤ n ∧ iv = .int .i64 (k : Int) ∧ Hid (nx ≤ k) ∧ Hid (T2 Wa noB noB q r 9 nx ts ts F G ws)) (fun iv _ => n - (intOf iv).toNat)
        case atStart => exact ⟨0, 0, [], _, _, Nat.zero_le _, rfl, Nat.le_refl _, HK⟩
        case round =>
          obtain ⟨k, nx, ts, F, G, hk, rfl, HNX, HT⟩ := hrel
          clear HK
          have e1 : IntKind.i64.wrap ((k : Int) + 1) = (k : Int) + 1 := IntWalk.i64_in _ (by omega)
          by_cases hlt : k < n
          · obtain ⟨bb, o, rfl, hb, x0, x1, x2, x3, x4⟩ := HROW.out wr (HBX.out wr (HBB.out.trans (HT.out.bel.mono HBB.out.size))).2 k hlt
            have hki : (k : Int) < (n : Int) := by omega
            have hk0 : (0 : Int) ≤ (k : Int) := by omega
            generalize xs[k]! = x at x0 x1 x2 x3 x4
            obtain ⟨X, hX⟩ : ∃ X, X = wr.alloc (.cells #[.int .i64 x.d, .int .i64 x.b, .int .i64 x.e, .string x.x, .int .i64 x.t] 34) := ⟨_, rfl⟩
            have hbX : Below wr.heap.size wr X := by rw [hX]; exact (Below.refl _ _).alloc (Nat.le_refl _) _
            have hXn : X.heap[wr.heap.size]? = some (.cells #[.int .i64 x.d, .int .i64 x.b, .int .i64 x.e, .string x.x, .int .i64 x.t] 34 (0, 0)) := by rw [hX]; exact heap_alloc_new wr _
            have HD := Lib.hid (does13_any nx ts F G x.d x.b x.e x.x x.t X (HT.out.call hbX) (by have := HNX.out; have := HCAP.out; have := HCAP2.out; omega))
            obtain ⟨y0, y1, y2, y3, y4⟩ := cells_op hXn
            have HX := Lib.hid hX
            clear hX hbX hXn hb
            go_wp2_with fail
            rw [← HX.out]
            go_wp2_with (go_at_call 9; (with_reducible refine (HD.out).mono ?_); rintro e w1 ⟨rfl, nx1, ts1, F1, G1, hn1, hk1⟩; have HT1 := Lib.hid hk1; have HN1 := Lib.hid hn1; clear hk1 hn1)
            go_roundw
            case rel => exact ⟨k + 1, nx1, ts1, F1, G1, by omega, by go_num, by have := HN1.out; have := HNX.out; unfold Hid; omega, HT1⟩
            case measure => simp [intOf]; omega
          · obtain rfl : k = n := by omega
            -- the twins, and the second row
            have HCL := Lib.hid (hClone_any F q 9 nx ts wr HT.out.sh)
            have HRCL : Hid (∀ u, Below wr.heap.size wr u → Calls Try.prog 24 #[.pointer (some ⟨r, 0, none⟩)] u fun v w' => ∃ q', v = .returned (.pointer (some ⟨q', 0, none⟩)) ∧ RsIs w' (fun b => u.heap.size ≤ b ∧ b < w'.heap.size) q' 9 ts ∧ Below u.heap.size u w') := Lib.hid (fun u hu => r13Clone_any G r 9 ts u (HT.out.rs.below hu))
            have HBB2 := Lib.hid (HBB.out.trans (HT.out.bel.mono HBB.out.size))
            have HNXN := Lib.hid HNX.out
            generalize wr = Wb at HT HCL HRCL HBB2 ⊢
            clear hlt hk HBB HNX
            go_wp2_with (first
              | (go_at_call 13; (with_reducible refine (HCL.out).mono ?_); rintro e u1 ⟨q2, rfl, ha, hb⟩; have HA1 := Lib.hid ha; have HB1 := Lib.hid hb; clear ha hb)
              | (go_at_call 24; (with_reducible refine (HRCL.out _ HB1.out).mono ?_); rintro e u2 ⟨r2, rfl, hc, hd⟩; have HA2 := Lib.hid hc; have HB2 := Lib.hid hd; clear hc hd))
            have HK : Hid (T2 Wb noB noB q2 r2 9 nx ts ts (fun b => Wb.heap.size ≤ b ∧ b < u1.heap.size) (fun b => u1.heap.size ≤ b ∧ b < u2.heap.size) u2) := Lib.hid (by
              have hs := HB1.out.size
              exact ⟨HA1.out.below HB2.out, HA2.out, fun b h1 h2 => by omega, fun b h => .inr h.1, fun b h => .inr (Nat.le_trans hs h.1), Chg.of_below (HB1.out.trans (HB2.out.mono hs))⟩)
            clear HA1 HA2 HB1 HB2 HCL HRCL
            have HT0 := HT
            clear HT
            go_loopw [115] (fun iv ws => ∃ (j nx1 : Nat) (ts1 : List Tg) (F1 G1 : Nat → Prop), j ≤ m ∧ iv = .int .i64 (j : Int) ∧ Hid (nx1 ≤ nx + j) ∧ Hid (T2 Wb noB noB q2 r2 9 nx1 ts1 ts1 F1 G1 ws)) (fun iv _ => m - (intOf iv).toNat)
            case atStart => exact ⟨0, nx, ts, _, _, Nat.zero_le _, rfl, Nat.le_refl _, HK⟩
            case round =>
              obtain ⟨j, nx1, ts1, F1, G1, hj, rfl, HNX1, HT⟩ := hrel
              clear HK
              have e1 : IntKind.i64.wrap ((j : Int) + 1) = (j : Int) + 1 := IntWalk.i64_in _ (by omega)
              by_cases hlt : j < m
              · obtain ⟨bb, o, rfl, hb, x0, x1, x2, x3, x4⟩ := HROW2.out wr (HBX.out wr (HBB2.out.trans (HT.out.bel.mono HBB2.out.size))).2 j hlt
                have hki : (j : Int) < (m : Int) := by omega
                have hk0 : (0 : Int) ≤ (j : Int) := by omega
                generalize ys[j]! = x at x0 x1 x2 x3 x4
                obtain ⟨X, hX⟩ : ∃ X, X = wr.alloc (.cells #[.int .i64 x.d, .int .i64 x.b, .int .i64 x.e, .string x.x, .int .i64 x.t] 34) := ⟨_, rfl⟩
                have hbX : Below wr.heap.size wr X := by rw [hX]; exact (Below.refl _ _).alloc (Nat.le_refl _) _
                have hXn : X.heap[wr.heap.size]? = some (.cells #[.int .i64 x.d, .int .i64 x.b, .int .i64 x.e, .string x.x, .int .i64 x.t] 34 (0, 0)) := by rw [hX]; exact heap_alloc_new wr _
                have HD := Lib.hid (does13_any nx1 ts1 F1 G1 x.d x.b x.e x.x x.t X (HT.out.call hbX) (by have := HNX1.out; have := HNXN.out; have := HCAP.out; have := HCAP2.out; omega))
                obtain ⟨y0, y1, y2, y3, y4⟩ := cells_op hXn
                have HX := Lib.hid hX
                clear hX hbX hXn hb
                go_wp2_with fail
                rw [← HX.out]
                go_wp2_with (go_at_call 9; (with_reducible refine (HD.out).mono ?_); rintro e w1 ⟨rfl, nx3, ts3, F3, G3, hn1, hk1⟩; have HT1 := Lib.hid hk1; have HN1 := Lib.hid hn1; clear hk1 hn1)
                go_roundw
                case rel => exact ⟨j + 1, nx3, ts3, F3, G3, by omega, by go_num, by have := HN1.out; have := HNX1.out; unfold Hid; omega, HT1⟩
                case measure => simp [intOf]; omega
              · obtain rfl : j = m := by omega
                have HBB3 := Lib.hid (HBB2.out.trans (HT.out.bel.mono HBB2.out.size))
                have HTS := Lib.hid (HT0.out.call HT.out.bel)
                have HCS := HT
                generalize wr = Wc at HTS HCS HT HBB3 ⊢
                clear hlt hj HBB2 HNX1 HT0 HT
                -- a shelf of rows of numbers
                obtain ⟨qi, hqi⟩ : ∃ qi, qi = Wc.heap.size := ⟨_, rfl⟩
                have HI1 : Hid (Calls Try.prog 25 #[.int .i64 1] Wc fun e w' => e = .returned (.tuple #[.pointer (some ⟨qi, 0, none⟩), .int .i64 0]) ∧ w'.heap[qi]? = some (.cells #[.int .i64 1, .int .i64 0, .slice none 0 0] 92 (0, 0)) ∧ Below Wc.heap.size Wc w') := Lib.hid (by rw [hqi]; exact hiNew_one Wc)
                have HI2 : Hid (∀ u : World, u.heap[qi]? = some (.cells #[.int .i64 1, .int .i64 0, .slice none 0 0] 92 (0, 0)) → Below Wc.heap.size Wc u → Calls Try.prog 26 #[.pointer (some ⟨qi, 0, none⟩), .agg #[.int .i64 2, .int .i64 3], .slice (some ⟨u.heap.size, 0, none⟩) 2 2] (u.alloc (.cells #[.int .i64 5, .int .i64 6] 3)) fun e w' => e = .returned (.int .i64 0) ∧ OneI w' qi (.slice (some ⟨u.heap.size, 0, none⟩) 2 2) ∧ T2 Wa noB noB q r 9 nx ts ts F G w' ∧ T2 Wb noB noB q2 r2 9 nx1 ts1 ts1 F1 G1 w' ∧ Below W0.heap.size W0 w' ∧ (w'.cell? ⟨u.heap.size, 0, none⟩ = some (.int .i64 5) ∧ w'.cell? ⟨u.heap.size, 1, none⟩ = some (.int .i64 6)) ∧ u.heap.size < w'.heap.size) := Lib.hid (fun u hu hb => by
                  have hql := lt_of_block hu
                  have hba : Below u.heap.size u (u.alloc (.cells #[.int .i64 5, .int .i64 6] 3)) := (Below.refl _ _).alloc (Nat.le_refl _) _
                  have hbb := hb.trans (hba.mono hb.size)
                  have hc := heap_alloc_new u (.cells #[.int .i64 5, .int .i64 6] 3)
                  refine (hiPut_one qi _ 2 2 _ ((hba.block qi hql).trans hu)).mono fun v w' hh => ⟨hh.1, hh.2.1, (HTS.out.call hbb).turn hh.2.2 (fun b hb hf => by have := HTS.out.sh.flt b hf; omega) (fun b hb hf => by have := HTS.out.rs.flt b hf; omega) (fun b hb => by have := HTS.out.bel.size; omega), (HCS.out.call hbb).turn hh.2.2 (fun b hb hf => by have := HCS.out.sh.flt b hf; omega) (fun b hb hf => by have := HCS.out.rs.flt b hf; omega) (fun b hb => by have := HCS.out.bel.size; omega), (HBB3.out.trans (hbb.mono HBB3.out.size)).trans (hh.2.2.below (by have := HBB3.out.size; have := hbb.size; omega) (fun b hb => by have := HBB3.out.size; omega)), ?_, ?_⟩
                  · have hc2 := (hh.2.2.block u.heap.size (by simp) (by omega)).trans hc
                    exact ⟨(cells_two hc2).1, (cells_two hc2).2.1⟩
                  · have := hh.2.2.size; simp at this; omega)
                have HI3 : Hid (∀ (u : World) (v : Value), OneI u qi v → _) := Lib.hid (fun u v h => hiAll_one qi v u h)
                clear hqi
                go_wp2_with (first
                  | (go_at_call 25; (with_reducible refine (HI1.out).mono ?_); rintro e u1 ⟨rfl, ha, hb⟩; have HA1 := Lib.hid ha; have HB1 := Lib.hid hb; clear ha hb)
                  | (go_at_call 26; (with_reducible refine (HI2.out _ HA1.out HB1.out).mono ?_); rintro e u2 ⟨rfl, hone, hts, hcs, hb2, hgv, hgl⟩; have HONE := Lib.hid hone; have HTS2 := Lib.hid hts; have HCS2 := Lib.hid hcs; have HBW := Lib.hid hb2; have HGV := Lib.hid hgv; have HGL := Lib.hid hgl; clear hone hts hcs hb2 hgv hgl))
                generalize u1.heap.size = gv at HONE HGV HGL HI2 ⊢
                clear HI1 HI2 HA1 HB1 HTS HCS
                refine (HI3.out _ _ HONE.out).mono ?_
                rintro e u3 ⟨Bs, g, cap3, rfl, hBs, hgl, hcs, hb3⟩
                have hN : u2.heap.size ≤ u3.heap.size := hb3.size
                have hstops := hiAll1_stops 11 (by decide) Bs u3.heap.size g cap3 (some ⟨gv, 0, none⟩) 2 2 u3 hBs (by omega) (Nat.le_refl _) hcs
                have HTS := Lib.hid (HTS2.out.call hb3)
                have HCS := Lib.hid (HCS2.out.call hb3)
                have HON := Lib.hid (HONE.out.below hb3)
                have HB3 := Lib.hid (HBW.out.trans (hb3.mono HBW.out.size))
                have HGC : Hid (∀ W, Below u3.heap.size u3 W → W.cell? ⟨gv, 0, none⟩ = some (.int .i64 5) ∧ W.cell? ⟨gv, 1, none⟩ = some (.int .i64 6)) := Lib.hid (fun W hW => by
                  have hgl2 := HGL.out
                  exact ⟨(hW.cell (p := ⟨gv, 0, none⟩) (by show gv < _; omega)).trans ((hb3.cell (p := ⟨gv, 0, none⟩) hgl2).trans HGV.out.1), (hW.cell (p := ⟨gv, 1, none⟩) (by show gv < _; omega)).trans ((hb3.cell (p := ⟨gv, 1, none⟩) hgl2).trans HGV.out.2)⟩)
                clear HONE HTS2 HCS2 HBW hBs hgl hcs hb3 hN HI3 HBB3
                go_wp2_with fail
                refine (wpIn_wide (n := 12)).1 ?_
                refine wpIn_rangeFunc_HV 21 (fun _ : Unit => .slice (some ⟨gv, 0, none⟩) 2 2) rfl (by decide) (gf := 52) (lb := #[.pointer (some ⟨Bs, 0, none⟩)]) rfl trivial (enters_of Try.func52 (by kernel_rfl) rfl)
                  hstops Below.trans (belowK_b (Nat.le_refl _)) (Below.refl _ _) (fun _ => rfl)
                  (fun (_ : List Unit) (W : World) => Below u3.heap.size u3 W)
                  (fun (c : Code) (_ : List Unit) (_ : World) => False) (ownFrom_bel (Nat.le_refl _) (Nat.le_refl _)) (fun c => ownFrom_pure _ _) (Below.refl _ _)
                  (fun (_ : Unit) (_ : Nat) (_ : World) => True)
                  (fun x Bx s A B row h _ _ => trivial) ?assign ?body ?done ?stop
                case assign =>
                  rintro l' pre x W K hi hc hK
                  have hK := Lib.hid hK
                  gi_wp2
                  have hk := hK.out 0 W (KeepsFrom.refl _ _) (Below.refl _ _) hi trivial
                  clear hK
                  simpa [valAct] using hk
                case body =>
                  rintro l' pre x Bx W hl' hr hb _ hlen
                  unfold valAct
                  obtain ⟨g0, g1⟩ := HGC.out W hb
                  have hba : Below W.heap.size W (W.alloc (.cells #[.int .i64 5, .int .i64 6] 3)) := (Below.refl _ _).alloc (Nat.le_refl _) _
                  have hc := heap_alloc_new W (.cells #[.int .i64 5, .int .i64 6] 3)
                  have HEQ : Hid (Calls Try.prog 28 #[.slice (some ⟨gv, 0, none⟩) 2 2, .slice (some ⟨W.heap.size, 0, none⟩) 2 2] (W.alloc (.cells #[.int .i64 5, .int .i64 6] 3)) fun e w' => e = .returned (.bool true) ∧ ∃ q, w' = (W.alloc (.cells #[.int .i64 5, .int .i64 6] 3)).drewN q) := Lib.hid (Try.slices_Equal_int gv 0 2 2 W.heap.size 0 2 2 [5, 6] [5, 6] _ (by decide) (by decide) (by decide) (by decide)
                    (fun j hj => by
                      rcases (show j = 0 ∨ j = 1 by simp at hj; omega) with rfl | rfl
                      · exact cell_alloc13 _ g0
                      · exact cell_alloc13 _ g1)
                    (fun j hj => by
                      rcases (show j = 0 ∨ j = 1 by simp at hj; omega) with rfl | rfl
                      · exact (cells_two hc).1
                      · exact (cells_two hc).2.1))
                  have HB := Lib.hid hb; have HBA := Lib.hid hba
                  clear hb hba hc g0 g1
                  gi_wp2_with (first
                    | (gi_at_call 28; (refine (CallsIn.inRound l' (callsIn_wide.2 HEQ.out)).mono ?_); rintro e W2 ⟨rfl, mq, rfl⟩)
                    | (refine ⟨trivial, ?_⟩))
                  have hb2 : Below W.heap.size W ((W.alloc (.cells #[.int .i64 5, .int .i64 6] 3)).drewN mq) := ⟨HBA.out.os, HBA.out.tape, HBA.out.output, HBA.out.size, HBA.out.block⟩
                  have hs := HB.out.size
                  exact ⟨⟨hb2.size, fun k o _ hk _ => (hb2.block k (Array.getElem?_eq_some_iff.1 hk).1).trans hk⟩, hb2.mono hs, HB.out.trans (hb2.mono hs)⟩
                case done =>
                  rintro D zs W hD hS hb hK
                  have hW0 := HB3.out.trans (hb.mono HB3.out.size)
                  have hWW : W.heap.size ≤ W.heap.size := Nat.le_refl _
                  have HLEN : Hid (Calls Try.prog 29 #[.pointer (some ⟨qi, 0, none⟩)] W fun e w' => e = .returned (.int .i64 1) ∧ W = w') := Lib.hid (by
                    obtain ⟨g, cap3, h1, _⟩ := HON.out.below hb
                    exact hiLen_any _ (some ⟨g, 0, none⟩) 1 cap3 W (hiList_any qi _ 1 cap3 W (cells_three h1).2.2.1))
                  have HS1 := Lib.hid (same13_any nx ts F G 5 0 W (HTS.out.call hb))
                  have HS2 : Hid (∀ u, Below W.heap.size W u → _) := Lib.hid (fun u hu => same13_any nx1 ts1 F1 G1 5 0 u ((HCS.out.call hb).call hu))
                  have HPW : Hid (∀ u, Below W.heap.size W u → u.heap[P]? = some (.cells #[.bool false] 4 (0, 0)) ∧ Below P w u) := Lib.hid (fun u hu => HBX.out u (hW0.trans (hu.mono hW0.size)))
                  have hPl : P < W.heap.size := lt_of_block (HPW.out W (Below.refl _ _)).1
                  have HKD := Lib.hid hK
                  have HDD : Hid (P ≠ D) := Lib.hid (by have := HS0.out; have := HB3.out.size; omega)
                  have HPD : Hid (P ≤ D) := Lib.hid (by have := HS0.out; have := HB3.out.size; omega)
                  clear hK hstops hW0 hWW hb
                  go_wp2_with (first
                    | (go_at_call 29; (with_reducible refine (HLEN.out).mono ?_); rintro e v1 ⟨rfl, rfl⟩)
                    | (go_at_call 10; (with_reducible refine (HS1.out).mono ?_); rintro e v2 ⟨rfl, hb2⟩; have HV2 := Lib.hid hb2; clear hb2)
                    | (go_at_call 10; (with_reducible refine (HS2.out _ HV2.out).mono ?_); rintro e v3 ⟨rfl, hb3⟩; have HV3 := Lib.hid (HV2.out.trans (hb3.mono HV2.out.size)); have hp := (HPW.out _ HV3.out).1; have p2 := cells_one0 hp; have f2 := free1 hp; clear hb3 hp))
                  have hx3 := (HPW.out _ HV3.out).1
                  have hx4 := set1 hx3 (.bool true)
                  have hkd : (v3.setCell ⟨P, 0, none⟩ (.bool true)).heap[D]? = some (.deferred (some [])) := (Below.heap_setCell v3 ⟨P, 0, none⟩ (.bool true) D (Ne.symm HDD.out)).trans ((HV3.out.block D (Array.getElem?_eq_some_iff.1 HKD.out).1).trans HKD.out)
                  refine ⟨by simp, .inl ⟨_, _, rfl, run_takeDeferred hkd, ?_⟩⟩
                  have hc := cells_one0 ((World.putObj_heap_other (w := (v3.setCell ⟨P, 0, none⟩ (.bool true))) (o := .deferred none) HDD.out).trans hx4)
                  refine ⟨.bool true, by simp [results, Try.results5, go_sem, hc], rfl, ?_⟩
                  rw [← HP.out]
                  have hf : Below P w (v3.setCell ⟨P, 0, none⟩ (.bool true)) := (HPW.out _ HV3.out).2.setCell (p := ⟨P, 0, none⟩) (Nat.le_refl _) _
                  exact hf.grown (grownBy_putObj' _ D _) (by have h1 := hf.size; have h2 := HP.out; omega) (fun k e => by cases e; exact HPD.out)
                case stop =>
                  rintro D c pre W hD hSp hF
                  exact hF.elim
end Go.Proofs.Ytehdimaihkckkaa
