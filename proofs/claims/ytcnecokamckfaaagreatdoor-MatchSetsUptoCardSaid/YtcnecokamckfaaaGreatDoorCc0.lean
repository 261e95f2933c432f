/- Contracts: slices.Grow of no bounds, slices.Concat of two slices of bounds. -/
import Derived.Test.YtcnecokamckfaaaGreatDoorK4
import Derived.Lib.AppendZeros
import Derived.OwnWalk
set_option linter.unusedVariables false
set_option linter.unusedSimpArgs false
namespace Go.Proofs.YtcnecokamckfaaaGreatDoor
open Go Go.RowKit

theorem cell_of_two0 {w : World} {q : Nat} {c0 c1 : Value} {t : Nat} (h : w.heap[q]? = some (.cells #[c0, c1] t (0, 0))) : w.cell? ⟨q, 0, none⟩ = some c0 ∧ w.cell? ⟨q, 1, none⟩ = some c1 := by simp [World.cell?, h]
theorem GrowBd_zero (w : World) : Calls Tryz.prog 71 #[.slice none 0 0, .int .i64 0] w fun e w' => e = .returned (.slice none 0 0) ∧ w = w' := by
  go_enter Tryz.func71, Tryz.ntmps71
  go_wp2
  go_ret
  exact ⟨rfl, rfl⟩
set_option maxRecDepth 100000 in
set_option maxHeartbeats 2000000 in
theorem GrowBd_more (w : World) (n : Nat) (h0 : 0 < n) (hn : n * 80 ≤ 281474976710656) :
    Calls Tryz.prog 71 #[.slice none 0 0, .int .i64 (n : Int)] w fun e w' => ∃ g cap, e = .returned (.slice (some ⟨g, 0, none⟩) 0 cap) ∧ n ≤ cap ∧ w'.ownsRow w.heap.size 54 6 (.slice (some ⟨g, 0, none⟩) 0 cap) 0 [] ∧ Below w.heap.size w w' := by
  obtain ⟨i0, hi, hz0, hz1, hz2⟩ := info_parts infoBd
  have happ := Lib.run_append_nil_zeros (P := Tryz.prog) w 36 3 36 54 i0 _ .i64 .i64 Tryz.underlying36 Tryz.underlying3 hi hz0 n h0 (by omega) (by omega) (by rw [hz2]; omega)
  generalize hcap : grownCap w n 0 54 = cap at happ
  have hcapge : n ≤ cap := by rw [← hcap]; exact grownCap_ge w _ 0 54
  have hcaple : cap ≤ maxLen := by rw [← hcap]; exact grownCap_le_maxLen w _ 0 54 (by unfold maxLen; omega)
  generalize hZ : (Builtin.zeroCells (Value.agg #[.string ⟨#[]⟩, .int .i64 0, .int .i64 0, .int .i64 0, .string ⟨#[]⟩, .slice none 0 0]).cells n ++ Builtin.zeroCells (Value.agg #[.string ⟨#[]⟩, .int .i64 0, .int .i64 0, .int .i64 0, .string ⟨#[]⟩, .slice none 0 0]).cells (cap - n)) = Z at happ
  have hZs : Z.size = cap * 6 := by rw [← hZ]; simp [size_zeroCells, Value.cells]; omega
  clear hcap hZ
  have p1 : ¬ (n : Int) < 0 := by omega
  have p2 : (0 : Int) < (n : Int) := by omega
  have p3 : (n : Int) > 0 := by omega
  have p4 := decide_eq_true p2
  have p5 : IntKind.i64.wrap (n : Int) = (n : Int) := by rw [IntKind.wrap_i64]; omega
  have p6 : wrap64 (n : Int) = (n : Int) := by unfold wrap64; omega
  have p7 : ¬ (cap : Int) < 0 := by omega
  have p8 : (0 : Int) ≤ (n : Int) := by omega
  have p9 : (0 : Int) ≤ (cap : Int) := by omega
  have HZ := Lib.hid hZs; have HC := Lib.hid (And.intro hcapge hcaple)
  clear h0 hn hZs hcapge hcaple hz0 hz1 hz2 hi
  go_enter Tryz.func71, Tryz.ntmps71
  go_wp2_with (at_builtin; refine Lib.wpList_append_run _ rfl _ _ _ _ rfl _ _ rfl rfl _ _ happ ?_)
  go_ret
  refine ⟨w.heap.size, cap, rfl, HC.out.1, ⟨rfl, .inr ⟨w.heap.size, cap, Z, rfl, Nat.le_refl _, ?_, Nat.zero_le _, HC.out.2, HZ.out, rfl⟩⟩, ((Below.refl w.heap.size w).alloc (Nat.le_refl _) _).drew⟩
  exact heap_alloc_new w _

theorem nums9 (n1 n2 : Nat) (h1 : n1 * 80 ≤ 140737488355328) (h2 : n2 * 80 ≤ 140737488355328) :
    IntKind.i64.wrap ((n1 : Int) + (n2 : Int)) = (n1 : Int) + (n2 : Int) ∧ IntKind.i64.wrap (n1 : Int) = (n1 : Int) ∧ IntKind.i64.wrap (0 + (n1 : Int)) = (n1 : Int) ∧ wrap64 ((n1 : Int) + (n2 : Int)) = (n1 : Int) + (n2 : Int) ∧ wrap64 (n1 : Int) = (n1 : Int) ∧ ¬ (n1 : Int) < 0 ∧ ¬ (n1 : Int) + (n2 : Int) < 0 := by
  refine ⟨?_, ?_, ?_, ?_, ?_, ?_, ?_⟩
  · rw [IntKind.wrap_i64]; omega
  · rw [IntKind.wrap_i64]; omega
  · rw [IntKind.wrap_i64]; omega
  · unfold wrap64; omega
  · unfold wrap64; omega
  · omega
  · omega
theorem nums9b (n1 n2 : Nat) (h1 : n1 * 80 ≤ 140737488355328) (h2 : n2 * 80 ≤ 140737488355328) (hz : ¬ n1 + n2 = 0) : 0 < n1 + n2 ∧ (n1 + n2) * 80 ≤ 281474976710656 := by omega
set_option maxRecDepth 100000 in
set_option maxHeartbeats 4000000 in
theorem ConcatBd_any (g B : Nat) (a1 : Option Addr) (n1 c1 : Nat) (a2 : Option Addr) (n2 c2 : Nat) (bs ms : List Bd) (w : World) (h1 : BsV w B (.slice a1 n1 c1) bs) (h2 : BsV w B (.slice a2 n2 c2) ms) (hB : B ≤ w.heap.size)
    (hg : w.heap[g]? = some (.cells #[.slice a1 n1 c1, .slice a2 n2 c2] 36 (0, 0))) (hn1 : n1 * 80 ≤ 140737488355328) (hn2 : n2 * 80 ≤ 140737488355328) :
    Calls Tryz.prog 43 #[.slice (some ⟨g, 0, none⟩) 2 2] w fun e w' => ∃ v' xs ys, e = .returned v' ∧ w'.ownsRow w.heap.size 54 6 v' (n1 + n2) (xs ++ ys) ∧ RwL (AvN w B) bs xs ∧ RwL (AvN w B) ms ys ∧ Below w.heap.size w w' := by
  obtain ⟨i0, hi, hz0, hz1, hz2⟩ := info_parts infoBd
  obtain ⟨xs, xr, x1, x6⟩ := h1.list
  obtain ⟨ys, yr, y1, y6⟩ := h2.list
  have x3 := h1.num.1; have x4 := h1.num.2.2.1; have x5' := h1.num.2.2.2.2.1
  have y3 := h2.num.1; have y4 := h2.num.2.2.1; have y5' := h2.num.2.2.2.2.1
  have x2 := xr.one; have y2 := yr.one
  have x5 : a1 = none → n1 = 0 ∧ c1 = 0 := fun e => ⟨by have := x5' e; omega, x5' e⟩
  have y5 : a2 = none → n2 = 0 ∧ c2 = 0 := fun e => ⟨by have := y5' e; omega, y5' e⟩
  have HXR := Lib.hid xr; have HYR := Lib.hid yr
  clear xr yr x5' y5'
  have hgl := lt_of_block hg
  have HG := Lib.hid (fun (u : World) (hu : Below w.heap.size w u) => (cell_of_two0 ((hu.block g hgl).trans hg) : u.cell? ⟨g, 0, none⟩ = some (.slice a1 n1 c1) ∧ u.cell? ⟨g, 1, none⟩ = some (.slice a2 n2 c2)))
  have B0 := Lib.hid (Below.refl w.heap.size w)
  obtain ⟨w1, w2, w3, v1, v2, p1, p2⟩ := nums9 n1 n2 hn1 hn2
  have p3 := decide_eq_false p1
  have p4 := decide_eq_false p2
  by_cases hz : n1 + n2 = 0
  · obtain ⟨e1, e2⟩ := Nat.add_eq_zero_iff.1 hz
    subst e1 e2
    obtain rfl : bs = [] := List.eq_nil_of_length_eq_zero x3.symm
    obtain rfl : ms = [] := List.eq_nil_of_length_eq_zero y3.symm
    have HGZ := Lib.hid (fun u : World => GrowBd_zero u)
    have HX0 : Hid (RwL (AvN w B) [] []) := Lib.hid rfl; have HY0 : Hid (RwL (AvN w B) [] []) := Lib.hid rfl
    clear h1 h2 hB hg hn1 hn2 x1 x2 x3 x4 x6 y1 y2 y3 y4 y6 w1 w2 w3 v1 v2 p1 p2 p3 p4 hz hgl HXR HYR
    rcases a1 with _ | ad1 <;> rcases a2 with _ | ad2
    all_goals
      try (obtain ⟨_, rfl⟩ := x5 rfl)
      try (obtain ⟨_, rfl⟩ := y5 rfl)
      clear x5 y5
      go_enter Tryz.func43, Tryz.ntmps43
      go_wp2_with fail
      go_loopw [3, 11] (fun sv iv wr => sv = .int .i64 0 ∧ w = wr ∧ (iv = .int .i64 0 ∨ iv = .int .i64 1 ∨ iv = .int .i64 2)) (fun _ iv _ => 2 - (intOf iv).toNat)
      case atStart => exact ⟨rfl, rfl, .inl rfl⟩
      case round =>
        obtain ⟨rfl, rfl, rfl | rfl | rfl⟩ := hrel
        · obtain ⟨g0, g1⟩ := HG.out _ B0.out
          go_wp2_with fail
          go_roundw
          all_goals first
            | exact ⟨rfl, rfl, .inr (.inl rfl)⟩
            | (simp [intOf]; done)
        · obtain ⟨g0, g1⟩ := HG.out _ B0.out
          go_wp2_with fail
          go_roundw
          all_goals first
            | exact ⟨rfl, rfl, .inr (.inr rfl)⟩
            | (simp [intOf]; done)
        · go_wp2_with (first | (go_at_call 71; (with_reducible refine (HGZ.out _).mono ?_); rintro e w1 ⟨rfl, rfl⟩))
          go_loopw [6, 27] (fun sv iv wr => sv = .slice none 0 0 ∧ Hid (Below w.heap.size w wr) ∧ (iv = .int .i64 0 ∨ iv = .int .i64 1 ∨ iv = .int .i64 2)) (fun _ iv _ => 2 - (intOf iv).toNat)
          case atStart => exact ⟨rfl, B0, .inl rfl⟩
          case round =>
            obtain ⟨rfl, HBR, hiv⟩ := hrel
            obtain ⟨g0, g1⟩ := HG.out _ HBR.out
            have HBW : Hid (w.heap.size ≤ _) := Lib.hid HBR.out.size
            rcases hiv with rfl | rfl | rfl
            · go_wp2_with (first
                | (at_builtin; refine wpList_append_own_none rfl (.tmp 31) (.tmp 32) 36 rfl w.heap.size 54 i0 6 Tryz.underlying36 hi _ 0 [] rfl (World.ownsRow_nil _ _ _ _) rfl ?_)
                | (at_builtin; (refine wpList_append_own _ rfl (.tmp 31) (.tmp 32) 36 rfl w.heap.size 54 i0 _ 6 80 Tryz.underlying36 hi hz0 hz1 hz2 rfl (by decide) _ 0 [] rfl (World.ownsRow_nil _ _ _ _) _ 0 _ [] rfl rfl (fun j u hj => by simp at hj) (fun u hu => by cases hu) (by unfold maxLen; omega) (by omega) HBW.out ?_; intro v' w' hown hgrow hnil; obtain rfl := hnil.2 ⟨rfl, rfl⟩; clear hnil hown; have HB2 := Lib.hid (HBR.out.grown hgrow HBW.out (fun k hk => by cases hk)); clear hgrow)))
              go_roundw
              all_goals first
                | exact ⟨rfl, HBR, .inr (.inl rfl)⟩
                | exact ⟨rfl, HB2, .inr (.inl rfl)⟩
                | (simp [intOf]; done)
            · go_wp2_with (first
                | (at_builtin; refine wpList_append_own_none rfl (.tmp 31) (.tmp 32) 36 rfl w.heap.size 54 i0 6 Tryz.underlying36 hi _ 0 [] rfl (World.ownsRow_nil _ _ _ _) rfl ?_)
                | (at_builtin; (refine wpList_append_own _ rfl (.tmp 31) (.tmp 32) 36 rfl w.heap.size 54 i0 _ 6 80 Tryz.underlying36 hi hz0 hz1 hz2 rfl (by decide) _ 0 [] rfl (World.ownsRow_nil _ _ _ _) _ 0 _ [] rfl rfl (fun j u hj => by simp at hj) (fun u hu => by cases hu) (by unfold maxLen; omega) (by omega) HBW.out ?_; intro v' w' hown hgrow hnil; obtain rfl := hnil.2 ⟨rfl, rfl⟩; clear hnil hown; have HB2 := Lib.hid (HBR.out.grown hgrow HBW.out (fun k hk => by cases hk)); clear hgrow)))
              go_roundw
              all_goals first
                | exact ⟨rfl, HBR, .inr (.inr rfl)⟩
                | exact ⟨rfl, HB2, .inr (.inr rfl)⟩
                | (simp [intOf]; done)
            · go_wp2
              go_ret
              exact ⟨_, [], [], rfl, World.ownsRow_nil _ _ _ _, HX0.out, HY0.out, HBR.out⟩
  · have hc0 : ((n1 + n2 : Nat) : Int) = (n1 : Int) + (n2 : Int) := Int.natCast_add n1 n2
    have HGR := Lib.hid (fun u : World => GrowBd_more u (n1 + n2) (nums9b n1 n2 hn1 hn2 hz).1 (nums9b n1 n2 hn1 hn2 hz).2)
    rw [hc0] at HGR
    have e1 : ((0 + n1 : Nat)) = n1 := Nat.zero_add n1
    have HX1 := Lib.hid (And.intro x1 (And.intro x2 x6)); have HX5 := Lib.hid x5
    have HY1 := Lib.hid (And.intro y1 (And.intro y2 y6)); have HY5 := Lib.hid y5
    clear h1 h2 hg hn1 hn2 x1 x2 x3 x4 x5 x6 y1 y2 y3 y4 y5 y6 hz hgl
    have HBB := Lib.hid hB
    clear hB
    go_enter Tryz.func43, Tryz.ntmps43
    go_wp2_with fail
    go_loopw [3, 11] (fun sv iv wr => w = wr ∧ ((iv = .int .i64 0 ∧ sv = .int .i64 0) ∨ (iv = .int .i64 1 ∧ sv = .int .i64 (n1 : Int)) ∨ (iv = .int .i64 2 ∧ sv = .int .i64 ((n1 : Int) + (n2 : Int))))) (fun _ iv _ => 2 - (intOf iv).toNat)
    case atStart => exact ⟨rfl, .inl ⟨rfl, rfl⟩⟩
    case round =>
      obtain ⟨rfl, ⟨rfl, rfl⟩ | ⟨rfl, rfl⟩ | ⟨rfl, rfl⟩⟩ := hrel
      · obtain ⟨g0, g1⟩ := HG.out _ B0.out
        go_wp2_with fail
        go_roundw
        all_goals first
          | exact ⟨rfl, .inr (.inl ⟨rfl, rfl⟩)⟩
          | (simp [intOf]; done)
      · obtain ⟨g0, g1⟩ := HG.out _ B0.out
        go_wp2_with fail
        go_roundw
        all_goals first
          | exact ⟨rfl, .inr (.inr ⟨rfl, rfl⟩)⟩
          | (simp [intOf]; done)
      · go_wp2_with (first | (go_at_call 71; (with_reducible refine (HGR.out _).mono ?_); rintro e u1 ⟨G, cap, rfl, hcap, hown, hb⟩; have HO := Lib.hid hown; have HCAP := Lib.hid hcap; have HB1 := Lib.hid hb; clear hown hcap hb))
        go_loopw [6, 27] (fun sv iv wr => Hid (Below w.heap.size w wr) ∧ ((iv = .int .i64 0 ∧ sv = .slice (some ⟨G, 0, none⟩) 0 cap ∧ Hid (wr.ownsRow w.heap.size 54 6 (.slice (some ⟨G, 0, none⟩) 0 cap) 0 [])) ∨ (iv = .int .i64 1 ∧ sv = .slice (some ⟨G, 0, none⟩) n1 cap ∧ Hid (wr.ownsRow w.heap.size 54 6 (.slice (some ⟨G, 0, none⟩) n1 cap) n1 xs)) ∨ (iv = .int .i64 2 ∧ sv = .slice (some ⟨G, 0, none⟩) (n1 + n2) cap ∧ Hid (wr.ownsRow w.heap.size 54 6 (.slice (some ⟨G, 0, none⟩) (n1 + n2) cap) (n1 + n2) (xs ++ ys))))) (fun _ iv _ => 2 - (intOf iv).toNat)
        case atStart => exact ⟨HB1, .inl ⟨rfl, rfl, HO⟩⟩
        case round =>
          obtain ⟨HBR, hiv⟩ := hrel
          obtain ⟨g0, g1⟩ := HG.out _ HBR.out
          clear HO
          rcases hiv with ⟨rfl, rfl, HO⟩ | ⟨rfl, rfl, HO⟩ | ⟨rfl, rfl, HO⟩
          · go_wp2_with (first
              | (at_builtin; (refine wpList_append_fits_any _ rfl (.tmp 31) (.tmp 32) 36 rfl w.heap.size 54 i0 6 Tryz.underlying36 hi hz1 G 0 cap [] rfl HO.out a1 n1 c1 xs rfl HX1.out.1 HX5.out (HX1.out.2.2 _ (HBR.out.mono HBB.out)) HX1.out.2.1 (by have := HCAP.out; omega) ?_; intro w3 hown3 hgrow3; have HO3 := Lib.hid (show w3.ownsRow w.heap.size 54 6 (.slice (some ⟨G, 0, none⟩) n1 cap) n1 xs by have := hown3; rw [e1] at this; exact this); have HB3 := Lib.hid (HBR.out.grown hgrow3 HBR.out.size (fun k hk => by cases hk; exact (HO.out.lt _ rfl).1)); clear hown3 hgrow3)))
            go_roundw
            all_goals first
              | exact ⟨HB3, .inr (.inl ⟨rfl, rfl, HO3⟩)⟩
              | exact ⟨HB3, .inr (.inl ⟨rfl, by rw [e1], HO3⟩)⟩
              | (simp [intOf]; done)
          · go_wp2_with (first
              | (at_builtin; (refine wpList_append_fits_any _ rfl (.tmp 31) (.tmp 32) 36 rfl w.heap.size 54 i0 6 Tryz.underlying36 hi hz1 G n1 cap xs rfl HO.out a2 n2 c2 ys rfl HY1.out.1 HY5.out (HY1.out.2.2 _ (HBR.out.mono HBB.out)) HY1.out.2.1 HCAP.out ?_; intro w3 hown3 hgrow3; have HO3 := Lib.hid hown3; have HB3 := Lib.hid (HBR.out.grown hgrow3 HBR.out.size (fun k hk => by cases hk; exact (HO.out.lt _ rfl).1)); clear hown3 hgrow3)))
            go_roundw
            all_goals first
              | exact ⟨HB3, .inr (.inr ⟨rfl, rfl, HO3⟩)⟩
              | (simp [intOf]; done)
          · go_wp2
            go_ret
            exact ⟨_, xs, ys, rfl, HO.out, HXR.out, HYR.out, HBR.out⟩
end Go.Proofs.YtcnecokamckfaaaGreatDoor
