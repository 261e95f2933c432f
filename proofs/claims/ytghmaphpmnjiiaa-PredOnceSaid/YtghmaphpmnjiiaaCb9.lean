/- Contracts: slices.Grow of no bounds, slices.Concat of two slices of bounds. -/
import Derived.Test.YtghmaphpmnjiiaaPm9
import Derived.Test.YtghmaphpmnjiiaaRx7
import Derived.Lib.AppendZeros
import Derived.OwnWalk
namespace Go.Proofs.Ytghmaphpmnjiiaa
open Go Go.RowKit Go.Sort

theorem infoBd : (Try.prog.info? 86).map (fun i => (i.zero, i.size, i.bytes)) = some (some (.agg #[.string ⟨#[]⟩, .int .i64 0, .int .i64 0, .int .i64 0, .string ⟨#[]⟩, .slice none 0 0]), 6, 80) := by kernel_rfl
theorem cell_of_two9 {w : World} {q : Nat} {c0 c1 : Value} {t : Nat} (h : w.heap[q]? = some (.cells #[c0, c1] t (0, 0))) : w.cell? ⟨q, 0, none⟩ = some c0 ∧ w.cell? ⟨q, 1, none⟩ = some c1 := by simp [World.cell?, h]
theorem GrowBd_zero (w : World) : Calls Try.prog 101 #[.slice none 0 0, .int .i64 0] w fun e w' => e = .returned (.slice none 0 0) ∧ w = w' := by
  go_enter Try.func101, Try.ntmps101
  go_wp2
  go_ret
  exact ⟨rfl, rfl⟩
set_option maxRecDepth 100000 in
set_option maxHeartbeats 2000000 in
theorem GrowBd_more (w : World) (n : Nat) (h0 : 0 < n) (hn : n * 80 ≤ 281474976710656) :
    Calls Try.prog 101 #[.slice none 0 0, .int .i64 (n : Int)] w fun e w' => ∃ g cap, e = .returned (.slice (some ⟨g, 0, none⟩) 0 cap) ∧ n ≤ cap ∧ w'.ownsRow w.heap.size 86 6 (.slice (some ⟨g, 0, none⟩) 0 cap) 0 [] ∧ Below w.heap.size w w' := by
  obtain ⟨i0, hi, hz0, hz1, hz2⟩ := info_parts infoBd
  have happ := Lib.run_append_nil_zeros (P := Try.prog) w 67 3 67 86 i0 _ .i64 .i64 Try.underlying67 Try.underlying3 hi hz0 n h0 (by omega) (by omega) (by rw [hz2]; omega)
  generalize hcap : grownCap w n 0 86 = cap at happ
  have hcapge : n ≤ cap := by rw [← hcap]; exact grownCap_ge w _ 0 86
  have hcaple : cap ≤ maxLen := by rw [← hcap]; exact grownCap_le_maxLen w _ 0 86 (by unfold maxLen; omega)
  generalize hZ : (Builtin.zeroCells (Value.agg #[.string ⟨#[]⟩, .int .i64 0, .int .i64 0, .int .i64 0, .string ⟨#[]⟩, .slice none 0 0]).cells n ++ Builtin.zeroCells (Value.agg #[.string ⟨#[]⟩, .int .i64 0, .int .i64 0, .int .i64 0, .string ⟨#[]⟩, .slice none 0 0]).cells (cap - n)) = Z at happ
  have hZs : Z.size = cap * 6 := by rw [← hZ]; simp [size_zeroCells, Value.cells]; omega
  clear hcap hZ
  have p1 : ¬ (n : Int) < 0 := by omega
  have p2 : (0 : Int) < (n : Int) := by omega
  have p3 : (n : Int) > 0 := by omega
  have p4 := decide_eq_true p2
  have p5 : IntKind.i64.wrap (n : Int) = (n : Int) := by rw [IntKind.wrap_i64]; omega
  have p6 : wrap64 (n : Int) = (n : Int) := by unfold wrap64; omega
  have p7 : ¬ (cap : Int) < 0 := by omega
  have p8 : (0 : Int) ≤ (n : Int) := by omega
  have p9 : (0 : Int) ≤ (cap : Int) := by omega
  have HZ := Lib.hid hZs; have HC := Lib.hid (And.intro hcapge hcaple)
  clear h0 hn hZs hcapge hcaple hz0 hz1 hz2 hi
  go_enter Try.func101, Try.ntmps101
  go_wp2_with (at_builtin; refine Lib.wpList_append_run _ rfl _ _ _ _ rfl _ _ rfl rfl _ _ happ ?_)
  go_ret
  refine ⟨w.heap.size, cap, rfl, HC.out.1, ⟨rfl, .inr ⟨w.heap.size, cap, Z, rfl, Nat.le_refl _, ?_, Nat.zero_le _, HC.out.2, HZ.out, rfl⟩⟩, ((Below.refl w.heap.size w).alloc (Nat.le_refl _) _).drew⟩
  exact heap_alloc_new w _

theorem nums9 (n1 n2 : Nat) (h1 : n1 * 80 ≤ 140737488355328) (h2 : n2 * 80 ≤ 140737488355328) :
    IntKind.i64.wrap ((n1 : Int) + (n2 : Int)) = (n1 : Int) + (n2 : Int) ∧ IntKind.i64.wrap (n1 : Int) = (n1 : Int) ∧ IntKind.i64.wrap (0 + (n1 : Int)) = (n1 : Int) ∧ wrap64 ((n1 : Int) + (n2 : Int)) = (n1 : Int) + (n2 : Int) ∧ wrap64 (n1 : Int) = (n1 : Int) ∧ ¬ (n1 : Int) < 0 ∧ ¬ (n1 : Int) + (n2 : Int) < 0 := by
  refine ⟨?_, ?_, ?_, ?_, ?_, ?_, ?_⟩
  · rw [IntKind.wrap_i64]; omega
  · rw [IntKind.wrap_i64]; omega
  · rw [IntKind.wrap_i64]; omega
  · unfold wrap64; omega
  · unfold wrap64; omega
  · omega
  · omega
/-- The cells of a row of bounds, and that a row with these cells holds the same bounds. -/
theorem BdAt.row {w : World} {B : Nat} : ∀ {bs : List Bd} {b o : Nat}, BdAt w B bs b o → ∃ xs : List Value, xs.length = bs.length * 6 ∧ (∀ u ∈ xs, u.oneCell' = true) ∧ (∀ j u, xs[j]? = some u → w.cell? ⟨b, o + j, none⟩ = some u) ∧
    ∀ (w' : World) (b' o' : Nat), (∀ x, x < B → w'.heap[x]? = w.heap[x]?) → (∀ j u, xs[j]? = some u → w'.cell? ⟨b', o' + j, none⟩ = some u) → BdAt w' B bs b' o'
  | [], _, _, _ => ⟨[], rfl, (fun u h => by cases h), (fun j u h => by simp at h), fun _ _ _ _ _ => trivial⟩
  | x :: r, b, o, ⟨⟨aa, ac, hc, ha⟩, hr⟩ => by
    obtain ⟨xs, h1, h2, h3, h4⟩ := BdAt.row hr
    refine ⟨encB x (.slice aa x.ats.length ac) ++ xs, by rw [List.length_append, encB_len, h1, List.length_cons]; omega, fun u hu => ?_, fun j u hj => ?_, fun w' b' o' hk hj => ?_⟩
    · rcases List.mem_append.1 hu with hu | hu
      · simp only [encB, List.mem_cons, List.not_mem_nil, or_false] at hu
        rcases hu with rfl | rfl | rfl | rfl | rfl | rfl <;> rfl
      · exact h2 u hu
    · by_cases hlt : j < 6
      · rw [List.getElem?_append_left (by rw [encB_len]; exact hlt)] at hj
        exact hc j u hj
      · rw [List.getElem?_append_right (by rw [encB_len]; omega), encB_len] at hj
        have := h3 (j - 6) u hj
        rwa [show o + 6 + (j - 6) = o + j by omega] at this
    · refine ⟨⟨aa, ac, fun j u hu => hj j u ?_, ha.keep fun b2 o2 h2' => by simp only [World.cell?, hk b2 h2']⟩, h4 w' b' (o' + 6) hk fun j u hu => ?_⟩
      · rw [List.getElem?_append_left (List.getElem?_eq_some_iff.1 hu).1]; exact hu
      · have := hj (6 + j) u (by rw [List.getElem?_append_right (by rw [encB_len]; omega), encB_len, show 6 + j - 6 = j by omega]; exact hu)
        rwa [← Nat.add_assoc] at this
theorem BdAt.append {w : World} {B : Nat} : ∀ {bs ms : List Bd} {b o : Nat}, BdAt w B bs b o → BdAt w B ms b (o + bs.length * 6) → BdAt w B (bs ++ ms) b o
  | [], _, _, _, _, h => by simpa using h
  | x :: r, ms, b, o, h1, h2 => ⟨h1.1, BdAt.append h1.2 (by rw [show o + 6 + r.length * 6 = o + (x :: r).length * 6 by rw [List.length_cons]; omega]; exact h2)⟩
/-- The cells of a slice of bounds. -/
theorem BsV.row {w : World} {B : Nat} {ao : Option Addr} {n cap : Nat} {bs : List Bd} (h : BsV w B (.slice ao n cap) bs) : ∃ xs : List Value, xs.length = n * 6 ∧ (∀ u ∈ xs, u.oneCell' = true) ∧ n = bs.length ∧ n ≤ cap ∧ (ao = none → n = 0 ∧ cap = 0) ∧
    (∀ u : World, Below B w u → ∀ ad, ao = some ad → ∀ j v, xs[j]? = some v → u.cell? (ad.add j) = some v) ∧
    ∀ (w' : World) (b' o' : Nat), (∀ x, x < B → w'.heap[x]? = w.heap[x]?) → (∀ j u, xs[j]? = some u → w'.cell? ⟨b', o' + j, none⟩ = some u) → BdAt w' B bs b' o' := by
  obtain ⟨ao', cap', he, h1, ⟨h2, h3⟩, hh⟩ := h
  simp only [Value.slice.injEq] at he
  obtain ⟨rfl, rfl, rfl⟩ := he
  by_cases hb : bs = []
  · subst hb
    refine ⟨[], rfl, fun u h => ?_, rfl, Nat.zero_le _, fun e => ⟨rfl, h3 e⟩, fun _ _ _ _ j v h => ?_, fun _ _ _ _ _ => trivial⟩
    · cases h
    · simp at h
  · obtain ⟨b, o, rfl, hlt, hat⟩ := hh hb
    obtain ⟨xs, q1, q2, q3, q4⟩ := hat.row
    refine ⟨xs, q1, q2, rfl, h1, (fun e => by cases e), fun u hu ad e j v hj => ?_, q4⟩
    cases e
    rw [add_none7', hu.cell (p := ⟨b, _, none⟩) hlt]
    exact q3 j v hj
theorem nums9b (n1 n2 : Nat) (h1 : n1 * 80 ≤ 140737488355328) (h2 : n2 * 80 ≤ 140737488355328) (hz : ¬ n1 + n2 = 0) : 0 < n1 + n2 ∧ (n1 + n2) * 80 ≤ 281474976710656 := by omega
theorem concat_fin {w u : World} {B G cap n1 n2 : Nat} {bs ms : List Bd} {xs ys : List Value} (hB : B ≤ w.heap.size) (x1 : xs.length = n1 * 6) (x3 : n1 = bs.length)
    (x7 : ∀ (w' : World) (b' o' : Nat), (∀ x, x < B → w'.heap[x]? = w.heap[x]?) → (∀ j u, xs[j]? = some u → w'.cell? ⟨b', o' + j, none⟩ = some u) → BdAt w' B bs b' o') (y3 : n2 = ms.length)
    (y7 : ∀ (w' : World) (b' o' : Nat), (∀ x, x < B → w'.heap[x]? = w.heap[x]?) → (∀ j u, ys[j]? = some u → w'.cell? ⟨b', o' + j, none⟩ = some u) → BdAt w' B ms b' o')
    (hu : Below w.heap.size w u) (hcap : n1 + n2 ≤ cap) (ho : u.ownsRow w.heap.size 86 6 (.slice (some ⟨G, 0, none⟩) (n1 + n2) cap) (n1 + n2) (xs ++ ys)) : BsV u u.heap.size (.slice (some ⟨G, 0, none⟩) (n1 + n2) cap) (bs ++ ms) := by
  have hk : ∀ x, x < B → u.heap[x]? = w.heap[x]? := fun x hx => hu.block x (Nat.lt_of_lt_of_le hx hB)
  have hsz := hu.size
  have hc : ∀ j v, (xs ++ ys)[j]? = some v → u.cell? ⟨G, 0 + j, none⟩ = some v := fun j v hj => by
    have := ho.cells (g := G) rfl j v hj
    rwa [add_none7'] at this
  obtain ⟨_, hh⟩ := ho
  rcases hh with ⟨hh, _⟩ | ⟨g', cap', cur, hh, _, hg', _, hcm, _, _⟩
  · cases hh
  · simp only [Value.slice.injEq, Option.some.injEq, Addr.mk.injEq, and_true, true_and] at hh
    obtain ⟨rfl, rfl⟩ := hh
    have hlt := lt_of_block hg'
    have hcm2 : cap ≤ 9223372036854775807 := hcm
    refine ⟨_, cap, by rw [List.length_append, x3, y3], by rw [List.length_append, ← x3, ← y3]; exact hcap, ⟨hcm2, fun e => by cases e⟩, fun _ => ⟨G, 0, rfl, hlt, ?_⟩⟩
    refine (BdAt.append (x7 u G 0 hk fun j v hj => hc j v ?_) (y7 u G (0 + bs.length * 6) hk fun j v hj => ?_)).mono (Nat.le_trans hB hsz)
    · rw [List.getElem?_append_left (List.getElem?_eq_some_iff.1 hj).1]; exact hj
    · have := hc (xs.length + j) v (by rw [List.getElem?_append_right (Nat.le_add_right _ _), Nat.add_sub_cancel_left]; exact hj)
      rwa [x1, x3, ← Nat.add_assoc] at this

set_option maxRecDepth 100000 in
set_option maxHeartbeats 4000000 in
theorem ConcatBd_any (g B : Nat) (a1 : Option Addr) (n1 c1 : Nat) (a2 : Option Addr) (n2 c2 : Nat) (bs ms : List Bd) (w : World) (h1 : BsV w B (.slice a1 n1 c1) bs) (h2 : BsV w B (.slice a2 n2 c2) ms) (hB : B ≤ w.heap.size)
    (hg : w.heap[g]? = some (.cells #[.slice a1 n1 c1, .slice a2 n2 c2] 67 (0, 0))) (hn1 : n1 * 80 ≤ 140737488355328) (hn2 : n2 * 80 ≤ 140737488355328) :
    Calls Try.prog 57 #[.slice (some ⟨g, 0, none⟩) 2 2] w fun e w' => ∃ v', e = .returned v' ∧ BsV w' w'.heap.size v' (bs ++ ms) ∧ Below w.heap.size w w' := by
  obtain ⟨i0, hi, hz0, hz1, hz2⟩ := info_parts infoBd
  obtain ⟨xs, x1, x2, x3, x4, x5, x6, x7⟩ := h1.row
  obtain ⟨ys, y1, y2, y3, y4, y5, y6, y7⟩ := h2.row
  have hgl := lt_of_block hg
  have HG := Lib.hid (fun (u : World) (hu : Below w.heap.size w u) => (cell_of_two9 ((hu.block g hgl).trans hg) : u.cell? ⟨g, 0, none⟩ = some (.slice a1 n1 c1) ∧ u.cell? ⟨g, 1, none⟩ = some (.slice a2 n2 c2)))
  have B0 := Lib.hid (Below.refl w.heap.size w)
  obtain ⟨w1, w2, w3, v1, v2, p1, p2⟩ := nums9 n1 n2 hn1 hn2
  have p3 := decide_eq_false p1
  have p4 := decide_eq_false p2
  by_cases hz : n1 + n2 = 0
  · obtain ⟨e1, e2⟩ := Nat.add_eq_zero_iff.1 hz
    subst e1 e2
    obtain rfl : bs = [] := List.eq_nil_of_length_eq_zero x3.symm
    obtain rfl : ms = [] := List.eq_nil_of_length_eq_zero y3.symm
    have HGZ := Lib.hid (fun u : World => GrowBd_zero u)
    clear h1 h2 hB hg hn1 hn2 x1 x2 x3 x4 x6 x7 y1 y2 y3 y4 y6 y7 w1 w2 w3 v1 v2 p1 p2 p3 p4 hz hgl
    rcases a1 with _ | ad1 <;> rcases a2 with _ | ad2
    all_goals
      try (obtain ⟨_, rfl⟩ := x5 rfl)
      try (obtain ⟨_, rfl⟩ := y5 rfl)
      clear x5 y5
      go_enter Try.func57, Try.ntmps57
      go_wp2_with fail
      go_loopw [3, 11] (fun sv iv wr => sv = .int .i64 0 ∧ w = wr ∧ (iv = .int .i64 0 ∨ iv = .int .i64 1 ∨ iv = .int .i64 2)) (fun _ iv _ => 2 - (intOf iv).toNat)
      case atStart => exact ⟨rfl, rfl, .inl rfl⟩
      case round =>
        obtain ⟨rfl, rfl, rfl | rfl | rfl⟩ := hrel
        · obtain ⟨g0, g1⟩ := HG.out _ B0.out
          go_wp2_with fail
          go_roundw
          all_goals first
            | exact ⟨rfl, rfl, .inr (.inl rfl)⟩
            | (simp [intOf]; done)
        · obtain ⟨g0, g1⟩ := HG.out _ B0.out
          go_wp2_with fail
          go_roundw
          all_goals first
            | exact ⟨rfl, rfl, .inr (.inr rfl)⟩
            | (simp [intOf]; done)
        · go_wp2_with (first | (go_at_call 101; (with_reducible refine (HGZ.out _).mono ?_); rintro e w1 ⟨rfl, rfl⟩))
          go_loopw [6, 27] (fun sv iv wr => sv = .slice none 0 0 ∧ Hid (Below w.heap.size w wr) ∧ (iv = .int .i64 0 ∨ iv = .int .i64 1 ∨ iv = .int .i64 2)) (fun _ iv _ => 2 - (intOf iv).toNat)
          case atStart => exact ⟨rfl, B0, .inl rfl⟩
          case round =>
            obtain ⟨rfl, HBR, hiv⟩ := hrel
            obtain ⟨g0, g1⟩ := HG.out _ HBR.out
            have HBW : Hid (w.heap.size ≤ _) := Lib.hid HBR.out.size
            rcases hiv with rfl | rfl | rfl
            · go_wp2_with (first
                | (at_builtin; refine wpList_append_own_none rfl (.tmp 31) (.tmp 32) 67 rfl w.heap.size 86 i0 6 Try.underlying67 hi _ 0 [] rfl (World.ownsRow_nil _ _ _ _) rfl ?_)
                | (at_builtin; (refine wpList_append_own _ rfl (.tmp 31) (.tmp 32) 67 rfl w.heap.size 86 i0 _ 6 80 Try.underlying67 hi hz0 hz1 hz2 rfl (by decide) _ 0 [] rfl (World.ownsRow_nil _ _ _ _) _ 0 _ [] rfl rfl (fun j u hj => by simp at hj) (fun u hu => by cases hu) (by unfold maxLen; omega) (by omega) HBW.out ?_; intro v' w' hown hgrow hnil; obtain rfl := hnil.2 ⟨rfl, rfl⟩; clear hnil hown; have HB2 := Lib.hid (HBR.out.grown hgrow HBW.out (fun k hk => by cases hk)); clear hgrow)))
              go_roundw
              all_goals first
                | exact ⟨rfl, HBR, .inr (.inl rfl)⟩
                | exact ⟨rfl, HB2, .inr (.inl rfl)⟩
                | (simp [intOf]; done)
            · go_wp2_with (first
                | (at_builtin; refine wpList_append_own_none rfl (.tmp 31) (.tmp 32) 67 rfl w.heap.size 86 i0 6 Try.underlying67 hi _ 0 [] rfl (World.ownsRow_nil _ _ _ _) rfl ?_)
                | (at_builtin; (refine wpList_append_own _ rfl (.tmp 31) (.tmp 32) 67 rfl w.heap.size 86 i0 _ 6 80 Try.underlying67 hi hz0 hz1 hz2 rfl (by decide) _ 0 [] rfl (World.ownsRow_nil _ _ _ _) _ 0 _ [] rfl rfl (fun j u hj => by simp at hj) (fun u hu => by cases hu) (by unfold maxLen; omega) (by omega) HBW.out ?_; intro v' w' hown hgrow hnil; obtain rfl := hnil.2 ⟨rfl, rfl⟩; clear hnil hown; have HB2 := Lib.hid (HBR.out.grown hgrow HBW.out (fun k hk => by cases hk)); clear hgrow)))
              go_roundw
              all_goals first
                | exact ⟨rfl, HBR, .inr (.inr rfl)⟩
                | exact ⟨rfl, HB2, .inr (.inr rfl)⟩
                | (simp [intOf]; done)
            · go_wp2
              go_ret
              exact ⟨_, rfl, BsV.nil _ _, HBR.out⟩
  · have hc0 : ((n1 + n2 : Nat) : Int) = (n1 : Int) + (n2 : Int) := Int.natCast_add n1 n2
    have HGR := Lib.hid (fun u : World => GrowBd_more u (n1 + n2) (nums9b n1 n2 hn1 hn2 hz).1 (nums9b n1 n2 hn1 hn2 hz).2)
    rw [hc0] at HGR
    have e1 : ((0 + n1 : Nat)) = n1 := Nat.zero_add n1
    have HX1 := Lib.hid (And.intro x1 (And.intro x2 x6)); have HX5 := Lib.hid x5
    have HY1 := Lib.hid (And.intro y1 (And.intro y2 y6)); have HY5 := Lib.hid y5
    have HFIN := Lib.hid (fun (u : World) (G cap : Nat) (hu : Below w.heap.size w u) (hcap : n1 + n2 ≤ cap) (ho : u.ownsRow w.heap.size 86 6 (.slice (some ⟨G, 0, none⟩) (n1 + n2) cap) (n1 + n2) (xs ++ ys)) => concat_fin hB x1 x3 x7 y3 y7 hu hcap ho)
    clear h1 h2 hg hn1 hn2 x1 x2 x3 x4 x5 x6 x7 y1 y2 y3 y4 y5 y6 y7 hz hgl
    have HBB := Lib.hid hB
    clear hB
    go_enter Try.func57, Try.ntmps57
    go_wp2_with fail
    go_loopw [3, 11] (fun sv iv wr => w = wr ∧ ((iv = .int .i64 0 ∧ sv = .int .i64 0) ∨ (iv = .int .i64 1 ∧ sv = .int .i64 (n1 : Int)) ∨ (iv = .int .i64 2 ∧ sv = .int .i64 ((n1 : Int) + (n2 : Int))))) (fun _ iv _ => 2 - (intOf iv).toNat)
    case atStart => exact ⟨rfl, .inl ⟨rfl, rfl⟩⟩
    case round =>
      obtain ⟨rfl, ⟨rfl, rfl⟩ | ⟨rfl, rfl⟩ | ⟨rfl, rfl⟩⟩ := hrel
      · obtain ⟨g0, g1⟩ := HG.out _ B0.out
        go_wp2_with fail
        go_roundw
        all_goals first
          | exact ⟨rfl, .inr (.inl ⟨rfl, rfl⟩)⟩
          | (simp [intOf]; done)
      · obtain ⟨g0, g1⟩ := HG.out _ B0.out
        go_wp2_with fail
        go_roundw
        all_goals first
          | exact ⟨rfl, .inr (.inr ⟨rfl, rfl⟩)⟩
          | (simp [intOf]; done)
      · go_wp2_with (first | (go_at_call 101; (with_reducible refine (HGR.out _).mono ?_); rintro e u1 ⟨G, cap, rfl, hcap, hown, hb⟩; have HO := Lib.hid hown; have HCAP := Lib.hid hcap; have HB1 := Lib.hid hb; clear hown hcap hb))
        go_loopw [6, 27] (fun sv iv wr => Hid (Below w.heap.size w wr) ∧ ((iv = .int .i64 0 ∧ sv = .slice (some ⟨G, 0, none⟩) 0 cap ∧ Hid (wr.ownsRow w.heap.size 86 6 (.slice (some ⟨G, 0, none⟩) 0 cap) 0 [])) ∨ (iv = .int .i64 1 ∧ sv = .slice (some ⟨G, 0, none⟩) n1 cap ∧ Hid (wr.ownsRow w.heap.size 86 6 (.slice (some ⟨G, 0, none⟩) n1 cap) n1 xs)) ∨ (iv = .int .i64 2 ∧ sv = .slice (some ⟨G, 0, none⟩) (n1 + n2) cap ∧ Hid (wr.ownsRow w.heap.size 86 6 (.slice (some ⟨G, 0, none⟩) (n1 + n2) cap) (n1 + n2) (xs ++ ys))))) (fun _ iv _ => 2 - (intOf iv).toNat)
        case atStart => exact ⟨HB1, .inl ⟨rfl, rfl, HO⟩⟩
        case round =>
          obtain ⟨HBR, hiv⟩ := hrel
          obtain ⟨g0, g1⟩ := HG.out _ HBR.out
          clear HO
          rcases hiv with ⟨rfl, rfl, HO⟩ | ⟨rfl, rfl, HO⟩ | ⟨rfl, rfl, HO⟩
          · go_wp2_with (first
              | (at_builtin; (refine wpList_append_fits_any _ rfl (.tmp 31) (.tmp 32) 67 rfl w.heap.size 86 i0 6 Try.underlying67 hi hz1 G 0 cap [] rfl HO.out a1 n1 c1 xs rfl HX1.out.1 HX5.out (HX1.out.2.2 _ (HBR.out.mono HBB.out)) HX1.out.2.1 (by have := HCAP.out; omega) ?_; intro w3 hown3 hgrow3; have HO3 := Lib.hid (show w3.ownsRow w.heap.size 86 6 (.slice (some ⟨G, 0, none⟩) n1 cap) n1 xs by have := hown3; rw [e1] at this; exact this); have HB3 := Lib.hid (HBR.out.grown hgrow3 HBR.out.size (fun k hk => by cases hk; exact (HO.out.lt _ rfl).1)); clear hown3 hgrow3)))
            go_roundw
            all_goals first
              | exact ⟨HB3, .inr (.inl ⟨rfl, rfl, HO3⟩)⟩
              | exact ⟨HB3, .inr (.inl ⟨rfl, by rw [e1], HO3⟩)⟩
              | (simp [intOf]; done)
          · go_wp2_with (first
              | (at_builtin; (refine wpList_append_fits_any _ rfl (.tmp 31) (.tmp 32) 67 rfl w.heap.size 86 i0 6 Try.underlying67 hi hz1 G n1 cap xs rfl HO.out a2 n2 c2 ys rfl HY1.out.1 HY5.out (HY1.out.2.2 _ (HBR.out.mono HBB.out)) HY1.out.2.1 HCAP.out ?_; intro w3 hown3 hgrow3; have HO3 := Lib.hid hown3; have HB3 := Lib.hid (HBR.out.grown hgrow3 HBR.out.size (fun k hk => by cases hk; exact (HO.out.lt _ rfl).1)); clear hown3 hgrow3)))
            go_roundw
            all_goals first
              | exact ⟨HB3, .inr (.inr ⟨rfl, rfl, HO3⟩)⟩
              | (simp [intOf]; done)
          · go_wp2
            go_ret
            exact ⟨_, rfl, HFIN.out _ _ _ HBR.out HCAP.out HO.out, HBR.out⟩
end Go.Proofs.Ytghmaphpmnjiiaa
