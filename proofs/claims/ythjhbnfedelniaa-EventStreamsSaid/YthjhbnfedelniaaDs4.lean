/- The document's own streams: what they are in memory; New, is, Closed, Next, Mark. -/
import Derived.Test.YthjhbnfedelniaaSa
namespace Go.Proofs.Ythjhbnfedelniaa
open Go Go.RowKit

/-- How many of l come of source n; the time of the last one. -/
def cntL (l : List Ev) (n : Int) : Nat := (l.filter (fun e => decide (e.src = n))).length
def lastL (l : List Ev) (n : Int) : Int := ((l.filter (fun e => decide (e.src = n))).getLast?.map (·.time)).getD 0
theorem take_next {l : List Ev} {k : Nat} (h : k < l.length) : l.take (k + 1) = l.take k ++ [l[k]!] := by
  rw [List.take_succ_eq_append_getElem h, getElem!_pos l k h]
theorem cntL_snoc_eq (l : List Ev) (x : Ev) : cntL (l ++ [x]) x.src = cntL l x.src + 1 := by simp [cntL]
theorem cntL_snoc_ne (l : List Ev) (x : Ev) (n : Int) (h : x.src ≠ n) : cntL (l ++ [x]) n = cntL l n := by simp [cntL, h]
theorem lastL_snoc_eq (l : List Ev) (x : Ev) : lastL (l ++ [x]) x.src = x.time := by simp [lastL]
theorem lastL_snoc_ne (l : List Ev) (x : Ev) (n : Int) (h : x.src ≠ n) : lastL (l ++ [x]) n = lastL l n := by simp [lastL, h]
theorem cntL_le (l : List Ev) (n : Int) : cntL l n ≤ l.length := List.length_filter_le _ _

/-- In w the block q is the document's streams of k sources; evs were accepted, their attributes lie in vs; gone says which are closed. G has all blocks of theirs but q. -/
structure RsAt (w : World) (G : Nat → Prop) (q k : Nat) (evs : List Ev) (vs : List Value) (gone : List Bool) : Prop where
  nq : ¬ G q
  qlt : q < w.heap.size
  glt : ∀ b, G b → b < w.heap.size
  many : evs.length ≤ 65536
  wide : ∀ e ∈ evs, e.ty.size ≤ maxLen
  gl : gone.length = k
  k16 : k ≤ 16
  vsl : vs.length = evs.length
  row : ∃ ao cap ag cg, w.heap[q]? = some (.cells #[.int .i64 (k : Int), .slice ao evs.length cap, .slice ag k cg] 47 (0, 0)) ∧
    (0 < evs.length → ∃ b o, ao = some ⟨b, o, none⟩ ∧ G b ∧ ∀ j, j < evs.length → ∀ i u, (evCells evs[j]! vs[j]!)[i]? = some u → w.cell? ⟨b, o + j * 5 + i, none⟩ = some u) ∧
    (0 < k → ∃ b o, ag = some ⟨b, o, none⟩ ∧ G b ∧ ∀ j, j < k → w.cell? ⟨b, o + j, none⟩ = some (.bool gone[j]!)) ∧ evs.length ≤ cap ∧ k ≤ cg ∧ (ao = none → cap = 0)
  each : ∀ i, i < evs.length → Av w w.heap.size vs[i]! evs[i]!.ats ∧ InF G vs[i]!
/-- What turns no block of theirs leaves them as they are. -/
theorem RsAt.chg {F G : Nat → Prop} {w w' : World} {q k : Nat} {evs : List Ev} {vs : List Value} {gone : List Bool} (h : RsAt w G q k evs vs gone) (hc : Chg F w w') (hd : ∀ b, G b → ¬ F b) (hq : ¬ F q) : RsAt w' G q k evs vs gone := by
  obtain ⟨ao, cap, ag, cg, h1, h2, h3, h4, h5⟩ := h.row
  have hblk : ∀ b, G b → w'.heap[b]? = w.heap[b]? := fun b hb => hc.block b (h.glt b hb) (hd b hb)
  refine ⟨h.nq, Nat.lt_of_lt_of_le h.qlt hc.size, fun b hb => Nat.lt_of_lt_of_le (h.glt b hb) hc.size, h.many, h.wide, h.gl, h.k16, h.vsl, ⟨ao, cap, ag, cg, (hc.block q h.qlt hq).trans h1, fun hn => ?_, fun hk => ?_, h4, h5⟩, fun i hi => ⟨(h.each i hi).1.chg hc (h.each i hi).2 hd, (h.each i hi).2⟩⟩
  · obtain ⟨b, o, e, hB, hcl⟩ := h2 hn
    exact ⟨b, o, e, hB, fun j hj i u hu => (World.cell?_of_block (a := ⟨b, o + j * 5 + i, none⟩) (hblk b hB)).trans (hcl j hj i u hu)⟩
  · obtain ⟨b, o, e, hB, hcl⟩ := h3 hk
    exact ⟨b, o, e, hB, fun j hj => (World.cell?_of_block (a := ⟨b, o + j, none⟩) (hblk b hB)).trans (hcl j hj)⟩
theorem RsAt.below {G : Nat → Prop} {w w' : World} {q k : Nat} {evs : List Ev} {vs : List Value} {gone : List Bool} (h : RsAt w G q k evs vs gone) (hb : Below w.heap.size w w') : RsAt w' G q k evs vs gone :=
  h.chg (F := fun _ => False) (Chg.of_below hb) (fun _ _ h => h) (fun h => h)
theorem five_cells {w : World} {b a : Nat} {x : Ev} {v : Value} (h : ∀ i u, (evCells x v)[i]? = some u → w.cell? ⟨b, a + i, none⟩ = some u) :
    w.cell? ⟨b, a, none⟩ = some (.int .i64 x.src) ∧ w.cell? ⟨b, a + 1, none⟩ = some (.int .i64 x.seq) ∧ w.cell? ⟨b, a + 2, none⟩ = some (.int .i64 x.time) ∧ w.cell? ⟨b, a + 3, none⟩ = some (.string x.ty) ∧ w.cell? ⟨b, a + 4, none⟩ = some v :=
  ⟨h 0 _ rfl, h 1 _ rfl, h 2 _ rfl, h 3 _ rfl, h 4 _ rfl⟩

theorem r4is_any (G : Nat → Prop) (q k : Nat) (evs : List Ev) (vs : List Value) (gone : List Bool) (n : Int) (w : World) (h : RsAt w G q k evs vs gone) :
    Calls Try.prog 34 #[.pointer (some ⟨q, 0, none⟩), .int .i64 n] w fun e w' => e = .returned (.bool (hasB k n)) ∧ w = w' := by
  obtain ⟨ao, cap, ag, cg, h1, _⟩ := h.row
  obtain ⟨q0, q1, q2⟩ := cell_of_three h1
  clear h h1
  by_cases h0 : 0 ≤ n
  · by_cases h1 : n < (k : Int)
    · rw [show hasB k n = true by simp [hasB, h0, h1]]
      go_enter Try.func34, Try.ntmps34
      go_wp2
      go_ret
      exact ⟨rfl, rfl⟩
    · rw [show hasB k n = false by simp [hasB, h1]]
      go_enter Try.func34, Try.ntmps34
      go_wp2
      go_ret
      exact ⟨rfl, rfl⟩
  · rw [show hasB k n = false by simp [hasB, h0]]
    go_enter Try.func34, Try.ntmps34
    go_wp2
    go_ret
    exact ⟨rfl, rfl⟩
def goneAt (k : Nat) (gone : List Bool) (n : Int) : Bool := hasB k n && gone[n.toNat]!
theorem r4Closed_any (G : Nat → Prop) (q k : Nat) (evs : List Ev) (vs : List Value) (gone : List Bool) (n : Int) (w : World) (h : RsAt w G q k evs vs gone) :
    Calls Try.prog 18 #[.pointer (some ⟨q, 0, none⟩), .int .i64 n] w fun e w' => e = .returned (.bool (goneAt k gone n)) ∧ w = w' := by
  have HC := Lib.hid (r4is_any G q k evs vs gone n w h)
  obtain ⟨ao, cap, ag, cg, h1, _, h3, _, hcg, _⟩ := h.row
  obtain ⟨q0, q1, q2⟩ := cell_of_three h1
  have hk := h.k16
  cases hh : hasB k n with
  | false =>
    rw [show goneAt k gone n = false by simp [goneAt, hh]]
    rw [hh] at HC
    clear h h1 h3 hh
    go_enter Try.func18, Try.ntmps18
    go_wp2_with (go_at_call 34; (with_reducible refine (HC.out).mono ?_); rintro e w1 ⟨rfl, rfl⟩)
    go_ret
    exact ⟨rfl, rfl⟩
  | true =>
    obtain ⟨j, rfl, hj⟩ := hasB_nat hh
    obtain ⟨b, o, rfl, hb, hc⟩ := h3 (by omega)
    have hcj := hc j hj
    rw [show goneAt k gone (j : Int) = gone[j]! by simp [goneAt, hh]]
    generalize gone[j]! = gj at hcj
    rw [hh] at HC
    have hj0 : (0 : Int) ≤ (j : Int) := by omega
    have hj1 : (j : Int) < (k : Int) := by omega
    clear h h1 h3 hh hc
    go_enter Try.func18, Try.ntmps18
    go_wp2_with (go_at_call 34; (with_reducible refine (HC.out).mono ?_); rintro e w1 ⟨rfl, rfl⟩)
    go_ret
    exact ⟨rfl, rfl⟩

set_option maxRecDepth 100000 in
set_option maxHeartbeats 1600000 in
theorem r4Next_any (G : Nat → Prop) (q k : Nat) (evs : List Ev) (vs : List Value) (gone : List Bool) (n : Int) (w : World) (h : RsAt w G q k evs vs gone) :
    Calls Try.prog 14 #[.pointer (some ⟨q, 0, none⟩), .int .i64 n] w fun e w' => e = .returned (.int .i64 (cntL evs n : Int)) ∧ w = w' := by
  obtain ⟨ao, cap, ag, cg, h1, h2, _, hcap, _⟩ := h.row
  obtain ⟨q0, q1, q2⟩ := cell_of_three h1
  have HM := Lib.hid h.many
  have H2 := Lib.hid h2
  clear h h1 h2
  go_enter Try.func14, Try.ntmps14
  go_wp2_with fail
  go_loop [5, 6] (fun m i => ∃ j : Nat, j ≤ evs.length ∧ i = .int .i64 (j : Int) ∧ m = .int .i64 (cntL (evs.take j) n : Int)) (fun _ i => evs.length - (intOf i).toNat)
  case atStart => exact ⟨0, Nat.zero_le _, rfl, rfl⟩
  case round =>
    obtain ⟨j, hj, rfl, rfl⟩ := hrel
    by_cases hlt : j < evs.length
    · obtain ⟨b, o, rfl, hb, hc⟩ := H2.out (by omega)
      obtain ⟨c0, c1, c2, c3, c4⟩ := five_cells (w := w) (b := b) (a := o + j * 5) (x := evs[j]!) (v := vs[j]!) (fun i u hu => hc j hlt i u hu)
      have HT := Lib.hid (take_next hlt)
      have HL := Lib.hid (cntL_le (evs.take j) n)
      have HLT := Lib.hid (List.length_take_le j evs)
      have hj0 : (0 : Int) ≤ (j : Int) := by omega
      have hj63 : (j : Int) < 65536 := by have := HM.out; omega
      have hm63 : cntL (evs.take j) n ≤ 65536 := by have := HM.out; have := HL.out; have := HLT.out; omega
      generalize evs[j]! = x at c0 c1 c2 c3 c4 HT
      clear hc
      by_cases hx : x.src = n
      · have hxb : (x.src == n) = true := by simp [hx]
        have HX := Lib.hid hx
        clear hx
        go_wp2
        go_round
        case rel => exact ⟨j + 1, by omega, by go_num, by rw [HT.out, ← HX.out, cntL_snoc_eq, HX.out]; go_num⟩
        case measure => simp [intOf]; omega
      · have hxb : (x.src == n) = false := by simp [hx]
        have HX := Lib.hid hx
        clear hx
        go_wp2
        go_round
        case rel => exact ⟨j + 1, by omega, by go_num, by rw [HT.out, cntL_snoc_ne _ _ _ HX.out]⟩
        case measure => simp [intOf]; omega
    · obtain rfl : j = evs.length := by omega
      rw [List.take_length]
      go_wp2
      go_ret
      exact ⟨rfl, rfl⟩

def rMark (k : Nat) (evs : List Ev) (gone : List Bool) (n : Int) : Int := if goneAt k gone n then 1099511627777 else lastL evs n
set_option maxRecDepth 100000 in
set_option maxHeartbeats 1600000 in
theorem r4Mark_any (G : Nat → Prop) (q k : Nat) (evs : List Ev) (vs : List Value) (gone : List Bool) (n : Int) (w : World) (h : RsAt w G q k evs vs gone) :
    Calls Try.prog 16 #[.pointer (some ⟨q, 0, none⟩), .int .i64 n] w fun e w' => e = .returned (.int .i64 (rMark k evs gone n)) ∧ w = w' := by
  have C := r4Closed_any G q k evs vs gone n w h
  obtain ⟨ao, cap, ag, cg, h1, h2, _, hcap, _⟩ := h.row
  obtain ⟨q0, q1, q2⟩ := cell_of_three h1
  have HM := Lib.hid h.many
  have H2 := Lib.hid h2
  clear h h1 h2
  cases hg : goneAt k gone n with
  | true =>
    rw [show rMark k evs gone n = 1099511627777 by unfold rMark; rw [hg]; rfl]
    rw [hg] at C
    have HC := Lib.hid C
    clear C hg
    go_enter Try.func16, Try.ntmps16
    go_wp2_with (go_at_call 18; (with_reducible refine (HC.out).mono ?_); rintro e w1 ⟨rfl, rfl⟩)
    go_ret
    exact ⟨rfl, rfl⟩
  | false =>
    rw [show rMark k evs gone n = lastL evs n by unfold rMark; rw [hg]; rfl]
    rw [hg] at C
    have HC := Lib.hid C
    clear C hg
    go_enter Try.func16, Try.ntmps16
    go_wp2_with (go_at_call 18; (with_reducible refine (HC.out).mono ?_); rintro e w1 ⟨rfl, rfl⟩)
    go_loop [5, 6] (fun m i => ∃ j : Nat, j ≤ evs.length ∧ i = .int .i64 (j : Int) ∧ m = .int .i64 (lastL (evs.take j) n)) (fun _ i => evs.length - (intOf i).toNat)
    case atStart => exact ⟨0, Nat.zero_le _, rfl, rfl⟩
    case round =>
      obtain ⟨j, hj, rfl, rfl⟩ := hrel
      by_cases hlt : j < evs.length
      · obtain ⟨b, o, rfl, hb, hc⟩ := H2.out (by omega)
        obtain ⟨c0, c1, c2, c3, c4⟩ := five_cells (w := w) (b := b) (a := o + j * 5) (x := evs[j]!) (v := vs[j]!) (fun i u hu => hc j hlt i u hu)
        have HT := Lib.hid (take_next hlt)
        have hj0 : (0 : Int) ≤ (j : Int) := by omega
        have hj63 : (j : Int) < 65536 := by have := HM.out; omega
        generalize evs[j]! = x at c0 c1 c2 c3 c4 HT
        clear hc
        by_cases hx : x.src = n
        · have hxb : (x.src == n) = true := by simp [hx]
          have HX := Lib.hid hx
          clear hx
          go_wp2
          go_round
          case rel => exact ⟨j + 1, by omega, by go_num, by rw [HT.out, ← HX.out, lastL_snoc_eq]⟩
          case measure => simp [intOf]; omega
        · have hxb : (x.src == n) = false := by simp [hx]
          have HX := Lib.hid hx
          clear hx
          go_wp2
          go_round
          case rel => exact ⟨j + 1, by omega, by go_num, by rw [HT.out, lastL_snoc_ne _ _ _ HX.out]⟩
          case measure => simp [intOf]; omega
      · obtain rfl : j = evs.length := by omega
        rw [List.take_length]
        go_wp2
        go_ret
        exact ⟨rfl, rfl⟩
theorem r4New_no (n : Int) (h : n < 1 ∨ 16 < n) (w : World) :
    Calls Try.prog 6 #[.int .i64 n] w fun e w' => e = .returned (.tuple #[.pointer none, .int .i64 1]) ∧ w = w' := by
  rcases h with h | h
  · go_enter Try.func6, Try.ntmps6
    go_wp2
    go_ret2
    exact ⟨rfl, rfl⟩
  · have h1 : ¬ n < 1 := by omega
    go_enter Try.func6, Try.ntmps6
    go_wp2
    go_ret2
    exact ⟨rfl, rfl⟩
set_option maxRecDepth 100000 in
set_option maxHeartbeats 1600000 in
theorem r4New_ok (k : Nat) (h1 : 1 ≤ k) (h2 : k ≤ 16) (w : World) :
    Calls Try.prog 6 #[.int .i64 (k : Int)] w fun e w' => ∃ q, e = .returned (.tuple #[.pointer (some ⟨q, 0, none⟩), .int .i64 0]) ∧ w.heap.size ≤ q ∧ RsAt w' (fun b => b = w.heap.size) q k [] [] (List.replicate k false) ∧ Below w.heap.size w w' := by
  have hk1 : ¬ (k : Int) < 1 := by omega
  have hk2 : ¬ 16 < (k : Int) := by omega
  have hmk : ∀ w : World, (Instr.makeSlice 45 (.int .i64 (k : Int)) (.int .i64 (k : Int))).run Try.prog w = .ok (.slice (some ⟨w.heap.size, 0, none⟩) k k) (w.alloc (.cells (madeCells #[.bool false] k) 4)) := run_make_row' (P := Try.prog) 45 4 (.bool false) 1 Try.underlying45 Try.info4 rfl .i64 .i64 k (by omega) (by omega)
  go_enter Try.func6, Try.ntmps6
  go_wp2
  go_ret2
  have hb : Below w.heap.size w ((w.alloc (.cells (madeCells #[.bool false] k) 4)).alloc (.cells #[.int .i64 (k : Int), .slice none 0 0, .slice (some ⟨w.heap.size, 0, none⟩) k k] 47)) := ((Below.refl _ _).alloc (Nat.le_refl _) _).alloc (by simp) _
  refine ⟨w.heap.size + 1, rfl, by omega, ⟨by omega, by simp, fun b hb => by rw [hb]; simp; omega, by simp, by simp, by simp, h2, rfl, ⟨none, 0, some ⟨w.heap.size, 0, none⟩, k, ?_, (fun h => by simp at h), fun _ => ⟨w.heap.size, 0, rfl, rfl, fun j hj => ?_⟩, Nat.le_refl _, Nat.le_refl _, fun _ => rfl⟩, fun i hi => by simp at hi⟩, hb⟩
  · have h := heap_alloc_new (w.alloc (.cells (madeCells #[.bool false] k) 4)) (.cells #[.int .i64 (k : Int), .slice none 0 0, .slice (some ⟨w.heap.size, 0, none⟩) k k] 47)
    simpa using h
  · have h : ((w.alloc (.cells (madeCells #[.bool false] k) 4)).alloc (.cells #[.int .i64 (k : Int), .slice none 0 0, .slice (some ⟨w.heap.size, 0, none⟩) k k] 47)).heap[w.heap.size]? = some (.cells (madeCells #[.bool false] k) 4 (0, 0)) := (Below.heap_alloc _ _ _ (by simp)).trans (heap_alloc_new _ _)
    simp only [World.cell?, h, Nat.zero_add]
    simp [madeCells, hj, Nat.mod_one]

/-- Which closed sources another list says, in a new row. -/
theorem RsAt.newGone {G G' : Nat → Prop} {w w' : World} {q k : Nat} {evs : List Ev} {vs : List Value} {gone gone' : List Bool} (h : RsAt w G q k evs vs gone) (hc : Chg (fun b => b = q) w w')
    (hG : ∀ b, G b → G' b) (hG' : ∀ b, G' b → b < w'.heap.size) (hnq : ¬ G' q) (hl : gone'.length = k) {v : Value} {c0 c1 : Value} {g cg : Nat}
    (h0 : w.heap[q]? = some (.cells #[c0, c1, v] 47 (0, 0))) (h1 : w'.heap[q]? = some (.cells #[c0, c1, .slice (some ⟨g, 0, none⟩) k cg] 47 (0, 0)))
    (hg : G' g) (hcg : k ≤ cg) (hcl : ∀ j, j < k → w'.cell? ⟨g, 0 + j, none⟩ = some (.bool gone'[j]!)) : RsAt w' G' q k evs vs gone' := by
  obtain ⟨ao, cap, ag, cg0, h2, h3, _, h5, _, hn0⟩ := h.row
  rw [h0] at h2
  simp only [Option.some.injEq, Obj.cells.injEq, and_true] at h2
  have e0 : c0 = .int .i64 (k : Int) := by have := congrArg (fun a => a[0]!) h2; simpa using this
  have e1 : c1 = .slice ao evs.length cap := by have := congrArg (fun a => a[1]!) h2; simpa using this
  subst e0 e1
  have hq : ∀ b, G b → ¬ b = q := fun b hb e => h.nq (e ▸ hb)
  have hblk : ∀ b, G b → w'.heap[b]? = w.heap[b]? := fun b hb => hc.block b (h.glt b hb) (hq b hb)
  refine ⟨hnq, Nat.lt_of_lt_of_le h.qlt hc.size, hG', h.many, h.wide, hl, h.k16, h.vsl, ⟨ao, cap, _, cg, h1, fun hn => ?_, fun _ => ⟨g, 0, rfl, hg, hcl⟩, h5, hcg, hn0⟩, fun i hi => ⟨(h.each i hi).1.chg hc (h.each i hi).2 hq, fun a n c e => hG _ ((h.each i hi).2 a n c e)⟩⟩
  obtain ⟨b, o, e, hB, hx⟩ := h3 hn
  exact ⟨b, o, e, hG _ hB, fun j hj i u hu => (World.cell?_of_block (a := ⟨b, o + j * 5 + i, none⟩) (hblk b hB)).trans (hx j hj i u hu)⟩
end Go.Proofs.Ythjhbnfedelniaa
