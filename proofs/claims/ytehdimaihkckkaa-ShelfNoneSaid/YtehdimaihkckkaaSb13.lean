/- Contract: Put, the program's and the document's. -/
import Derived.Test.YtehdimaihkckkaaSa13
import Derived.Test.YtehdimaihkckkaaTk8
namespace Go.Proofs.Ytehdimaihkckkaa
open Go Go.RowKit

theorem infoThg : (Try.prog.info? 81).map (fun i => (i.zero, i.size, i.bytes)) = some (some (.agg #[.int .i64 0, .int .i64 0, .int .i64 0, .string ⟨#[]⟩]), 4, 40) := by kernel_rfl
theorem infoRThg : (Try.prog.info? 47).map (fun i => (i.zero, i.size, i.bytes)) = some (some (.agg #[.int .i64 0, .int .i64 0, .string ⟨#[]⟩]), 3, 32) := by kernel_rfl
theorem infoStr : (Try.prog.info? 9).map (fun i => (i.zero, i.size, i.bytes)) = some (some (.string ⟨#[]⟩), 1, 16) := by kernel_rfl
theorem infoI64 : (Try.prog.info? 2).map (fun i => (i.zero, i.size, i.bytes)) = some (some (.int .i64 0), 1, 8) := by kernel_rfl
theorem info_parts13 {t : TypeId} {z : Value} {size bytes : Nat} (h : (Try.prog.info? t).map (fun i => (i.zero, i.size, i.bytes)) = some (some z, size, bytes)) : ∃ i, Try.prog.info? t = some i ∧ i.zero = some z ∧ i.size = size ∧ i.bytes = bytes := by
  cases hi : Try.prog.info? t with
  | none => rw [hi] at h; cases h
  | some i =>
    rw [hi] at h
    simp only [Option.map_some, Option.some.injEq, Prod.mk.injEq] at h
    exact ⟨i, rfl, h.1, h.2.1, h.2.2⟩
theorem own_call0 {w w' : World} {base e size n : Nat} {v : Value} {xs : List Value} (h : w.ownsRow base e size v n xs) (hb : Below w.heap.size w w') : w'.ownsRow base e size v n xs :=
  h.kept (row := none) ⟨hb.os, hb.tape, hb.output, hb.size, fun k hk _ => hb.block k hk⟩ (by cases v.ownBlock <;> simp)
theorem own_lower0 {w : World} {base base' e size n : Nat} {v : Value} {xs : List Value} (h : w.ownsRow base e size v n xs) (hB : base' ≤ base) : w.ownsRow base' e size v n xs := by
  refine ⟨h.1, h.2.imp id ?_⟩
  rintro ⟨g, cap, cur, h1, h2, h3⟩
  exact ⟨g, cap, cur, h1, Nat.le_trans hB h2, h3⟩

/-- Put's answer; the things behind it; the next number. -/
def putE (most : Nat) (ts : List Tg) (b e : Int) : Int := if spB b e = false then 1 else if most ≤ ts.length then 6 else 0
def putL (most nx : Nat) (ts : List Tg) (b e : Int) (x : ByteArray) : List Tg := if putE most ts b e = 0 then ts ++ [⟨nx, b, e, x⟩] else ts
def putN (most nx : Nat) (ts : List Tg) (b e : Int) : Nat := if putE most ts b e = 0 then nx + 1 else nx
theorem putE_span {most : Nat} {ts : List Tg} {b e : Int} (h : spB b e = false) : putE most ts b e = 1 := by unfold putE; rw [if_pos h]
theorem putE_full {most : Nat} {ts : List Tg} {b e : Int} (h : spB b e = true) (hl : most ≤ ts.length) : putE most ts b e = 6 := by unfold putE; rw [if_neg (by rw [h]; decide), if_pos hl]
theorem putE_ok {most : Nat} {ts : List Tg} {b e : Int} (h : spB b e = true) (hl : ts.length < most) : putE most ts b e = 0 := by unfold putE; rw [if_neg (by rw [h]; decide), if_neg (by omega)]
theorem putL_ok {most nx : Nat} {ts : List Tg} {b e : Int} {x : ByteArray} (h : putE most ts b e = 0) : putL most nx ts b e x = ts ++ [⟨nx, b, e, x⟩] ∧ putN most nx ts b e = nx + 1 := by unfold putL putN; rw [if_pos h, if_pos h]; exact ⟨rfl, rfl⟩
theorem putL_no {most nx : Nat} {ts : List Tg} {b e : Int} {x : ByteArray} (h : putE most ts b e ≠ 0) : putL most nx ts b e x = ts ∧ putN most nx ts b e = nx := by unfold putL putN; rw [if_neg h, if_neg h]; exact ⟨rfl, rfl⟩

/-- A shelf behind a Put. -/
theorem ShAt.put {w w1 w4 : World} {F : Nat → Prop} {q most nx : Nat} {ts : List Tg} {v : Value} (h : ShAt w F q most nx ts v) (hb : Below w.heap.size w w1) {g cap : Nat} {t : Tg} (ht : t.num = nx) (hm : spB t.beg t.fin = true) (hl : ts.length < most)
    (hown : w4.ownsRow 0 81 4 (.slice (some ⟨g, 0, none⟩) (ts.length + 1) cap) (ts.length + 1) (tgRow ts ++ tgCells t)) (hg : w1.grownBy w4 v.ownBlock) (hgg : v.ownBlock = some g ∨ g = w1.heap.size) (hglt : g < w4.heap.size) :
    ShIs ((w4.setCell ⟨q, 2, none⟩ (.slice (some ⟨g, 0, none⟩) (ts.length + 1) cap)).setCell ⟨q, 1, none⟩ (.int .i64 ((nx : Int) + 1))) (grF F w ((w4.setCell ⟨q, 2, none⟩ (.slice (some ⟨g, 0, none⟩) (ts.length + 1) cap)).setCell ⟨q, 1, none⟩ (.int .i64 ((nx : Int) + 1)))) q most (nx + 1) (ts ++ [t]) ∧
      Chg F w ((w4.setCell ⟨q, 2, none⟩ (.slice (some ⟨g, 0, none⟩) (ts.length + 1) cap)).setCell ⟨q, 1, none⟩ (.int .i64 ((nx : Int) + 1))) := by
  have hs1 := hb.size
  have hql := h.flt q h.fq
  have hs4 := hg.size
  have hvq : v.ownBlock ≠ some q := fun e => (h.fv q e).2 rfl
  have hgq : g ≠ q := by
    rcases hgg with hv | rfl
    · rintro rfl; exact hvq hv
    · omega
  have hq4 : w4.heap[q]? = some (.cells #[.int .i64 (most : Int), .int .i64 (nx : Int), v] 52 (0, 0)) := (hg.block q (by omega) (fun e => hvq e.symm)).trans ((hb.block q hql).trans h.blk)
  have hc4 : Chg F w w4 := by
    refine ⟨hg.os.trans hb.os, hg.tape.trans hb.tape, hg.output.trans hb.output, by omega, fun k hk hf => ?_⟩
    refine (hg.block k (by omega) (fun e => ?_)).trans (hb.block k hk)
    exact hf (h.fv k e.symm).1
  refine ⟨⟨.slice (some ⟨g, 0, none⟩) (ts.length + 1) cap, .inl h.fq, ?_, h.m1, h.m2, by simp; omega, ?_, ?_, ?_, ?_, ?_, ?_⟩, (hc4.setCell (p := ⟨q, 2, none⟩) h.fq _).setCell (p := ⟨q, 1, none⟩) h.fq _⟩
  · intro b hb2
    exact grF_lt h.flt (by simp only [World.size_setCell]; omega) b hb2
  · rw [List.map_append, List.pairwise_append]
    refine ⟨h.num, by simp, fun a ha b hb2 => ?_⟩
    obtain ⟨t', ht', rfl⟩ := List.mem_map.1 ha
    simp at hb2
    have := h.numlt t' ht'
    omega
  · intro t' ht'
    rcases List.mem_append.1 ht' with h1 | h1
    · have := h.numlt t' h1; omega
    · simp at h1; subst h1; omega
  · intro t' ht'
    rcases List.mem_append.1 ht' with h1 | h1
    · exact h.may t' h1
    · simp at h1; subst h1; exact hm
  · rw [heap_setCell_same (heap_setCell_same hq4 _) _]; simp
  · rw [tgRow_app, List.length_append, List.length_singleton]
    exact ownsRow_setCell_typed (a := ⟨q, 1, none⟩) (ownsRow_setCell_typed (a := ⟨q, 2, none⟩) hown hq4 (by decide) _) (heap_setCell_same hq4 _) (by decide) _
  · intro g' hg'
    simp [Value.ownBlock] at hg'
    subst hg'
    refine ⟨?_, hgq⟩
    rcases hgg with hv | rfl
    · exact .inl (h.fv _ hv).1
    · exact .inr ⟨by omega, by simp only [World.size_setCell]; exact hglt⟩
theorem RsAt.put {w w1 w4 : World} {F : Nat → Prop} {q most : Nat} {ts : List Tg} {v : Value} (h : RsAt w F q most ts v) (hb : Below w.heap.size w w1) {g cap : Nat} {t : Tg} (hl : ts.length < most)
    (hown : w4.ownsRow 0 47 3 (.slice (some ⟨g, 0, none⟩) (ts.length + 1) cap) (ts.length + 1) (dgRow ts ++ dgCells t)) (hg : w1.grownBy w4 v.ownBlock) (hgg : v.ownBlock = some g ∨ g = w1.heap.size) (hglt : g < w4.heap.size) :
    RsIs (w4.setCell ⟨q, 0, none⟩ (.slice (some ⟨g, 0, none⟩) (ts.length + 1) cap)) (grF F w (w4.setCell ⟨q, 0, none⟩ (.slice (some ⟨g, 0, none⟩) (ts.length + 1) cap))) q most (ts ++ [t]) ∧ Chg F w (w4.setCell ⟨q, 0, none⟩ (.slice (some ⟨g, 0, none⟩) (ts.length + 1) cap)) := by
  have hs1 := hb.size
  have hql := h.flt q h.fq
  have hs4 := hg.size
  have hvq : v.ownBlock ≠ some q := fun e => (h.fv q e).2 rfl
  have hgq : g ≠ q := by
    rcases hgg with hv | rfl
    · rintro rfl; exact hvq hv
    · omega
  have hq4 : w4.heap[q]? = some (.cells #[v, .int .i64 (most : Int)] 74 (0, 0)) := (hg.block q (by omega) (fun e => hvq e.symm)).trans ((hb.block q hql).trans h.blk)
  have hc4 : Chg F w w4 := by
    refine ⟨hg.os.trans hb.os, hg.tape.trans hb.tape, hg.output.trans hb.output, by omega, fun k hk hf => ?_⟩
    refine (hg.block k (by omega) (fun e => ?_)).trans (hb.block k hk)
    exact hf (h.fv k e.symm).1
  refine ⟨⟨.slice (some ⟨g, 0, none⟩) (ts.length + 1) cap, .inl h.fq, ?_, h.m2, by simp; omega, ?_, ?_, ?_⟩, hc4.setCell (p := ⟨q, 0, none⟩) h.fq _⟩
  · intro b hb2
    exact grF_lt h.flt (by simp only [World.size_setCell]; omega) b hb2
  · rw [heap_setCell_same hq4 _]; simp
  · rw [dgRow_app, List.length_append, List.length_singleton]
    exact ownsRow_setCell_typed (a := ⟨q, 0, none⟩) hown hq4 (by decide) _
  · intro g' hg'
    simp [Value.ownBlock] at hg'
    subst hg'
    refine ⟨?_, hgq⟩
    rcases hgg with hv | rfl
    · exact .inl (h.fv _ hv).1
    · exact .inr ⟨by omega, by simp only [World.size_setCell]; exact hglt⟩

set_option maxRecDepth 100000 in
set_option maxHeartbeats 1600000 in
theorem hPut_ok (F : Nat → Prop) (q most nx : Nat) (ts : List Tg) (v : Value) (b e : Int) (x : ByteArray) (w : World) (h : ShAt w F q most nx ts v) (hs : spB b e = true) (hl : ts.length < most) (hnx : nx < 4611686018427387904) :
    Calls Try.prog 12 #[.pointer (some ⟨q, 0, none⟩), .agg #[.int .i64 b, .int .i64 e], .string x] w fun r w' => r = .returned (.int .i64 0) ∧ ShIs w' (grF F w w') q most (nx + 1) (ts ++ [⟨nx, b, e, x⟩]) ∧ Chg F w w' := by
  obtain ⟨i0, hi, hz0, hz1, hz2⟩ := info_parts13 infoThg
  obtain ⟨va, vc, rfl⟩ := h.slice
  obtain ⟨P, hP⟩ : ∃ P, P = w.heap.size := ⟨_, rfl⟩
  obtain ⟨W, hW⟩ : ∃ W, W = w.alloc (.cells #[.int .i64 b, .int .i64 e] 32) := ⟨_, rfl⟩
  have hb0 : Below w.heap.size w W := by rw [hW]; exact (Below.refl _ _).alloc (Nat.le_refl _) _
  have hpW : W.heap[P]? = some (.cells #[.int .i64 b, .int .i64 e] 32 (0, 0)) := by rw [hW, hP]; exact heap_alloc_new w _
  have hPl : P < W.heap.size := lt_of_block hpW
  have hW1 := h.below hb0
  have hC1 := hIsMade_any q most W (cells_three hW1.blk).1
  rw [decide_eq_true (by have := h.m1; omega : 0 < most)] at hC1
  have hC2 := hIsSpan_any b e W
  rw [hs] at hC2
  have d1 : decide ((ts.length : Int) ≥ (most : Int)) = false := by simp; omega
  have d2 : ¬ most ≤ ts.length := by omega
  have e1 : IntKind.i64.wrap ((nx : Int) + 1) = (nx : Int) + 1 := IntWalk.i64_in _ (by omega)
  have HC1 := Lib.hid hC1; have HC2 := Lib.hid hC2; have HW := Lib.hid hW; have HP := Lib.hid hP; have HS := Lib.hid hs; have HL := Lib.hid hl; have HH := Lib.hid h
  have HU : Hid (∀ u, Below W.heap.size W u → ShAt u F q most nx ts (.slice va ts.length vc) ∧ u.heap[P]? = some (.cells #[.int .i64 b, .int .i64 e] 32 (0, 0)) ∧ Below w.heap.size w u) := Lib.hid (fun u hu => ⟨hW1.below hu, (hu.block P hPl).trans hpW, hb0.trans (hu.mono hb0.size)⟩)
  have HM2 := Lib.hid h.m2
  obtain ⟨p0, p1, -⟩ := cells_two hpW
  clear hC1 hC2 hW hP hs hl h hb0 hpW hPl hW1 hnx
  go_enter Try.func12, Try.ntmps12
  go_wp2_with fail
  rw [← HW.out, ← HP.out]
  go_wp2_with (first
    | (go_at_call 42; (with_reducible refine (HC1.out).mono ?_); rintro r w1 ⟨rfl, rfl⟩)
    | (go_at_call 43; (with_reducible refine (HC2.out).mono ?_); rintro r w1 ⟨rfl, hb1⟩; have hu1 := HU.out w1 hb1; have p0 := (cells_two hu1.2.1).1; have p1 := (cells_two hu1.2.1).2.1; have c0 := (cells_three hu1.1.blk).1; have c1 := (cells_three hu1.1.blk).2.1; have c2 := (cells_three hu1.1.blk).2.2.1; have HB1 := Lib.hid hb1; clear hu1 hb1))
  go_quiet (fail)
  have hb2 : Below W.heap.size W (w1.drewN nq) := ⟨HB1.out.os, HB1.out.tape, HB1.out.output, HB1.out.size, HB1.out.block⟩
  clear p0 p1 c0 c1 c2
  generalize w1.drewN nq = w2 at hb2 ⊢
  obtain ⟨h2, hp2, hbw⟩ := HU.out w2 hb2
  obtain ⟨p0, p1, -⟩ := cells_two hp2
  obtain ⟨-, c1, c2, -⟩ := cells_three h2.blk
  have hPl : P < w2.heap.size := lt_of_block hp2
  have hql := h2.flt q h2.fq
  have c2' : ∀ o, (w2.drew.alloc o).cell? ⟨q, 2, none⟩ = some (.slice va ts.length vc) := fun o => cell_alloc13 o c2
  have hbX : Below w2.heap.size w2 (w2.drew.alloc (.cells #[.int .i64 (nx : Int), .int .i64 b, .int .i64 e, .string x] 81)) := ((Below.refl _ _).drew).alloc (Nat.le_refl _) _
  have HXO := Lib.hid (h2.below hbX).own
  have HXN := Lib.hid (World.news_of_block (w := (w2.drew.alloc (.cells #[.int .i64 (nx : Int), .int .i64 b, .int .i64 e, .string x] 81))) (B := w2.heap.size) (cs := #[.int .i64 (nx : Int), .int .i64 b, .int .i64 e, .string x]) (t := 81) (fr := (0, 0)) (heap_alloc_new _ _))
  have HXZ : Hid ((w2.drew.alloc (.cells #[.int .i64 (nx : Int), .int .i64 b, .int .i64 e, .string x] 81)).heap.size = w2.heap.size + 1) := by unfold Hid; simp
  have HNU : Hid (ts.length + 1 ≤ maxLen ∧ (ts.length + 1) * 40 ≤ 140737488355328) := by have := HM2.out; have := HL.out; unfold Hid maxLen; omega
  have HFIN := Lib.hid (fun (w4 : World) (g cap : Nat) (h1 : w4.ownsRow 0 81 4 (.slice (some ⟨g, 0, none⟩) (ts.length + 1) cap) (ts.length + 1) (tgRow ts ++ tgCells ⟨nx, b, e, x⟩)) (h2' : (w2.drew.alloc (.cells #[.int .i64 (nx : Int), .int .i64 b, .int .i64 e, .string x] 81)).grownBy w4 (Value.slice va ts.length vc).ownBlock) (h3 : (Value.slice va ts.length vc).ownBlock = some g ∨ g = w2.heap.size + 1) (h4 : g < w4.heap.size) => HH.out.put (hbw.trans (hbX.mono hbw.size)) (t := ⟨nx, b, e, x⟩) rfl HS.out HL.out h1 h2' (by rw [HXZ.out]; exact h3) h4)
  have HFAR : Hid (∀ w4, (w2.drew.alloc (.cells #[.int .i64 (nx : Int), .int .i64 b, .int .i64 e, .string x] 81)).grownBy w4 (Value.slice va ts.length vc).ownBlock → w4.heap[q]? = some (.cells #[.int .i64 (most : Int), .int .i64 (nx : Int), .slice va ts.length vc] 52 (0, 0)) ∧ w4.heap[P]? = some (.cells #[.int .i64 b, .int .i64 e] 32 (0, 0))) := Lib.hid (fun w4 hg => by
    have hz := HXZ.out
    refine ⟨(hg.block q (by omega) (fun e => (h2.fv q e.symm).2 rfl)).trans ((hbX.block q hql).trans h2.blk), (hg.block P (by omega) (fun e => ?_)).trans ((hbX.block P hPl).trans hp2)⟩
    have h3 := HH.out.flt P (h2.fv P e.symm).1
    have h4 := HP.out
    omega)
  have HPQ : Hid (P ≠ q) := by
    have h3 := HH.out.flt q HH.out.fq
    have h4 := HP.out
    unfold Hid; omega
  clear hp2 hbw h2 hb2 hbX HU hPl hql
  go_wp2
  have HS0 : Hid (∀ l : Array Bool, l[16]? = some false → (w2.drew.cell? ⟨q, 2, none⟩ = some (.slice va ts.length vc) ∧ w2.drew.cell? ⟨q, 1, none⟩ = some (.int .i64 (nx : Int)) ∧ w2.drew.cell? ⟨P, 0, none⟩ = some (.int .i64 b) ∧ w2.drew.cell? ⟨P, 1, none⟩ = some (.int .i64 e))) := Lib.hid (fun _ _ => ⟨c2, c1, p0, p1⟩)
  refine wp_region_ph (S := (fun (l : Array Bool) (u : World) => l[16]? = some false → (u.cell? ⟨q, 2, none⟩ = some (.slice va ts.length vc) ∧ u.cell? ⟨q, 1, none⟩ = some (.int .i64 (nx : Int)) ∧ u.cell? ⟨P, 0, none⟩ = some (.int .i64 b) ∧ u.cell? ⟨P, 1, none⟩ = some (.int .i64 e)))) (by rfl) ?_
  change wpPh _ _ _ _ _ 17 _ _ w2.drew
  refine wpPh.take (i := 0) (v := .pointer (some ⟨q, 0, none⟩)) (T := fun u => True) (I := (fun l => 16 < l.size ∧ (l[16]? = some true → ∀ x ∈ [4, 8, 9], l[x]? = some true))) rfl (by kernel_rfl) (by kernel_rfl) (by kernel_rfl) (fun _ _ _ h => h) (waits_keep (m := 16) rfl (by simp [Region.binds])) (fun _ _ _ _ _ => trivial) (fun l u => by rw [Array.getElem?_setIfInBounds_ne (by decide)]) ⟨by simp, fun h => (by simp at h)⟩ (.inl ⟨by rfl, fun u hu => ?_⟩) (HS0.out _) ?_
  · first | (go_simp; done) | (go_simp; simp [hu]; done) | (simp [execOp, go_sem, hu]; done)
  refine wpPh.take (i := 1) (v := .pointer (some ⟨q, 0, none⟩)) (T := fun u => True) (I := (fun l => 16 < l.size ∧ (l[16]? = some true → ∀ x ∈ [4, 8, 9], l[x]? = some true))) rfl (by kernel_rfl) (by kernel_rfl) (by kernel_rfl) (fun _ _ _ h => h) (waits_keep (m := 16) rfl (by simp [Region.binds])) (fun _ _ _ _ _ => trivial) (fun l u => by rw [Array.getElem?_setIfInBounds_ne (by decide)]) ⟨by simp, fun h => (by simp at h)⟩ (.inl ⟨by rfl, fun u hu => ?_⟩) (HS0.out _) ?_
  · first | (go_simp; done) | (go_simp; simp [hu]; done) | (simp [execOp, go_sem, hu]; done)
  refine wpPh.take (i := 2) (v := .pointer (some ⟨q, 0, none⟩)) (T := fun u => True) (I := (fun l => 16 < l.size ∧ (l[16]? = some true → ∀ x ∈ [4, 8, 9], l[x]? = some true))) rfl (by kernel_rfl) (by kernel_rfl) (by kernel_rfl) (fun _ _ _ h => h) (waits_keep (m := 16) rfl (by simp [Region.binds])) (fun _ _ _ _ _ => trivial) (fun l u => by rw [Array.getElem?_setIfInBounds_ne (by decide)]) ⟨by simp, fun h => (by simp at h)⟩ (.inl ⟨by rfl, fun u hu => ?_⟩) (HS0.out _) ?_
  · first | (go_simp; done) | (go_simp; simp [hu]; done) | (simp [execOp, go_sem, hu]; done)
  refine wpPh.take (i := 3) (v := .pointer (some ⟨q, 2, none⟩)) (T := fun u => True) (I := (fun l => 16 < l.size ∧ (l[16]? = some true → ∀ x ∈ [4, 8, 9], l[x]? = some true))) rfl (by kernel_rfl) (by kernel_rfl) (by kernel_rfl) (fun _ _ _ h => h) (waits_keep (m := 16) rfl (by simp [Region.binds])) (fun _ _ _ _ _ => trivial) (fun l u => by rw [Array.getElem?_setIfInBounds_ne (by decide)]) ⟨by simp, fun h => (by simp at h)⟩ (.inl ⟨by rfl, fun u hu => ?_⟩) (HS0.out _) ?_
  · first | (go_simp; done) | (go_simp; simp [hu]; done) | (simp [execOp, go_sem, hu]; done)
  refine wpPh.take (i := 4) (v := .slice va ts.length vc) (T := fun u => u.cell? ⟨q, 2, none⟩ = some (.slice va ts.length vc)) (I := (fun l => 16 < l.size ∧ (l[16]? = some true → ∀ x ∈ [4, 8, 9], l[x]? = some true))) rfl (by kernel_rfl) (by kernel_rfl) (by kernel_rfl) (fun _ _ _ h => h) (waits_keep (m := 16) rfl (by simp [Region.binds])) (fun l u hI h0 h => And.left (h (not_yet hI (by simp) h0))) (fun l u => by rw [Array.getElem?_setIfInBounds_ne (by decide)]) ⟨by simp, fun h => (by simp at h)⟩ (.inl ⟨by rfl, fun u hu => ?_⟩) (HS0.out _) ?_
  · first | (go_simp; done) | (go_simp; simp [hu]; done) | (simp [execOp, go_sem, hu]; done)
  refine wpPh.take (i := 5) (v := .pointer (some ⟨q, 0, none⟩)) (T := fun u => True) (I := (fun l => 16 < l.size ∧ (l[16]? = some true → ∀ x ∈ [4, 8, 9], l[x]? = some true))) rfl (by kernel_rfl) (by kernel_rfl) (by kernel_rfl) (fun _ _ _ h => h) (waits_keep (m := 16) rfl (by simp [Region.binds])) (fun _ _ _ _ _ => trivial) (fun l u => by rw [Array.getElem?_setIfInBounds_ne (by decide)]) ⟨by simp, fun h => (by simp at h)⟩ (.inl ⟨by rfl, fun u hu => ?_⟩) (HS0.out _) ?_
  · first | (go_simp; done) | (go_simp; simp [hu]; done) | (simp [execOp, go_sem, hu]; done)
  refine wpPh.take (i := 6) (v := .pointer (some ⟨q, 0, none⟩)) (T := fun u => True) (I := (fun l => 16 < l.size ∧ (l[16]? = some true → ∀ x ∈ [4, 8, 9], l[x]? = some true))) rfl (by kernel_rfl) (by kernel_rfl) (by kernel_rfl) (fun _ _ _ h => h) (waits_keep (m := 16) rfl (by simp [Region.binds])) (fun _ _ _ _ _ => trivial) (fun l u => by rw [Array.getElem?_setIfInBounds_ne (by decide)]) ⟨by simp, fun h => (by simp at h)⟩ (.inl ⟨by rfl, fun u hu => ?_⟩) (HS0.out _) ?_
  · first | (go_simp; done) | (go_simp; simp [hu]; done) | (simp [execOp, go_sem, hu]; done)
  refine wpPh.take (i := 7) (v := .pointer (some ⟨q, 1, none⟩)) (T := fun u => True) (I := (fun l => 16 < l.size ∧ (l[16]? = some true → ∀ x ∈ [4, 8, 9], l[x]? = some true))) rfl (by kernel_rfl) (by kernel_rfl) (by kernel_rfl) (fun _ _ _ h => h) (waits_keep (m := 16) rfl (by simp [Region.binds])) (fun _ _ _ _ _ => trivial) (fun l u => by rw [Array.getElem?_setIfInBounds_ne (by decide)]) ⟨by simp, fun h => (by simp at h)⟩ (.inl ⟨by rfl, fun u hu => ?_⟩) (HS0.out _) ?_
  · first | (go_simp; done) | (go_simp; simp [hu]; done) | (simp [execOp, go_sem, hu]; done)
  refine wpPh.take (i := 8) (v := .int .i64 (nx : Int)) (T := fun u => u.cell? ⟨q, 1, none⟩ = some (.int .i64 (nx : Int))) (I := (fun l => 16 < l.size ∧ (l[16]? = some true → ∀ x ∈ [4, 8, 9], l[x]? = some true))) rfl (by kernel_rfl) (by kernel_rfl) (by kernel_rfl) (fun _ _ _ h => h) (waits_keep (m := 16) rfl (by simp [Region.binds])) (fun l u hI h0 h => (fun h => h.2.1) (h (not_yet hI (by simp) h0))) (fun l u => by rw [Array.getElem?_setIfInBounds_ne (by decide)]) ⟨by simp, fun h => (by simp at h)⟩ (.inl ⟨by rfl, fun u hu => ?_⟩) (HS0.out _) ?_
  · first | (go_simp; done) | (go_simp; simp [hu]; done) | (simp [execOp, go_sem, hu]; done)
  refine wpPh.take (i := 9) (v := .agg #[.int .i64 b, .int .i64 e]) (T := fun u => (u.cell? ⟨P, 0, none⟩ = some (.int .i64 b) ∧ u.cell? ⟨P, 1, none⟩ = some (.int .i64 e))) (I := (fun l => 16 < l.size ∧ (l[16]? = some true → ∀ x ∈ [4, 8, 9], l[x]? = some true))) rfl (by kernel_rfl) (by kernel_rfl) (by kernel_rfl) (fun _ _ _ h => h) (waits_keep (m := 16) rfl (by simp [Region.binds])) (fun l u hI h0 h => (fun h => h.2.2) (h (not_yet hI (by simp) h0))) (fun l u => by rw [Array.getElem?_setIfInBounds_ne (by decide)]) ⟨by simp, fun h => (by simp at h)⟩ (.inl ⟨by rfl, fun u hu => ?_⟩) (HS0.out _) ?_
  · first | (go_simp; done) | (go_simp; simp [hu]; done) | (simp [execOp, go_sem, hu]; done)
  refine wpPh.take (i := 10) (v := .string x) (T := fun u => True) (I := (fun l => 16 < l.size ∧ (l[16]? = some true → ∀ x ∈ [4, 8, 9], l[x]? = some true))) rfl (by kernel_rfl) (by kernel_rfl) (by kernel_rfl) (fun _ _ _ h => h) (waits_keep (m := 16) rfl (by simp [Region.binds])) (fun _ _ _ _ _ => trivial) (fun l u => by rw [Array.getElem?_setIfInBounds_ne (by decide)]) ⟨by simp, fun h => (by simp at h)⟩ (.inl ⟨by rfl, fun u hu => ?_⟩) (HS0.out _) ?_
  · first | (go_simp; done) | (go_simp; simp [hu]; done) | (simp [execOp, go_sem, hu]; done)
  refine wpPh.take (i := 11) (v := .agg #[.int .i64 (nx : Int), .int .i64 b, .int .i64 e, .string x]) (T := fun u => True) (I := (fun l => 16 < l.size ∧ (l[16]? = some true → ∀ x ∈ [4, 8, 9], l[x]? = some true))) rfl (by kernel_rfl) (by kernel_rfl) (by kernel_rfl) (fun _ _ _ h => h) (waits_keep (m := 16) rfl (by simp [Region.binds])) (fun _ _ _ _ _ => trivial) (fun l u => by rw [Array.getElem?_setIfInBounds_ne (by decide)]) ⟨by simp, fun h => (by simp at h)⟩ (.inl ⟨by rfl, fun u hu => ?_⟩) (HS0.out _) ?_
  · first | (go_simp; done) | (go_simp; simp [hu]; done) | (simp [execOp, go_sem, hu]; done)
  refine wpPh.all (rs := [12]) (by kernel_rfl) (by simp) (fun i hmem => ?_)
  obtain rfl : i = 12 := by simpa using hmem
  refine wpOp_go rfl (by rfl) ?_
  unfold Oper.wp
  go_simp
  refine ⟨⟨cell_alloc13 _ c2, cell_alloc13 _ c1, cell_alloc13 _ p0, cell_alloc13 _ p1⟩, ?_⟩
  refine wpPh.all (rs := [13]) (by kernel_rfl) (by simp) (fun i hmem => ?_)
  obtain rfl : i = 13 := by simpa using hmem
  refine wpOp_step (E := False) rfl (by rfl) ?_
  refine step_append_lies (w := (w2.drew.alloc (.cells #[.int .i64 (nx : Int), .int .i64 b, .int .i64 e, .string x] 81))) (by rfl) (.tmp 30) (.tmp 38) 50 (by rfl) 0 81 i0 (.agg #[.int .i64 0, .int .i64 0, .int .i64 0, .string ⟨#[]⟩]) 4 40 Try.underlying50 hi hz0 hz1 hz2 rfl (by decide) (.slice va ts.length vc) ts.length (tgRow ts) (by rfl) HXO.out ⟨w2.heap.size, 0, none⟩ 1 1 (tgCells ⟨nx, b, e, x⟩) (by rfl) rfl HXN.out (by simp [tgCells, Value.oneCell']) (by decide) HNU.out.1 HNU.out.2 (Nat.zero_le _) (w2.heap.size + 1) HXZ.out ?_
  intro g cap w4 hown hg hgg hglt
  have HF := Lib.hid (HFIN.out w4 g cap hown hg hgg hglt)
  obtain ⟨hq4, hp4⟩ := HFAR.out w4 hg
  have hq5 := heap_setCell_same (k := 2) hq4 (.slice (some ⟨g, 0, none⟩) (ts.length + 1) cap)
  obtain ⟨-, t0, t00, f4⟩ := cells_three hq4
  obtain ⟨t1, t2, -⟩ := cells_two hp4
  have f42 := f4 2
  have r0 := (cells_three hq5).2.1
  have f51 := (cells_three hq5).2.2.2 1
  clear hown hg hgg hglt hq4 hp4 hq5 f4 HFIN HFAR c1 c2 p0 p1 c2' HS0
  refine ⟨fun _ => ⟨t00, t0, t1, t2⟩, ?_⟩
  refine wpPh.all (rs := [14]) (by kernel_rfl) (by simp) (fun i hmem => ?_)
  obtain rfl : i = 14 := by simpa using hmem
  refine wpOp_go rfl (by rfl) ?_
  unfold Oper.wp
  go_simp
  refine wpPh.all (rs := [15]) (by kernel_rfl) (by simp) (fun i hmem => ?_)
  obtain rfl : i = 15 := by simpa using hmem
  refine wpOp_go rfl (by rfl) ?_
  unfold Oper.wp
  go_simp
  refine wpPh.all (rs := [16]) (by kernel_rfl) (by simp) (fun i hmem => ?_)
  obtain rfl : i = 16 := by simpa using hmem
  refine wpOp_go rfl (by rfl) ?_
  unfold Oper.wp
  go_simp
  refine wpPh.done (by kernel_rfl) ?_ _
  clear t00 t0 t1 t2 f42
  generalize w4.setCell ⟨q, 2, none⟩ (.slice (some ⟨g, 0, none⟩) (ts.length + 1) cap) = w5 at r0 f51 HF ⊢
  go_wp2
  go_ret
  exact ⟨rfl, HF.out⟩

set_option maxRecDepth 100000 in
set_option maxHeartbeats 1600000 in
theorem hPut_no (F : Nat → Prop) (q most nx : Nat) (ts : List Tg) (v : Value) (b e : Int) (x : ByteArray) (w : World) (h : ShAt w F q most nx ts v) (he : putE most ts b e ≠ 0) :
    Calls Try.prog 12 #[.pointer (some ⟨q, 0, none⟩), .agg #[.int .i64 b, .int .i64 e], .string x] w fun r w' => r = .returned (.int .i64 (putE most ts b e)) ∧ Below w.heap.size w w' := by
  obtain ⟨va, vc, rfl⟩ := h.slice
  obtain ⟨P, hP⟩ : ∃ P, P = w.heap.size := ⟨_, rfl⟩
  obtain ⟨W, hW⟩ : ∃ W, W = w.alloc (.cells #[.int .i64 b, .int .i64 e] 32) := ⟨_, rfl⟩
  have hb0 : Below w.heap.size w W := by rw [hW]; exact (Below.refl _ _).alloc (Nat.le_refl _) _
  have hpW : W.heap[P]? = some (.cells #[.int .i64 b, .int .i64 e] 32 (0, 0)) := by rw [hW, hP]; exact heap_alloc_new w _
  have hPl : P < W.heap.size := lt_of_block hpW
  have hW1 := h.below hb0
  have hC1 := hIsMade_any q most W (cells_three hW1.blk).1
  rw [decide_eq_true (by have := h.m1; omega : 0 < most)] at hC1
  have hC2 := hIsSpan_any b e W
  have hsw : w.heap.size ≤ W.heap.size := hb0.size
  have HC1 := Lib.hid hC1; have HW := Lib.hid hW; have HP := Lib.hid hP; have HH := Lib.hid h
  have HU : Hid (∀ u, Below W.heap.size W u → ShAt u F q most nx ts (.slice va ts.length vc) ∧ u.heap[P]? = some (.cells #[.int .i64 b, .int .i64 e] 32 (0, 0)) ∧ Below w.heap.size w u) := Lib.hid (fun u hu => ⟨hW1.below hu, (hu.block P hPl).trans hpW, hb0.trans (hu.mono hb0.size)⟩)
  obtain ⟨p0, p1, -⟩ := cells_two hpW
  cases hs : spB b e with
  | false =>
    rw [putE_span hs]
    rw [hs] at hC2
    have HC2 := Lib.hid hC2
    clear hC1 hC2 hW hP hs h hb0 hpW hPl hW1 he hsw
    go_enter Try.func12, Try.ntmps12
    go_wp2_with fail
    rw [← HW.out, ← HP.out]
    go_wp2_with (first
      | (go_at_call 42; (with_reducible refine (HC1.out).mono ?_); rintro r w1 ⟨rfl, rfl⟩)
      | (go_at_call 43; (with_reducible refine (HC2.out).mono ?_); rintro r w1 ⟨rfl, hb1⟩; have HB := Lib.hid (HU.out w1 hb1).2.2; clear hb1))
    go_ret
    exact ⟨rfl, HB.out⟩
  | true =>
    have hl : most ≤ ts.length := by
      rcases Nat.lt_or_ge ts.length most with h1 | h1
      · exact absurd (putE_ok hs h1) he
      · exact h1
    rw [putE_full hs hl]
    rw [hs] at hC2
    have HC2 := Lib.hid hC2
    clear hC1 hC2 hW hP hs h hb0 hpW hPl hW1 he hsw
    go_enter Try.func12, Try.ntmps12
    go_wp2_with fail
    rw [← HW.out, ← HP.out]
    go_wp2_with (first
      | (go_at_call 42; (with_reducible refine (HC1.out).mono ?_); rintro r w1 ⟨rfl, rfl⟩)
      | (go_at_call 43; (with_reducible refine (HC2.out).mono ?_); rintro r w1 ⟨rfl, hb1⟩; have c0 := (cells_three (HU.out w1 hb1).1.blk).1; have c2 := (cells_three (HU.out w1 hb1).1.blk).2.2.1; have HB := Lib.hid (HU.out w1 hb1).2.2; clear hb1))
    go_quiet (fail)
    go_wp2
    go_ret
    exact ⟨rfl, ⟨HB.out.os, HB.out.tape, HB.out.output, HB.out.size, HB.out.block⟩⟩

/-- Put of a shelf that a call made. -/
theorem hPut_any (F : Nat → Prop) (q most nx : Nat) (ts : List Tg) (b e : Int) (x : ByteArray) (w : World) (h : ShIs w F q most nx ts) (hnx : nx < 4611686018427387904) :
    Calls Try.prog 12 #[.pointer (some ⟨q, 0, none⟩), .agg #[.int .i64 b, .int .i64 e], .string x] w fun r w' => r = .returned (.int .i64 (putE most ts b e)) ∧ ShIs w' (grF F w w') q most (putN most nx ts b e) (putL most nx ts b e x) ∧ Chg F w w' := by
  obtain ⟨v, hv⟩ := h
  by_cases he : putE most ts b e = 0
  · rw [(putL_ok he).1, (putL_ok (x := x) he).2, he]
    cases hs : spB b e with
    | false => rw [putE_span hs] at he; cases he
    | true =>
      rcases Nat.lt_or_ge ts.length most with h1 | h1
      · exact hPut_ok F q most nx ts v b e x w hv hs h1 hnx
      · rw [putE_full hs h1] at he; cases he
  · rw [(putL_no he).1, (putL_no (x := x) he).2]
    exact (hPut_no F q most nx ts v b e x w hv he).mono fun r w' h => ⟨h.1, ShIs.grow (w0 := w) ⟨v, hv.below h.2⟩ hv.flt h.2.size, Chg.of_below h.2⟩

set_option maxRecDepth 100000 in
set_option maxHeartbeats 1600000 in
theorem r13Put_ok (F : Nat → Prop) (q most : Nat) (ts : List Tg) (v : Value) (t : Tg) (w : World) (h : RsAt w F q most ts v) (hs : spB t.beg t.fin = true) (hl : ts.length < most) :
    Calls Try.prog 30 #[.pointer (some ⟨q, 0, none⟩), .agg #[.int .i64 t.beg, .int .i64 t.fin], .string t.txt] w fun r w' => r = .returned (.int .i64 0) ∧ RsIs w' (grF F w w') q most (ts ++ [t]) ∧ Chg F w w' := by
  obtain ⟨i0, hi, hz0, hz1, hz2⟩ := info_parts13 infoRThg
  obtain ⟨va, vc, rfl⟩ := h.slice
  obtain ⟨P, hP⟩ : ∃ P, P = w.heap.size := ⟨_, rfl⟩
  obtain ⟨W, hW⟩ : ∃ W, W = w.alloc (.cells #[.int .i64 t.beg, .int .i64 t.fin] 32) := ⟨_, rfl⟩
  have hb0 : Below w.heap.size w W := by rw [hW]; exact (Below.refl _ _).alloc (Nat.le_refl _) _
  have hpW : W.heap[P]? = some (.cells #[.int .i64 t.beg, .int .i64 t.fin] 32 (0, 0)) := by rw [hW, hP]; exact heap_alloc_new w _
  have hPl : P < W.heap.size := lt_of_block hpW
  have hW1 := h.below hb0
  have hs' := hs
  unfold spB at hs'
  simp only [Bool.and_eq_true, decide_eq_true_eq] at hs'
  have d1 : decide (t.beg < 0) = false := by simp; omega
  have d2 : decide (t.fin < t.beg) = false := by simp; omega
  have d3 : decide (t.fin > 1099511627776) = false := by simp; omega
  have d4 : ¬ most ≤ ts.length := by omega
  have HW := Lib.hid hW; have HP := Lib.hid hP; have HL := Lib.hid hl; have HH := Lib.hid h
  have HM2 := Lib.hid h.m2
  have HU : Hid (∀ u, Below W.heap.size W u → RsAt u F q most ts (.slice va ts.length vc) ∧ u.heap[P]? = some (.cells #[.int .i64 t.beg, .int .i64 t.fin] 32 (0, 0)) ∧ Below w.heap.size w u) := Lib.hid (fun u hu => ⟨hW1.below hu, (hu.block P hPl).trans hpW, hb0.trans (hu.mono hb0.size)⟩)
  obtain ⟨p0, p1, -⟩ := cells_two hpW
  obtain ⟨c0, c1, -⟩ := cells_two hW1.blk
  clear hW hP hl h hb0 hpW hPl hW1 hs hs'
  go_enter Try.func30, Try.ntmps30
  go_wp2_with fail
  rw [← HW.out, ← HP.out]
  go_wp2
  go_quiet (fail)
  have hb2 : Below W.heap.size W (W.drewN nq) := ⟨rfl, rfl, rfl, Nat.le_refl _, fun _ _ => rfl⟩
  clear p0 p1 c0 c1
  generalize W.drewN nq = w2 at hb2 ⊢
  obtain ⟨h2, hp2, hbw⟩ := HU.out w2 hb2
  obtain ⟨p0, p1, -⟩ := cells_two hp2
  obtain ⟨c0, c1, -⟩ := cells_two h2.blk
  have hPl : P < w2.heap.size := lt_of_block hp2
  have hql := h2.flt q h2.fq
  have hbX : Below w2.heap.size w2 (w2.drew.alloc (.cells #[.int .i64 t.beg, .int .i64 t.fin, .string t.txt] 47)) := ((Below.refl _ _).drew).alloc (Nat.le_refl _) _
  have HXO := Lib.hid (h2.below hbX).own
  have HXN := Lib.hid (World.news_of_block (w := (w2.drew.alloc (.cells #[.int .i64 t.beg, .int .i64 t.fin, .string t.txt] 47))) (B := w2.heap.size) (cs := #[.int .i64 t.beg, .int .i64 t.fin, .string t.txt]) (t := 47) (fr := (0, 0)) (heap_alloc_new _ _))
  have HXZ : Hid ((w2.drew.alloc (.cells #[.int .i64 t.beg, .int .i64 t.fin, .string t.txt] 47)).heap.size = w2.heap.size + 1) := by unfold Hid; simp
  have HNU : Hid (ts.length + 1 ≤ maxLen ∧ (ts.length + 1) * 32 ≤ 140737488355328) := by have := HM2.out; have := HL.out; unfold Hid maxLen; omega
  have HFIN := Lib.hid (fun (w4 : World) (g cap : Nat) (h1 : w4.ownsRow 0 47 3 (.slice (some ⟨g, 0, none⟩) (ts.length + 1) cap) (ts.length + 1) (dgRow ts ++ dgCells t)) (h2' : (w2.drew.alloc (.cells #[.int .i64 t.beg, .int .i64 t.fin, .string t.txt] 47)).grownBy w4 (Value.slice va ts.length vc).ownBlock) (h3 : (Value.slice va ts.length vc).ownBlock = some g ∨ g = w2.heap.size + 1) (h4 : g < w4.heap.size) => HH.out.put (t := t) (hbw.trans (hbX.mono hbw.size)) HL.out h1 h2' (by rw [HXZ.out]; exact h3) h4)
  have HFAR : Hid (∀ w4, (w2.drew.alloc (.cells #[.int .i64 t.beg, .int .i64 t.fin, .string t.txt] 47)).grownBy w4 (Value.slice va ts.length vc).ownBlock → w4.heap[q]? = some (.cells #[.slice va ts.length vc, .int .i64 (most : Int)] 74 (0, 0)) ∧ w4.heap[P]? = some (.cells #[.int .i64 t.beg, .int .i64 t.fin] 32 (0, 0))) := Lib.hid (fun w4 hg => by
    have hz := HXZ.out
    refine ⟨(hg.block q (by omega) (fun e => (h2.fv q e.symm).2 rfl)).trans ((hbX.block q hql).trans h2.blk), (hg.block P (by omega) (fun e => ?_)).trans ((hbX.block P hPl).trans hp2)⟩
    have h3 := HH.out.flt P (h2.fv P e.symm).1
    have h4 := HP.out
    omega)
  clear hp2 hbw h2 hb2 hbX HU hPl hql c1
  go_wp2
  have HS0 : Hid (∀ l : Array Bool, l[12]? = some false → (w2.drew.cell? ⟨q, 0, none⟩ = some (.slice va ts.length vc) ∧ w2.drew.cell? ⟨P, 0, none⟩ = some (.int .i64 t.beg) ∧ w2.drew.cell? ⟨P, 1, none⟩ = some (.int .i64 t.fin))) := Lib.hid (fun _ _ => ⟨c0, p0, p1⟩)
  refine wp_region_ph (S := (fun (l : Array Bool) (u : World) => l[12]? = some false → (u.cell? ⟨q, 0, none⟩ = some (.slice va ts.length vc) ∧ u.cell? ⟨P, 0, none⟩ = some (.int .i64 t.beg) ∧ u.cell? ⟨P, 1, none⟩ = some (.int .i64 t.fin)))) (by rfl) ?_
  change wpPh _ _ _ _ _ 13 _ _ w2.drew
  refine wpPh.take (i := 0) (v := .pointer (some ⟨q, 0, none⟩)) (T := fun u => True) (I := (fun l => 12 < l.size ∧ (l[12]? = some true → ∀ x ∈ [4, 5], l[x]? = some true))) rfl (by kernel_rfl) (by kernel_rfl) (by kernel_rfl) (fun _ _ _ h => h) (waits_keep (m := 12) rfl (by simp [Region.binds])) (fun _ _ _ _ _ => trivial) (fun l u => by rw [Array.getElem?_setIfInBounds_ne (by decide)]) ⟨by simp, fun h => (by simp at h)⟩ (.inl ⟨by rfl, fun u hu => ?_⟩) (HS0.out _) ?_
  · first | (go_simp; done) | (go_simp; simp [hu]; done) | (simp [execOp, go_sem, hu]; done)
  refine wpPh.take (i := 1) (v := .pointer (some ⟨q, 0, none⟩)) (T := fun u => True) (I := (fun l => 12 < l.size ∧ (l[12]? = some true → ∀ x ∈ [4, 5], l[x]? = some true))) rfl (by kernel_rfl) (by kernel_rfl) (by kernel_rfl) (fun _ _ _ h => h) (waits_keep (m := 12) rfl (by simp [Region.binds])) (fun _ _ _ _ _ => trivial) (fun l u => by rw [Array.getElem?_setIfInBounds_ne (by decide)]) ⟨by simp, fun h => (by simp at h)⟩ (.inl ⟨by rfl, fun u hu => ?_⟩) (HS0.out _) ?_
  · first | (go_simp; done) | (go_simp; simp [hu]; done) | (simp [execOp, go_sem, hu]; done)
  refine wpPh.take (i := 2) (v := .pointer (some ⟨q, 0, none⟩)) (T := fun u => True) (I := (fun l => 12 < l.size ∧ (l[12]? = some true → ∀ x ∈ [4, 5], l[x]? = some true))) rfl (by kernel_rfl) (by kernel_rfl) (by kernel_rfl) (fun _ _ _ h => h) (waits_keep (m := 12) rfl (by simp [Region.binds])) (fun _ _ _ _ _ => trivial) (fun l u => by rw [Array.getElem?_setIfInBounds_ne (by decide)]) ⟨by simp, fun h => (by simp at h)⟩ (.inl ⟨by rfl, fun u hu => ?_⟩) (HS0.out _) ?_
  · first | (go_simp; done) | (go_simp; simp [hu]; done) | (simp [execOp, go_sem, hu]; done)
  refine wpPh.take (i := 3) (v := .pointer (some ⟨q, 0, none⟩)) (T := fun u => True) (I := (fun l => 12 < l.size ∧ (l[12]? = some true → ∀ x ∈ [4, 5], l[x]? = some true))) rfl (by kernel_rfl) (by kernel_rfl) (by kernel_rfl) (fun _ _ _ h => h) (waits_keep (m := 12) rfl (by simp [Region.binds])) (fun _ _ _ _ _ => trivial) (fun l u => by rw [Array.getElem?_setIfInBounds_ne (by decide)]) ⟨by simp, fun h => (by simp at h)⟩ (.inl ⟨by rfl, fun u hu => ?_⟩) (HS0.out _) ?_
  · first | (go_simp; done) | (go_simp; simp [hu]; done) | (simp [execOp, go_sem, hu]; done)
  refine wpPh.take (i := 4) (v := .slice va ts.length vc) (T := fun u => u.cell? ⟨q, 0, none⟩ = some (.slice va ts.length vc)) (I := (fun l => 12 < l.size ∧ (l[12]? = some true → ∀ x ∈ [4, 5], l[x]? = some true))) rfl (by kernel_rfl) (by kernel_rfl) (by kernel_rfl) (fun _ _ _ h => h) (waits_keep (m := 12) rfl (by simp [Region.binds])) (fun l u hI h0 h => And.left (h (not_yet hI (by simp) h0))) (fun l u => by rw [Array.getElem?_setIfInBounds_ne (by decide)]) ⟨by simp, fun h => (by simp at h)⟩ (.inl ⟨by rfl, fun u hu => ?_⟩) (HS0.out _) ?_
  · first | (go_simp; done) | (go_simp; simp [hu]; done) | (simp [execOp, go_sem, hu]; done)
  refine wpPh.take (i := 5) (v := .agg #[.int .i64 t.beg, .int .i64 t.fin]) (T := fun u => (u.cell? ⟨P, 0, none⟩ = some (.int .i64 t.beg) ∧ u.cell? ⟨P, 1, none⟩ = some (.int .i64 t.fin))) (I := (fun l => 12 < l.size ∧ (l[12]? = some true → ∀ x ∈ [4, 5], l[x]? = some true))) rfl (by kernel_rfl) (by kernel_rfl) (by kernel_rfl) (fun _ _ _ h => h) (waits_keep (m := 12) rfl (by simp [Region.binds])) (fun l u hI h0 h => (fun h => h.2) (h (not_yet hI (by simp) h0))) (fun l u => by rw [Array.getElem?_setIfInBounds_ne (by decide)]) ⟨by simp, fun h => (by simp at h)⟩ (.inl ⟨by rfl, fun u hu => ?_⟩) (HS0.out _) ?_
  · first | (go_simp; done) | (go_simp; simp [hu]; done) | (simp [execOp, go_sem, hu]; done)
  refine wpPh.take (i := 6) (v := .string t.txt) (T := fun u => True) (I := (fun l => 12 < l.size ∧ (l[12]? = some true → ∀ x ∈ [4, 5], l[x]? = some true))) rfl (by kernel_rfl) (by kernel_rfl) (by kernel_rfl) (fun _ _ _ h => h) (waits_keep (m := 12) rfl (by simp [Region.binds])) (fun _ _ _ _ _ => trivial) (fun l u => by rw [Array.getElem?_setIfInBounds_ne (by decide)]) ⟨by simp, fun h => (by simp at h)⟩ (.inl ⟨by rfl, fun u hu => ?_⟩) (HS0.out _) ?_
  · first | (go_simp; done) | (go_simp; simp [hu]; done) | (simp [execOp, go_sem, hu]; done)
  refine wpPh.take (i := 7) (v := .agg #[.int .i64 t.beg, .int .i64 t.fin, .string t.txt]) (T := fun u => True) (I := (fun l => 12 < l.size ∧ (l[12]? = some true → ∀ x ∈ [4, 5], l[x]? = some true))) rfl (by kernel_rfl) (by kernel_rfl) (by kernel_rfl) (fun _ _ _ h => h) (waits_keep (m := 12) rfl (by simp [Region.binds])) (fun _ _ _ _ _ => trivial) (fun l u => by rw [Array.getElem?_setIfInBounds_ne (by decide)]) ⟨by simp, fun h => (by simp at h)⟩ (.inl ⟨by rfl, fun u hu => ?_⟩) (HS0.out _) ?_
  · first | (go_simp; done) | (go_simp; simp [hu]; done) | (simp [execOp, go_sem, hu]; done)
  refine wpPh.all (rs := [8]) (by kernel_rfl) (by simp) (fun i hmem => ?_)
  obtain rfl : i = 8 := by simpa using hmem
  refine wpOp_go rfl (by rfl) ?_
  unfold Oper.wp
  go_simp
  refine ⟨⟨cell_alloc13 _ c0, cell_alloc13 _ p0, cell_alloc13 _ p1⟩, ?_⟩
  refine wpPh.all (rs := [9]) (by kernel_rfl) (by simp) (fun i hmem => ?_)
  obtain rfl : i = 9 := by simpa using hmem
  refine wpOp_step (E := False) rfl (by rfl) ?_
  refine step_append_lies (w := (w2.drew.alloc (.cells #[.int .i64 t.beg, .int .i64 t.fin, .string t.txt] 47))) (by rfl) (.tmp 36) (.tmp 40) 42 (by rfl) 0 47 i0 (.agg #[.int .i64 0, .int .i64 0, .string ⟨#[]⟩]) 3 32 Try.underlying42 hi hz0 hz1 hz2 rfl (by decide) (.slice va ts.length vc) ts.length (dgRow ts) (by rfl) HXO.out ⟨w2.heap.size, 0, none⟩ 1 1 (dgCells t) (by rfl) rfl HXN.out (by simp [dgCells, Value.oneCell']) (by decide) HNU.out.1 HNU.out.2 (Nat.zero_le _) (w2.heap.size + 1) HXZ.out ?_
  intro g cap w4 hown hg hgg hglt
  have HF := Lib.hid (HFIN.out w4 g cap hown hg hgg hglt)
  obtain ⟨hq4, hp4⟩ := HFAR.out w4 hg
  obtain ⟨t00, -, f4⟩ := cells_two hq4
  obtain ⟨t1, t2, -⟩ := cells_two hp4
  have f42 := f4 0
  clear hown hg hgg hglt hq4 hp4 f4 HFIN HFAR c0 p0 p1 HS0
  refine ⟨fun _ => ⟨t00, t1, t2⟩, ?_⟩
  refine wpPh.all (rs := [10]) (by kernel_rfl) (by simp) (fun i hmem => ?_)
  obtain rfl : i = 10 := by simpa using hmem
  refine wpOp_go rfl (by rfl) ?_
  unfold Oper.wp
  go_simp
  refine wpPh.all (rs := [11]) (by kernel_rfl) (by simp) (fun i hmem => ?_)
  obtain rfl : i = 11 := by simpa using hmem
  refine wpOp_go rfl (by rfl) ?_
  unfold Oper.wp
  go_simp
  refine wpPh.all (rs := [12]) (by kernel_rfl) (by simp) (fun i hmem => ?_)
  obtain rfl : i = 12 := by simpa using hmem
  refine wpOp_go rfl (by rfl) ?_
  unfold Oper.wp
  go_simp
  refine wpPh.done (by kernel_rfl) ?_ _
  clear t00 t1 t2 f42
  generalize w4.setCell ⟨q, 0, none⟩ (.slice (some ⟨g, 0, none⟩) (ts.length + 1) cap) = w5 at HF ⊢
  go_wp2
  go_ret
  exact ⟨rfl, HF.out⟩

set_option maxRecDepth 100000 in
set_option maxHeartbeats 1600000 in
theorem r13Put_no (F : Nat → Prop) (q most : Nat) (ts : List Tg) (v : Value) (b e : Int) (x : ByteArray) (w : World) (h : RsAt w F q most ts v) (he : putE most ts b e ≠ 0) :
    Calls Try.prog 30 #[.pointer (some ⟨q, 0, none⟩), .agg #[.int .i64 b, .int .i64 e], .string x] w fun r w' => r = .returned (.int .i64 (putE most ts b e)) ∧ Below w.heap.size w w' := by
  obtain ⟨va, vc, rfl⟩ := h.slice
  obtain ⟨P, hP⟩ : ∃ P, P = w.heap.size := ⟨_, rfl⟩
  obtain ⟨W, hW⟩ : ∃ W, W = w.alloc (.cells #[.int .i64 b, .int .i64 e] 32) := ⟨_, rfl⟩
  have hb0 : Below w.heap.size w W := by rw [hW]; exact (Below.refl _ _).alloc (Nat.le_refl _) _
  have hpW : W.heap[P]? = some (.cells #[.int .i64 b, .int .i64 e] 32 (0, 0)) := by rw [hW, hP]; exact heap_alloc_new w _
  have hPl : P < W.heap.size := lt_of_block hpW
  have hW1 := h.below hb0
  have HW := Lib.hid hW; have HP := Lib.hid hP; have HB := Lib.hid hb0
  obtain ⟨p0, p1, -⟩ := cells_two hpW
  obtain ⟨c0, c1, -⟩ := cells_two hW1.blk
  cases hs : spB b e with
  | false =>
    rw [putE_span hs]
    have hs' := hs
    unfold spB at hs'
    by_cases k1 : b < 0
    · have d1 : decide (b < 0) = true := by simpa using k1
      clear hW hP h hb0 hpW hPl hW1 he hs' k1 hs
      go_enter Try.func30, Try.ntmps30
      go_wp2_with fail
      rw [← HW.out, ← HP.out]
      go_wp2
      go_ret
      exact ⟨rfl, by rw [HP.out]; exact HB.out⟩
    · by_cases k2 : e < b
      · have d1 : decide (b < 0) = false := by simpa using k1
        have d2 : decide (e < b) = true := by simpa using k2
        clear hW hP h hb0 hpW hPl hW1 he hs' k1 k2 hs
        go_enter Try.func30, Try.ntmps30
        go_wp2_with fail
        rw [← HW.out, ← HP.out]
        go_wp2
        go_ret
        exact ⟨rfl, by rw [HP.out]; exact HB.out⟩
      · have d1 : decide (b < 0) = false := by simpa using k1
        have d2 : decide (e < b) = false := by simpa using k2
        have d3 : decide (e > 1099511627776) = true := by
          rw [decide_eq_true_eq]
          rw [show decide (0 ≤ b) = true by simp; omega, show decide (b ≤ e) = true by simp; omega] at hs'
          simp at hs'; omega
        clear hW hP h hb0 hpW hPl hW1 he hs' k1 k2 hs
        go_enter Try.func30, Try.ntmps30
        go_wp2_with fail
        rw [← HW.out, ← HP.out]
        go_wp2
        go_ret
        exact ⟨rfl, by rw [HP.out]; exact HB.out⟩
  | true =>
    have hl : most ≤ ts.length := by
      rcases Nat.lt_or_ge ts.length most with h1 | h1
      · exact absurd (putE_ok hs h1) he
      · exact h1
    rw [putE_full hs hl]
    have hs' := hs
    unfold spB at hs'
    simp only [Bool.and_eq_true, decide_eq_true_eq] at hs'
    have d1 : decide (b < 0) = false := by simp; omega
    have d2 : decide (e < b) = false := by simp; omega
    have d3 : decide (e > 1099511627776) = false := by simp; omega
    clear hW hP h hb0 hpW hPl hW1 he hs' hs
    go_enter Try.func30, Try.ntmps30
    go_wp2_with fail
    rw [← HW.out, ← HP.out]
    go_wp2
    go_quiet (fail)
    go_wp2
    go_ret
    exact ⟨rfl, ⟨HB.out.os, HB.out.tape, HB.out.output, HB.out.size, HB.out.block⟩⟩
/-- The document's Put; its things may have any numbers. -/
theorem r13Put_any (F : Nat → Prop) (q most nx : Nat) (ts : List Tg) (b e : Int) (x : ByteArray) (w : World) (h : RsIs w F q most ts) :
    Calls Try.prog 30 #[.pointer (some ⟨q, 0, none⟩), .agg #[.int .i64 b, .int .i64 e], .string x] w fun r w' => r = .returned (.int .i64 (putE most ts b e)) ∧ RsIs w' (grF F w w') q most (putL most nx ts b e x) ∧ Chg F w w' := by
  obtain ⟨v, hv⟩ := h
  by_cases he : putE most ts b e = 0
  · rw [(putL_ok he).1, he]
    cases hs : spB b e with
    | false => rw [putE_span hs] at he; cases he
    | true =>
      rcases Nat.lt_or_ge ts.length most with h1 | h1
      · exact r13Put_ok F q most ts v ⟨nx, b, e, x⟩ w hv hs h1
      · rw [putE_full hs h1] at he; cases he
  · rw [(putL_no he).1]
    exact (r13Put_no F q most ts v b e x w hv he).mono fun r w' h => ⟨h.1, RsIs.grow (w0 := w) ⟨v, hv.below h.2⟩ hv.flt h.2.size, Chg.of_below h.2⟩
end Go.Proofs.Ytehdimaihkckkaa
