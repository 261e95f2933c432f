/- Shelves: what they are in memory, the program's and the document's; the contracts of their small calls. -/
import Derived.Test.YtehdimaihkckkaaChg6
import Derived.Test.YtehdimaihkckkaaRows
import Derived.WalkKit
import Derived.Outline
import Derived.Laws.OwnMore
import Derived.Deep.QuietTactic
import Derived.BigQuiet
import Derived.Deep.RegionHeld3
import Derived.Deep.AppendLies
import Derived.IntWalk
import Derived.Lib.Hide
import Derived.Lib.QuietBelow
namespace Go.Proofs.Ytehdimaihkckkaa
open Go Go.RowKit

/-- A thing of a shelf: its number, its span, its text. -/
structure Tg where
  num : Int
  beg : Int
  fin : Int
  txt : ByteArray
  deriving DecidableEq, Inhabited
def tgCells (t : Tg) : List Value := [.int .i64 t.num, .int .i64 t.beg, .int .i64 t.fin, .string t.txt]
def dgCells (t : Tg) : List Value := [.int .i64 t.beg, .int .i64 t.fin, .string t.txt]
def tgV (t : Tg) : Value := .agg #[.int .i64 t.num, .int .i64 t.beg, .int .i64 t.fin, .string t.txt]
def dgV (t : Tg) : Value := .agg #[.int .i64 t.beg, .int .i64 t.fin, .string t.txt]
def tgRow (ts : List Tg) : List Value := ts.flatMap tgCells
def dgRow (ts : List Tg) : List Value := ts.flatMap dgCells
theorem flat_len {α : Type} (f : α → List Value) (n : Nat) (hf : ∀ x, (f x).length = n) (ts : List α) : (ts.flatMap f).length = ts.length * n := by
  induction ts with
  | nil => simp
  | cons x r ih => rw [List.flatMap_cons, List.length_append, ih, hf, List.length_cons, Nat.add_mul]; omega
theorem flat_at {α : Type} [Inhabited α] (f : α → List Value) (n : Nat) (hf : ∀ x, (f x).length = n) (ts : List α) (j i : Nat) (hj : j < ts.length) (u : Value) (h : (f ts[j]!)[i]? = some u) : (ts.flatMap f)[j * n + i]? = some u := by
  induction ts generalizing j with
  | nil => simp at hj
  | cons x r ih =>
    cases j with
    | zero =>
      have hi : i < n := by have := (List.getElem?_eq_some_iff.1 h).1; rwa [hf] at this
      rw [List.flatMap_cons, Nat.zero_mul, Nat.zero_add, List.getElem?_append_left (by rw [hf]; omega)]
      simpa using h
    | succ j =>
      rw [List.flatMap_cons, List.getElem?_append_right (by rw [hf, Nat.add_mul]; omega), hf, show (j + 1) * n + i - n = j * n + i by rw [Nat.add_mul]; omega]
      exact ih j (by simpa using hj) (by simpa using h)
theorem tgRow_len (ts : List Tg) : (tgRow ts).length = ts.length * 4 := flat_len tgCells 4 (fun _ => rfl) ts
theorem dgRow_len (ts : List Tg) : (dgRow ts).length = ts.length * 3 := flat_len dgCells 3 (fun _ => rfl) ts
theorem tgRow_app (ts : List Tg) (t : Tg) : tgRow (ts ++ [t]) = tgRow ts ++ tgCells t := by simp [tgRow, List.flatMap_append]
theorem dgRow_app (ts : List Tg) (t : Tg) : dgRow (ts ++ [t]) = dgRow ts ++ dgCells t := by simp [dgRow, List.flatMap_append]
theorem tgRow_one (ts : List Tg) : ∀ u ∈ tgRow ts, u.oneCell' = true := fun u hu => by
  obtain ⟨t, _, h⟩ := List.mem_flatMap.1 hu
  simp only [tgCells, List.mem_cons, List.not_mem_nil, or_false] at h
  rcases h with rfl | rfl | rfl | rfl <;> rfl
theorem dgRow_one (ts : List Tg) : ∀ u ∈ dgRow ts, u.oneCell' = true := fun u hu => by
  obtain ⟨t, _, h⟩ := List.mem_flatMap.1 hu
  simp only [dgCells, List.mem_cons, List.not_mem_nil, or_false] at h
  rcases h with rfl | rfl | rfl <;> rfl
theorem take_one {α : Type} [Inhabited α] {bs : List α} {k : Nat} (hk : k < bs.length) : bs.take (k + 1) = bs.take k ++ [bs[k]!] := by
  rw [List.take_succ_eq_append_getElem hk, getElem!_pos bs k hk]
theorem txt_beq (a b : ByteArray) : (a.toList == b.toList) = decide (a = b) := by
  rw [Bool.eq_iff_iff, beq_iff_eq, decide_eq_true_eq]
  constructor
  · intro h
    cases a; cases b
    rw [ByteArray.toList_eq, ByteArray.toList_eq] at h
    simp at h
    rw [h]
  · rintro rfl; rfl

theorem own_slice {w : World} {B e size n : Nat} {v : Value} {xs : List Value} (h : w.ownsRow B e size v n xs) : ∃ ao cap, v = .slice ao n cap := by
  rcases h.2 with ⟨rfl, rfl⟩ | ⟨g, cap, cur, rfl, _⟩
  · exact ⟨none, 0, rfl⟩
  · exact ⟨_, cap, rfl⟩
theorem heap_alloc_at {w : World} {ob o : Obj} {q : Nat} (hq : q = w.heap.size) (h : ob = o) : (w.alloc o).heap[q]? = some ob := by
  subst hq h; exact heap_alloc_new w _
theorem cells_one0 {w : World} {q : Nat} {c0 : Value} {t : Nat} (h : w.heap[q]? = some (.cells #[c0] t (0, 0))) : w.cell? ⟨q, 0, none⟩ = some c0 := by simp [World.cell?, h]
theorem free1 {w : World} {q t : Nat} {c : Value} (h : w.heap[q]? = some (.cells #[c] t (0, 0))) : w.frozen? ⟨q, 0, none⟩ = false := by simp [World.frozen?, h]
theorem set1 {w : World} {q t : Nat} {c : Value} (h : w.heap[q]? = some (.cells #[c] t (0, 0))) (u : Value) : (w.setCell ⟨q, 0, none⟩ u).heap[q]? = some (.cells #[u] t (0, 0)) := by
  have := heap_setCell_same (k := 0) h u; simpa using this

theorem cell_alloc13 {W : World} {a : Addr} {v : Value} (o : Obj) (h : W.cell? a = some v) : (W.alloc o).cell? a = some v := by
  rw [World.cell?_of_block (w := W) (Below.heap_alloc _ _ _ (World.block_lt_of_cell? _ _ h))]; exact h

/-- Whether a span may be. -/
def spB (b e : Int) : Bool := decide (0 ≤ b) && (decide (b ≤ e) && decide (e ≤ 1099511627776))
/-- F, and what was laid from w to w'. -/
def grF (F : Nat → Prop) (w w' : World) (k : Nat) : Prop := F k ∨ (w.heap.size ≤ k ∧ k < w'.heap.size)

/-- In w the block q is a shelf for `most` things, the next of number nx; the things ts lie in the row v. F has all its blocks. -/
structure ShAt (w : World) (F : Nat → Prop) (q most nx : Nat) (ts : List Tg) (v : Value) : Prop where
  fq : F q
  flt : ∀ b, F b → b < w.heap.size
  m1 : 1 ≤ most
  m2 : most ≤ 16384
  len : ts.length ≤ most
  num : (ts.map Tg.num).Pairwise (· < ·)
  numlt : ∀ t ∈ ts, t.num < (nx : Int)
  may : ∀ t ∈ ts, spB t.beg t.fin = true
  blk : w.heap[q]? = some (.cells #[.int .i64 (most : Int), .int .i64 (nx : Int), v] 52 (0, 0))
  own : w.ownsRow 0 81 4 v ts.length (tgRow ts)
  fv : ∀ g, v.ownBlock = some g → F g ∧ g ≠ q
def ShIs (w : World) (F : Nat → Prop) (q most nx : Nat) (ts : List Tg) : Prop := ∃ v, ShAt w F q most nx ts v
/-- The document's: the same things, without their numbers. -/
structure RsAt (w : World) (F : Nat → Prop) (q most : Nat) (ts : List Tg) (v : Value) : Prop where
  fq : F q
  flt : ∀ b, F b → b < w.heap.size
  m2 : most ≤ 16384
  len : ts.length ≤ most
  blk : w.heap[q]? = some (.cells #[v, .int .i64 (most : Int)] 74 (0, 0))
  own : w.ownsRow 0 47 3 v ts.length (dgRow ts)
  fv : ∀ g, v.ownBlock = some g → F g ∧ g ≠ q
def RsIs (w : World) (F : Nat → Prop) (q most : Nat) (ts : List Tg) : Prop := ∃ v, RsAt w F q most ts v

theorem own_chg {G : Nat → Prop} {w w' : World} {base e size n : Nat} {v : Value} {xs : List Value} (h : w.ownsRow base e size v n xs) (hc : Chg G w w') (hd : ∀ g, v.ownBlock = some g → ¬ G g) : w'.ownsRow base e size v n xs := by
  refine ⟨h.1, h.2.imp id ?_⟩
  rintro ⟨g, cap, cur, h1, h2, h3, h4⟩
  exact ⟨g, cap, cur, h1, h2, (hc.block g (lt_of_block h3) (hd g (by rw [h1]; rfl))).trans h3, h4⟩
theorem ShAt.chg {G F : Nat → Prop} {w w' : World} {q most nx : Nat} {ts : List Tg} {v : Value} (h : ShAt w F q most nx ts v) (hc : Chg G w w') (hd : ∀ b, F b → ¬ G b) : ShAt w' F q most nx ts v :=
  ⟨h.fq, fun b hb => Nat.lt_of_lt_of_le (h.flt b hb) hc.size, h.m1, h.m2, h.len, h.num, h.numlt, h.may, (hc.block q (h.flt q h.fq) (hd q h.fq)).trans h.blk, own_chg h.own hc (fun g hg => hd g (h.fv g hg).1), h.fv⟩
theorem RsAt.chg {G F : Nat → Prop} {w w' : World} {q most : Nat} {ts : List Tg} {v : Value} (h : RsAt w F q most ts v) (hc : Chg G w w') (hd : ∀ b, F b → ¬ G b) : RsAt w' F q most ts v :=
  ⟨h.fq, fun b hb => Nat.lt_of_lt_of_le (h.flt b hb) hc.size, h.m2, h.len, (hc.block q (h.flt q h.fq) (hd q h.fq)).trans h.blk, own_chg h.own hc (fun g hg => hd g (h.fv g hg).1), h.fv⟩
theorem ShIs.chg {G F : Nat → Prop} {w w' : World} {q most nx : Nat} {ts : List Tg} (h : ShIs w F q most nx ts) (hc : Chg G w w') (hd : ∀ b, F b → ¬ G b) : ShIs w' F q most nx ts := by obtain ⟨v, h⟩ := h; exact ⟨v, h.chg hc hd⟩
theorem RsIs.chg {G F : Nat → Prop} {w w' : World} {q most : Nat} {ts : List Tg} (h : RsIs w F q most ts) (hc : Chg G w w') (hd : ∀ b, F b → ¬ G b) : RsIs w' F q most ts := by obtain ⟨v, h⟩ := h; exact ⟨v, h.chg hc hd⟩
theorem ShAt.below {F : Nat → Prop} {w w' : World} {q most nx : Nat} {ts : List Tg} {v : Value} (h : ShAt w F q most nx ts v) (hb : Below w.heap.size w w') : ShAt w' F q most nx ts v := h.chg (G := fun _ => False) (Chg.of_below hb) (fun _ _ h => h)
theorem RsAt.below {F : Nat → Prop} {w w' : World} {q most : Nat} {ts : List Tg} {v : Value} (h : RsAt w F q most ts v) (hb : Below w.heap.size w w') : RsAt w' F q most ts v := h.chg (G := fun _ => False) (Chg.of_below hb) (fun _ _ h => h)
theorem ShIs.below {F : Nat → Prop} {w w' : World} {q most nx : Nat} {ts : List Tg} (h : ShIs w F q most nx ts) (hb : Below w.heap.size w w') : ShIs w' F q most nx ts := by obtain ⟨v, h⟩ := h; exact ⟨v, h.below hb⟩
theorem RsIs.below {F : Nat → Prop} {w w' : World} {q most : Nat} {ts : List Tg} (h : RsIs w F q most ts) (hb : Below w.heap.size w w') : RsIs w' F q most ts := by obtain ⟨v, h⟩ := h; exact ⟨v, h.below hb⟩
theorem ShIs.widen {F G : Nat → Prop} {w : World} {q most nx : Nat} {ts : List Tg} (h : ShIs w F q most nx ts) (hF : ∀ b, F b → G b) (hG : ∀ b, G b → b < w.heap.size) : ShIs w G q most nx ts := by
  obtain ⟨v, h⟩ := h
  exact ⟨v, hF q h.fq, hG, h.m1, h.m2, h.len, h.num, h.numlt, h.may, h.blk, h.own, fun g hg => ⟨hF g (h.fv g hg).1, (h.fv g hg).2⟩⟩
theorem RsIs.widen {F G : Nat → Prop} {w : World} {q most : Nat} {ts : List Tg} (h : RsIs w F q most ts) (hF : ∀ b, F b → G b) (hG : ∀ b, G b → b < w.heap.size) : RsIs w G q most ts := by
  obtain ⟨v, h⟩ := h
  exact ⟨v, hF q h.fq, hG, h.m2, h.len, h.blk, h.own, fun g hg => ⟨hF g (h.fv g hg).1, (h.fv g hg).2⟩⟩
theorem ShIs.flt {F : Nat → Prop} {w : World} {q most nx : Nat} {ts : List Tg} (h : ShIs w F q most nx ts) : ∀ b, F b → b < w.heap.size := by obtain ⟨v, h⟩ := h; exact h.flt
theorem RsIs.flt {F : Nat → Prop} {w : World} {q most : Nat} {ts : List Tg} (h : RsIs w F q most ts) : ∀ b, F b → b < w.heap.size := by obtain ⟨v, h⟩ := h; exact h.flt
theorem ShIs.fq {F : Nat → Prop} {w : World} {q most nx : Nat} {ts : List Tg} (h : ShIs w F q most nx ts) : F q := by obtain ⟨v, h⟩ := h; exact h.fq
theorem RsIs.fq {F : Nat → Prop} {w : World} {q most : Nat} {ts : List Tg} (h : RsIs w F q most ts) : F q := by obtain ⟨v, h⟩ := h; exact h.fq
theorem grF_lt {F : Nat → Prop} {w w' : World} (hF : ∀ b, F b → b < w.heap.size) (hs : w.heap.size ≤ w'.heap.size) : ∀ b, grF F w w' b → b < w'.heap.size := fun b hb => hb.elim (fun h => Nat.lt_of_lt_of_le (hF b h) hs) (fun h => h.2)
/-- A shelf whose blocks stay, or which is grown: said of the blocks grF. -/
theorem ShIs.grow {F : Nat → Prop} {w' w0 : World} {q most nx : Nat} {ts : List Tg} (h : ShIs w' F q most nx ts) (hF : ∀ b, F b → b < w0.heap.size) (hs : w0.heap.size ≤ w'.heap.size) : ShIs w' (grF F w0 w') q most nx ts := h.widen (fun b hb => .inl hb) (grF_lt hF hs)
theorem RsIs.grow {F : Nat → Prop} {w' w0 : World} {q most : Nat} {ts : List Tg} (h : RsIs w' F q most ts) (hF : ∀ b, F b → b < w0.heap.size) (hs : w0.heap.size ≤ w'.heap.size) : RsIs w' (grF F w0 w') q most ts := h.widen (fun b hb => .inl hb) (grF_lt hF hs)

theorem cells_three {w : World} {q : Nat} {c0 c1 c2 : Value} {t : Nat} (h : w.heap[q]? = some (.cells #[c0, c1, c2] t (0, 0))) :
    w.cell? ⟨q, 0, none⟩ = some c0 ∧ w.cell? ⟨q, 1, none⟩ = some c1 ∧ w.cell? ⟨q, 2, none⟩ = some c2 ∧ ∀ i, w.frozen? ⟨q, i, none⟩ = false := by
  refine ⟨?_, ?_, ?_, fun i => ?_⟩ <;> simp [World.cell?, World.frozen?, h]
theorem cells_two {w : World} {q : Nat} {c0 c1 : Value} {t : Nat} (h : w.heap[q]? = some (.cells #[c0, c1] t (0, 0))) :
    w.cell? ⟨q, 0, none⟩ = some c0 ∧ w.cell? ⟨q, 1, none⟩ = some c1 ∧ ∀ i, w.frozen? ⟨q, i, none⟩ = false := by
  refine ⟨?_, ?_, fun i => ?_⟩ <;> simp [World.cell?, World.frozen?, h]
theorem ShAt.slice {w : World} {F : Nat → Prop} {q most nx : Nat} {ts : List Tg} {v : Value} (h : ShAt w F q most nx ts v) : ∃ a c, v = .slice a ts.length c := own_slice h.own
theorem RsAt.slice {w : World} {F : Nat → Prop} {q most : Nat} {ts : List Tg} {v : Value} (h : RsAt w F q most ts v) : ∃ a c, v = .slice a ts.length c := own_slice h.own
/-- The j-th thing in a row. -/
theorem own_at {α : Type} [Inhabited α] {w : World} {e size : Nat} {v : Value} (f : α → List Value) (hf : ∀ x, (f x).length = size) {ts : List α} (h : w.ownsRow 0 e size v ts.length (ts.flatMap f)) (hn : 0 < ts.length) :
    ∃ g cap, v = .slice (some ⟨g, 0, none⟩) ts.length cap ∧ g < w.heap.size ∧ ∀ j, j < ts.length → ∀ i u, (f ts[j]!)[i]? = some u → w.cell? ⟨g, j * size + i, none⟩ = some u := by
  rcases h.2 with ⟨_, h0⟩ | ⟨g, cap, cur, rfl, _, hg, _⟩
  · omega
  · refine ⟨g, cap, rfl, lt_of_block hg, fun j hj i u hu => ?_⟩
    have := h.cells (g := g) rfl (j * size + i) u (flat_at f size hf ts j i hj u hu)
    have e : (⟨g, 0, none⟩ : Addr).add (j * size + i) = ⟨g, j * size + i, none⟩ := by unfold Addr.add; split <;> simp_all
    rwa [e] at this
theorem ShAt.at {w : World} {F : Nat → Prop} {q most nx : Nat} {ts : List Tg} {v : Value} (h : ShAt w F q most nx ts v) (hn : 0 < ts.length) :
    ∃ g cap, v = .slice (some ⟨g, 0, none⟩) ts.length cap ∧ g < w.heap.size ∧ ∀ j, j < ts.length → w.cell? ⟨g, j * 4, none⟩ = some (.int .i64 ts[j]!.num) ∧ w.cell? ⟨g, j * 4 + 1, none⟩ = some (.int .i64 ts[j]!.beg) ∧ w.cell? ⟨g, j * 4 + 1 + 1, none⟩ = some (.int .i64 ts[j]!.fin) ∧ w.cell? ⟨g, j * 4 + 2, none⟩ = some (.int .i64 ts[j]!.fin) ∧ w.cell? ⟨g, j * 4 + 3, none⟩ = some (.string ts[j]!.txt) := by
  obtain ⟨g, cap, h1, h2, h3⟩ := own_at tgCells (fun _ => rfl) h.own hn
  exact ⟨g, cap, h1, h2, fun j hj => ⟨h3 j hj 0 _ rfl, h3 j hj 1 _ rfl, h3 j hj 2 _ rfl, h3 j hj 2 _ rfl, h3 j hj 3 _ rfl⟩⟩
theorem RsAt.at {w : World} {F : Nat → Prop} {q most : Nat} {ts : List Tg} {v : Value} (h : RsAt w F q most ts v) (hn : 0 < ts.length) :
    ∃ g cap, v = .slice (some ⟨g, 0, none⟩) ts.length cap ∧ g < w.heap.size ∧ ∀ j, j < ts.length → w.cell? ⟨g, j * 3, none⟩ = some (.int .i64 ts[j]!.beg) ∧ w.cell? ⟨g, j * 3 + 1, none⟩ = some (.int .i64 ts[j]!.fin) ∧ w.cell? ⟨g, j * 3 + 2, none⟩ = some (.string ts[j]!.txt) := by
  obtain ⟨g, cap, h1, h2, h3⟩ := own_at dgCells (fun _ => rfl) h.own hn
  exact ⟨g, cap, h1, h2, fun j hj => ⟨h3 j hj 0 _ rfl, h3 j hj 1 _ rfl, h3 j hj 2 _ rfl⟩⟩

theorem hIsMade_nil (w : World) : Calls Try.prog 42 #[.pointer none] w fun e w' => e = .returned (.bool false) ∧ w = w' := by
  go_enter Try.func42, Try.ntmps42
  go_wp2
  go_ret
  exact ⟨rfl, rfl⟩
theorem hIsMade_any (q : Nat) (m : Nat) (w : World) (h : w.cell? ⟨q, 0, none⟩ = some (.int .i64 (m : Int))) : Calls Try.prog 42 #[.pointer (some ⟨q, 0, none⟩)] w fun e w' => e = .returned (.bool (decide (0 < m))) ∧ w = w' := by
  have e1 : decide ((m : Int) > 0) = decide (0 < m) := by rw [decide_eq_decide]; omega
  go_enter Try.func42, Try.ntmps42
  go_wp2
  go_ret
  exact ⟨by first | rw [e1] | simp | simp [e1], rfl⟩
theorem hList_nil (w : World) : Calls Try.prog 37 #[.pointer none] w fun e w' => e = .returned (.slice none 0 0) ∧ w = w' := by
  go_enter Try.func37, Try.ntmps37
  go_wp2
  go_ret
  exact ⟨rfl, rfl⟩
theorem hList_any (q : Nat) (a : Option Addr) (n c : Nat) (w : World) (h : w.cell? ⟨q, 2, none⟩ = some (.slice a n c)) : Calls Try.prog 37 #[.pointer (some ⟨q, 0, none⟩)] w fun e w' => e = .returned (.slice a n c) ∧ w = w' := by
  go_enter Try.func37, Try.ntmps37
  go_wp2
  go_ret
  exact ⟨rfl, rfl⟩
theorem hLen_any (p : Value) (a : Option Addr) (n c : Nat) (w : World) (h : Calls Try.prog 37 #[p] w fun e w' => e = .returned (.slice a n c) ∧ w = w') : Calls Try.prog 18 #[p] w fun e w' => e = .returned (.int .i64 (n : Int)) ∧ w = w' := by
  have H := Lib.hid h
  clear h
  go_enter Try.func18, Try.ntmps18
  go_wp2_with (go_at_call 37; (with_reducible refine H.out.mono ?_); rintro e w1 ⟨rfl, rfl⟩)
  go_ret
  exact ⟨rfl, rfl⟩
theorem hMost_no (p : Value) (w : World) (h : Calls Try.prog 42 #[p] w fun e w' => e = .returned (.bool false) ∧ w = w') : Calls Try.prog 19 #[p] w fun e w' => e = .returned (.int .i64 0) ∧ w = w' := by
  have H := Lib.hid h
  clear h
  go_enter Try.func19, Try.ntmps19
  go_wp2_with (go_at_call 42; (with_reducible refine H.out.mono ?_); rintro e w1 ⟨rfl, rfl⟩)
  go_ret
  exact ⟨rfl, rfl⟩
theorem hMost_any (q : Nat) (m : Nat) (w : World) (h : w.cell? ⟨q, 0, none⟩ = some (.int .i64 (m : Int))) (hm : 0 < m) : Calls Try.prog 19 #[.pointer (some ⟨q, 0, none⟩)] w fun e w' => e = .returned (.int .i64 (m : Int)) ∧ w = w' := by
  have H := hIsMade_any q m w h
  rw [decide_eq_true hm] at H
  have H := Lib.hid H
  clear hm
  go_enter Try.func19, Try.ntmps19
  go_wp2_with (go_at_call 42; (with_reducible refine H.out.mono ?_); rintro e w1 ⟨rfl, rfl⟩)
  go_ret
  exact ⟨rfl, rfl⟩
theorem hIsSpan_any (b e : Int) (w : World) : Calls Try.prog 43 #[.agg #[.int .i64 b, .int .i64 e]] w fun r w' => r = .returned (.bool (spB b e)) ∧ Below w.heap.size w w' := by
  have hb : Hid (Below w.heap.size w (w.alloc (.cells #[.int .i64 b, .int .i64 e] 32))) := (Below.refl _ _).alloc (Nat.le_refl _) _
  by_cases h1 : 0 ≤ b
  · by_cases h2 : b ≤ e
    · have d1 : decide (b ≥ 0) = true := by simpa using h1
      have d2 : decide (b ≤ e) = true := by simpa using h2
      have hs : spB b e = decide (e ≤ 1099511627776) := by unfold spB; simp [h1, h2]
      rw [hs]
      clear h1 h2 hs
      go_enter Try.func43, Try.ntmps43
      go_wp2
      go_ret
      exact ⟨rfl, hb.out⟩
    · have d1 : decide (b ≥ 0) = true := by simpa using h1
      have d2 : decide (b ≤ e) = false := by simpa using h2
      have hs : spB b e = false := by unfold spB; simp [h2]
      rw [hs]
      clear h1 h2 hs
      go_enter Try.func43, Try.ntmps43
      go_wp2
      go_ret
      exact ⟨rfl, hb.out⟩
  · have d1 : decide (b ≥ 0) = false := by simpa using h1
    have hs : spB b e = false := by unfold spB; simp [h1]
    rw [hs]
    clear h1 hs
    go_enter Try.func43, Try.ntmps43
    go_wp2
    go_ret
    exact ⟨rfl, hb.out⟩

theorem hNew_no (m : Int) (h : m < 1 ∨ 16384 < m) (w : World) : Calls Try.prog 6 #[.int .i64 m] w fun e w' => e = .returned (.tuple #[.pointer none, .int .i64 1]) ∧ w = w' := by
  by_cases h1 : m < 1
  · have d1 : decide (m < 1) = true := by simpa using h1
    clear h h1
    go_enter Try.func6, Try.ntmps6
    go_wp2
    go_ret2
    exact ⟨rfl, rfl⟩
  · have d1 : decide (m < 1) = false := by simpa using h1
    have d2 : decide (m > 16384) = true := by simp; omega
    clear h h1
    go_enter Try.func6, Try.ntmps6
    go_wp2
    go_ret2
    exact ⟨rfl, rfl⟩
theorem r13New_no (m : Int) (h : m < 1 ∨ 16384 < m) (w : World) : Calls Try.prog 7 #[.int .i64 m] w fun e w' => e = .returned (.tuple #[.pointer none, .int .i64 1]) ∧ w = w' := by
  by_cases h1 : m < 1
  · have d1 : decide (m < 1) = true := by simpa using h1
    clear h h1
    go_enter Try.func7, Try.ntmps7
    go_wp2
    go_ret2
    exact ⟨rfl, rfl⟩
  · have d1 : decide (m < 1) = false := by simpa using h1
    have d2 : decide (m > 16384) = true := by simp; omega
    clear h h1
    go_enter Try.func7, Try.ntmps7
    go_wp2
    go_ret2
    exact ⟨rfl, rfl⟩
theorem hNew_ok (m : Nat) (h1 : 1 ≤ m) (h2 : m ≤ 16384) (w : World) : Calls Try.prog 6 #[.int .i64 (m : Int)] w fun e w' => e = .returned (.tuple #[.pointer (some ⟨w.heap.size, 0, none⟩), .int .i64 0]) ∧ ShIs w' (fun b => b = w.heap.size) w.heap.size m 0 [] ∧ Below w.heap.size w w' := by
  have d1 : decide ((m : Int) < 1) = false := by simp; omega
  have d2 : decide ((m : Int) > 16384) = false := by simp; omega
  have HB : Hid (Below w.heap.size w (w.alloc (.cells #[.int .i64 (m : Int), .int .i64 0, .slice none 0 0] 52))) := (Below.refl _ _).alloc (Nat.le_refl _) _
  have HN : Hid ((w.alloc (.cells #[.int .i64 (m : Int), .int .i64 0, .slice none 0 0] 52)).heap[w.heap.size]? = some (.cells #[.int .i64 (m : Int), .int .i64 0, .slice none 0 0] 52 (0, 0))) := heap_alloc_new w _
  have H12 := Lib.hid (And.intro h1 h2)
  clear h1 h2
  go_enter Try.func6, Try.ntmps6
  go_wp2
  go_ret2
  refine ⟨rfl, ⟨.slice none 0 0, rfl, ?_, H12.out.1, H12.out.2, Nat.zero_le _, by simp, by simp, by simp, HN.out, World.ownsRow_nil _ _ _ _, by simp [Value.ownBlock]⟩, HB.out⟩
  rintro b rfl; exact lt_of_block HN.out
theorem r13New_ok (m : Nat) (h1 : 1 ≤ m) (h2 : m ≤ 16384) (w : World) : Calls Try.prog 7 #[.int .i64 (m : Int)] w fun e w' => e = .returned (.tuple #[.pointer (some ⟨w.heap.size, 0, none⟩), .int .i64 0]) ∧ RsIs w' (fun b => b = w.heap.size) w.heap.size m [] ∧ Below w.heap.size w w' := by
  have d1 : decide ((m : Int) < 1) = false := by simp; omega
  have d2 : decide ((m : Int) > 16384) = false := by simp; omega
  have HB : Hid (Below w.heap.size w (w.alloc (.cells #[.slice none 0 0, .int .i64 (m : Int)] 74))) := (Below.refl _ _).alloc (Nat.le_refl _) _
  have HN : Hid ((w.alloc (.cells #[.slice none 0 0, .int .i64 (m : Int)] 74)).heap[w.heap.size]? = some (.cells #[.slice none 0 0, .int .i64 (m : Int)] 74 (0, 0))) := heap_alloc_new w _
  have H12 := Lib.hid (And.intro h1 h2)
  clear h1 h2
  go_enter Try.func7, Try.ntmps7
  go_wp2
  go_ret2
  refine ⟨rfl, ⟨.slice none 0 0, rfl, ?_, H12.out.2, Nat.zero_le _, HN.out, World.ownsRow_nil _ _ _ _, by simp [Value.ownBlock]⟩, HB.out⟩
  rintro b rfl; exact lt_of_block HN.out
end Go.Proofs.Ytehdimaihkckkaa
