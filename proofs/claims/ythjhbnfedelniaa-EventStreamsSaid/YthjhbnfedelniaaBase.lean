/- The ground of this claim: several texts of ours, joined: Math Law Vm Am Vc Ae Av Vn Ac As Acr Ev Natm Srcm Small Put Nat Out Src Snat Refm Snew Ref Make Rnat Rsrc Rsbits Rsnat Snum2 Rstext Stext Rnew. -/
import Derived.WalkSmall
import Derived.WalkKit
import Derived.Deep.RegionLaw
import Derived.Lib.Bytealg
import Derived.Lib.Strings
import Derived.Lib.Slices
import Derived.Shelf.SlSortCmp.InsertionK
import Derived.Test.YthjhbnfedelniaaRows
import Derived.Test.YthjhbnfedelniaaShelf
import Derived.WalkLawsBesides
import Derived.Outline
import Derived.BigQuiet
import Derived.Deep.QuietTactic
import Derived.OneCell
import Derived.Lib.Hide
import Derived.Laws.StructEq
import Derived.Shelf.SlicesE.Equal
import Derived.Test.YthjhbnfedelniaaShelf3
import Derived.Laws.AppendOwnNone
import Derived.Deep.RegionHeld3
import Derived.Lib.BitFns
import Derived.BigRegion
import Derived.Shelf.Bytes.SlSmallAll
import Derived.Deep.OwnRows
import Derived.Laws.BytesArg
namespace Go.Proofs.Ythjhbnfedelniaa
open Go

def valBits (l : List Bool) : Nat := l.foldl (fun a b => 2 * a + b.toNat) 0
theorem valBits_nil : valBits [] = 0 := rfl
theorem valBits_snoc (l : List Bool) (b : Bool) : valBits (l ++ [b]) = 2 * valBits l + b.toNat := by simp [valBits]
theorem snocInd {α : Type} {P : List α → Prop} (h0 : P []) (h1 : ∀ l b, P l → P (l ++ [b])) (l : List α) : P l := by
  have h : ∀ r : List α, P r.reverse := by
    intro r
    induction r with
    | nil => exact h0
    | cons a r ih => rw [List.reverse_cons]; exact h1 _ _ ih
  have := h l.reverse
  rwa [List.reverse_reverse] at this
theorem valBits_lt (l : List Bool) : valBits l < 2 ^ l.length := by
  refine snocInd (P := fun l => valBits l < 2 ^ l.length) (by simp [valBits]) (fun l b ih => ?_) l
  rw [valBits_snoc]; simp [Nat.pow_succ]; cases b <;> simp <;> omega

/-- The low n bits of x, the highest one first. -/
def bitsOf (x n : Nat) : List Bool := (List.range n).map fun i => x.testBit (n - 1 - i)
theorem bitsOf_length (x n : Nat) : (bitsOf x n).length = n := by simp [bitsOf]
theorem bitsOf_zero (x : Nat) : bitsOf x 0 = [] := rfl
theorem bitsOf_getElem (x n i : Nat) (h : i < (bitsOf x n).length) : (bitsOf x n)[i] = x.testBit (n - 1 - i) := by simp [bitsOf]
theorem bitsOf_take_succ (x n k : Nat) (h : k < n) : (bitsOf x n).take (k + 1) = (bitsOf x n).take k ++ [x.testBit (n - 1 - k)] := by
  rw [List.take_succ_eq_append_getElem (by simpa [bitsOf] using h), bitsOf_getElem]
theorem bitsOf_succ (x n : Nat) : bitsOf x (n + 1) = x.testBit n :: bitsOf x n := by
  simp only [bitsOf, List.range_succ_eq_map, List.map_cons, List.map_map]
  congr 1
  apply List.map_congr_left
  intro i hi
  simp at hi
  simp only [Function.comp]
  congr 1
  omega

/-- The bits of the last byte that is not full; the bytes that are full. -/
def restOf (bs : List Bool) : Nat := valBits (bs.drop (8 * (bs.length / 8)))
def fullOf (bs : List Bool) : List Nat := (List.range (bs.length / 8)).map fun j => valBits ((bs.drop (8 * j)).take 8)
theorem fullOf_length (bs : List Bool) : (fullOf bs).length = bs.length / 8 := by simp [fullOf]
theorem restOf_lt (bs : List Bool) : restOf bs < 128 := by
  unfold restOf
  have h := valBits_lt (bs.drop (8 * (bs.length / 8)))
  have hl : (bs.drop (8 * (bs.length / 8))).length ≤ 7 := by rw [List.length_drop]; omega
  have := Nat.pow_le_pow_right (n := 2) (by omega) hl
  omega
theorem restOf_snoc_ne (bs : List Bool) (b : Bool) (h : (bs.length + 1) % 8 ≠ 0) : restOf (bs ++ [b]) = 2 * restOf bs + b.toNat := by
  unfold restOf
  have e : (bs ++ [b]).length / 8 = bs.length / 8 := by simp; omega
  rw [e, List.drop_append_of_le_length (by omega), valBits_snoc]
theorem restOf_snoc_eq (bs : List Bool) (b : Bool) (h : (bs.length + 1) % 8 = 0) : restOf (bs ++ [b]) = 0 := by
  unfold restOf
  have e : 8 * ((bs ++ [b]).length / 8) = (bs ++ [b]).length := by simp; omega
  rw [e, List.drop_length]; rfl
theorem fullOf_snoc_ne (bs : List Bool) (b : Bool) (h : (bs.length + 1) % 8 ≠ 0) : fullOf (bs ++ [b]) = fullOf bs := by
  unfold fullOf
  have e : (bs ++ [b]).length / 8 = bs.length / 8 := by simp; omega
  rw [e]
  apply List.map_congr_left
  intro j hj
  simp at hj
  rw [List.drop_append_of_le_length (by omega), List.take_append_of_le_length (by simp; omega)]
theorem fullOf_snoc_eq (bs : List Bool) (b : Bool) (h : (bs.length + 1) % 8 = 0) : fullOf (bs ++ [b]) = fullOf bs ++ [2 * restOf bs + b.toNat] := by
  unfold fullOf restOf
  have e : (bs ++ [b]).length / 8 = bs.length / 8 + 1 := by simp; omega
  rw [e, List.range_succ, List.map_append]
  congr 1
  · apply List.map_congr_left
    intro j hj
    simp at hj
    rw [List.drop_append_of_le_length (by omega), List.take_append_of_le_length (by simp; omega)]
  · simp only [List.map_cons, List.map_nil]
    rw [List.drop_append_of_le_length (by omega), List.take_of_length_le (by simp; omega), valBits_snoc]

/-- The walk's own words for '& 1', '<< 1 |'. -/
theorem bit_of (x k : Nat) (hx : x < 2 ^ 64) : bits BinOp.and IntKind.u64 ((x : Int) / 2 ^ k) 1 % 256 = ((x.testBit k).toNat : Int) := by
  have h0 : (0 : Int) ≤ (x : Int) / 2 ^ k := Int.ediv_nonneg (by omega) (by exact_mod_cast Nat.zero_le _)
  have h1 : (x : Int) / 2 ^ k ≤ 18446744073709551615 := by
    have : (x : Int) / 2 ^ k ≤ x := Int.ediv_le_self _ (by omega)
    omega
  rw [Go.and_one_u64 _ h0 h1]
  have e : ((x : Int) / 2 ^ k) % 2 = ((x / 2 ^ k % 2 : Nat) : Int) := by push_cast; rfl
  rw [e, Nat.testBit_eq_decide_div_mod_eq]
  rcases Nat.mod_two_eq_zero_or_one (x / 2 ^ k) with h | h <;> simp [h]
theorem or_bit (r : Nat) (b : Bool) (hr : r < 128) : bits BinOp.or IntKind.u8 ((r : Int) * 2) (b.toNat : Int) = ((2 * r + b.toNat : Nat) : Int) := by
  have h : ∀ r : Fin 128, ∀ b : Bool, bits BinOp.or IntKind.u8 (((r.val : Nat) : Int) * 2) (b.toNat : Int) = ((2 * r.val + b.toNat : Nat) : Int) := by decide +kernel
  exact h ⟨r, hr⟩ b

end Go.Proofs.Ythjhbnfedelniaa
namespace Go.Proofs.Ythjhbnfedelniaa
open Go Go.RowKit

theorem hide {p : Prop} (h : p) : Hid p := h

/-- Below block B nothing has turned; and no block of cells whose element type is outside T has turned, wherever it lies. -/
structure Kept (B : Nat) (T : Nat → Bool) (w w' : World) : Prop where
  below : Below B w w'
  typed : ∀ (k : Nat) (cs : Array Value) (e : Nat) (fr : Nat × Nat), w.heap[k]? = some (.cells cs e fr) → T e = false → w'.heap[k]? = some (.cells cs e fr)

theorem Kept.refl (B : Nat) (T : Nat → Bool) (w : World) : Kept B T w w := ⟨Below.refl _ _, fun _ _ _ _ h _ => h⟩
theorem Kept.trans {B : Nat} {T : Nat → Bool} {a b c : World} (h : Kept B T a b) (k : Kept B T b c) : Kept B T a c :=
  ⟨h.below.trans k.below, fun i cs e fr hi ht => k.typed i cs e fr (h.typed i cs e fr hi ht) ht⟩
theorem Kept.mono {B B' : Nat} {T T' : Nat → Bool} {w w' : World} (h : Kept B T w w') (hB : B' ≤ B) (hT : ∀ e, T' e = false → T e = false) : Kept B' T' w w' :=
  ⟨h.below.mono hB, fun i cs e fr hi ht => h.typed i cs e fr hi (hT e ht)⟩
theorem Kept.drew {B : Nat} {T : Nat → Bool} {a w : World} (h : Kept B T a w) : Kept B T a w.drew := ⟨h.below.drew, fun k cs e fr hk ht => h.typed k cs e fr hk ht⟩
theorem Kept.drewN {B : Nat} {T : Nat → Bool} {a w : World} (h : Kept B T a w) (n : Nat) : Kept B T a (w.drewN n) :=
  ⟨⟨h.below.os, h.below.tape, h.below.output, h.below.size, h.below.block⟩, fun k cs e fr hk ht => h.typed k cs e fr hk ht⟩
theorem Kept.alloc {B : Nat} {T : Nat → Bool} {a w : World} (h : Kept B T a w) (hB : B ≤ w.heap.size) (o : Obj) : Kept B T a (w.alloc o) :=
  ⟨h.below.alloc hB o, fun k cs e fr hk ht => by
    have hh := h.typed k cs e fr hk ht
    rw [Below.heap_alloc _ _ _ (lt_of_block hh)]; exact hh⟩
theorem Kept.setCell {B : Nat} {T : Nat → Bool} {a w : World} (h : Kept B T a w) {p : Addr} (hp : B ≤ p.block) {cs0 : Array Value} {e0 : Nat} {fr0 : Nat × Nat}
    (hb : w.heap[p.block]? = some (.cells cs0 e0 fr0)) (hT : T e0 = true) (u : Value) : Kept B T a (w.setCell p u) :=
  ⟨h.below.setCell hp u, fun k cs e fr hk ht => by
    have hh := h.typed k cs e fr hk ht
    have hne : k ≠ p.block := by
      rintro rfl
      rw [hh] at hb
      simp only [Option.some.injEq, Obj.cells.injEq] at hb
      rw [hb.2.1] at ht
      rw [ht] at hT
      cases hT
    rw [Below.heap_setCell _ _ _ _ hne]; exact hh⟩
/-- Behind an append onto an owned row of a type in T. -/
theorem Kept.grown {B : Nat} {T : Nat → Bool} {a w w' : World} (h : Kept B T a w) {B0 e size n : Nat} {v : Value} {xs : List Value} (hown : w.ownsRow B0 e size v n xs) (hT : T e = true) (hg : w.grownBy w' v.ownBlock) (hB : B ≤ w.heap.size) (hB0 : B ≤ B0) : Kept B T a w' :=
  ⟨h.below.grown hg hB (fun k hk => Nat.le_trans hB0 (hown.lt k hk).1), fun k cs e1 fr hk ht => by
    have hh := h.typed k cs e1 fr hk ht
    rw [hg.block k (lt_of_block hh) ?_]; · exact hh
    intro hk2
    rcases hown.2 with ⟨rfl, _⟩ | ⟨g, cap, cur, rfl, _, hgg, _⟩
    · simp [Value.ownBlock] at hk2
    · simp [Value.ownBlock] at hk2
      subst hk2
      rw [hh] at hgg
      simp only [Option.some.injEq, Obj.cells.injEq] at hgg
      rw [hgg.2.1] at ht
      rw [ht] at hT
      cases hT⟩
/-- A row of another element type stays owned. -/
theorem Kept.ownsRow {B : Nat} {T : Nat → Bool} {w w' : World} (h : Kept B T w w') {B0 e size n : Nat} {v : Value} {xs : List Value} (hown : w.ownsRow B0 e size v n xs) (ht : T e = false) : w'.ownsRow B0 e size v n xs := by
  refine ⟨hown.1, ?_⟩
  rcases hown.2 with hn | ⟨g, cap, cur, rfl, hb, hgg, rest⟩
  · exact .inl hn
  · exact .inr ⟨g, cap, cur, rfl, hb, h.typed g cur e (0, 0) hgg ht, rest⟩

/-- A row stays owned while a cell of a block of another element type is written. -/
theorem ownsRow_setCell_typed {w : World} {base : Nat} {e : Nat} {size : Nat} {v : Value} {n : Nat} {xs : List Value} (h : w.ownsRow base e size v n xs) {a : Addr} {cs0 : Array Value} {e0 : Nat} {fr0 : Nat × Nat}
    (hb : w.heap[a.block]? = some (.cells cs0 e0 fr0)) (hne : e0 ≠ e) (u : Value) : (w.setCell a u).ownsRow base e size v n xs := by
  refine ownsRow_setCell_other h ?_ u
  rcases h.2 with ⟨rfl, _⟩ | ⟨g, cap, cur, rfl, _, hgg, _⟩
  · simp [Value.ownBlock]
  · simp only [Value.ownBlock]
    intro hk
    simp only [Option.some.injEq] at hk
    rw [hk, hb] at hgg
    simp only [Option.some.injEq, Obj.cells.injEq] at hgg
    exact hne hgg.2.1
theorem ownsRow_drew {w : World} {base : Nat} {e : Nat} {size : Nat} {v : Value} {n : Nat} {xs : List Value} (h : w.ownsRow base e size v n xs) : w.drew.ownsRow base e size v n xs := h
theorem ownsRow_drewN {w : World} {base : Nat} {e : Nat} {size : Nat} {v : Value} {n : Nat} {xs : List Value} (h : w.ownsRow base e size v n xs) (k : Nat) : (w.drewN k).ownsRow base e size v n xs := h

/-- append onto a row of the call's own, as one step of a region that draws its order. -/
theorem step_append_own {P : Program} {ops : Array Oper} {o : Oper} {a : Act} {w : World} {K : Act → World → Prop} {Q : Exit → Act → World → Prop} {E : Prop}
    (hg : o.guard = none) (s x : Operand) (t : TypeId) (hop : o.op = Op.call { callee := Callee.builtin Builtin.append, args := #[s, x], argTypes := #[t, t] })
    (base : Nat) (e : TypeId) (i : TypeInfo) (z : Value) (size bytes : Nat) (h1 : P.underlying t = some (.slice e)) (h2 : P.info? e = some i) (h3 : i.zero = some z) (h4 : i.size = size) (h5 : i.bytes = bytes) (h6 : z.cells.size = size) (h7 : 0 < size)
    (v : Value) (n : Nat) (xs : List Value) (hs : a.eval s = v) (hown : w.ownsRow base e size v n xs)
    (ad : Addr) (m c : Nat) (news : List Value) (hx : a.eval x = .slice (some ad) m c) (hn : news.length = m * size) (hc : ∀ j u, news[j]? = some u → w.cell? (ad.add j) = some u) (h1c : ∀ u ∈ news, u.oneCell' = true)
    (b1 : n + m ≤ maxLen) (b2 : (n + m) * bytes ≤ 140737488355328) (hbase : base ≤ w.heap.size)
    (hK : ∀ v' w', w'.ownsRow base e size v' (n + m) (xs ++ news) → w.grownBy w' v.ownBlock → K (a.put o.dst v') w') :
    if Region.wanted o (yielded ops a.tmps) = true then Oper.wp P o a w K Q else E := by
  have hw : Region.wanted o (yielded ops a.tmps) = true := by simp [Region.wanted, hg]
  rw [if_pos hw]
  obtain ⟨v', w', hrun, r1, r2, _⟩ := run_append_own (P := P) w base t o.type e i z size bytes h1 h2 h3 h4 h5 h6 h7 v n xs hown ad m c news hn hc h1c b1 b2 hbase
  unfold Oper.wp
  simp [execOp, hop, resolve, invoke, builtin, hs, hx, hrun, Result.andThen]
  exact hK v' w' r1 r2

/-- A block of four cells: what its cells hold; that they may be written; what the block is behind a store. -/
theorem cell_of_four {w : World} {q : Nat} {c0 c1 c2 c3 : Value} {t : Nat} (h : w.heap[q]? = some (.cells #[c0, c1, c2, c3] t (0, 0))) :
    w.cell? ⟨q, 0, none⟩ = some c0 ∧ w.cell? ⟨q, 1, none⟩ = some c1 ∧ w.cell? ⟨q, 2, none⟩ = some c2 ∧ w.cell? ⟨q, 3, none⟩ = some c3 := by
  refine ⟨?_, ?_, ?_, ?_⟩ <;> simp [World.cell?, h]
theorem free_of_four {w : World} {q : Nat} {c0 c1 c2 c3 : Value} {t : Nat} (h : w.heap[q]? = some (.cells #[c0, c1, c2, c3] t (0, 0))) :
    w.frozen? ⟨q, 0, none⟩ = false ∧ w.frozen? ⟨q, 1, none⟩ = false ∧ w.frozen? ⟨q, 2, none⟩ = false ∧ w.frozen? ⟨q, 3, none⟩ = false := by
  refine ⟨?_, ?_, ?_, ?_⟩ <;> simp [World.frozen?, h]
theorem heap_setCell_same {w : World} {q k : Nat} {cs : Array Value} {t : Nat} {fr : Nat × Nat} (h : w.heap[q]? = some (.cells cs t fr)) (u : Value) :
    (w.setCell ⟨q, k, none⟩ u).heap[q]? = some (.cells (cs.setIfInBounds k u) t fr) := by
  have hlt := lt_of_block h
  have h' : w.heap[q] = .cells cs t fr := by simpa [Array.getElem?_eq_getElem hlt] using h
  show (w.heap.modify q _)[q]? = _
  rw [Array.getElem?_eq_getElem (by simpa using hlt), Array.getElem_modify_self, h']
  rfl

theorem cell_alloc_one (w : World) (n : Nat) (hn : n = w.heap.size) (v : Value) (t : Nat) : (w.alloc (.cells #[v] t)).cell? ⟨n, 0, none⟩ = some v := by
  subst hn; exact cell_of_one (heap_alloc_new w _)
/-- An append onto a row of one type leaves a block of another type as it was. -/
theorem grow_keeps {w0 w1 w' : World} {q B n : Nat} {e e0 size : Nat} {cs : Array Value} {fr0 : Nat × Nat} {v : Value} {xs : List Value} (hq : w0.heap[q]? = some (.cells cs e0 fr0)) (ho : w0.ownsRow B e size v n xs) (hne : e0 ≠ e)
    (hg : w1.grownBy w' v.ownBlock) (hh : w1.heap = w0.heap) : w'.heap[q]? = some (.cells cs e0 fr0) := by
  rw [← hh] at hq
  have ho2 : w1.ownsRow B e size v n xs := by unfold World.ownsRow at ho ⊢; rw [hh]; exact ho
  clear ho
  rw [hg.block q (lt_of_block hq) ?_]; · exact hq
  rcases ho2.2 with ⟨rfl, _⟩ | ⟨g, cap, cur, rfl, _, hgg, _⟩
  · simp [Value.ownBlock]
  · simp only [Value.ownBlock]
    intro hk
    simp only [Option.some.injEq] at hk
    rw [hk] at hq
    rw [hq] at hgg
    simp only [Option.some.injEq, Obj.cells.injEq] at hgg
    exact hne hgg.2.1
theorem heap_alloc_keeps {w : World} {q : Nat} {ob : Obj} (hq : w.heap[q]? = some ob) (o : Obj) : (w.alloc o).heap[q]? = some ob := by
  rw [Below.heap_alloc _ _ _ (lt_of_block hq)]; exact hq
theorem own_shape {w : World} {base e size n : Nat} {v : Value} {xs : List Value} (h : w.ownsRow base e size v (n + 1) xs) : ∃ g cap, v = .slice (some ⟨g, 0, none⟩) (n + 1) cap := by
  rcases h.2 with ⟨_, h0⟩ | ⟨g, cap, cur, hv, _⟩
  · cases h0
  · exact ⟨g, cap, hv⟩

end Go.Proofs.Ythjhbnfedelniaa
namespace Go.Proofs.Ythjhbnfedelniaa
open Go

theorem less_cb : ∀ a b : List UInt8, Op.bytesLess a b = decide (Lib.compareBytes a b < 0)
  | [], [] => by simp [Op.bytesLess, Lib.compareBytes]
  | [], _ :: _ => by simp [Op.bytesLess, Lib.compareBytes]
  | _ :: _, [] => by simp [Op.bytesLess, Lib.compareBytes]
  | x :: a, y :: b => by
    have ih := less_cb a b
    by_cases h : x < y
    · simp [Op.bytesLess, Lib.compareBytes, h]
    · by_cases h2 : y < x
      · have hn : x ≠ y := fun e => by subst e; exact h h2
        simp [Op.bytesLess, Lib.compareBytes, h, h2, hn]
      · have e : x = y := UInt8.le_antisymm (UInt8.not_lt.1 h2) (UInt8.not_lt.1 h)
        subst e
        simp [Op.bytesLess, Lib.compareBytes, h, ih]
theorem cb_self : ∀ a : List UInt8, Lib.compareBytes a a = 0
  | [] => rfl
  | x :: a => by have ih := cb_self a; simp [Lib.compareBytes, UInt8.lt_irrefl, ih]
theorem cb_zero : ∀ a b : List UInt8, Lib.compareBytes a b = 0 → a = b
  | [], [], _ => rfl
  | [], _ :: _, h => by simp [Lib.compareBytes] at h
  | _ :: _, [], h => by simp [Lib.compareBytes] at h
  | x :: a, y :: b, h => by
    by_cases h1 : x < y
    · simp [Lib.compareBytes, h1] at h
    · by_cases h2 : y < x
      · simp [Lib.compareBytes, h1, h2] at h
      · have e : x = y := UInt8.le_antisymm (UInt8.not_lt.1 h2) (UInt8.not_lt.1 h1)
        subst e
        simp only [Lib.compareBytes, UInt8.lt_irrefl, if_false] at h
        rw [cb_zero a b h]
theorem eq_cb (a b : List UInt8) : (a == b) = decide (Lib.compareBytes a b = 0) := by
  by_cases h : Lib.compareBytes a b = 0
  · rw [cb_zero a b h, cb_self]; simp
  · have hn : a ≠ b := fun e => h (by rw [e]; exact cb_self b)
    rw [decide_eq_false h]; simpa using hn
theorem cb_swap : ∀ a b : List UInt8, Lib.compareBytes b a = -Lib.compareBytes a b
  | [], [] => rfl
  | [], _ :: _ => rfl
  | _ :: _, [] => rfl
  | x :: a, y :: b => by
    have ih := cb_swap a b
    by_cases h1 : x < y
    · have h2 : ¬ y < x := fun h => UInt8.lt_irrefl _ (UInt8.lt_trans h1 h)
      simp [Lib.compareBytes, h1, h2]
    · by_cases h2 : y < x
      · simp [Lib.compareBytes, h1, h2]
      · simp [Lib.compareBytes, h1, h2, ih]
theorem cb_range : ∀ a b : List UInt8, -1 ≤ Lib.compareBytes a b ∧ Lib.compareBytes a b ≤ 1
  | [], [] => by simp [Lib.compareBytes]
  | [], _ :: _ => by simp [Lib.compareBytes]
  | _ :: _, [] => by simp [Lib.compareBytes]
  | x :: a, y :: b => by
    have ih := cb_range a b
    by_cases h1 : x < y
    · simp [Lib.compareBytes, h1]
    · by_cases h2 : y < x
      · simp [Lib.compareBytes, h1, h2]
      · simp [Lib.compareBytes, h1, h2, ih]
theorem cb_trans : ∀ a b c : List UInt8, Lib.compareBytes a b ≤ 0 → Lib.compareBytes b c ≤ 0 → Lib.compareBytes a c ≤ 0 ∧ (Lib.compareBytes a b < 0 ∨ Lib.compareBytes b c < 0 → Lib.compareBytes a c < 0)
  | [], [], c, _, h2 => ⟨h2, fun h => h.elim (fun h => absurd h (by simp [Lib.compareBytes])) id⟩
  | [], _ :: _, [], _, h2 => by simp [Lib.compareBytes] at h2
  | [], _ :: _, _ :: _, _, _ => by simp [Lib.compareBytes]
  | _ :: _, [], _, h1, _ => by simp [Lib.compareBytes] at h1
  | _ :: _, _ :: _, [], _, h2 => by simp [Lib.compareBytes] at h2
  | x :: a, y :: b, z :: c, h1, h2 => by
    by_cases hxy : x < y
    · by_cases hyz : y < z
      · have := UInt8.lt_trans hxy hyz
        simp [Lib.compareBytes, this]
      · by_cases hzy : z < y
        · simp [Lib.compareBytes, hyz, hzy] at h2
        · have e : y = z := UInt8.le_antisymm (UInt8.not_lt.1 hzy) (UInt8.not_lt.1 hyz)
          subst e
          simp [Lib.compareBytes, hxy]
    · by_cases hyx : y < x
      · simp [Lib.compareBytes, hxy, hyx] at h1
      · have e : x = y := UInt8.le_antisymm (UInt8.not_lt.1 hyx) (UInt8.not_lt.1 hxy)
        subst e
        by_cases hyz : x < z
        · simp [Lib.compareBytes, hyz]
        · by_cases hzy : z < x
          · simp [Lib.compareBytes, hyz, hzy] at h2
          · have ih := cb_trans a b c (by simpa [Lib.compareBytes, UInt8.lt_irrefl] using h1) (by simpa [Lib.compareBytes, hyz, hzy] using h2)
            simpa [Lib.compareBytes, UInt8.lt_irrefl, hyz, hzy] using ih

/-- How two numbers stand. -/
def cmpI (a b : Int) : Int := if a < b then -1 else if b < a then 1 else 0
theorem cmpI_lt {a b : Int} (h : a < b) : cmpI a b = -1 := by unfold cmpI; rw [if_pos h]
theorem cmpI_gt {a b : Int} (h : b < a) : cmpI a b = 1 := by unfold cmpI; rw [if_neg (by omega), if_pos h]
theorem cmpI_eq (a : Int) : cmpI a a = 0 := by unfold cmpI; rw [if_neg (by omega), if_neg (by omega)]
theorem cmpI_spec (a b : Int) : (cmpI a b = -1 ∧ a < b) ∨ (cmpI a b = 1 ∧ b < a) ∨ (cmpI a b = 0 ∧ a = b) := by
  rcases Int.lt_trichotomy a b with h | h | h
  · exact .inl ⟨cmpI_lt h, h⟩
  · subst h; exact .inr (.inr ⟨cmpI_eq _, rfl⟩)
  · exact .inr (.inl ⟨cmpI_gt h, h⟩)

/-- Whether values of these kinds are compared; how they stand. -/
def cmpB (k1 k2 : Int) : Bool := decide (k1 = k2) && (decide (k1 = 1) || decide (k1 = 2))
def cmpV (k1 n1 : Int) (s1 : List UInt8) (k2 n2 : Int) (s2 : List UInt8) : Int :=
  if k1 = 1 ∧ k2 = 1 then cmpI n1 n2 else if k1 = 2 ∧ k2 = 2 then Lib.compareBytes s1 s2 else 0
theorem cmpB_cases {k1 k2 : Int} (h : cmpB k1 k2 = true) : k1 = 1 ∧ k2 = 1 ∨ k1 = 2 ∧ k2 = 2 := by
  simp [cmpB] at h; omega
theorem cmpB_swap (k1 k2 : Int) : cmpB k2 k1 = cmpB k1 k2 := by
  rw [Bool.eq_iff_iff]; simp [cmpB]; omega
theorem cmpV_ii (n1 : Int) (s1 : List UInt8) (n2 : Int) (s2 : List UInt8) : cmpV 1 n1 s1 1 n2 s2 = cmpI n1 n2 := by simp [cmpV]
theorem cmpV_ss (n1 : Int) (s1 : List UInt8) (n2 : Int) (s2 : List UInt8) : cmpV 2 n1 s1 2 n2 s2 = Lib.compareBytes s1 s2 := by simp [cmpV]
theorem cmpB_no {k1 k2 : Int} (h : cmpB k1 k2 = false) : ¬ (k1 = 1 ∧ k2 = 1) ∧ ¬ (k1 = 2 ∧ k2 = 2) := by
  simp [cmpB] at h; omega
theorem cmpV_no {k1 k2 : Int} (h : cmpB k1 k2 = false) (n1 : Int) (s1 : List UInt8) (n2 : Int) (s2 : List UInt8) : cmpV k1 n1 s1 k2 n2 s2 = 0 := by
  unfold cmpV; rw [if_neg (cmpB_no h).1, if_neg (cmpB_no h).2]
theorem cmpV_swap (k1 n1 : Int) (s1 : List UInt8) (k2 n2 : Int) (s2 : List UInt8) : cmpV k2 n2 s2 k1 n1 s1 = -cmpV k1 n1 s1 k2 n2 s2 := by
  cases h : cmpB k1 k2 with
  | false => rw [cmpV_no h, cmpV_no (by rw [cmpB_swap]; exact h)]; rfl
  | true =>
    rcases cmpB_cases h with ⟨rfl, rfl⟩ | ⟨rfl, rfl⟩
    · rw [cmpV_ii, cmpV_ii]; have := cmpI_spec n1 n2; have := cmpI_spec n2 n1; omega
    · rw [cmpV_ss, cmpV_ss]; exact cb_swap _ _
theorem cmpV_range (k1 n1 : Int) (s1 : List UInt8) (k2 n2 : Int) (s2 : List UInt8) : -1 ≤ cmpV k1 n1 s1 k2 n2 s2 ∧ cmpV k1 n1 s1 k2 n2 s2 ≤ 1 := by
  cases h : cmpB k1 k2 with
  | false => rw [cmpV_no h]; omega
  | true =>
    rcases cmpB_cases h with ⟨rfl, rfl⟩ | ⟨rfl, rfl⟩
    · rw [cmpV_ii]; have := cmpI_spec n1 n2; omega
    · rw [cmpV_ss]; exact cb_range _ _
theorem cmpV_zero (k1 n1 : Int) (s1 : List UInt8) (k2 n2 : Int) (s2 : List UInt8) (hb : cmpB k1 k2 = true) (h : cmpV k1 n1 s1 k2 n2 s2 = 0) : (k1 = 1 → n1 = n2) ∧ (k1 = 2 → s1 = s2) := by
  rcases cmpB_cases hb with ⟨rfl, rfl⟩ | ⟨rfl, rfl⟩
  · rw [cmpV_ii] at h; have := cmpI_spec n1 n2; exact ⟨fun _ => by omega, fun h => by omega⟩
  · rw [cmpV_ss] at h; exact ⟨fun h => by omega, fun _ => cb_zero _ _ h⟩
theorem cmpV_trans {k1 n1 : Int} {s1 : List UInt8} {k2 n2 : Int} {s2 : List UInt8} {k3 n3 : Int} {s3 : List UInt8} (h1 : cmpB k1 k2 = true) (h2 : cmpB k2 k3 = true)
    (ha : cmpV k1 n1 s1 k2 n2 s2 ≤ 0) (hb : cmpV k2 n2 s2 k3 n3 s3 ≤ 0) : cmpV k1 n1 s1 k3 n3 s3 ≤ 0 ∧ (cmpV k1 n1 s1 k2 n2 s2 < 0 → cmpV k1 n1 s1 k3 n3 s3 < 0) := by
  rcases cmpB_cases h1 with ⟨rfl, rfl⟩ | ⟨rfl, rfl⟩
  · obtain rfl : k3 = 1 := by rcases cmpB_cases h2 with ⟨_, h⟩ | ⟨h, _⟩ <;> omega
    rw [cmpV_ii] at ha hb ⊢
    rw [cmpV_ii]
    have := cmpI_spec n1 n2; have := cmpI_spec n2 n3; have := cmpI_spec n1 n3
    exact ⟨by omega, fun _ => by omega⟩
  · obtain rfl : k3 = 2 := by rcases cmpB_cases h2 with ⟨h, _⟩ | ⟨_, h⟩ <;> omega
    rw [cmpV_ss] at ha hb ⊢
    rw [cmpV_ss]
    have := cb_trans s1 s2 s3 ha hb
    exact ⟨this.1, fun h => this.2 (.inl h)⟩
theorem cmpB_trans {k1 k2 k3 : Int} (h1 : cmpB k1 k2 = true) (h2 : cmpB k2 k3 = true) : cmpB k1 k3 = true := by
  rcases cmpB_cases h1 with ⟨rfl, rfl⟩ | ⟨rfl, rfl⟩ <;> rcases cmpB_cases h2 with ⟨h, rfl⟩ | ⟨h, rfl⟩ <;> first | rfl | omega

/-- Whether a relation is so of a number that tells how two stand. -/
def relB (rel c : Int) : Bool :=
  if rel = 1 then decide (c = 0) else if rel = 2 then !decide (c = 0) else if rel = 3 then decide (c < 0) else if rel = 4 then decide (c ≤ 0) else if rel = 5 then decide (0 < c) else if rel = 6 then decide (0 ≤ c) else false
def kindB (k : Int) : Bool := decide (k = 1) || decide (k = 2)
def holdsB (rel k1 n1 : Int) (s1 : List UInt8) (k2 n2 : Int) (s2 : List UInt8) : Bool :=
  if cmpB k1 k2 = true then relB rel (cmpV k1 n1 s1 k2 n2 s2) else decide (rel = 2) && (kindB k1 && kindB k2)
def swapI (rel : Int) : Int := if rel = 1 ∨ rel = 2 then rel else if rel = 3 then 5 else if rel = 4 then 6 else if rel = 5 then 3 else if rel = 6 then 4 else 0
def notI (rel : Int) : Int := if rel = 1 then 2 else if rel = 2 then 1 else if rel = 3 then 6 else if rel = 4 then 5 else if rel = 5 then 4 else if rel = 6 then 3 else 0
theorem rel_cases (rel : Int) : rel = 1 ∨ rel = 2 ∨ rel = 3 ∨ rel = 4 ∨ rel = 5 ∨ rel = 6 ∨ (rel ≠ 1 ∧ rel ≠ 2 ∧ rel ≠ 3 ∧ rel ≠ 4 ∧ rel ≠ 5 ∧ rel ≠ 6) := by omega
theorem relB_swap (rel c : Int) : relB (swapI rel) (-c) = relB rel c := by
  rcases rel_cases rel with rfl | rfl | rfl | rfl | rfl | rfl | ⟨h1, h2, h3, h4, h5, h6⟩
  all_goals first
    | (simp [relB, swapI]; done)
    | (rw [Bool.eq_iff_iff]; simp [relB, swapI]; done)
    | (rw [Bool.eq_iff_iff]; simp [relB, swapI]; omega)
    | simp [relB, swapI, h1, h2, h3, h4, h5, h6]
theorem relB_not (rel c : Int) (h : 1 ≤ rel) (h2 : rel ≤ 6) : relB (notI rel) c = !relB rel c := by
  rcases rel_cases rel with rfl | rfl | rfl | rfl | rfl | rfl | h7
  all_goals first
    | omega
    | (simp [relB, notI]; done)
    | (rw [Bool.eq_iff_iff]; simp [relB, notI]; done)
    | (rw [Bool.eq_iff_iff]; simp [relB, notI]; omega)
theorem swap_two (rel : Int) : swapI rel = 2 ↔ rel = 2 := by
  rcases rel_cases rel with rfl | rfl | rfl | rfl | rfl | rfl | ⟨h1, h2, h3, h4, h5, h6⟩
  all_goals first
    | (simp [swapI]; done)
    | simp [swapI, h1, h2, h3, h4, h5, h6]
theorem holdsB_swap (rel k1 n1 : Int) (s1 : List UInt8) (k2 n2 : Int) (s2 : List UInt8) : holdsB (swapI rel) k2 n2 s2 k1 n1 s1 = holdsB rel k1 n1 s1 k2 n2 s2 := by
  unfold holdsB
  rw [cmpB_swap k1 k2, cmpV_swap k1 n1 s1 k2 n2 s2]
  by_cases h : cmpB k1 k2 = true
  · rw [if_pos h, if_pos h]; exact relB_swap _ _
  · rw [if_neg h, if_neg h]
    rw [Bool.eq_iff_iff]; simp [swap_two]; intro _; exact And.comm
theorem holdsB_not (rel k1 n1 : Int) (s1 : List UInt8) (k2 n2 : Int) (s2 : List UInt8) (h : 1 ≤ rel) (h2 : rel ≤ 6) (hb : cmpB k1 k2 = true) : holdsB (notI rel) k1 n1 s1 k2 n2 s2 = !holdsB rel k1 n1 s1 k2 n2 s2 := by
  unfold holdsB
  rw [if_pos hb, if_pos hb]; exact relB_not _ _ h h2
theorem swap_four (rel : Int) : swapI (swapI rel) = swapI (swapI (swapI (swapI rel))) := by
  rcases rel_cases rel with rfl | rfl | rfl | rfl | rfl | rfl | ⟨h1, h2, h3, h4, h5, h6⟩
  all_goals first
    | (simp [swapI]; done)
    | simp [swapI, h1, h2, h3, h4, h5, h6]

/-- Whether a value may be. -/
def ckB (k n : Int) (s : List UInt8) : Bool := if k = 1 then s.isEmpty else if k = 2 then decide (n = 0) && decide (s.length ≤ 64) else false
def ckI (k n : Int) (s : List UInt8) : Int := if ckB k n s = true then 0 else 30
/-- Whether a text is a name. -/
def digB (c : UInt8) : Bool := decide (48 ≤ c.toNat) && decide (c.toNat ≤ 57)
def letB (c : UInt8) : Bool := (decide (97 ≤ c.toNat) && decide (c.toNat ≤ 122)) || (decide (65 ≤ c.toNat) && decide (c.toNat ≤ 90)) || decide (c.toNat = 95)
def okAt (s : List UInt8) (i : Nat) : Bool := letB (s.getD i 0) || (digB (s.getD i 0) && !decide (i = 0))
def nameB (s : List UInt8) : Bool := decide (s ≠ [] ∧ s.length ≤ 32 ∧ ∀ i, i < s.length → okAt s i = true)
theorem let_dig {c : UInt8} (h : letB c = true) : digB c = false := by
  rw [Bool.eq_false_iff]; intro h2
  simp [letB] at h; simp [digB] at h2; omega
theorem nameB_yes {s : List UInt8} (h0 : s ≠ []) (h1 : s.length ≤ 32) (h2 : ∀ i, i < s.length → okAt s i = true) : nameB s = true := decide_eq_true ⟨h0, h1, h2⟩
theorem nameB_empty : nameB [] = false := by decide
theorem nameB_long {s : List UInt8} (h : 32 < s.length) : nameB s = false := decide_eq_false fun ⟨_, h1, _⟩ => by omega
theorem nameB_at {s : List UInt8} {i : Nat} (hi : i < s.length) (h : okAt s i = false) : nameB s = false := decide_eq_false fun ⟨_, _, h2⟩ => by rw [h2 i hi] at h; cases h
end Go.Proofs.Ythjhbnfedelniaa
namespace Go.Proofs.Ythjhbnfedelniaa
open Go Go.Sort

/-- An attribute: its name; its value's kind, number, text. -/
structure At where
  name : ByteArray
  k : Int
  n : Int
  s : ByteArray
  deriving DecidableEq, Inhabited
def enc4 (x : At) : List Value := [.string x.name, .int .i64 x.k, .int .i64 x.n, .string x.s]
def cfA (x y : At) : Int := Lib.compareBytes x.name.data.toList y.name.data.toList
theorem cfA_swap (x y : At) : cfA y x = -cfA x y := cb_swap _ _

/-- What is wrong with attributes from the i-th on. -/
def ckGo (xs : List At) (i : Nat) : Int :=
  if i < xs.length then
    if nameB xs[i]!.name.data.toList = false then 31
    else if ckB xs[i]!.k xs[i]!.n xs[i]!.s.data.toList = false then 30
    else if 0 < i ∧ cfA xs[i]! xs[i - 1]! ≤ 0 then 32
    else ckGo xs (i + 1)
  else 0
termination_by xs.length - i
def ckAll (xs : List At) : Int := if 8 < xs.length then 3 else ckGo xs 0
theorem ckGo_end {xs : List At} {i : Nat} (h : ¬ i < xs.length) : ckGo xs i = 0 := by rw [ckGo, if_neg h]
theorem ckGo_name {xs : List At} {i : Nat} (h : i < xs.length) (h1 : nameB xs[i]!.name.data.toList = false) : ckGo xs i = 31 := by rw [ckGo, if_pos h, if_pos h1]
theorem ckGo_val {xs : List At} {i : Nat} (h : i < xs.length) (h1 : nameB xs[i]!.name.data.toList = true) (h2 : ckB xs[i]!.k xs[i]!.n xs[i]!.s.data.toList = false) : ckGo xs i = 30 := by
  rw [ckGo, if_pos h, if_neg (by rw [h1]; decide), if_pos h2]
theorem ckGo_ord {xs : List At} {i : Nat} (h : i < xs.length) (h1 : nameB xs[i]!.name.data.toList = true) (h2 : ckB xs[i]!.k xs[i]!.n xs[i]!.s.data.toList = true) (h3 : 0 < i ∧ cfA xs[i]! xs[i - 1]! ≤ 0) : ckGo xs i = 32 := by
  rw [ckGo, if_pos h, if_neg (by rw [h1]; decide), if_neg (by rw [h2]; decide), if_pos h3]
theorem ckGo_go {xs : List At} {i : Nat} (h : i < xs.length) (h1 : nameB xs[i]!.name.data.toList = true) (h2 : ckB xs[i]!.k xs[i]!.n xs[i]!.s.data.toList = true) (h3 : ¬ (0 < i ∧ cfA xs[i]! xs[i - 1]! ≤ 0)) : ckGo xs i = ckGo xs (i + 1) := by
  rw [ckGo, if_pos h, if_neg (by rw [h1]; decide), if_neg (by rw [h2]; decide), if_neg h3]
theorem ckGo_range (xs : List At) (i : Nat) : 0 ≤ ckGo xs i ∧ ckGo xs i ≤ 32 := by
  generalize hm : xs.length - i = m
  induction m generalizing i with
  | zero => rw [ckGo_end (by omega)]; omega
  | succ m ih =>
    rw [ckGo]
    have := ih (i + 1) (by omega)
    split
    · split
      · omega
      · split
        · omega
        · split
          · omega
          · exact this
    · omega

/-- Put behind the last that is not above it. -/
def insRev : List At → At → List At
  | [], x => [x]
  | a :: r, x => if cfA x a < 0 then a :: insRev r x else x :: a :: r
def insL (l : List At) (x : At) : List At := (insRev l.reverse x).reverse
def sortL (l : List At) : List At := l.foldl insL []
theorem insRev_len : ∀ (l : List At) (x : At), (insRev l x).length = l.length + 1
  | [], x => rfl
  | a :: r, x => by
    have := insRev_len r x
    unfold insRev; split
    · simp [this]
    · simp
theorem insL_len (l : List At) (x : At) : (insL l x).length = l.length + 1 := by simp [insL, insRev_len]
theorem sortL_snoc (l : List At) (x : At) : sortL (l ++ [x]) = insL (sortL l) x := by simp [sortL]
theorem sortL_len (l : List At) : (sortL l).length = l.length := by
  suffices h : ∀ (l acc : List At), (l.foldl insL acc).length = acc.length + l.length by simpa [sortL] using h l []
  intro l
  induction l with
  | nil => simp
  | cons a r ih => intro acc; rw [List.foldl_cons, ih, insL_len]; simp; omega
theorem insRev_mem : ∀ (l : List At) (x y : At), y ∈ insRev l x → y = x ∨ y ∈ l
  | [], x, y, h => by simp [insRev] at h; exact .inl h
  | a :: r, x, y, h => by
    unfold insRev at h
    split at h
    · rcases List.mem_cons.1 h with h | h
      · exact .inr (by simp [h])
      · rcases insRev_mem r x y h with h | h
        · exact .inl h
        · exact .inr (by simp [h])
    · simpa using h
theorem sortL_mem (l : List At) (y : At) (h : y ∈ sortL l) : y ∈ l := by
  suffices hh : ∀ (l acc : List At), y ∈ l.foldl insL acc → y ∈ acc ∨ y ∈ l by
    rcases hh l [] h with h | h
    · simp at h
    · exact h
  intro l
  induction l with
  | nil => intro acc h; exact .inl h
  | cons a r ih =>
    intro acc h
    rcases ih _ h with h | h
    · have h2 : y ∈ insRev acc.reverse a := by simpa [insL] using h
      rcases insRev_mem _ _ _ h2 with h | h
      · exact .inr (by simp [h])
      · exact .inl (by simpa using h)
    · exact .inr (by simp [h])
theorem insRev_all : ∀ (B A : List At) (x : At), (∀ b ∈ B, cfA x b < 0) → insRev (B ++ A) x = B ++ insRev A x
  | [], A, x, _ => rfl
  | b :: B, A, x, h => by
    have h1 := h b (by simp)
    rw [List.cons_append, insRev, if_pos h1, insRev_all B A x (fun c hc => h c (by simp [hc]))]; rfl
/-- Where it is put. -/
theorem insL_at (A B : List At) (x : At) (hB : ∀ b ∈ B, cfA x b < 0) (hA : ∀ a, A.getLast? = some a → ¬ cfA x a < 0) : insL (A ++ B) x = A ++ x :: B := by
  unfold insL
  rw [List.reverse_append, insRev_all _ _ _ (fun b hb => hB b (by simpa using hb))]
  have h2 : insRev A.reverse x = x :: A.reverse := by
    cases hr : A.reverse with
    | nil => rfl
    | cons a r =>
      have ha : A.getLast? = some a := by rw [← List.head?_reverse, hr]; rfl
      rw [insRev, if_neg (hA a ha)]
  rw [h2]; simp

/-! The library's insertion sort lays them so. -/
theorem swp_two (A C : List At) (a x : At) : swp (A ++ a :: x :: C).toArray (A.length + 1) A.length = (A ++ x :: a :: C).toArray := by
  have h0 : (A ++ a :: x :: C).toArray[A.length]! = a := by simp
  have h1 : (A ++ a :: x :: C).toArray[A.length + 1]! = x := by simp
  unfold swp
  rw [h0, h1]
  simp
theorem insInner_eq (x : At) : ∀ (R C : List At), insInner (ltOf cfA) 0 R.length (R.reverse ++ x :: C).toArray = ((insRev R x).reverse ++ C).toArray
  | [], C => by simp [insInner, insRev]
  | a :: R, C => by
    have e : (a :: R).reverse ++ x :: C = R.reverse ++ a :: x :: C := by simp
    rw [e, List.length_cons, insInner]
    have h0 : (R.reverse ++ a :: x :: C).toArray[R.length]! = a := by
      have : R.length = R.reverse.length := by simp
      rw [this]; simp
    have h1 : (R.reverse ++ a :: x :: C).toArray[R.length + 1]! = x := by
      have : R.length = R.reverse.length := by simp
      rw [this]; simp
    rw [h0, h1]
    by_cases hlt : cfA x a < 0
    · have hc : (decide (R.length + 1 > 0) && ltOf cfA x a) = true := by simp [ltOf, hlt]
      rw [if_pos hc]
      have hs := swp_two R.reverse C a x
      rw [List.length_reverse] at hs
      rw [hs, insInner_eq x R (a :: C), insRev, if_pos hlt]
      simp
    · have hc : ¬ (decide (R.length + 1 > 0) && ltOf cfA x a) = true := by simp [ltOf, hlt]
      rw [if_neg hc, insRev, if_neg hlt]
      simp
theorem insOuter_eq (xs : List At) : ∀ (m i : Nat), i + m = xs.length → 1 ≤ i → insOuter (ltOf cfA) 0 xs.length i (sortL (xs.take i) ++ xs.drop i).toArray = (sortL xs).toArray
  | 0, i, h, _ => by
    rw [insOuter, if_neg (by omega), List.take_of_length_le (by omega), List.drop_of_length_le (by omega)]; simp
  | m + 1, i, h, h1 => by
    have hi : i < xs.length := by omega
    rw [insOuter, if_pos hi]
    have hl : (sortL (xs.take i)).reverse.length = i := by rw [List.length_reverse, sortL_len, List.length_take]; omega
    have hd : xs.drop i = xs[i] :: xs.drop (i + 1) := List.drop_eq_getElem_cons hi
    have hin := insInner_eq xs[i] (sortL (xs.take i)).reverse (xs.drop (i + 1))
    rw [hl, List.reverse_reverse] at hin
    rw [hd, hin]
    have ht : xs.take (i + 1) = xs.take i ++ [xs[i]] := List.take_succ_eq_append_getElem hi
    have := insOuter_eq xs m (i + 1) (by omega) (by omega)
    rw [ht, sortL_snoc] at this
    exact this
theorem insertion_eq (xs : List At) : insertionSort (ltOf cfA) xs.toArray 0 xs.length = (sortL xs).toArray := by
  unfold insertionSort
  cases xs with
  | nil => rw [insOuter, if_neg (by simp)]; rfl
  | cons a r =>
    have h := insOuter_eq (a :: r) r.length 1 (by simp; omega) (Nat.le_refl _)
    simpa [sortL, insL, insRev] using h
end Go.Proofs.Ythjhbnfedelniaa
namespace Go.Proofs.Ythjhbnfedelniaa
open Go Go.RowKit

theorem ckI_ok {k n : Int} {s : List UInt8} (h : ckB k n s = true) : ckI k n s = 0 := by unfold ckI; rw [if_pos h]
theorem ckI_no {k n : Int} {s : List UInt8} (h : ckB k n s = false) : ckI k n s = 30 := by unfold ckI; rw [h]; rfl

set_option maxHeartbeats 1000000 in
theorem vCheck_any (k n : Int) (s : ByteArray) (w : World) (hs : s.size ≤ maxLen) :
    Calls Try.prog 74 #[.agg #[.int .i64 k, .int .i64 n, .string s]] w fun e w' => e = .returned (.int .i64 (ckI k n s.data.toList)) ∧ Below w.heap.size w w' := by
  unfold maxLen at hs
  have hl : s.data.toList.length = s.size := by simp
  have ht := Lib.toList_data s
  by_cases h1 : k = 1
  · subst h1
    cases he : s.toList.isEmpty with
    | true =>
      rw [ckI_ok (by simp only [ckB, if_true]; rw [← ht]; exact he)]
      have he' : s.toList = [] := by simpa using he
      clear hl ht he
      go_enter Try.func74, Try.ntmps74
      go_wp2
      go_ret
      exact ⟨rfl, (Below.refl _ _).alloc (Nat.le_refl _) _⟩
    | false =>
      rw [ckI_no (by simp only [ckB, if_true]; rw [← ht]; exact he)]
      clear hl ht
      go_enter Try.func74, Try.ntmps74
      go_wp2
      go_ret
      exact ⟨rfl, (Below.refl _ _).alloc (Nat.le_refl _) _⟩
  · have b1 : (k == 1) = false := by simpa using h1
    by_cases h2 : k = 2
    · subst h2
      by_cases hn : n = 0
      · subst hn
        by_cases hz : s.size ≤ 64
        · rw [ckI_ok (by simp [ckB]; omega)]
          clear hl ht b1 h1
          go_enter Try.func74, Try.ntmps74
          go_wp2
          go_ret
          exact ⟨rfl, (Below.refl _ _).alloc (Nat.le_refl _) _⟩
        · rw [ckI_no (by simp [ckB]; omega)]
          have hz' : ¬ ((s.size : Int) ≤ 64) := by omega
          clear hl ht b1 h1
          go_enter Try.func74, Try.ntmps74
          go_wp2
          go_ret
          exact ⟨rfl, (Below.refl _ _).alloc (Nat.le_refl _) _⟩
      · rw [ckI_no (by simp [ckB, hn])]
        have bn : (n == 0) = false := by simpa using hn
        clear hl ht b1 h1
        go_enter Try.func74, Try.ntmps74
        go_wp2
        go_ret
        exact ⟨rfl, (Below.refl _ _).alloc (Nat.le_refl _) _⟩
    · have b2 : (k == 2) = false := by simpa using h2
      rw [ckI_no (by simp [ckB, h1, h2])]
      clear hl ht h1 h2
      go_enter Try.func74, Try.ntmps74
      go_wp2
      go_ret
      exact ⟨rfl, (Below.refl _ _).alloc (Nat.le_refl _) _⟩
set_option maxHeartbeats 1000000 in
theorem r3Check_any (k n : Int) (s : ByteArray) (w : World) (hs : s.size ≤ maxLen) :
    Calls Try.prog 76 #[.agg #[.int .i64 k, .int .i64 n, .string s]] w fun e w' => e = .returned (.int .i64 (ckI k n s.data.toList)) ∧ Below w.heap.size w w' := by
  unfold maxLen at hs
  have hl : s.data.toList.length = s.size := by simp
  have ht := Lib.toList_data s
  by_cases h1 : k = 1
  · subst h1
    cases he : s.toList.isEmpty with
    | true =>
      rw [ckI_ok (by simp only [ckB, if_true]; rw [← ht]; exact he)]
      have he' : s.toList = [] := by simpa using he
      clear hl ht he
      go_enter Try.func76, Try.ntmps76
      go_wp2
      go_ret
      exact ⟨rfl, (Below.refl _ _).alloc (Nat.le_refl _) _⟩
    | false =>
      rw [ckI_no (by simp only [ckB, if_true]; rw [← ht]; exact he)]
      clear hl ht
      go_enter Try.func76, Try.ntmps76
      go_wp2
      go_ret
      exact ⟨rfl, (Below.refl _ _).alloc (Nat.le_refl _) _⟩
  · have b1 : (k == 1) = false := by simpa using h1
    by_cases h2 : k = 2
    · subst h2
      by_cases hn : n = 0
      · subst hn
        by_cases hz : s.size ≤ 64
        · rw [ckI_ok (by simp [ckB]; omega)]
          clear hl ht b1 h1
          go_enter Try.func76, Try.ntmps76
          go_wp2
          go_ret
          exact ⟨rfl, (Below.refl _ _).alloc (Nat.le_refl _) _⟩
        · rw [ckI_no (by simp [ckB]; omega)]
          have hz' : ¬ ((s.size : Int) ≤ 64) := by omega
          clear hl ht b1 h1
          go_enter Try.func76, Try.ntmps76
          go_wp2
          go_ret
          exact ⟨rfl, (Below.refl _ _).alloc (Nat.le_refl _) _⟩
      · rw [ckI_no (by simp [ckB, hn])]
        have bn : (n == 0) = false := by simpa using hn
        clear hl ht b1 h1
        go_enter Try.func76, Try.ntmps76
        go_wp2
        go_ret
        exact ⟨rfl, (Below.refl _ _).alloc (Nat.le_refl _) _⟩
    · have b2 : (k == 2) = false := by simpa using h2
      rw [ckI_no (by simp [ckB, h1, h2])]
      clear hl ht h1 h2
      go_enter Try.func76, Try.ntmps76
      go_wp2
      go_ret
      exact ⟨rfl, (Below.refl _ _).alloc (Nat.le_refl _) _⟩

/-- Two values' answers of Compare. -/
def cmpT (k1 n1 : Int) (s1 : ByteArray) (k2 n2 : Int) (s2 : ByteArray) : Value := .tuple #[.int .i64 (cmpV k1 n1 s1.data.toList k2 n2 s2.data.toList), .bool (cmpB k1 k2)]
theorem cmpT_no {k1 k2 : Int} (h : cmpB k1 k2 = false) (n1 : Int) (s1 : ByteArray) (n2 : Int) (s2 : ByteArray) : cmpT k1 n1 s1 k2 n2 s2 = .tuple #[.int .i64 0, .bool false] := by unfold cmpT; rw [cmpV_no h, h]
theorem cmpT_ii (n1 : Int) (s1 : ByteArray) (n2 : Int) (s2 : ByteArray) : cmpT 1 n1 s1 1 n2 s2 = .tuple #[.int .i64 (cmpI n1 n2), .bool true] := by unfold cmpT; rw [cmpV_ii]; rfl
theorem cmpT_ss (n1 : Int) (s1 : ByteArray) (n2 : Int) (s2 : ByteArray) : cmpT 2 n1 s1 2 n2 s2 = .tuple #[.int .i64 (Lib.compareBytes s1.data.toList s2.data.toList), .bool true] := by unfold cmpT; rw [cmpV_ss]; rfl

end Go.Proofs.Ythjhbnfedelniaa
namespace Go.Proofs.Ythjhbnfedelniaa
open Go Go.RowKit

end Go.Proofs.Ythjhbnfedelniaa
namespace Go.Proofs.Ythjhbnfedelniaa
open Go Go.RowKit

theorem bcell {W w1 : World} (hb : Below W.heap.size W w1) : (∀ b o, b < W.heap.size → w1.cell? ⟨b, o, none⟩ = W.cell? ⟨b, o, none⟩) ∧ (∀ b o, b < W.heap.size → w1.frozen? ⟨b, o, none⟩ = W.frozen? ⟨b, o, none⟩) :=
  ⟨fun b o h => hb.cell (p := ⟨b, o, none⟩) h, fun b o h => hb.frozen (p := ⟨b, o, none⟩) h⟩
theorem holdsB_yes {rel k1 n1 : Int} {s1 : List UInt8} {k2 n2 : Int} {s2 : List UInt8} (h : cmpB k1 k2 = true) : holdsB rel k1 n1 s1 k2 n2 s2 = relB rel (cmpV k1 n1 s1 k2 n2 s2) := by unfold holdsB; rw [if_pos h]
theorem holdsB_no {rel k1 n1 : Int} {s1 : List UInt8} {k2 n2 : Int} {s2 : List UInt8} (h : cmpB k1 k2 = false) : holdsB rel k1 n1 s1 k2 n2 s2 = (decide (rel = 2) && (kindB k1 && kindB k2)) := by unfold holdsB; rw [h]; rfl

end Go.Proofs.Ythjhbnfedelniaa
namespace Go.Proofs.Ythjhbnfedelniaa
open Go Go.RowKit

/-- Whether two values are the same; two attributes. -/
def vEq (k1 n1 : Int) (s1 : ByteArray) (k2 n2 : Int) (s2 : ByteArray) : Bool := k1 == k2 && (n1 == n2 && s1.toList == s2.toList)
def aEq (x y : At) : Bool := x.name.toList == y.name.toList && vEq x.k x.n x.s y.k y.n y.s
theorem ba_ext2 {a b : ByteArray} (h : a.toList = b.toList) : a = b := by
  rw [Lib.toList_data, Lib.toList_data] at h
  cases a; cases b; simp at h; rw [h]
theorem vEq_iff {k1 n1 : Int} {s1 : ByteArray} {k2 n2 : Int} {s2 : ByteArray} : vEq k1 n1 s1 k2 n2 s2 = true ↔ k1 = k2 ∧ n1 = n2 ∧ s1 = s2 := by
  unfold vEq
  simp only [Bool.and_eq_true, beq_iff_eq]
  exact ⟨fun ⟨a, b, c⟩ => ⟨a, b, ba_ext2 c⟩, fun ⟨a, b, c⟩ => ⟨a, b, by rw [c]⟩⟩
theorem aEq_iff {x y : At} : aEq x y = true ↔ x = y := by
  unfold aEq
  rw [Bool.and_eq_true, vEq_iff, beq_iff_eq]
  constructor
  · rintro ⟨a, b, c, d⟩
    cases x; cases y
    simp only at a b c d
    subst b c d
    rw [ba_ext2 a]
  · rintro rfl; simp
theorem vEq_run (k1 n1 : Int) (s1 : ByteArray) (k2 n2 : Int) (s2 : ByteArray) (w : World) :
    (binOp .eql 55 (.agg #[.int .i64 k1, .int .i64 n1, .string s1]) (.agg #[.int .i64 k2, .int .i64 n2, .string s2])).run Try.prog w = .ok (.bool (vEq k1 n1 s1 k2 n2 s2)) w := by
  have a2 := Try.isAgg2; have z2 := Try.sizeOf2; have u2 := Try.underlying2
  have a3 := Try.isAgg3; have z3 := Try.sizeOf3; have u3 := Try.underlying3
  have a9 := Try.isAgg9; have z9 := Try.sizeOf9; have u9 := Try.underlying9
  have hS : Try.prog.underlying 55 = some (.struct (Try.prog.fieldsOf 55)) := by kernel_rfl
  have hp : Try.prog.stoodInHeld 55 = false := by kernel_rfl
  rw [run_eql_struct, show (10000 : Nat) = 9999 + 1 from rfl, run_equalIn_agg w 9999 55 _ _ hS hp]
  simp only [Program.fieldsOf, Try.underlying55]
  go_simp
  unfold vEq
  by_cases h1 : k1 = k2 <;> by_cases h2 : n1 = n2 <;> by_cases h3 : s1.toList = s2.toList <;> simp [h1, h2, h3]
theorem vNe_run (k1 n1 : Int) (s1 : ByteArray) (k2 n2 : Int) (s2 : ByteArray) (w : World) :
    (binOp .neq 55 (.agg #[.int .i64 k1, .int .i64 n1, .string s1]) (.agg #[.int .i64 k2, .int .i64 n2, .string s2])).run Try.prog w = .ok (.bool (!vEq k1 n1 s1 k2 n2 s2)) w := by
  have h := vEq_run k1 n1 s1 k2 n2 s2 w
  rw [run_eql_struct] at h
  rw [run_neq_struct]
  cases hr : (Op.equalIn 10000 55 (.agg #[.int .i64 k1, .int .i64 n1, .string s1]) (.agg #[.int .i64 k2, .int .i64 n2, .string s2])).run Try.prog w with
  | ok b w' =>
    rw [hr] at h
    simp only [Result.andThen, Result.ok.injEq, Value.bool.injEq] at h
    obtain ⟨rfl, rfl⟩ := h
    rfl
  | _ => rw [hr] at h; simp [Result.andThen] at h
theorem vGuard (op : BinOp) (x y : Operand) (k1 n1 : Int) (s1 : ByteArray) (k2 n2 : Int) (s2 : ByteArray) (w : World) :
    (eqGuard op 55 x y (.agg #[.int .i64 k1, .int .i64 n1, .string s1]) (.agg #[.int .i64 k2, .int .i64 n2, .string s2])).run Try.prog w = .ok () w := run_eqGuard_agg w op _ x y _ _ (by kernel_rfl)

theorem aNe : NeqAt Try.prog 57 (fun x : At => .agg (enc4 x).toArray) aEq := by
  refine ⟨fun x y w => ?_, GuardAt.agg _ (by kernel_rfl)⟩
  have a2 := Try.isAgg2; have z2 := Try.sizeOf2; have u2 := Try.underlying2
  have a3 := Try.isAgg3; have z3 := Try.sizeOf3; have u3 := Try.underlying3
  have a9 := Try.isAgg9; have z9 := Try.sizeOf9; have u9 := Try.underlying9
  have a23 := Try.isAgg55; have z23 := Try.sizeOf55
  have hS : Try.prog.underlying 57 = some (.struct (Try.prog.fieldsOf 57)) := by kernel_rfl
  have hp : Try.prog.stoodInHeld 57 = false := by kernel_rfl
  have hS2 : Try.prog.underlying 55 = some (.struct (Try.prog.fieldsOf 55)) := by kernel_rfl
  have hp2 : Try.prog.stoodInHeld 55 = false := by kernel_rfl
  obtain ⟨n1, k1, m1, s1⟩ := x
  obtain ⟨n2, k2, m2, s2⟩ := y
  simp only [enc4]
  rw [run_neq_struct, show (10000 : Nat) = 9998 + 1 + 1 from rfl, run_equalIn_agg w (9998 + 1) 57 _ _ hS hp]
  simp only [Program.fieldsOf, Try.underlying57]
  have hq : ∀ w : World, (Op.equalIn (9998 + 1) 55 (.agg #[.int .i64 k1, .int .i64 m1, .string s1]) (.agg #[.int .i64 k2, .int .i64 m2, .string s2])).run Try.prog w = .ok (vEq k1 m1 s1 k2 m2 s2) w := fun w => by
    rw [run_equalIn_agg w 9998 55 _ _ hS2 hp2]
    simp only [Program.fieldsOf, Try.underlying55]
    go_simp
    unfold vEq
    by_cases h1 : k1 = k2 <;> by_cases h2 : m1 = m2 <;> by_cases h3 : s1.toList = s2.toList <;> simp [h1, h2, h3]
  go_simp
  unfold aEq
  by_cases h1 : n1.toList = n2.toList <;> cases h2 : vEq k1 m1 s1 k2 m2 s2 <;> simp [h1]
end Go.Proofs.Ythjhbnfedelniaa
namespace Go.Proofs.Ythjhbnfedelniaa
open Go Go.RowKit

/-- In w the value v is a slice of the attributes, which lie below block B. -/
structure Av (w : World) (B : Nat) (v : Value) (xs : List At) : Prop where
  wide : ∀ x ∈ xs, x.name.size ≤ maxLen ∧ x.s.size ≤ maxLen
  len : xs.length * 48 ≤ 140737488355328
  row : ∃ ao cap, v = .slice ao xs.length cap ∧ xs.length ≤ cap ∧ cap ≤ 9223372036854775807 ∧ (0 < xs.length → ∃ b o, ao = some ⟨b, o, none⟩ ∧ b < B ∧ ∀ j, j < xs.length → ∀ i u, (enc4 xs[j]!)[i]? = some u → w.cell? ⟨b, o + j * 4 + i, none⟩ = some u)
theorem Av.keep {w w' : World} {B : Nat} {v : Value} {xs : List At} (h : Av w B v xs) (hk : ∀ b o, b < B → w'.cell? ⟨b, o, none⟩ = w.cell? ⟨b, o, none⟩) : Av w' B v xs := by
  obtain ⟨ao, cap, h1, h2, h2', h3⟩ := h.row
  refine ⟨h.wide, h.len, ao, cap, h1, h2, h2', fun hn => ?_⟩
  obtain ⟨b, o, h4, h5, h6⟩ := h3 hn
  exact ⟨b, o, h4, h5, fun j hj i u hu => (hk _ _ h5).trans (h6 j hj i u hu)⟩
theorem Av.below {w w' : World} {B B' : Nat} {v : Value} {xs : List At} (h : Av w B v xs) (hb : Below B' w w') (hB : B ≤ B') : Av w' B v xs :=
  h.keep fun _ _ hlt => hb.cell (Nat.lt_of_lt_of_le hlt hB)
theorem Av.mono {w : World} {B B' : Nat} {v : Value} {xs : List At} (h : Av w B v xs) (hB : B ≤ B') : Av w B' v xs := by
  obtain ⟨ao, cap, h1, h2, h2', h3⟩ := h.row
  refine ⟨h.wide, h.len, ao, cap, h1, h2, h2', fun hn => ?_⟩
  obtain ⟨b, o, h4, h5, h6⟩ := h3 hn
  exact ⟨b, o, h4, Nat.lt_of_lt_of_le h5 hB, h6⟩
theorem Av.shape {w : World} {B : Nat} {v : Value} {xs : List At} (h : Av w B v xs) : ∃ ao cap, v = .slice ao xs.length cap := by
  obtain ⟨ao, cap, h1, _⟩ := h.row
  exact ⟨ao, cap, h1⟩
theorem Av.nil (w : World) (B : Nat) : Av w B (.slice none 0 0) [] := ⟨by simp, by simp, none, 0, rfl, by simp, by simp, fun h => by simp at h⟩
/-- Where it lies, if it holds something. -/
theorem Av.at {w : World} {B : Nat} {ao : Option Addr} {n cap : Nat} {xs : List At} (h : Av w B (.slice ao n cap) xs) (h0 : 0 < n) :
    ∃ b o, ao = some ⟨b, o, none⟩ ∧ b < B ∧ n = xs.length ∧ n ≤ cap ∧ cap ≤ 9223372036854775807 ∧ ∀ j, j < xs.length → ∀ i u, (enc4 xs[j]!)[i]? = some u → w.cell? ⟨b, o + j * 4 + i, none⟩ = some u := by
  obtain ⟨ao', cap', h1, h2, h2', h3⟩ := h.row
  simp only [Value.slice.injEq] at h1
  obtain ⟨rfl, rfl, rfl⟩ := h1
  obtain ⟨b, o, h4, h5, h6⟩ := h3 h0
  exact ⟨b, o, h4, h5, rfl, h2, h2', h6⟩
theorem Av.num {w : World} {B : Nat} {ao : Option Addr} {n cap : Nat} {xs : List At} (h : Av w B (.slice ao n cap) xs) : n = xs.length ∧ n ≤ 9223372036854775807 := by
  obtain ⟨ao', cap', h1, _, _, _⟩ := h.row
  simp only [Value.slice.injEq] at h1
  have := h.len
  exact ⟨h1.2.1, by omega⟩
/-- An element's cells, as a walk reckons them. -/
theorem four_cells {w : World} {b a : Nat} {x : At} (h : ∀ i u, (enc4 x)[i]? = some u → w.cell? ⟨b, a + i, none⟩ = some u) :
    w.cell? ⟨b, a, none⟩ = some (.string x.name) ∧ w.cell? ⟨b, a + 1, none⟩ = some (.int .i64 x.k) ∧ w.cell? ⟨b, a + 2, none⟩ = some (.int .i64 x.n) ∧ w.cell? ⟨b, a + 3, none⟩ = some (.string x.s) :=
  ⟨h 0 _ rfl, h 1 _ rfl, h 2 _ rfl, h 3 _ rfl⟩
theorem enc4_len (x : At) : (enc4 x).length = 4 := rfl
theorem enc4_one (x : At) : ∀ v ∈ enc4 x, v.oneCell' = true := by
  intro v hv; simp [enc4] at hv; rcases hv with rfl | rfl | rfl | rfl <;> rfl
theorem flat_at (xs : List At) (j i : Nat) (hj : j < xs.length) (u : Value) (h : (enc4 xs[j]!)[i]? = some u) : (xs.flatMap enc4)[j * 4 + i]? = some u := by
  induction xs generalizing j with
  | nil => simp at hj
  | cons x r ih =>
    cases j with
    | zero =>
      have hi : i < 4 := by have := (List.getElem?_eq_some_iff.1 h).1; simpa [enc4_len] using this
      rw [List.flatMap_cons, List.getElem?_append_left (by rw [enc4_len]; omega)]
      simpa using h
    | succ j =>
      rw [List.flatMap_cons, List.getElem?_append_right (by rw [enc4_len]; omega), enc4_len, show (j + 1) * 4 + i - 4 = j * 4 + i by omega]
      exact ih j (by simpa using hj) (by simpa using h)
theorem flat4_len (xs : List At) : (xs.flatMap enc4).length = xs.length * 4 := by
  induction xs with
  | nil => rfl
  | cons x r ih => rw [List.flatMap_cons, List.length_append, ih, enc4_len, List.length_cons]; omega
theorem flat4_one (xs : List At) : ∀ u ∈ xs.flatMap enc4, u.oneCell' = true := by
  intro u hu
  obtain ⟨x, _, hx⟩ := List.mem_flatMap.1 hu
  exact enc4_one x u hx
/-- Attributes of the call's own. -/
theorem Av.of_own {w : World} {B : Nat} {v : Value} {xs : List At} (h : w.ownsRow B 57 4 v xs.length (xs.flatMap enc4)) (hw : ∀ x ∈ xs, x.name.size ≤ maxLen ∧ x.s.size ≤ maxLen) (hl : xs.length * 48 ≤ 140737488355328) : Av w w.heap.size v xs := by
  rcases h.2 with ⟨hv, hn0⟩ | ⟨g, cap, cur, hv, hg, hgg, hgn, hcapm, hcsz, htake⟩
  · exact ⟨hw, hl, none, 0, by rw [hv, hn0], by omega, by omega, fun hn => by omega⟩
  · have hc : xs.length ≤ cap ∧ cap ≤ 9223372036854775807 := by
      refine ⟨?_, ?_⟩ <;> first | assumption | (unfold maxLen at *; omega)
    refine ⟨hw, hl, some ⟨g, 0, none⟩, cap, hv, hc.1, hc.2, fun hn => ⟨g, 0, rfl, lt_of_block hgg, fun j hj i u hu => ?_⟩⟩
    subst hv
    have := h.cells (g := g) rfl (j * 4 + i) u (flat_at xs j i hj u hu)
    have e : (⟨g, 0, none⟩ : Addr).add (j * 4 + i) = ⟨g, j * 4 + i, none⟩ := by unfold Addr.add; split <;> simp_all
    rw [e] at this
    rw [Nat.zero_add]; exact this
end Go.Proofs.Ythjhbnfedelniaa
namespace Go.Proofs.Ythjhbnfedelniaa
open Go Go.RowKit

theorem at_eq (s : ByteArray) (k : Nat) (h : k < s.size) : s.data.toList.getD k 0 = s[k] := by
  have h2 : k < s.data.toList.length := by simpa using h
  simp [List.getD, List.getElem?_eq_getElem h2]; rfl
theorem vIsDigit_any (c : UInt8) (w : World) : Calls Try.prog 72 #[.int .u8 (c.toNat : Int)] w fun e w' => e = .returned (.bool (digB c)) ∧ w = w' := by
  have hd : digB c = (decide (48 ≤ c.toNat) && decide (c.toNat ≤ 57)) := rfl
  generalize c.toNat = n at hd ⊢
  by_cases h0 : 48 ≤ n
  · by_cases h1 : n ≤ 57
    · rw [show digB c = true by rw [hd]; simp [h0, h1]]
      clear hd
      go_enter Try.func72, Try.ntmps72
      go_wp2
      go_ret
      first | exact ⟨rfl, rfl⟩ | exact ⟨by simp; omega, rfl⟩
    · rw [show digB c = false by rw [hd]; simp [h1]]
      clear hd
      go_enter Try.func72, Try.ntmps72
      go_wp2
      go_ret
      first | exact ⟨rfl, rfl⟩ | exact ⟨by simp; omega, rfl⟩
  · rw [show digB c = false by rw [hd]; simp [h0]]
    clear hd
    go_enter Try.func72, Try.ntmps72
    go_wp2
    go_ret
    first | exact ⟨rfl, rfl⟩ | exact ⟨by simp; omega, rfl⟩
theorem vIsLetter_any (c : UInt8) (w : World) : Calls Try.prog 73 #[.int .u8 (c.toNat : Int)] w fun e w' => e = .returned (.bool (letB c)) ∧ w = w' := by
  have hd : letB c = ((decide (97 ≤ c.toNat) && decide (c.toNat ≤ 122)) || (decide (65 ≤ c.toNat) && decide (c.toNat ≤ 90)) || decide (c.toNat = 95)) := rfl
  generalize c.toNat = n at hd ⊢
  have hw : n < 65 ∨ (65 ≤ n ∧ n ≤ 90) ∨ (90 < n ∧ n < 95) ∨ n = 95 ∨ (95 < n ∧ n < 97) ∨ (97 ≤ n ∧ n ≤ 122) ∨ 122 < n := by omega
  rcases hw with h | ⟨h, h2⟩ | ⟨h, h2⟩ | rfl | ⟨h, h2⟩ | ⟨h, h2⟩ | h
  · rw [show letB c = false by rw [hd]; simp; omega]
    clear hd
    have b : ((n : Int) == 95) = false := by simp; omega
    go_enter Try.func73, Try.ntmps73
    go_wp2
    go_ret
    first | exact ⟨rfl, rfl⟩ | exact ⟨by simp; omega, rfl⟩
  · rw [show letB c = true by rw [hd]; simp; omega]
    clear hd
    have b : ((n : Int) == 95) = false := by simp; omega
    go_enter Try.func73, Try.ntmps73
    go_wp2
    go_ret
    first | exact ⟨rfl, rfl⟩ | exact ⟨by simp; omega, rfl⟩
  · rw [show letB c = false by rw [hd]; simp; omega]
    clear hd
    have b : ((n : Int) == 95) = false := by simp; omega
    go_enter Try.func73, Try.ntmps73
    go_wp2
    go_ret
    first | exact ⟨rfl, rfl⟩ | exact ⟨by simp; omega, rfl⟩
  · rw [show letB c = true by rw [hd]; rfl]
    clear hd
    go_enter Try.func73, Try.ntmps73
    go_wp2
    go_ret
    first | exact ⟨rfl, rfl⟩ | exact ⟨by simp; omega, rfl⟩
  · rw [show letB c = false by rw [hd]; simp; omega]
    clear hd
    have b : ((n : Int) == 95) = false := by simp; omega
    go_enter Try.func73, Try.ntmps73
    go_wp2
    go_ret
    first | exact ⟨rfl, rfl⟩ | exact ⟨by simp; omega, rfl⟩
  · rw [show letB c = true by rw [hd]; simp; omega]
    clear hd
    have b : ((n : Int) == 95) = false := by simp; omega
    go_enter Try.func73, Try.ntmps73
    go_wp2
    go_ret
    first | exact ⟨rfl, rfl⟩ | exact ⟨by simp; omega, rfl⟩
  · rw [show letB c = false by rw [hd]; simp; omega]
    clear hd
    have b : ((n : Int) == 95) = false := by simp; omega
    go_enter Try.func73, Try.ntmps73
    go_wp2
    go_ret
    first | exact ⟨rfl, rfl⟩ | exact ⟨by simp; omega, rfl⟩
theorem r3letter_any (c : UInt8) (w : World) : Calls Try.prog 75 #[.int .u8 (c.toNat : Int)] w fun e w' => e = .returned (.bool (letB c)) ∧ w = w' := by
  have hd : letB c = ((decide (97 ≤ c.toNat) && decide (c.toNat ≤ 122)) || (decide (65 ≤ c.toNat) && decide (c.toNat ≤ 90)) || decide (c.toNat = 95)) := rfl
  generalize c.toNat = n at hd ⊢
  have hw : n < 65 ∨ (65 ≤ n ∧ n ≤ 90) ∨ (90 < n ∧ n < 95) ∨ n = 95 ∨ (95 < n ∧ n < 97) ∨ (97 ≤ n ∧ n ≤ 122) ∨ 122 < n := by omega
  rcases hw with h | ⟨h, h2⟩ | ⟨h, h2⟩ | rfl | ⟨h, h2⟩ | ⟨h, h2⟩ | h
  · rw [show letB c = false by rw [hd]; simp; omega]
    clear hd
    have b : ((n : Int) == 95) = false := by simp; omega
    go_enter Try.func75, Try.ntmps75
    go_wp2
    go_ret
    first | exact ⟨rfl, rfl⟩ | exact ⟨by simp; omega, rfl⟩
  · rw [show letB c = true by rw [hd]; simp; omega]
    clear hd
    have b : ((n : Int) == 95) = false := by simp; omega
    go_enter Try.func75, Try.ntmps75
    go_wp2
    go_ret
    first | exact ⟨rfl, rfl⟩ | exact ⟨by simp; omega, rfl⟩
  · rw [show letB c = false by rw [hd]; simp; omega]
    clear hd
    have b : ((n : Int) == 95) = false := by simp; omega
    go_enter Try.func75, Try.ntmps75
    go_wp2
    go_ret
    first | exact ⟨rfl, rfl⟩ | exact ⟨by simp; omega, rfl⟩
  · rw [show letB c = true by rw [hd]; rfl]
    clear hd
    go_enter Try.func75, Try.ntmps75
    go_wp2
    go_ret
    first | exact ⟨rfl, rfl⟩ | exact ⟨by simp; omega, rfl⟩
  · rw [show letB c = false by rw [hd]; simp; omega]
    clear hd
    have b : ((n : Int) == 95) = false := by simp; omega
    go_enter Try.func75, Try.ntmps75
    go_wp2
    go_ret
    first | exact ⟨rfl, rfl⟩ | exact ⟨by simp; omega, rfl⟩
  · rw [show letB c = true by rw [hd]; simp; omega]
    clear hd
    have b : ((n : Int) == 95) = false := by simp; omega
    go_enter Try.func75, Try.ntmps75
    go_wp2
    go_ret
    first | exact ⟨rfl, rfl⟩ | exact ⟨by simp; omega, rfl⟩
  · rw [show letB c = false by rw [hd]; simp; omega]
    clear hd
    have b : ((n : Int) == 95) = false := by simp; omega
    go_enter Try.func75, Try.ntmps75
    go_wp2
    go_ret
    first | exact ⟨rfl, rfl⟩ | exact ⟨by simp; omega, rfl⟩

set_option maxHeartbeats 1000000 in
theorem vName_any (s : ByteArray) (w : World) (hs : s.size ≤ maxLen) :
    Calls Try.prog 50 #[.string s] w fun e w' => e = .returned (.bool (nameB s.data.toList)) ∧ w = w' := by
  unfold maxLen at hs
  have hl : s.data.toList.length = s.size := by simp
  have ht := Lib.toList_data s
  cases he : s.toList.isEmpty with
  | true =>
    have he' : s.toList = [] := by simpa using he
    rw [← ht, he', nameB_empty]
    clear hl ht he
    go_enter Try.func50, Try.ntmps50
    go_wp2
    go_ret
    exact ⟨rfl, rfl⟩
  | false =>
    have h0 : 0 < s.size := by
      rcases Nat.eq_zero_or_pos s.size with h | h
      · exfalso
        rw [← hl, List.length_eq_zero_iff, ← ht] at h
        rw [h] at he; cases he
      · exact h
    have H0 : Hid (s.data.toList ≠ []) := fun h => by rw [h] at hl; simp at hl; omega
    have HL := Lib.hid hl
    clear hl ht
    by_cases hlen : 32 < s.size
    · rw [nameB_long (by rw [HL.out]; exact hlen)]
      go_enter Try.func50, Try.ntmps50
      go_wp2
      go_ret
      exact ⟨rfl, rfl⟩
    · cases hd : digB s[0] with
      | true =>
        rw [nameB_at (i := 0) (by rw [HL.out]; exact h0) (by unfold okAt; rw [at_eq s 0 h0, hd]; cases hx : letB s[0]; rfl; rw [let_dig hx] at hd; cases hd)]
        go_enter Try.func50, Try.ntmps50
        go_wp2_with (go_at_call 72; (with_reducible refine (vIsDigit_any _ _).mono ?_); rintro e w' ⟨rfl, rfl⟩)
        go_ret
        exact ⟨rfl, rfl⟩
      | false =>
        go_enter Try.func50, Try.ntmps50
        go_wp2_with (go_at_call 72; (with_reducible refine (vIsDigit_any _ _).mono ?_); rintro e w' ⟨rfl, rfl⟩)
        have HD := Lib.hid hd
        clear hd
        go_loop [18] (fun i => ∃ k : Nat, k ≤ s.size ∧ i = .int .i64 k ∧ Hid (∀ j, j < k → okAt s.data.toList j = true)) (fun i => s.size - (intOf i).toNat)
        case atStart => exact ⟨0, Nat.zero_le _, rfl, fun j hj => absurd hj (Nat.not_lt_zero _)⟩
        case round =>
          obtain ⟨k, hk, rfl, HA⟩ := hrel
          by_cases hlt : k < s.size
          · cases hx : letB s[k] with
            | true =>
              have HA2 : Hid (∀ j, j < k + 1 → okAt s.data.toList j = true) := fun j hj => by
                rcases Nat.lt_succ_iff_lt_or_eq.1 hj with h | h
                · exact HA.out j h
                · rw [h]; unfold okAt; rw [at_eq s k hlt, hx]; rfl
              go_wp2_with (first | (go_at_call 73; (with_reducible refine (vIsLetter_any _ _).mono ?_); rintro e w' ⟨rfl, rfl⟩) | (go_at_call 72; (with_reducible refine (vIsDigit_any _ _).mono ?_); rintro e w' ⟨rfl, rfl⟩))
              go_round
              case rel => exact ⟨k + 1, by omega, by go_num, HA2⟩
              case measure => simp [intOf]; omega
            | false =>
              cases hy : digB s[k] with
              | true =>
                have hk0 : k ≠ 0 := fun h => by subst h; rw [HD.out] at hy; cases hy
                have HA2 : Hid (∀ j, j < k + 1 → okAt s.data.toList j = true) := fun j hj => by
                  rcases Nat.lt_succ_iff_lt_or_eq.1 hj with h | h
                  · exact HA.out j h
                  · rw [h]; unfold okAt; rw [at_eq s k hlt, hx, hy]; simp [hk0]
                clear hk0
                go_wp2_with (first | (go_at_call 73; (with_reducible refine (vIsLetter_any _ _).mono ?_); rintro e w' ⟨rfl, rfl⟩) | (go_at_call 72; (with_reducible refine (vIsDigit_any _ _).mono ?_); rintro e w' ⟨rfl, rfl⟩))
                go_round
                case rel => exact ⟨k + 1, by omega, by go_num, HA2⟩
                case measure => simp [intOf]; omega
              | false =>
                have HN : Hid (nameB s.data.toList = false) := nameB_at (i := k) (by rw [HL.out]; exact hlt) (by unfold okAt; rw [at_eq s k hlt, hx, hy]; rfl)
                go_wp2_with (first | (go_at_call 73; (with_reducible refine (vIsLetter_any _ _).mono ?_); rintro e w' ⟨rfl, rfl⟩) | (go_at_call 72; (with_reducible refine (vIsDigit_any _ _).mono ?_); rintro e w' ⟨rfl, rfl⟩))
                go_ret
                exact ⟨by rw [HN.out]; rfl, rfl⟩
          · have HN : Hid (nameB s.data.toList = true) := nameB_yes H0.out (by rw [HL.out]; omega) (fun i hi => HA.out i (by rw [HL.out] at hi; omega))
            go_wp2
            go_ret
            exact ⟨by rw [HN.out]; rfl, rfl⟩

set_option maxHeartbeats 1000000 in
theorem r3Name_any (s : ByteArray) (w : World) (hs : s.size ≤ maxLen) :
    Calls Try.prog 53 #[.string s] w fun e w' => e = .returned (.bool (nameB s.data.toList)) ∧ w = w' := by
  unfold maxLen at hs
  have hl : s.data.toList.length = s.size := by simp
  have ht := Lib.toList_data s
  cases he : s.toList.isEmpty with
  | true =>
    have he' : s.toList = [] := by simpa using he
    rw [← ht, he', nameB_empty]
    clear hl ht he
    go_enter Try.func53, Try.ntmps53
    go_wp2
    go_ret
    exact ⟨rfl, rfl⟩
  | false =>
    have H0 : Hid (s.data.toList ≠ []) := fun h => by rw [← ht] at h; rw [h] at he; cases he
    have HL := Lib.hid hl
    clear hl ht
    by_cases hlen : 32 < s.size
    · rw [nameB_long (by rw [HL.out]; exact hlen)]
      go_enter Try.func53, Try.ntmps53
      go_wp2
      go_ret
      exact ⟨rfl, rfl⟩
    · go_enter Try.func53, Try.ntmps53
      go_wp2_with fail
      go_loop [3] (fun i => ∃ k : Nat, k ≤ s.size ∧ i = .int .i64 k ∧ Hid (∀ j, j < k → okAt s.data.toList j = true)) (fun i => s.size - (intOf i).toNat)
      case atStart => exact ⟨0, Nat.zero_le _, rfl, fun j hj => absurd hj (Nat.not_lt_zero _)⟩
      case round =>
        obtain ⟨k, hk, rfl, HA⟩ := hrel
        by_cases hlt : k < s.size
        · cases hx : letB s[k] with
          | true =>
            have HA2 : Hid (∀ j, j < k + 1 → okAt s.data.toList j = true) := fun j hj => by
              rcases Nat.lt_succ_iff_lt_or_eq.1 hj with h | h
              · exact HA.out j h
              · rw [h]; unfold okAt; rw [at_eq s k hlt, hx]; rfl
            go_wp2_with (go_at_call 75; (with_reducible refine (r3letter_any _ _).mono ?_); rintro e w' ⟨rfl, rfl⟩)
            go_round
            case rel => exact ⟨k + 1, by omega, by go_num, HA2⟩
            case measure => simp [intOf]; omega
          | false =>
            by_cases hk0 : k = 0
            · subst hk0
              have HN : Hid (nameB s.data.toList = false) := nameB_at (i := 0) (by rw [HL.out]; exact hlt) (by unfold okAt; rw [at_eq s 0 hlt, hx]; simp)
              go_wp2_with (go_at_call 75; (with_reducible refine (r3letter_any _ _).mono ?_); rintro e w' ⟨rfl, rfl⟩)
              go_ret
              exact ⟨by rw [HN.out]; rfl, rfl⟩
            · have bk : ((k : Int) == 0) = false := by simpa using hk0
              have hd : digB s[k] = (decide (48 ≤ s[k].toNat) && decide (s[k].toNat ≤ 57)) := rfl
              by_cases h1 : s[k].toNat < 48
              · have HN : Hid (nameB s.data.toList = false) := nameB_at (i := k) (by rw [HL.out]; exact hlt) (by unfold okAt; rw [at_eq s k hlt, hx, hd]; simp; omega)
                clear hd hk0
                go_wp2_with (go_at_call 75; (with_reducible refine (r3letter_any _ _).mono ?_); rintro e w' ⟨rfl, rfl⟩)
                go_ret
                exact ⟨by rw [HN.out]; rfl, rfl⟩
              · by_cases h2 : 57 < s[k].toNat
                · have HN : Hid (nameB s.data.toList = false) := nameB_at (i := k) (by rw [HL.out]; exact hlt) (by unfold okAt; rw [at_eq s k hlt, hx, hd]; simp; omega)
                  clear hd hk0
                  go_wp2_with (go_at_call 75; (with_reducible refine (r3letter_any _ _).mono ?_); rintro e w' ⟨rfl, rfl⟩)
                  go_ret
                  exact ⟨by rw [HN.out]; rfl, rfl⟩
                · have HA2 : Hid (∀ j, j < k + 1 → okAt s.data.toList j = true) := fun j hj => by
                    rcases Nat.lt_succ_iff_lt_or_eq.1 hj with h | h
                    · exact HA.out j h
                    · rw [h]; unfold okAt; rw [at_eq s k hlt, hx, hd]; simp [hk0]; omega
                  clear hd hk0
                  go_wp2_with (go_at_call 75; (with_reducible refine (r3letter_any _ _).mono ?_); rintro e w' ⟨rfl, rfl⟩)
                  go_round
                  case rel => exact ⟨k + 1, by omega, by go_num, HA2⟩
                  case measure => simp [intOf]; omega
        · have HN : Hid (nameB s.data.toList = true) := nameB_yes H0.out (by rw [HL.out]; omega) (fun i hi => HA.out i (by rw [HL.out] at hi; omega))
          go_wp2
          go_ret
          exact ⟨by rw [HN.out]; rfl, rfl⟩
end Go.Proofs.Ythjhbnfedelniaa
namespace Go.Proofs.Ythjhbnfedelniaa
open Go Go.RowKit

theorem Below.drewN' {B : Nat} {a w : World} (h : Below B a w) (n : Nat) : Below B a (w.drewN n) := ⟨h.os, h.tape, h.output, h.size, h.block⟩
theorem leq_at {a b : ByteArray} {c : Int} (h : Lib.compareBytes a.data.toList b.data.toList = c) : Op.bytesLess a.toList b.toList = decide (c < 0) ∧ (a.toList == b.toList) = decide (c = 0) := by
  rw [less_cb, eq_cb, Lib.toList_data, Lib.toList_data, h]; exact ⟨rfl, rfl⟩

set_option maxRecDepth 100000 in
set_option maxHeartbeats 3200000 in
theorem vCheckAttrs_any (B : Nat) (ao : Option Addr) (n cap : Nat) (xs : List At) (w : World) (h : Av w B (.slice ao n cap) xs) (hB : B ≤ w.heap.size) :
    Calls Try.prog 51 #[.slice ao n cap] w fun e w' => e = .returned (.int .i64 (ckAll xs)) ∧ Below w.heap.size w w' := by
  obtain ⟨hn, hn63⟩ := h.num
  have HH := Lib.hid h; have HN := Lib.hid hn; have HWD := Lib.hid h.wide
  by_cases h8 : 8 < n
  · rw [show ckAll xs = 3 by unfold ckAll; rw [if_pos (by omega)]]
    clear h hn
    go_enter Try.func51, Try.ntmps51
    go_wp2
    go_ret
    exact ⟨rfl, Below.refl _ _⟩
  · rw [show ckAll xs = ckGo xs 0 by unfold ckAll; rw [if_neg (by omega)]]
    clear h hn
    go_enter Try.func51, Try.ntmps51
    go_wp2_with fail
    go_loopw [11] (fun i wr => ∃ k : Nat, k ≤ n ∧ i = .int .i64 k ∧ Hid (ckGo xs 0 = ckGo xs k) ∧ Below w.heap.size w wr) (fun i _ => n - (intOf i).toNat)
    case atStart => exact ⟨0, Nat.zero_le _, rfl, rfl, Below.refl _ _⟩
    case round =>
      obtain ⟨k, hk, rfl, HK, hb⟩ := hrel
      have HB := Lib.hid hb; clear hb
      by_cases hlt : k < n
      · obtain ⟨b, o, rfl, hbB, hnx, hnc, hcap, hc⟩ := HH.out.at (by omega)
        have hkx : k < xs.length := by rw [← hnx]; exact hlt
        have hkz : (0 : Int) ≤ (k : Int) := by omega
        obtain ⟨x0, hx0⟩ : ∃ x, x = xs[k]! := ⟨_, rfl⟩
        have hcr : ∀ q, q < w.heap.size → ∀ j, wr.cell? ⟨q, j, none⟩ = w.cell? ⟨q, j, none⟩ := fun q hq j => HB.out.cell (p := ⟨q, j, none⟩) hq
        obtain ⟨a0, a1, a2, a3⟩ := four_cells (w := wr) (b := b) (a := o + k * 4) (x := x0) (fun i u hu => (hcr b (by omega) _).trans (hc k hkx i u (by rw [← hx0]; exact hu)))
        have hwd := HWD.out x0 (by rw [hx0, getElem!_pos xs k hkx]; exact List.getElem_mem _)
        have C1 := fun w => vName_any x0.name w hwd.1
        have C2 := fun w => vCheck_any x0.k x0.n x0.s w hwd.2
        have hbw : b < wr.heap.size := by have := HB.out.size; omega
        have HX := Lib.hid hx0; have HC := Lib.hid hc; have HKX := Lib.hid hkx
        clear hx0 hc hcr hnx hkx hwd
        have hne : b ≠ wr.heap.size := by omega
        cases hnm : nameB x0.name.data.toList with
        | false =>
          have HR : Hid (ckGo xs k = 31) := ckGo_name HKX.out (by rw [← HX.out]; exact hnm)
          rw [hnm] at C1
          have HC1 := Lib.hid C1
          clear hnm C1 C2
          go_wp2_with (go_at_call 50; (with_reducible refine (HC1.out _).mono ?_); rintro e w' ⟨rfl, rfl⟩)
          go_ret
          exact ⟨by rw [HK.out, HR.out]; rfl, HB.out.alloc HB.out.size _⟩
        | true =>
          rw [hnm] at C1
          cases hcv : ckB x0.k x0.n x0.s.data.toList with
          | false =>
            have HR : Hid (ckGo xs k = 30) := ckGo_val HKX.out (by rw [← HX.out]; exact hnm) (by rw [← HX.out]; exact hcv)
            rw [ckI_no hcv] at C2
            have HC1 := Lib.hid C1; have HC2 := Lib.hid C2
            clear hnm hcv C1 C2
            go_wp2_with (first | (go_at_call 50; (with_reducible refine (HC1.out _).mono ?_); rintro e w' ⟨rfl, rfl⟩) | (go_at_call 74; (with_reducible refine (HC2.out _).mono ?_); rintro e w2 ⟨rfl, hb2⟩; have HB2 := Lib.hid hb2; clear hb2))
            go_ret
            exact ⟨by rw [HK.out, HR.out]; rfl, (HB.out.alloc HB.out.size _).trans (HB2.out.mono (by have := HB.out.size; simp; omega))⟩
          | true =>
            rw [ckI_ok hcv] at C2
            have HC1 := Lib.hid C1; have HC2 := Lib.hid C2
            by_cases hk0 : k = 0
            · subst hk0
              have HR : Hid (ckGo xs 0 = ckGo xs 1) := ckGo_go HKX.out (by rw [← HX.out]; exact hnm) (by rw [← HX.out]; exact hcv) (by omega)
              simp only [Nat.zero_mul, Nat.add_zero] at a0 a1 a2 a3
              clear hnm hcv C1 C2
              go_wp2_with (first | (go_at_call 50; (with_reducible refine (HC1.out _).mono ?_); rintro e w' ⟨rfl, rfl⟩) | (go_at_call 74; (with_reducible refine (HC2.out _).mono ?_); rintro e w2 ⟨rfl, hb2⟩; have HB2 := Lib.hid hb2; obtain ⟨hc2, hf2⟩ := bcell hb2; have hz2 : wr.heap.size < w2.heap.size := (by have := hb2.size; simp at this; omega); clear hb2))
              go_quiet (fail)
              go_wp2
              go_roundw
              case rel => exact ⟨1, by omega, rfl, HR.out, Below.drewN' ((HB.out.alloc HB.out.size _).trans (HB2.out.mono (by have := HB.out.size; simp; omega))) _⟩
              case measure => simp [intOf]; omega
            · obtain ⟨p, rfl⟩ : ∃ p, k = p + 1 := ⟨k - 1, by omega⟩
              obtain ⟨y, hy⟩ : ∃ y, y = xs[p]! := ⟨_, rfl⟩
              have hcr : ∀ q, q < w.heap.size → ∀ j, wr.cell? ⟨q, j, none⟩ = w.cell? ⟨q, j, none⟩ := fun q hq j => HB.out.cell (p := ⟨q, j, none⟩) hq
              have p0 : wr.cell? ⟨b, o + p * 4, none⟩ = some (.string y.name) := (hcr b (by omega) _).trans (HC.out p (by have := HKX.out; omega) 0 _ (by rw [← hy]; rfl))
              clear hcr
              have hle := leq_at (a := x0.name) (b := y.name) rfl
              by_cases hlec : Lib.compareBytes x0.name.data.toList y.name.data.toList ≤ 0
              · have HR : Hid (ckGo xs (p + 1) = 32) := ckGo_ord HKX.out (by rw [← HX.out]; exact hnm) (by rw [← HX.out]; exact hcv) ⟨by omega, by rw [← HX.out]; simp only [Nat.add_sub_cancel]; rw [← hy]; exact hlec⟩
                have hr := cb_range x0.name.data.toList y.name.data.toList
                obtain ⟨hl1, hl2⟩ := hle
                generalize Lib.compareBytes x0.name.data.toList y.name.data.toList = c at hl1 hl2 hlec hr
                have hc3 : c = -1 ∨ c = 0 := by omega
                clear hnm hcv C1 C2 hy hlec hr hk0
                rcases hc3 with rfl | rfl
                all_goals
                  simp only [show decide ((-1 : Int) < 0) = true from rfl, show decide ((0 : Int) < 0) = false from rfl, show decide ((-1 : Int) = 0) = false from rfl] at hl1 hl2
                  go_wp2_with (first | (go_at_call 50; (with_reducible refine (HC1.out _).mono ?_); rintro e w' ⟨rfl, rfl⟩) | (go_at_call 74; (with_reducible refine (HC2.out _).mono ?_); rintro e w2 ⟨rfl, hb2⟩; have HB2 := Lib.hid hb2; obtain ⟨hc2, hf2⟩ := bcell hb2; have hz2 : wr.heap.size < w2.heap.size := (by have := hb2.size; simp at this; omega); clear hb2))
                  go_quiet (fail)
                  go_wp2
                  go_ret
                  exact ⟨by rw [HK.out, HR.out]; rfl, Below.drewN' ((HB.out.alloc HB.out.size _).trans (HB2.out.mono (by have := HB.out.size; simp; omega))) _⟩
              · have HR : Hid (ckGo xs (p + 1) = ckGo xs (p + 1 + 1)) := ckGo_go HKX.out (by rw [← HX.out]; exact hnm) (by rw [← HX.out]; exact hcv) (fun hh => hlec (by have := hh.2; rw [← HX.out] at this; simp only [Nat.add_sub_cancel] at this; rw [← hy] at this; exact this))
                obtain ⟨hl1, hl2⟩ := hle
                rw [decide_eq_false (by omega)] at hl1 hl2
                clear hnm hcv C1 C2 hy hlec hk0
                go_wp2_with (first | (go_at_call 50; (with_reducible refine (HC1.out _).mono ?_); rintro e w' ⟨rfl, rfl⟩) | (go_at_call 74; (with_reducible refine (HC2.out _).mono ?_); rintro e w2 ⟨rfl, hb2⟩; have HB2 := Lib.hid hb2; obtain ⟨hc2, hf2⟩ := bcell hb2; have hz2 : wr.heap.size < w2.heap.size := (by have := hb2.size; simp at this; omega); clear hb2))
                go_quiet (fail)
                go_wp2
                go_roundw
                case rel => exact ⟨p + 1 + 1, by omega, by go_num, HK.out.trans HR.out, Below.drewN' ((HB.out.alloc HB.out.size _).trans (HB2.out.mono (by have := HB.out.size; simp; omega))) _⟩
                case measure => simp [intOf]; omega
      · have HR : Hid (ckGo xs k = 0) := ckGo_end (by rw [← HN.out]; exact hlt)
        go_wp2
        go_ret
        exact ⟨by rw [HK.out, HR.out]; rfl, HB.out⟩
end Go.Proofs.Ythjhbnfedelniaa
namespace Go.Proofs.Ythjhbnfedelniaa
open Go Go.RowKit Go.Lib

def sameA (xs ys : List At) : Bool := decide (xs = ys)
theorem allEq_same (xs ys : List At) : Lib.allEq aEq xs ys = sameA xs ys := by
  unfold sameA
  by_cases hl : xs.length = ys.length
  · by_cases h : xs = ys
    · subst h
      rw [decide_eq_true rfl]
      exact Lib.allEq_all aEq xs xs rfl (fun j _ => aEq_iff.2 rfl)
    · rw [decide_eq_false h]
      obtain ⟨j, hj, hne⟩ : ∃ j, j < xs.length ∧ xs[j]! ≠ ys[j]! := by
        refine Classical.byContradiction fun hc => h ?_
        refine List.ext_getElem hl fun i h1 h2 => ?_
        rw [← getElem!_pos xs i h1, ← getElem!_pos ys i h2]
        exact Classical.byContradiction fun hn => hc ⟨i, h1, hn⟩
      exact Lib.allEq_elem aEq xs ys j hj (by omega) (by rw [Bool.eq_false_iff]; exact fun h2 => hne (aEq_iff.1 h2))
  · rw [Lib.allEq_len aEq xs ys hl, decide_eq_false (fun h => hl (by rw [h]))]
theorem sameA_len {xs ys : List At} (h : xs.length ≠ ys.length) : sameA xs ys = false := decide_eq_false fun e => h (by rw [e])
theorem sameA_nil {xs ys : List At} (h : xs.length = 0) (h2 : ys.length = 0) : sameA xs ys = true := by
  obtain rfl := List.length_eq_zero_iff.1 h
  obtain rfl := List.length_eq_zero_iff.1 h2
  rfl

set_option maxRecDepth 100000 in
set_option maxHeartbeats 1600000 in
theorem r3SameAttrs_any (B B2 : Nat) (ao : Option Addr) (n cap : Nat) (xs : List At) (ao2 : Option Addr) (n2 cap2 : Nat) (ys : List At) (w : World) (h1 : Av w B (.slice ao n cap) xs) (h2 : Av w B2 (.slice ao2 n2 cap2) ys) :
    Calls Try.prog 41 #[.slice ao n cap, .slice ao2 n2 cap2] w fun e w' => e = .returned (.bool (sameA xs ys)) ∧ Below w.heap.size w w' := by
  obtain ⟨hn, hn63⟩ := h1.num
  obtain ⟨hm, hm63⟩ := h2.num
  by_cases hnm : n = n2
  · subst hnm
    have H1 := Lib.hid h1; have H2 := Lib.hid h2; have HN := Lib.hid hn; have HM := Lib.hid hm
    have hne : ∀ (x y : At) (w : World), Sem.run Try.prog (binOp .neq 57 (.agg #[.string x.name, .int .i64 x.k, .int .i64 x.n, .string x.s]) (.agg #[.string y.name, .int .i64 y.k, .int .i64 y.n, .string y.s])) w = .ok (.bool (!aEq x y)) w := aNe.1
    have hgd : ∀ (op : BinOp) (a b : Operand) (x y : At) (w : World), Sem.run Try.prog (eqGuard op 57 a b (.agg #[.string x.name, .int .i64 x.k, .int .i64 x.n, .string x.s]) (.agg #[.string y.name, .int .i64 y.k, .int .i64 y.n, .string y.s])) w = .ok () w := aNe.2
    have HNE := Lib.hid hne; have HGD := Lib.hid hgd
    clear h1 h2 hn hm hne hgd
    go_enter Try.func41, Try.ntmps41
    go_wp2_with fail
    go_loopw [5] (fun i wr => ∃ k : Nat, k ≤ n ∧ i = .int .i64 k ∧ Hid (∀ j, j < k → xs[j]! = ys[j]!) ∧ Below w.heap.size w wr ∧ Hid (∀ b o, wr.cell? ⟨b, o, none⟩ = w.cell? ⟨b, o, none⟩)) (fun i _ => n - (intOf i).toNat)
    case atStart => exact ⟨0, Nat.zero_le _, rfl, fun j hj => absurd hj (Nat.not_lt_zero _), Below.refl _ _, fun _ _ => rfl⟩
    case round =>
      obtain ⟨k, hk, rfl, HK, hb, HC⟩ := hrel
      have HB := Lib.hid hb; clear hb
      by_cases hlt : k < n
      · obtain ⟨b, o, rfl, _, _, hnc, hcap, hc⟩ := H1.out.at (by omega)
        obtain ⟨b2, o2, rfl, _, _, hnc2, hcap2, hc2⟩ := H2.out.at (by omega)
        have hkz : (0 : Int) ≤ (k : Int) := by omega
        obtain ⟨x, hx⟩ : ∃ x, x = xs[k]! := ⟨_, rfl⟩
        obtain ⟨y, hy⟩ : ∃ y, y = ys[k]! := ⟨_, rfl⟩
        obtain ⟨a0, a1, a2, a3⟩ := four_cells (w := wr) (b := b) (a := o + k * 4) (x := x) (fun i u hu => (HC.out _ _).trans (hc k (by have := HN.out; omega) i u (by rw [← hx]; exact hu)))
        obtain ⟨d0, d1, d2, d3⟩ := four_cells (w := wr) (b := b2) (a := o2 + k * 4) (x := y) (fun i u hu => (HC.out _ _).trans (hc2 k (by have := HM.out; omega) i u (by rw [← hy]; exact hu)))
        have e1 := HNE.out x y; have e2 := fun op a b => HGD.out op a b x y
        have HX := Lib.hid hx; have HY := Lib.hid hy
        clear hc hc2 hx hy
        cases hq : aEq x y with
        | true =>
          have hxy : x = y := aEq_iff.1 hq
          have HXY := Lib.hid hxy
          clear hxy
          rw [hq] at e1
          clear hq
          go_wp2_with fail
          try go_quiet (fail)
          go_wp2
          go_roundw
          case rel => exact ⟨k + 1, by omega, by go_num, (fun j hj => (Nat.lt_succ_iff_lt_or_eq.1 hj).elim (fun h => HK.out j h) (fun h => by rw [h, ← HX.out, ← HY.out]; exact HXY.out)), (by first | exact Below.drewN' HB.out _ | exact HB.out), (fun b o => HC.out b o)⟩
          case measure => simp [intOf]; omega
        | false =>
          have HS : Hid (sameA xs ys = false) := decide_eq_false fun e => by
            rw [HX.out, HY.out, e, aEq_iff.2 rfl] at hq; cases hq
          rw [hq] at e1
          clear hq
          go_wp2_with fail
          try go_quiet (fail)
          go_wp2
          go_ret
          exact ⟨by rw [HS.out]; rfl, by first | exact Below.drewN' HB.out _ | exact HB.out⟩
      · have HS : Hid (sameA xs ys = true) := decide_eq_true (List.ext_getElem (by have := HN.out; have := HM.out; omega) fun i h1 h2 => by
          rw [← getElem!_pos xs i h1, ← getElem!_pos ys i h2]; exact HK.out i (by have := HN.out; omega))
        go_wp2
        go_ret
        exact ⟨by rw [HS.out]; rfl, HB.out⟩
  · rw [sameA_len (by omega)]
    have hb : ((n : Int) == (n2 : Int)) = false := by simp; omega
    clear h1 h2 hn hm hnm
    go_enter Try.func41, Try.ntmps41
    go_wp2
    go_ret
    exact ⟨rfl, Below.refl _ _⟩
end Go.Proofs.Ythjhbnfedelniaa
namespace Go.Proofs.Ythjhbnfedelniaa
open Go Go.RowKit

set_option maxRecDepth 100000 in
set_option maxHeartbeats 3200000 in
theorem r3CheckAttrs_any (B : Nat) (ao : Option Addr) (n cap : Nat) (xs : List At) (w : World) (h : Av w B (.slice ao n cap) xs) (hB : B ≤ w.heap.size) :
    Calls Try.prog 54 #[.slice ao n cap] w fun e w' => e = .returned (.int .i64 (ckAll xs)) ∧ Below w.heap.size w w' := by
  obtain ⟨hn, hn63⟩ := h.num
  have HH := Lib.hid h; have HN := Lib.hid hn; have HWD := Lib.hid h.wide
  by_cases h8 : 8 < n
  · rw [show ckAll xs = 3 by unfold ckAll; rw [if_pos (by omega)]]
    clear h hn
    go_enter Try.func54, Try.ntmps54
    go_wp2
    go_ret
    exact ⟨rfl, Below.refl _ _⟩
  · rw [show ckAll xs = ckGo xs 0 by unfold ckAll; rw [if_neg (by omega)]]
    clear h hn
    go_enter Try.func54, Try.ntmps54
    go_wp2_with fail
    go_loopw [3] (fun i wr => ∃ k : Nat, k ≤ n ∧ i = .int .i64 k ∧ Hid (ckGo xs 0 = ckGo xs k) ∧ Below w.heap.size w wr) (fun i _ => n - (intOf i).toNat)
    case atStart => exact ⟨0, Nat.zero_le _, rfl, rfl, Below.refl _ _⟩
    case round =>
      obtain ⟨k, hk, rfl, HK, hb⟩ := hrel
      have HB := Lib.hid hb; clear hb
      by_cases hlt : k < n
      · obtain ⟨b, o, rfl, hbB, hnx, hnc, hcap, hc⟩ := HH.out.at (by omega)
        have hkx : k < xs.length := by rw [← hnx]; exact hlt
        have hkz : (0 : Int) ≤ (k : Int) := by omega
        obtain ⟨x0, hx0⟩ : ∃ x, x = xs[k]! := ⟨_, rfl⟩
        have hcr : ∀ q, q < w.heap.size → ∀ j, wr.cell? ⟨q, j, none⟩ = w.cell? ⟨q, j, none⟩ := fun q hq j => HB.out.cell (p := ⟨q, j, none⟩) hq
        obtain ⟨a0, a1, a2, a3⟩ := four_cells (w := wr) (b := b) (a := o + k * 4) (x := x0) (fun i u hu => (hcr b (by omega) _).trans (hc k hkx i u (by rw [← hx0]; exact hu)))
        have hwd := HWD.out x0 (by rw [hx0, getElem!_pos xs k hkx]; exact List.getElem_mem _)
        have C1 := fun w => r3Name_any x0.name w hwd.1
        have C2 := fun w => r3Check_any x0.k x0.n x0.s w hwd.2
        have hbw : b < wr.heap.size := by have := HB.out.size; omega
        have HX := Lib.hid hx0; have HC := Lib.hid hc; have HKX := Lib.hid hkx
        clear hx0 hc hcr hnx hkx hwd
        cases hnm : nameB x0.name.data.toList with
        | false =>
          have HR : Hid (ckGo xs k = 31) := ckGo_name HKX.out (by rw [← HX.out]; exact hnm)
          rw [hnm] at C1
          have HC1 := Lib.hid C1
          clear hnm C1 C2
          go_wp2_with (go_at_call 53; (with_reducible refine (HC1.out _).mono ?_); rintro e w' ⟨rfl, rfl⟩)
          go_ret
          exact ⟨by rw [HK.out, HR.out]; rfl, HB.out⟩
        | true =>
          rw [hnm] at C1
          cases hcv : ckB x0.k x0.n x0.s.data.toList with
          | false =>
            have HR : Hid (ckGo xs k = 30) := ckGo_val HKX.out (by rw [← HX.out]; exact hnm) (by rw [← HX.out]; exact hcv)
            rw [ckI_no hcv] at C2
            have HC1 := Lib.hid C1; have HC2 := Lib.hid C2
            clear hnm hcv C1 C2
            go_wp2_with (first | (go_at_call 53; (with_reducible refine (HC1.out _).mono ?_); rintro e w' ⟨rfl, rfl⟩) | (go_at_call 76; (with_reducible refine (HC2.out _).mono ?_); rintro e w2 ⟨rfl, hb2⟩; have HB2 := Lib.hid hb2; clear hb2))
            go_ret
            exact ⟨by rw [HK.out, HR.out]; rfl, HB.out.trans (HB2.out.mono HB.out.size)⟩
          | true =>
            rw [ckI_ok hcv] at C2
            have HC1 := Lib.hid C1; have HC2 := Lib.hid C2
            by_cases hk0 : k = 0
            · subst hk0
              have HR : Hid (ckGo xs 0 = ckGo xs 1) := ckGo_go HKX.out (by rw [← HX.out]; exact hnm) (by rw [← HX.out]; exact hcv) (by omega)
              simp only [Nat.zero_mul, Nat.add_zero] at a0 a1 a2 a3
              clear hnm hcv C1 C2
              go_wp2_with (first | (go_at_call 53; (with_reducible refine (HC1.out _).mono ?_); rintro e w' ⟨rfl, rfl⟩) | (go_at_call 76; (with_reducible refine (HC2.out _).mono ?_); rintro e w2 ⟨rfl, hb2⟩; have HB2 := Lib.hid hb2; obtain ⟨hc2, hf2⟩ := bcell hb2; have hz2 : w.heap.size ≤ w2.heap.size := (by have := HB.out.size; have := hb2.size; omega); clear hb2))
              go_quiet (fail)
              go_wp2
              go_roundw
              case rel => exact ⟨1, by omega, rfl, HR.out, Below.drewN' (HB.out.trans (HB2.out.mono HB.out.size)) _⟩
              case measure => simp [intOf]; omega
            · obtain ⟨p, rfl⟩ : ∃ p, k = p + 1 := ⟨k - 1, by omega⟩
              obtain ⟨y, hy⟩ : ∃ y, y = xs[p]! := ⟨_, rfl⟩
              have hcr : ∀ q, q < w.heap.size → ∀ j, wr.cell? ⟨q, j, none⟩ = w.cell? ⟨q, j, none⟩ := fun q hq j => HB.out.cell (p := ⟨q, j, none⟩) hq
              have p0 : wr.cell? ⟨b, o + p * 4, none⟩ = some (.string y.name) := (hcr b (by omega) _).trans (HC.out p (by have := HKX.out; omega) 0 _ (by rw [← hy]; rfl))
              clear hcr
              have hle := leq_at (a := x0.name) (b := y.name) rfl
              by_cases hlec : Lib.compareBytes x0.name.data.toList y.name.data.toList ≤ 0
              · have HR : Hid (ckGo xs (p + 1) = 32) := ckGo_ord HKX.out (by rw [← HX.out]; exact hnm) (by rw [← HX.out]; exact hcv) ⟨by omega, by rw [← HX.out]; simp only [Nat.add_sub_cancel]; rw [← hy]; exact hlec⟩
                have hr := cb_range x0.name.data.toList y.name.data.toList
                obtain ⟨hl1, hl2⟩ := hle
                generalize Lib.compareBytes x0.name.data.toList y.name.data.toList = c at hl1 hl2 hlec hr
                have hc3 : c = -1 ∨ c = 0 := by omega
                clear hnm hcv C1 C2 hy hlec hr hk0
                rcases hc3 with rfl | rfl
                all_goals
                  simp only [show decide ((-1 : Int) < 0) = true from rfl, show decide ((0 : Int) < 0) = false from rfl, show decide ((-1 : Int) = 0) = false from rfl] at hl1 hl2
                  go_wp2_with (first | (go_at_call 53; (with_reducible refine (HC1.out _).mono ?_); rintro e w' ⟨rfl, rfl⟩) | (go_at_call 76; (with_reducible refine (HC2.out _).mono ?_); rintro e w2 ⟨rfl, hb2⟩; have HB2 := Lib.hid hb2; obtain ⟨hc2, hf2⟩ := bcell hb2; have hz2 : w.heap.size ≤ w2.heap.size := (by have := HB.out.size; have := hb2.size; omega); clear hb2))
                  go_quiet (fail)
                  go_wp2
                  go_ret
                  exact ⟨by rw [HK.out, HR.out]; rfl, Below.drewN' (HB.out.trans (HB2.out.mono HB.out.size)) _⟩
              · have HR : Hid (ckGo xs (p + 1) = ckGo xs (p + 1 + 1)) := ckGo_go HKX.out (by rw [← HX.out]; exact hnm) (by rw [← HX.out]; exact hcv) (fun hh => hlec (by have := hh.2; rw [← HX.out] at this; simp only [Nat.add_sub_cancel] at this; rw [← hy] at this; exact this))
                obtain ⟨hl1, hl2⟩ := hle
                rw [decide_eq_false (by omega)] at hl1 hl2
                clear hnm hcv C1 C2 hy hlec hk0
                go_wp2_with (first | (go_at_call 53; (with_reducible refine (HC1.out _).mono ?_); rintro e w' ⟨rfl, rfl⟩) | (go_at_call 76; (with_reducible refine (HC2.out _).mono ?_); rintro e w2 ⟨rfl, hb2⟩; have HB2 := Lib.hid hb2; obtain ⟨hc2, hf2⟩ := bcell hb2; have hz2 : w.heap.size ≤ w2.heap.size := (by have := HB.out.size; have := hb2.size; omega); clear hb2))
                go_quiet (fail)
                go_wp2
                go_roundw
                case rel => exact ⟨p + 1 + 1, by omega, by go_num, HK.out.trans HR.out, Below.drewN' (HB.out.trans (HB2.out.mono HB.out.size)) _⟩
                case measure => simp [intOf]; omega
      · have HR : Hid (ckGo xs k = 0) := ckGo_end (by rw [← HN.out]; exact hlt)
        go_wp2
        go_ret
        exact ⟨by rw [HK.out, HR.out]; rfl, HB.out⟩
end Go.Proofs.Ythjhbnfedelniaa
namespace Go.Proofs.Ythjhbnfedelniaa
open Go Go.RowKit

/-- An event: its source, number, time, type, attributes. -/
structure Ev where
  src : Int
  seq : Int
  time : Int
  ty : ByteArray
  ats : List At
  deriving DecidableEq, Inhabited
/-- An event as a value, its attributes a slice v. -/
def evV (e : Ev) (v : Value) : Value := .agg #[.int .i64 e.src, .int .i64 e.seq, .int .i64 e.time, .string e.ty, v]
def evSrcB (n : Int) : Bool := decide (0 ≤ n) && decide (n < 16)
def evTmB (n : Int) : Bool := decide (0 ≤ n) && decide (n ≤ 1099511627776)
def evB (e : Ev) : Bool := evSrcB e.src && evTmB e.seq && evTmB e.time && nameB e.ty.data.toList
/-- What is wrong with an event. -/
def ckE (e : Ev) : Int := if evB e then ckAll e.ats else 40
theorem ckE_no {e : Ev} (h : evB e = false) : ckE e = 40 := by unfold ckE; rw [h]; rfl
theorem ckE_ok {e : Ev} (h : evB e = true) : ckE e = ckAll e.ats := by unfold ckE; rw [h]; rfl

theorem eIsSource_any (n : Int) (w : World) : Calls Try.prog 48 #[.int .i64 n] w fun e w' => e = .returned (.bool (evSrcB n)) ∧ w = w' := by
  by_cases h0 : 0 ≤ n
  · by_cases h1 : n < 16
    · rw [show evSrcB n = true by simp [evSrcB, h0, h1]]
      go_enter Try.func48, Try.ntmps48
      go_wp2
      go_ret
      exact ⟨rfl, rfl⟩
    · rw [show evSrcB n = false by simp [evSrcB, h1]]
      go_enter Try.func48, Try.ntmps48
      go_wp2
      go_ret
      exact ⟨rfl, rfl⟩
  · rw [show evSrcB n = false by simp [evSrcB, h0]]
    go_enter Try.func48, Try.ntmps48
    go_wp2
    go_ret
    exact ⟨rfl, rfl⟩
theorem eIsCount_any (n : Int) (w : World) : Calls Try.prog 49 #[.int .i64 n] w fun e w' => e = .returned (.bool (evTmB n)) ∧ w = w' := by
  by_cases h0 : 0 ≤ n
  · by_cases h1 : n ≤ 1099511627776
    · rw [show evTmB n = true by simp [evTmB, h0, h1]]
      go_enter Try.func49, Try.ntmps49
      go_wp2
      go_ret
      exact ⟨rfl, rfl⟩
    · rw [show evTmB n = false by simp [evTmB, h1]]
      go_enter Try.func49, Try.ntmps49
      go_wp2
      go_ret
      exact ⟨rfl, rfl⟩
  · rw [show evTmB n = false by simp [evTmB, h0]]
    go_enter Try.func49, Try.ntmps49
    go_wp2
    go_ret
    exact ⟨rfl, rfl⟩
theorem r4time_any (n : Int) (w : World) : Calls Try.prog 52 #[.int .i64 n] w fun e w' => e = .returned (.bool (evTmB n)) ∧ w = w' := by
  by_cases h0 : 0 ≤ n
  · by_cases h1 : n ≤ 1099511627776
    · rw [show evTmB n = true by simp [evTmB, h0, h1]]
      go_enter Try.func52, Try.ntmps52
      go_wp2
      go_ret
      exact ⟨rfl, rfl⟩
    · rw [show evTmB n = false by simp [evTmB, h1]]
      go_enter Try.func52, Try.ntmps52
      go_wp2
      go_ret
      exact ⟨rfl, rfl⟩
  · rw [show evTmB n = false by simp [evTmB, h0]]
    go_enter Try.func52, Try.ntmps52
    go_wp2
    go_ret
    exact ⟨rfl, rfl⟩

set_option maxRecDepth 100000 in
set_option maxHeartbeats 1600000 in
theorem eCheck_any (ev : Ev) (B : Nat) (ao : Option Addr) (n cap : Nat) (w : World) (h : Av w B (.slice ao n cap) ev.ats) (hB : B ≤ w.heap.size) (hty : ev.ty.size ≤ maxLen) :
    Calls Try.prog 30 #[evV ev (.slice ao n cap)] w fun e w' => e = .returned (.int .i64 (ckE ev)) ∧ Below w.heap.size w w' := by
  obtain ⟨s, q, t, ty, ats⟩ := ev
  simp only at h hty
  unfold evV
  simp only
  have CN := fun w => vName_any ty w hty
  have HB0 : Hid (Below w.heap.size w (w.alloc (.cells #[.int .i64 s, .int .i64 q, .int .i64 t, .string ty, .slice ao n cap] 35))) := (Below.refl _ _).alloc (Nat.le_refl _) _
  have CA := vCheckAttrs_any B ao n cap ats _ (h.below HB0.out hB) (Nat.le_trans hB HB0.out.size)
  have HCA := Lib.hid CA
  clear CA h hB hty
  cases b1 : evSrcB s with
  | false =>
    rw [ckE_no (by simp [evB, b1])]
    have HCN := Lib.hid CN
    clear CN
    go_enter Try.func30, Try.ntmps30
    go_wp2_with (go_at_call 48; refine (eIsSource_any _ _).mono ?_; rintro e w' ⟨rfl, rfl⟩)
    go_ret
    exact ⟨rfl, HB0.out⟩
  | true =>
    cases b2 : evTmB q with
    | false =>
      rw [ckE_no (by simp [evB, b1, b2])]
      have HCN := Lib.hid CN
      clear CN
      go_enter Try.func30, Try.ntmps30
      go_wp2_with (first | (go_at_call 48; refine (eIsSource_any _ _).mono ?_; rintro e w' ⟨rfl, rfl⟩) | (go_at_call 49; refine (eIsCount_any _ _).mono ?_; rintro e w' ⟨rfl, rfl⟩))
      go_ret
      exact ⟨rfl, HB0.out⟩
    | true =>
      cases b3 : evTmB t with
      | false =>
        rw [ckE_no (by simp [evB, b1, b2, b3])]
        have HCN := Lib.hid CN
        clear CN
        go_enter Try.func30, Try.ntmps30
        go_wp2_with (first | (go_at_call 48; refine (eIsSource_any _ _).mono ?_; rintro e w' ⟨rfl, rfl⟩) | (go_at_call 49; refine (eIsCount_any _ _).mono ?_; rintro e w' ⟨rfl, rfl⟩))
        go_ret
        exact ⟨rfl, HB0.out⟩
      | true =>
        cases b4 : nameB ty.data.toList with
        | false =>
          rw [ckE_no (by simp [evB, b1, b2, b3, b4])]
          rw [b4] at CN
          have HCN := Lib.hid CN
          clear CN b4
          go_enter Try.func30, Try.ntmps30
          go_wp2_with (first | (go_at_call 48; refine (eIsSource_any _ _).mono ?_; rintro e w' ⟨rfl, rfl⟩) | (go_at_call 49; refine (eIsCount_any _ _).mono ?_; rintro e w' ⟨rfl, rfl⟩) | (go_at_call 50; (with_reducible refine (HCN.out _).mono ?_); rintro e w' ⟨rfl, rfl⟩))
          go_ret
          exact ⟨rfl, HB0.out⟩
        | true =>
          rw [ckE_ok (by simp [evB, b1, b2, b3, b4])]
          rw [b4] at CN
          have HCN := Lib.hid CN
          clear CN b4
          go_enter Try.func30, Try.ntmps30
          go_wp2_with (first | (go_at_call 48; refine (eIsSource_any _ _).mono ?_; rintro e w' ⟨rfl, rfl⟩) | (go_at_call 49; refine (eIsCount_any _ _).mono ?_; rintro e w' ⟨rfl, rfl⟩) | (go_at_call 50; (with_reducible refine (HCN.out _).mono ?_); rintro e w' ⟨rfl, rfl⟩) | (go_at_call 51; (with_reducible refine (HCA.out).mono ?_); rintro e w1 ⟨rfl, hb⟩; have HB1 := Lib.hid hb; clear hb))
          go_ret
          exact ⟨rfl, HB0.out.trans (HB1.out.mono HB0.out.size)⟩

set_option maxRecDepth 100000 in
set_option maxHeartbeats 1600000 in
theorem r4Check_any (ev : Ev) (B : Nat) (ao : Option Addr) (n cap : Nat) (w : World) (h : Av w B (.slice ao n cap) ev.ats) (hB : B ≤ w.heap.size) (hty : ev.ty.size ≤ maxLen) :
    Calls Try.prog 33 #[evV ev (.slice ao n cap)] w fun e w' => e = .returned (.int .i64 (ckE ev)) ∧ Below w.heap.size w w' := by
  obtain ⟨s, q, t, ty, ats⟩ := ev
  simp only at h hty
  unfold evV
  simp only
  have CN := fun w => r3Name_any ty w hty
  have HB0 : Hid (Below w.heap.size w (w.alloc (.cells #[.int .i64 s, .int .i64 q, .int .i64 t, .string ty, .slice ao n cap] 35))) := (Below.refl _ _).alloc (Nat.le_refl _) _
  have CA := r3CheckAttrs_any B ao n cap ats _ (h.below HB0.out hB) (Nat.le_trans hB HB0.out.size)
  have HCA := Lib.hid CA
  clear CA h hB hty
  by_cases b0 : 0 ≤ s
  case neg =>
    rw [ckE_no (by simp [evB, evSrcB, b0])]
    have HCN := Lib.hid CN
    clear CN
    go_enter Try.func33, Try.ntmps33
    go_wp2
    go_ret
    exact ⟨rfl, HB0.out⟩
  by_cases b1 : s < 16
  case neg =>
    rw [ckE_no (by simp [evB, evSrcB, b1])]
    have HCN := Lib.hid CN
    clear CN
    go_enter Try.func33, Try.ntmps33
    go_wp2
    go_ret
    exact ⟨rfl, HB0.out⟩
  have b01 : evSrcB s = true := by simp [evSrcB, b0, b1]
  cases b2 : evTmB q with
  | false =>
    rw [ckE_no (by simp [evB, b2])]
    have HCN := Lib.hid CN
    clear CN
    go_enter Try.func33, Try.ntmps33
    go_wp2_with (go_at_call 52; refine (r4time_any _ _).mono ?_; rintro e w' ⟨rfl, rfl⟩)
    go_ret
    exact ⟨rfl, HB0.out⟩
  | true =>
    cases b3 : evTmB t with
    | false =>
      rw [ckE_no (by simp [evB, b3])]
      have HCN := Lib.hid CN
      clear CN
      go_enter Try.func33, Try.ntmps33
      go_wp2_with (go_at_call 52; refine (r4time_any _ _).mono ?_; rintro e w' ⟨rfl, rfl⟩)
      go_ret
      exact ⟨rfl, HB0.out⟩
    | true =>
      cases b4 : nameB ty.data.toList with
      | false =>
        rw [ckE_no (by simp [evB, b4])]
        rw [b4] at CN
        have HCN := Lib.hid CN
        clear CN b4
        go_enter Try.func33, Try.ntmps33
        go_wp2_with (first | (go_at_call 52; refine (r4time_any _ _).mono ?_; rintro e w' ⟨rfl, rfl⟩) | (go_at_call 53; (with_reducible refine (HCN.out _).mono ?_); rintro e w' ⟨rfl, rfl⟩))
        go_ret
        exact ⟨rfl, HB0.out⟩
      | true =>
        rw [ckE_ok (by simp [evB, b01, b2, b3, b4])]
        rw [b4] at CN
        have HCN := Lib.hid CN
        clear CN b4
        go_enter Try.func33, Try.ntmps33
        go_wp2_with (first | (go_at_call 52; refine (r4time_any _ _).mono ?_; rintro e w' ⟨rfl, rfl⟩) | (go_at_call 53; (with_reducible refine (HCN.out _).mono ?_); rintro e w' ⟨rfl, rfl⟩) | (go_at_call 54; (with_reducible refine (HCA.out).mono ?_); rintro e w1 ⟨rfl, hb⟩; have HB1 := Lib.hid hb; clear hb))
        go_ret
        exact ⟨rfl, HB0.out.trans (HB1.out.mono HB0.out.size)⟩

/-- Whether two events are the same. -/
def sameE (a b : Ev) : Bool := decide (a.src = b.src) && decide (a.seq = b.seq) && decide (a.time = b.time) && (a.ty.toList == b.ty.toList) && sameA a.ats b.ats
theorem sameE_iff {a b : Ev} : sameE a b = true ↔ a = b := by
  obtain ⟨s, q, t, ty, ats⟩ := a
  obtain ⟨s', q', t', ty', ats'⟩ := b
  simp only [sameE, sameA, Bool.and_eq_true, decide_eq_true_eq, beq_iff_eq, Ev.mk.injEq]
  exact ⟨fun ⟨⟨⟨⟨a, b⟩, c⟩, d⟩, e⟩ => ⟨a, b, c, ba_ext2 d, e⟩, fun ⟨a, b, c, d, e⟩ => ⟨⟨⟨⟨a, b⟩, c⟩, by rw [d]⟩, e⟩⟩
theorem sameE_refl (a : Ev) : sameE a a = true := sameE_iff.2 rfl

theorem idEq_run (s1 q1 s2 q2 : Int) (w : World) :
    (binOp .eql 32 (.agg #[.int .i64 s1, .int .i64 q1]) (.agg #[.int .i64 s2, .int .i64 q2])).run Try.prog w = .ok (.bool (decide (s1 = s2) && decide (q1 = q2))) w := by
  have a2 := Try.isAgg2; have z2 := Try.sizeOf2; have u2 := Try.underlying2
  have a3 := Try.isAgg3; have z3 := Try.sizeOf3; have u3 := Try.underlying3
  have hS : Try.prog.underlying 32 = some (.struct (Try.prog.fieldsOf 32)) := by kernel_rfl
  have hp : Try.prog.stoodInHeld 32 = false := by kernel_rfl
  rw [run_eql_struct, show (10000 : Nat) = 9999 + 1 from rfl, run_equalIn_agg w 9999 32 _ _ hS hp]
  simp only [Program.fieldsOf, Try.underlying32]
  go_simp
  by_cases h1 : s1 = s2 <;> by_cases h2 : q1 = q2 <;> simp [h1, h2]
theorem idGuard (op : BinOp) (x y : Operand) (s1 q1 s2 q2 : Int) (w : World) :
    (eqGuard op 32 x y (.agg #[.int .i64 s1, .int .i64 q1]) (.agg #[.int .i64 s2, .int .i64 q2])).run Try.prog w = .ok () w := run_eqGuard_agg w op _ x y _ _ (by kernel_rfl)
end Go.Proofs.Ythjhbnfedelniaa
namespace Go.Proofs.Ythjhbnfedelniaa
open Go Go.RowKit

set_option maxRecDepth 100000 in
set_option maxHeartbeats 1600000 in
theorem r4Same_any (a b : Ev) (B B2 : Nat) (ao : Option Addr) (n cap : Nat) (ao2 : Option Addr) (n2 cap2 : Nat) (w : World) (h1 : Av w B (.slice ao n cap) a.ats) (h2 : Av w B2 (.slice ao2 n2 cap2) b.ats) (hB : B ≤ w.heap.size) (hB2 : B2 ≤ w.heap.size) :
    Calls Try.prog 25 #[evV a (.slice ao n cap), evV b (.slice ao2 n2 cap2)] w fun e w' => e = .returned (.bool (sameE a b)) ∧ Below w.heap.size w w' := by
  obtain ⟨s, q, t, ty, ats⟩ := a
  obtain ⟨s', q', t', ty', ats'⟩ := b
  simp only at h1 h2
  unfold evV
  simp only
  have HB0 : Hid (Below w.heap.size w ((w.alloc (.cells #[.int .i64 s, .int .i64 q, .int .i64 t, .string ty, .slice ao n cap] 35)).alloc (.cells #[.int .i64 s', .int .i64 q', .int .i64 t', .string ty', .slice ao2 n2 cap2] 35))) := ((Below.refl _ _).alloc (Nat.le_refl _) _).alloc (by simp) _
  have CA := r3SameAttrs_any B B2 ao n cap ats ao2 n2 cap2 ats' _ (h1.below HB0.out hB) (h2.below HB0.out hB2)
  have HCA := Lib.hid CA
  clear CA h1 h2 hB hB2
  have e1 := idEq_run s q s' q'
  have g1 := fun op x y => idGuard op x y s q s' q'
  cases b1 : (decide (s = s') && decide (q = q')) with
  | false =>
    rw [b1] at e1
    rw [show sameE _ _ = false by simp only [sameE, b1, Bool.false_and]]
    clear b1
    go_enter Try.func25, Try.ntmps25
    go_wp2
    go_ret
    exact ⟨rfl, HB0.out⟩
  | true =>
    rw [b1] at e1
    rcases Decidable.em (t = t') with ht | ht
    case inr =>
      have et : (t == t') = false := by simp [ht]
      rw [show sameE _ _ = false by simp [sameE, ht]]
      clear b1
      go_enter Try.func25, Try.ntmps25
      go_wp2
      go_ret
      exact ⟨rfl, HB0.out⟩
    subst ht
    cases b3 : (ty.toList == ty'.toList) with
    | false =>
      rw [show sameE _ _ = false by simp only [sameE, b3, Bool.and_false, Bool.false_and]]
      clear b1
      go_enter Try.func25, Try.ntmps25
      go_wp2
      go_ret
      exact ⟨rfl, HB0.out⟩
    | true =>
      rw [show sameE _ _ = sameA ats ats' by simp only [sameE, b1, b3, decide_true, Bool.true_and]]
      clear b1
      go_enter Try.func25, Try.ntmps25
      go_wp2_with (go_at_call 41; (with_reducible refine (HCA.out).mono ?_); rintro e w1 ⟨rfl, hb⟩; have HB1 := Lib.hid hb; clear hb)
      go_ret
      exact ⟨rfl, HB0.out.trans (HB1.out.mono HB0.out.size)⟩

/-- How the names of two events stand. -/
def cmpID (s q s' q' : Int) : Int := if cmpI s s' = 0 then cmpI q q' else cmpI s s'
def orI (a b : Int) : Int := if a = 0 then b else a
end Go.Proofs.Ythjhbnfedelniaa
namespace Go.Proofs.Ythjhbnfedelniaa
open Go

/-- How many bits 0 stand ahead. -/
def ahd (u : Nat) : Nat := (u + 1).log2
theorem ahd_le (u : Nat) (h : u < 2 ^ 64) : ahd u ≤ 64 := by
  unfold ahd
  have : (u + 1).log2 < 65 := (Nat.log2_lt (by omega)).2 (by omega)
  omega
theorem ahd_pow (u : Nat) : 2 ^ ahd u ≤ u + 1 := Nat.log2_self_le (by omega)
theorem ahd_lt (u : Nat) : u + 1 < 2 ^ (ahd u + 1) := Nat.lt_log2_self
theorem ahd_max : ahd 18446744073709551615 = 64 := by decide +kernel
theorem bitLenAux_log2 (f x : Nat) (hx : x ≠ 0) (h : x < 2 ^ f) : Lib.bitLenAux f x = x.log2 + 1 := by
  induction f generalizing x with
  | zero => simp at h; omega
  | succ f ih =>
    rw [Lib.bitLenAux, if_neg hx, Nat.log2_def]
    by_cases h2 : 2 ≤ x
    · rw [ih (x / 2) (by omega) (by rw [Nat.pow_succ] at h; omega), if_pos h2]; omega
    · rw [if_neg h2]
      have : x / 2 = 0 := by omega
      rw [this]
      cases f <;> simp [Lib.bitLenAux]
theorem bitLen_log2 (x : Nat) (hx : x ≠ 0) (h : x < 2 ^ 64) : Lib.bitLen x = x.log2 + 1 := bitLenAux_log2 64 x hx h

/-- The code of a natural number. -/
def natBits (u : Nat) : List Bool := List.replicate (ahd u) false ++ bitsOf (u + 1) (ahd u + 1)
theorem natBits_length (u : Nat) : (natBits u).length = 2 * ahd u + 1 := by simp [natBits, bitsOf_length]; omega
theorem bitsOf_zero_num (k : Nat) : bitsOf 0 k = List.replicate k false := by
  apply List.ext_getElem
  · simp [bitsOf]
  · intro i h1 h2; simp [bitsOf]
theorem bitsOf_mod (x k : Nat) (hk : k ≤ 64) : bitsOf (x % 2 ^ 64) k = bitsOf x k := by
  apply List.ext_getElem
  · simp [bitsOf]
  · intro i h1 h2
    simp [bitsOf] at h1
    rw [bitsOf_getElem, bitsOf_getElem, Nat.testBit_mod_two_pow]
    simp; omega
theorem testBit_top (x k : Nat) (h1 : 2 ^ k ≤ x) (h2 : x < 2 ^ (k + 1)) : x.testBit k = true := by
  rw [Nat.testBit_eq_decide_div_mod_eq]
  have : x / 2 ^ k = 1 := by
    rw [Nat.div_eq_iff (Nat.two_pow_pos k)]
    rw [Nat.pow_succ] at h2
    omega
  simp [this]
theorem natBits_parts (u : Nat) (h : u < 2 ^ 64) : natBits u = bitsOf 0 (ahd u) ++ (bitsOf 1 1 ++ bitsOf ((u + 1) % 2 ^ 64) (ahd u)) := by
  rw [natBits, bitsOf_zero_num, bitsOf_mod _ _ (ahd_le u h), bitsOf_succ, testBit_top _ _ (ahd_pow u) (ahd_lt u)]
  rfl

/-- The natural number that stands for a number. -/
def zigN (n : Int) : Nat := if 0 ≤ n then (2 * n).toNat else (2 * (-(n + 1)) + 1).toNat

/-- The code of a text. -/
def textBits (l : List UInt8) : List Bool := natBits l.length ++ l.flatMap fun c => bitsOf c.toNat 8
end Go.Proofs.Ythjhbnfedelniaa
namespace Go.Proofs.Ythjhbnfedelniaa
open Go

theorem ahd_mono (a b : Nat) (h : a ≤ b) : ahd a ≤ ahd b := by
  rcases Nat.lt_or_ge (ahd b) (ahd a) with hlt | hge
  · have h1 := ahd_pow a
    have h2 := ahd_lt b
    have h3 : 2 ^ (ahd b + 1) ≤ 2 ^ ahd a := Nat.pow_le_pow_right (by omega) hlt
    omega
  · exact hge
theorem natBits_low (u i : Nat) (h : i < ahd u) : (natBits u)[i]? = some false := by
  rw [natBits, List.getElem?_append_left (by simpa using h)]
  simp [h]
theorem natBits_high (u j : Nat) (h : j ≤ ahd u) : (natBits u)[ahd u + j]? = some ((u + 1).testBit (ahd u - j)) := by
  rw [natBits, List.getElem?_append_right (by simp)]
  simp only [List.length_replicate, Nat.add_sub_cancel_left]
  rw [List.getElem?_eq_getElem (by rw [bitsOf_length]; omega), bitsOf_getElem]
  congr 2
theorem apart_lt (a b : Nat) (h : ahd a < ahd b) : (natBits a)[ahd a]? ≠ (natBits b)[ahd a]? := by
  rw [natBits_low b _ h]
  have := natBits_high a 0 (Nat.zero_le _)
  rw [Nat.add_zero] at this
  rw [this, Nat.sub_zero, testBit_top _ _ (ahd_pow a) (ahd_lt a)]
  simp
theorem take_ne_of {l m : List Bool} {i k : Nat} (hi : i < k) (h : l[i]? ≠ m[i]?) : l.take k ≠ m.take k := by
  intro e
  apply h
  have h1 := congrArg (fun x => x[i]?) e
  simpa [List.getElem?_take, hi] using h1
theorem apart_any (a b k : Nat) (h : a ≠ b) (hk : k = min (2 * ahd a + 1) (2 * ahd b + 1)) : (natBits a).take k ≠ (natBits b).take k := by
  rcases Nat.lt_trichotomy (ahd a) (ahd b) with hlt | heq | hgt
  · exact take_ne_of (i := ahd a) (by omega) (apart_lt a b hlt)
  · intro e
    apply h
    have hsucc : a + 1 = b + 1 := by
      apply Nat.eq_of_testBit_eq
      intro j
      by_cases hj : j ≤ ahd a
      · have h1 := natBits_high a (ahd a - j) (by omega)
        have h2 := natBits_high b (ahd a - j) (by omega)
        have h3 := congrArg (fun x => x[ahd a + (ahd a - j)]?) e
        simp only [List.getElem?_take] at h3
        rw [if_pos (by omega), if_pos (by omega), h1, heq] at h3
        rw [heq] at h2
        rw [h2] at h3
        simp only [Option.some.injEq] at h3
        rw [heq] at hj
        rwa [show ahd b - (ahd b - j) = j by omega] at h3
      · have p1 := ahd_lt a
        have p2 := ahd_lt b
        have p3 : 2 ^ (ahd a + 1) ≤ 2 ^ j := Nat.pow_le_pow_right (by omega) (by omega)
        have p4 : 2 ^ (ahd b + 1) ≤ 2 ^ j := Nat.pow_le_pow_right (by omega) (by omega)
        rw [Nat.testBit_lt_two_pow (by omega), Nat.testBit_lt_two_pow (by omega)]
    omega
  · have := take_ne_of (k := k) (i := ahd b) (by omega) (apart_lt b a hgt)
    exact fun e => this e.symm
end Go.Proofs.Ythjhbnfedelniaa
namespace Go.Proofs.Ythjhbnfedelniaa
open Go

/-- Bit p of bytes, the highest bit of each byte first. -/
def bitAt (bytes : List Nat) (p : Nat) : Bool := (bytes.getD (p / 8) 0).testBit (7 - p % 8)
def bitsAll (bytes : List Nat) : List Bool := (List.range (8 * bytes.length)).map (bitAt bytes)
theorem bitsAll_length (bytes : List Nat) : (bitsAll bytes).length = 8 * bytes.length := by simp [bitsAll]
theorem bitsAll_getElem (bytes : List Nat) (p : Nat) (h : p < (bitsAll bytes).length) : (bitsAll bytes)[p] = bitAt bytes p := by simp [bitsAll]

/-- The number of the n bits from a on. -/
def valAt (bytes : List Nat) (a n : Nat) : Nat := valBits (((bitsAll bytes).drop a).take n)
theorem valAt_zero (bytes : List Nat) (a : Nat) : valAt bytes a 0 = 0 := by simp [valAt, valBits]
theorem valAt_succ (bytes : List Nat) (a k : Nat) (h : a + k < 8 * bytes.length) : valAt bytes a (k + 1) = 2 * valAt bytes a k + (bitAt bytes (a + k)).toNat := by
  unfold valAt
  rw [List.take_succ_eq_append_getElem (by rw [List.length_drop, bitsAll_length]; omega), List.getElem_drop, bitsAll_getElem, valBits_snoc]
theorem valAt_lt (bytes : List Nat) (a n : Nat) : valAt bytes a n < 2 ^ n := by
  unfold valAt
  have h := valBits_lt (((bitsAll bytes).drop a).take n)
  have hl : (((bitsAll bytes).drop a).take n).length ≤ n := by simp; omega
  have := Nat.pow_le_pow_right (n := 2) (by omega) hl
  omega

theorem and_bit8 (c k : Nat) (hc : c < 256) (hk : k < 8) : bits BinOp.and IntKind.u8 ((c : Int) / 2 ^ k) 1 = ((c.testBit k).toNat : Int) := by
  have h : ∀ c : Fin 256, ∀ k : Fin 8, bits BinOp.and IntKind.u8 (((c.val : Nat) : Int) / 2 ^ k.val) 1 = ((c.val.testBit k.val).toNat : Int) := by decide +kernel
  exact h ⟨c, hc⟩ ⟨k, hk⟩
theorem or_bit64 (v : Nat) (b : Bool) (hv : v < 2 ^ 63) : bits BinOp.or IntKind.u64 ((v : Int) * 2) (b.toNat : Int) = ((2 * v + b.toNat : Nat) : Int) := by
  have hb : b.toNat < 2 ^ 1 := by cases b <;> simp
  have hb2 : b.toNat ≤ 1 := by omega
  have h := bits_or_u64_nat (v * 2) b.toNat (by omega) (by omega)
  have e := Nat.shiftLeft_add_eq_or_of_lt hb v
  rw [Nat.shiftLeft_eq, Nat.pow_one] at e
  rw [← e] at h
  rw [show ((v : Int) * 2) = ((v * 2 : Nat) : Int) by push_cast; rfl, h]
  congr 1
  omega

/-- How many bits 0 come next from bit p on, 65 at most, of those that are there. -/
def zerosAt (bytes : List Nat) (p : Nat) : Nat := ((((bitsAll bytes).drop p).take 65).takeWhile (fun b => !b)).length
theorem tw_len (l : List Bool) (k : Nat) (hk : k ≤ l.length) (h : ∀ i (hi : i < k), l[i]'(by omega) = false) (h2 : ∀ (hl : k < l.length), l[k] = true) : (l.takeWhile (fun b => !b)).length = k := by
  induction l generalizing k with
  | nil => simp at hk ⊢; omega
  | cons a l ih =>
    cases k with
    | zero =>
      have := h2 (by simp)
      simp at this
      simp [this]
    | succ k =>
      have h0 := h 0 (by omega)
      simp at h0
      simp only [h0, List.takeWhile_cons, Bool.not_false, if_true, List.length_cons]
      rw [ih k (by simpa using hk) (fun i hi => by have := h (i + 1) (by omega); simpa using this) (fun hl => by have := h2 (by simpa using hl); simpa using this)]
theorem zerosAt_eq (bytes : List Nat) (p k : Nat) (hp : p ≤ 8 * bytes.length) (hk : k ≤ min (8 * bytes.length - p) 65) (h : ∀ i, i < k → bitAt bytes (p + i) = false) (h2 : k < min (8 * bytes.length - p) 65 → bitAt bytes (p + k) = true) : zerosAt bytes p = k := by
  unfold zerosAt
  have hl : (((bitsAll bytes).drop p).take 65).length = min (8 * bytes.length - p) 65 := by simp [bitsAll_length]; omega
  refine tw_len _ k (by rw [hl]; exact hk) (fun i hi => ?_) (fun hlt => ?_)
  · rw [List.getElem_take, List.getElem_drop, bitsAll_getElem]; exact h i hi
  · rw [List.getElem_take, List.getElem_drop, bitsAll_getElem]; exact h2 (by rw [← hl]; exact hlt)
theorem valAt_one (bytes : List Nat) (a : Nat) (h : a < 8 * bytes.length) : valAt bytes a 1 = (bitAt bytes a).toNat := by
  rw [valAt_succ bytes a 0 (by omega), valAt_zero]; simp
end Go.Proofs.Ythjhbnfedelniaa
namespace Go.Proofs.Ythjhbnfedelniaa
open Go.RowKit

theorem isMade_any (q : Nat) (w : World) (h : w.cell? ⟨q, 0, none⟩ = some (.bool true)) :
    Calls Try.prog 65 #[.pointer (some ⟨q, 0, none⟩)] w fun e w' => e = .returned (.bool true) ∧ w = w' := by
  go_enter Try.func65, Try.ntmps65
  go_wp2
  go_ret
  exact ⟨rfl, rfl⟩

theorem hasRoom_any (q : Nat) (n k : Int) (w : World) (hn : 0 ≤ n) (hn2 : n ≤ 1048576) (h : w.cell? ⟨q, 3, none⟩ = some (.int .i64 n)) :
    Calls Try.prog 66 #[.pointer (some ⟨q, 0, none⟩), .int .i64 k] w fun e w' => e = .returned (.bool (decide (k ≤ 1048576 - n))) ∧ w = w' := by
  go_enter Try.func66, Try.ntmps66
  go_wp2
  go_ret
  exact ⟨rfl, rfl⟩

theorem kLen_any (q : Nat) (n : Int) (w : World) (h0 : w.cell? ⟨q, 0, none⟩ = some (.bool true)) (h : w.cell? ⟨q, 3, none⟩ = some (.int .i64 n)) :
    Calls Try.prog 46 #[.pointer (some ⟨q, 0, none⟩)] w fun e w' => e = .returned (.int .i64 n) ∧ w = w' := by
  go_enter Try.func46, Try.ntmps46
  go_wp2_with (go_at_call 65; refine (isMade_any _ _ (by assumption)).mono ?_; rintro e w' ⟨rfl, rfl⟩)
  go_ret
  exact ⟨rfl, rfl⟩

end Go.Proofs.Ythjhbnfedelniaa
namespace Go.Proofs.Ythjhbnfedelniaa
open Go Go.RowKit

theorem Try.info5 : (Try.prog.info? 5).map (fun i => (i.zero, i.size, i.bytes)) = some (some (.int .u8 0), 1, 1) := by kernel_rfl

/-- The types that a sink's memory is of: its struct, bytes. -/
def sinkT (e : Nat) : Bool := e == 5 || e == 103

/-- In w the block q is a sink that holds the bits bs; its row of bytes is owned, from block B on. -/
structure SinkIs (w : World) (B q : Nat) (bs : List Bool) : Prop where
  from_ : B ≤ q
  len : bs.length ≤ 1048576
  row : ∃ v, w.heap[q]? = some (.cells #[.bool true, v, .int .u8 ((restOf bs : Nat) : Int), .int .i64 ((bs.length : Nat) : Int)] 103 (0, 0)) ∧
    w.ownsRow B 5 1 v (bs.length / 8) ((fullOf bs).map fun x : Nat => Value.int .u8 (x : Int))

theorem SinkIs.lt {w : World} {B q : Nat} {bs : List Bool} (h : SinkIs w B q bs) : q < w.heap.size := by
  obtain ⟨v, h1, _⟩ := h.row
  exact lt_of_block h1
theorem SinkIs.made {w : World} {B q : Nat} {bs : List Bool} (h : SinkIs w B q bs) : w.cell? ⟨q, 0, none⟩ = some (.bool true) := by
  obtain ⟨v, h1, _⟩ := h.row
  exact (cell_of_four h1).1
theorem SinkIs.count {w : World} {B q : Nat} {bs : List Bool} (h : SinkIs w B q bs) : w.cell? ⟨q, 3, none⟩ = some (.int .i64 ((bs.length : Nat) : Int)) := by
  obtain ⟨v, h1, _⟩ := h.row
  exact (cell_of_four h1).2.2.2
/-- What keeps all blocks of a sink's types keeps the sink. -/
theorem SinkIs.kept {w w' : World} {B B' q : Nat} {bs : List Bool} {T : Nat → Bool} (h : SinkIs w B q bs) (hk : Kept B' T w w') (h1 : T 5 = false) (h2 : T 103 = false) : SinkIs w' B q bs := by
  obtain ⟨v, hq, ho⟩ := h.row
  exact ⟨h.from_, h.len, v, hk.typed _ _ _ _ hq h2, hk.ownsRow ho h1⟩
theorem SinkIs.below {w w' : World} {B B' q : Nat} {bs : List Bool} (h : SinkIs w B q bs) (hk : Below B' w w') (hB : w.heap.size ≤ B') : SinkIs w' B q bs := by
  obtain ⟨v, hq, ho⟩ := h.row
  refine ⟨h.from_, h.len, v, ?_, ho.1, ?_⟩
  · rw [hk.block q (by have := lt_of_block hq; omega)]; exact hq
  · rcases ho.2 with hn | ⟨g, cap, cur, rfl, hb, hgg, rest⟩
    · exact .inl hn
    · exact .inr ⟨g, cap, cur, rfl, hb, by rw [hk.block g (by have := lt_of_block hgg; omega)]; exact hgg, rest⟩

theorem SinkIs.drew {w : World} {B q : Nat} {bs : List Bool} (h : SinkIs w B q bs) : SinkIs w.drew B q bs := ⟨h.from_, h.len, h.row⟩
theorem SinkIs.drewN {w : World} {B q : Nat} {bs : List Bool} (h : SinkIs w B q bs) (n : Nat) : SinkIs (w.drewN n) B q bs := ⟨h.from_, h.len, h.row⟩
/-- One bit more, the byte not full by it. -/
theorem SinkIs.bit_ne {w : World} {B q : Nat} {bs : List Bool} (h : SinkIs w B q bs) (b : Bool) (hl : bs.length + 1 ≤ 1048576) (hm : (bs.length + 1) % 8 ≠ 0) :
    SinkIs ((w.setCell ⟨q, 2, none⟩ (.int .u8 ((2 * restOf bs + b.toNat : Nat) : Int))).setCell ⟨q, 3, none⟩ (.int .i64 ((bs.length + 1 : Nat) : Int))) B q (bs ++ [b]) := by
  obtain ⟨v, hq, ho⟩ := h.row
  have q1 := heap_setCell_same (k := 2) hq (.int .u8 ((2 * restOf bs + b.toNat : Nat) : Int))
  have q2 := heap_setCell_same (k := 3) q1 (.int .i64 ((bs.length + 1 : Nat) : Int))
  refine ⟨h.from_, by simpa using hl, v, ?_, ?_⟩
  · rw [q2, restOf_snoc_ne bs b hm]; simp
  · rw [fullOf_snoc_ne bs b hm, show (bs ++ [b]).length / 8 = bs.length / 8 by simp; omega]
    exact ownsRow_setCell_typed (ownsRow_setCell_typed ho hq (by decide) _) q1 (by decide) _

/-- One bit more, the byte full by it: its byte is laid into the row. -/
theorem SinkIs.bit_eq {w2 : World} {B q : Nat} {bs : List Bool} {v : Value} (b : Bool) (hB : B ≤ q) (hl : bs.length + 1 ≤ 1048576) (hm : (bs.length + 1) % 8 = 0) {x1 x2 : Value}
    (hq : w2.heap[q]? = some (.cells #[.bool true, x1, x2, .int .i64 ((bs.length + 1 : Nat) : Int)] 103 (0, 0)))
    (ho : w2.ownsRow B 5 1 v (bs.length / 8 + 1) ((fullOf bs).map (fun x : Nat => Value.int .u8 (x : Int)) ++ [.int .u8 ((2 * restOf bs + b.toNat : Nat) : Int)])) :
    SinkIs ((w2.setCell ⟨q, 1, none⟩ v).setCell ⟨q, 2, none⟩ (.int .u8 0)) B q (bs ++ [b]) := by
  have q1 := heap_setCell_same (k := 1) hq v
  have q2 := heap_setCell_same (k := 2) q1 (.int .u8 0)
  refine ⟨hB, by simpa using hl, v, ?_, ?_⟩
  · rw [q2, restOf_snoc_eq bs b hm]; simp
  · rw [fullOf_snoc_eq bs b hm, show (bs ++ [b]).length / 8 = bs.length / 8 + 1 by simp; omega, List.map_append]
    exact ownsRow_setCell_typed (ownsRow_setCell_typed ho hq (by decide) _) q1 (by decide) _

set_option maxRecDepth 100000 in
set_option maxHeartbeats 1000000 in
theorem kPut_any (B q : Nat) (x n : Nat) (bs : List Bool) (w : World) (hx : x < 2 ^ 64) (hn : n ≤ 64) (hs : SinkIs w B q bs) (hl : bs.length + n ≤ 1048576) :
    Calls Try.prog 67 #[.pointer (some ⟨q, 0, none⟩), .int .u64 (x : Int), .int .i64 (n : Int)] w fun e w' => e = .returned (.tuple #[]) ∧ SinkIs w' B q (bs ++ bitsOf x n) ∧ Kept B sinkT w w' := by
  obtain ⟨i0, hi, hz0, hz1, hz2⟩ := info_parts Try.info5
  have hx' : (x : Int) ≤ 18446744073709551615 := by omega
  go_enter Try.func67, Try.ntmps67
  go_wp2
  go_loopw [8] (fun i wr => ∃ k : Nat, k ≤ n ∧ i = .int .i64 k ∧ SinkIs wr B q (bs ++ (bitsOf x n).take k) ∧ Kept B sinkT w wr) (fun i _ => n - (intOf i).toNat)
  case atStart => exact ⟨0, Nat.zero_le _, rfl, by simpa using hs, Kept.refl _ _ _⟩
  case round =>
    obtain ⟨k, hk, rfl, hsr, hkr⟩ := hrel
    by_cases hlt : k < n
    · have HT := hide (bitsOf_take_succ x n k hlt)
      obtain ⟨cs, hcs⟩ : ∃ cs, cs = bs ++ (bitsOf x n).take k := ⟨_, rfl⟩
      rw [← hcs] at hsr
      have hcl : cs.length = bs.length + k := by rw [hcs]; simp [bitsOf_length]; omega
      have HC := hide hcs; clear hcs
      obtain ⟨v, hq, ho⟩ := hsr.row
      obtain ⟨h0, h1, h2, h3⟩ := cell_of_four hq
      obtain ⟨f0, f1, f2, f3⟩ := free_of_four hq
      have hr0 := restOf_lt cs
      obtain ⟨r, hr⟩ : ∃ r, r = restOf cs := ⟨_, rfl⟩
      obtain ⟨L, hL⟩ : ∃ L, L = cs.length := ⟨_, rfl⟩
      rw [← hr] at h2 hr0
      rw [← hL] at h3
      have HR := hide hr; clear hr
      have HL := hide hL
      have hL1 : L + 1 ≤ 1048576 := by omega
      clear hL hcl
      have HQ := hide hq; clear hq
      have HO := hide ho; clear ho
      obtain ⟨b, hb⟩ : ∃ b, b = x.testBit (n - 1 - k) := ⟨_, rfl⟩
      obtain ⟨R, hR⟩ : ∃ R : Int, R = ((2 * r + b.toNat : Nat) : Int) := ⟨_, rfl⟩
      have e : bits BinOp.or IntKind.u8 ((r : Int) * 2) (bits BinOp.and IntKind.u64 ((x : Int) / 2 ^ (n - 1 - k)) 1 % 256) = R := by rw [hR, bit_of _ _ hx, ← hb, or_bit _ _ hr0]
      have HB := hide hb; clear hb
      have HRR := hide hR; clear hR
      by_cases hm : (L + 1) % 8 = 0
      · have hm2 : (L + 1) % 8 ≤ 0 := by omega
        have HM := hide hm; clear hm
        have hown1 : ((wr.setCell ⟨q, 2, none⟩ (.int .u8 R)).setCell ⟨q, 3, none⟩ (.int .i64 ((L : Int) + 1))).ownsRow B 5 1 v (cs.length / 8) ((fullOf cs).map fun x : Nat => Value.int .u8 (x : Int)) :=
          ownsRow_setCell_typed (ownsRow_setCell_typed HO.out HQ.out (by decide) _) (heap_setCell_same (k := 2) HQ.out _) (by decide) _
        have HO1 := hide hown1; clear hown1
        have hq1 : ((wr.setCell ⟨q, 2, none⟩ (.int .u8 R)).setCell ⟨q, 3, none⟩ (.int .i64 ((L : Int) + 1))).heap[q]? = some (.cells #[.bool true, v, .int .u8 R, .int .i64 ((L : Int) + 1)] 103 (0, 0)) := by
          rw [heap_setCell_same (heap_setCell_same HQ.out _) _]; simp
        have hA : (((wr.setCell ⟨q, 2, none⟩ (.int .u8 R)).setCell ⟨q, 3, none⟩ (.int .i64 ((L : Int) + 1))).alloc (.cells #[.int .u8 R] 5)).cell? ⟨q, 1, none⟩ = some v := (cell_of_four (heap_alloc_keeps hq1 _)).2.1
        have HQ1 := hide hq1; clear hq1
        have hBq : B ≤ wr.heap.size := by have := hsr.lt; have := hsr.from_; omega
        go_wp2
        go_region
        go_wp2
        go_region_law (refine step_append_own rfl (.tmp 45) (.tmp 50) 82 rfl B 5 i0 (.int .u8 0) 1 1 Try.underlying82 hi hz0 hz1 hz2 rfl (by decide) v (cs.length / 8) _ (by simp [Act.eval]) (HO1.out.alloc _) ⟨wr.heap.size, 0, none⟩ 1 1 [.int .u8 R] (by simp [Act.eval]) rfl (by intro j u hj; match j, hj with | 0, hj => simp at hj; subst hj; simp only [Addr.add]; exact cell_alloc_one _ _ (by simp) _ _) (by intro u hu; simp at hu; subst hu; rfl) (by have := HL.out; unfold maxLen; omega) (by have := HL.out; omega) (by simp; omega) ?_; intro v' w' hown' hgrow'; obtain ⟨g, cap', rfl⟩ := own_shape hown'; have HQ2 := hide (grow_keeps (heap_alloc_keeps HQ1.out _) (HO1.out.alloc _) (by decide) hgrow' rfl); obtain ⟨c0, c1, c2, c3⟩ := cell_of_four HQ2.out; obtain ⟨g0, g1, g2, g3⟩ := free_of_four HQ2.out; have HO2 := hide hown'; have HG2 := hide hgrow'; clear hown' hgrow')
        all_goals go_wp2
        all_goals go_roundw
        all_goals try (case' measure => simp [intOf]; omega)
        all_goals
          have hb1 := SinkIs.bit_eq (bs := cs) (w2 := w') (v := .slice (some ⟨g, 0, none⟩) (cs.length / 8 + 1) cap') (x1 := v) (x2 := .int .u8 R) b hsr.from_ (by have := HL.out; omega) (by rw [← HL.out]; exact HM.out)
            (by rw [← HL.out, Int.natCast_add]; exact HQ2.out) (by rw [← HR.out, ← HRR.out]; exact HO2.out)
          have K1 := ((hkr.setCell (p := ⟨q, 2, none⟩) hsr.from_ HQ.out rfl (.int .u8 R)).setCell (p := ⟨q, 3, none⟩) hsr.from_ (heap_setCell_same HQ.out _) rfl (.int .i64 ((L : Int) + 1))).alloc (by simp; omega) (.cells #[.int .u8 R] 5)
          have K3 := (K1.drewN 2).grown (ownsRow_drewN (HO1.out.alloc _) 2) rfl HG2.out (by simp; omega) (Nat.le_refl _)
          have K4 := (K3.setCell (p := ⟨q, 1, none⟩) hsr.from_ HQ2.out rfl (.slice (some ⟨g, 0, none⟩) (cs.length / 8 + 1) cap')).setCell (p := ⟨q, 2, none⟩) hsr.from_ (heap_setCell_same HQ2.out _) rfl (.int .u8 0)
          refine ⟨k + 1, by omega, by go_num, ?_, K4⟩
          rw [HT.out, ← HB.out, ← List.append_assoc, ← HC.out]
          exact hb1
      · have hm2 : 1 ≤ (L + 1) % 8 := by omega
        have HM := hide hm; clear hm
        go_wp2
        go_region
        go_wp2
        go_roundw
        case rel =>
          have hb1 := hsr.bit_ne b (by have := HL.out; omega) (by rw [← HL.out]; exact HM.out)
          rw [← HR.out, ← HRR.out, ← HL.out] at hb1
          have K1 := (hkr.setCell (p := ⟨q, 2, none⟩) hsr.from_ HQ.out rfl (.int .u8 R)).setCell (p := ⟨q, 3, none⟩) hsr.from_ (heap_setCell_same HQ.out _) rfl (.int .i64 ((L : Int) + 1))
          refine ⟨k + 1, by omega, by go_num, ?_, K1.drew⟩
          rw [HT.out, ← HB.out, ← List.append_assoc, ← HC.out]
          exact hb1.drew
        case measure => simp [intOf]; omega
    · go_wp2
      go_end0
      obtain rfl : k = n := by omega
      rw [List.take_of_length_le (by simp [bitsOf_length])] at hsr
      exact ⟨rfl, hsr, hkr⟩
end Go.Proofs.Ythjhbnfedelniaa
namespace Go.Proofs.Ythjhbnfedelniaa
open Go Go.RowKit

set_option maxRecDepth 100000 in
theorem ahead_any (u : Nat) (hu : u < 2 ^ 64) (w : World) :
    Calls Try.prog 86 #[.int .u64 (u : Int)] w fun e w' => e = .returned (.int .i64 ((ahd u : Nat) : Int)) ∧ w = w' := by
  by_cases hm : u = 18446744073709551615
  · subst hm
    go_enter Try.func86, Try.ntmps86
    go_wp2
    go_ret
    exact ⟨by rw [ahd_max]; rfl, rfl⟩
  · have hl := bitLen_log2 (u + 1) (by omega) (by omega)
    have hlt : (u : Int) + 1 ≤ 18446744073709551615 := by omega
    have hle : (Lib.bitLen (u + 1)) ≤ 64 := by rw [hl]; have := (Nat.log2_lt (n := u + 1) (k := 64) (by omega)).2 (by omega); omega
    have h1 : 1 ≤ Lib.bitLen (u + 1) := by rw [hl]; omega
    have hm' : ((u : Int) == 18446744073709551615) = false := by simp; omega
    obtain ⟨L, hL⟩ : ∃ L, L = Lib.bitLen (u + 1) := ⟨_, rfl⟩
    have C : ∀ w : World, Calls Try.prog 90 #[.int .u64 ((u : Int) + 1)] w fun e w' => e = .returned (.int .i64 (L : Int)) ∧ w = w' := by
      intro w
      refine (Try.bits_Len64 _ w (by omega) (by omega)).mono fun e w' ⟨he, hw⟩ => ?_
      rw [he, hw, hL]
      exact ⟨rfl, rfl⟩
    have HE : Hid (L = (u + 1).log2 + 1) := by rw [hL, hl]; rfl
    rw [← hL] at hle h1
    clear hL hl hm
    have hu' := hide hu; clear hu
    have hw : IntKind.u64.wrap ((u : Int) + 1) = (u : Int) + 1 := by rw [IntKind.wrap_u64]; omega
    have hlt' := hide hlt; clear hlt
    go_enter Try.func86, Try.ntmps86
    go_wp2_with fail
    refine (C _).mono ?_
    rintro e w' ⟨rfl, rfl⟩
    go_wp2
    go_ret
    refine ⟨?_, rfl⟩
    have := HE.out
    rw [show ((ahd u : Nat) : Int) = (L : Int) - 1 by unfold ahd; omega]
    rfl

theorem Size_any (u : Nat) (hu : u < 2 ^ 64) (w : World) :
    Calls Try.prog 81 #[.int .u64 (u : Int)] w fun e w' => e = .returned (.int .i64 (2 * (ahd u : Int) + 1)) ∧ w = w' := by
  have h := ahd_le u hu
  go_enter Try.func81, Try.ntmps81
  go_wp2_with (go_at_call 86; refine (ahead_any _ hu _).mono ?_; rintro e w' ⟨rfl, rfl⟩)
  go_ret
  exact ⟨rfl, rfl⟩

set_option maxRecDepth 100000 in
theorem kPutNat_any (B q : Nat) (u : Nat) (bs : List Bool) (w : World) (hu : u < 2 ^ 64) (hs : SinkIs w B q bs) (hl : bs.length + (2 * ahd u + 1) ≤ 1048576) :
    Calls Try.prog 82 #[.pointer (some ⟨q, 0, none⟩), .int .u64 (u : Int)] w fun e w' => e = .returned (.tuple #[]) ∧ SinkIs w' B q (bs ++ natBits u) ∧ Kept B sinkT w w' := by
  have h := ahd_le u hu
  have hw64 : IntKind.u64.wrap ((u : Int) + 1) = (((u + 1) % 2 ^ 64 : Nat) : Int) := by
    rw [IntKind.wrap_u64]; omega
  have HP := hide (natBits_parts u hu)
  have h0 : (0 : Nat) < 2 ^ 64 := by decide
  have h1 : (1 : Nat) < 2 ^ 64 := by decide
  have h2 : (u + 1) % 2 ^ 64 < 2 ^ 64 := Nat.mod_lt _ (by decide)
  go_enter Try.func82, Try.ntmps82
  go_wp2_with (go_at_call 86; refine (ahead_any _ hu _).mono ?_; rintro e w' ⟨rfl, rfl⟩)
  refine (kPut_any B q 0 (ahd u) bs _ h0 h hs (by omega)).mono ?_
  rintro e w1 ⟨rfl, hs1, hk1⟩
  go_wp2_with fail
  refine (kPut_any B q 1 1 _ _ h1 (by decide) hs1 (by simp [bitsOf_length]; omega)).mono ?_
  rintro e w2 ⟨rfl, hs2, hk2⟩
  go_wp2_with fail
  rw [show ((u : Int) + 1) % 18446744073709551616 = (((u + 1) % 2 ^ 64 : Nat) : Int) by omega]
  refine (kPut_any B q ((u + 1) % 2 ^ 64) (ahd u) _ _ h2 h hs2 (by simp [bitsOf_length]; omega)).mono ?_
  rintro e w3 ⟨rfl, hs3, hk3⟩
  go_wp2
  go_end0
  refine ⟨rfl, ?_, (hk1.trans hk2).trans hk3⟩
  rw [HP.out, ← List.append_assoc, ← List.append_assoc]
  exact hs3
set_option maxRecDepth 100000 in
theorem kNat_fits (B q : Nat) (u : Nat) (bs : List Bool) (w : World) (hu : u < 2 ^ 64) (hs : SinkIs w B q bs) (hl : bs.length + (2 * ahd u + 1) ≤ 1048576) :
    Calls Try.prog 69 #[.pointer (some ⟨q, 0, none⟩), .int .u64 (u : Int)] w fun e w' => e = .returned (.int .i64 0) ∧ SinkIs w' B q (bs ++ natBits u) ∧ Kept B sinkT w w' := by
  have h := ahd_le u hu
  have hd : decide (2 * (ahd u : Int) + 1 ≤ 1048576 - ((bs.length : Nat) : Int)) = true := by simp; omega
  have hsl := hs.len
  go_enter Try.func69, Try.ntmps69
  go_wp2_with fail
  refine (isMade_any q _ hs.made).mono ?_
  rintro e w' ⟨rfl, rfl⟩
  go_wp2_with fail
  refine (Size_any u hu _).mono ?_
  rintro e w' ⟨rfl, rfl⟩
  go_wp2_with fail
  refine (hasRoom_any q _ _ _ (by omega) (by omega) hs.count).mono ?_
  rw [hd]
  rintro e w' ⟨rfl, rfl⟩
  go_wp2_with fail
  refine (kPutNat_any B q u bs _ hu hs hl).mono ?_
  rintro e w' ⟨rfl, hs', hk'⟩
  go_wp2
  go_ret
  exact ⟨rfl, hs', hk'⟩

set_option maxRecDepth 100000 in
theorem kNat_long (B q : Nat) (u : Nat) (bs : List Bool) (w : World) (hu : u < 2 ^ 64) (hs : SinkIs w B q bs) (hl : 1048576 < bs.length + (2 * ahd u + 1)) :
    Calls Try.prog 69 #[.pointer (some ⟨q, 0, none⟩), .int .u64 (u : Int)] w fun e w' => e = .returned (.int .i64 3) ∧ w = w' := by
  have h := ahd_le u hu
  have hd : decide (2 * (ahd u : Int) + 1 ≤ 1048576 - ((bs.length : Nat) : Int)) = false := by simp; omega
  have hsl := hs.len
  go_enter Try.func69, Try.ntmps69
  go_wp2_with fail
  refine (isMade_any q _ hs.made).mono ?_
  rintro e w' ⟨rfl, rfl⟩
  go_wp2_with fail
  refine (Size_any u hu _).mono ?_
  rintro e w' ⟨rfl, rfl⟩
  go_wp2_with fail
  refine (hasRoom_any q _ _ _ (by omega) (by omega) hs.count).mono ?_
  rw [hd]
  rintro e w' ⟨rfl, rfl⟩
  go_wp2
  go_ret
  exact ⟨rfl, rfl⟩

/-- A new sink: no bits. -/
theorem newSink_any (w : World) :
    Calls Try.prog 68 #[] w fun e w' => e = .returned (.pointer (some ⟨w.heap.size, 0, none⟩)) ∧ SinkIs w' w.heap.size w.heap.size [] ∧ Kept w.heap.size sinkT w w' := by
  go_enter Try.func68, Try.ntmps68
  go_wp2
  go_ret
  refine ⟨rfl, ⟨Nat.le_refl _, by simp, .slice none 0 0, heap_alloc_new _ _, World.ownsRow_nil _ _ _ _⟩, (Kept.refl _ _ _).alloc (Nat.le_refl _) _⟩
end Go.Proofs.Ythjhbnfedelniaa
namespace Go.Proofs.Ythjhbnfedelniaa
open Go Go.RowKit

/-- The bits, eight a byte, the last byte filled up with bits 0. -/
def packed (bs : List Bool) : List Nat := fullOf bs ++ if bs.length % 8 = 0 then [] else [restOf bs * 2 ^ (8 - bs.length % 8)]

def byteVs (l : List Nat) : List Value := l.map fun x : Nat => Value.int .u8 (x : Int)
theorem byteVs_length (l : List Nat) : (byteVs l).length = l.length := by simp [byteVs]
theorem byteVs_one (l : List Nat) : ∀ u ∈ byteVs l, u.oneCell' = true := by
  intro u hu; simp [byteVs] at hu; obtain ⟨x, _, rfl⟩ := hu; rfl
theorem byteVs_append (l m : List Nat) : byteVs (l ++ m) = byteVs l ++ byteVs m := by simp [byteVs]

theorem packed_length_le (bs : List Bool) : (packed bs).length ≤ bs.length / 8 + 1 := by
  unfold packed; rw [List.length_append, fullOf_length]; split <;> simp

theorem shl_rest (r k : Nat) (hr : r < 2 ^ k) (hk : 0 < k) (hk8 : k < 8) : IntKind.u8.wrap ((r : Int) * 2 ^ (8 - k)) = ((r * 2 ^ (8 - k) : Nat) : Int) := by
  have h : r * 2 ^ (8 - k) < 2 ^ k * 2 ^ (8 - k) := Nat.mul_lt_mul_of_pos_right hr (Nat.two_pow_pos _)
  rw [← Nat.pow_add, show k + (8 - k) = 8 by omega] at h
  rw [IntKind.wrap_u8]
  have e : ((r : Int) * 2 ^ (8 - k)) = ((r * 2 ^ (8 - k) : Nat) : Int) := by push_cast; rfl
  rw [e]; omega
theorem restOf_lt2 (bs : List Bool) : restOf bs < 2 ^ (bs.length % 8) := by
  unfold restOf
  have h := valBits_lt (bs.drop (8 * (bs.length / 8)))
  have hl : (bs.drop (8 * (bs.length / 8))).length = bs.length % 8 := by rw [List.length_drop]; omega
  rwa [hl] at h

/-- The cells of an owned row, read in a world that has grown by another one. -/
theorem own_cells_in {w w1 : World} {B n e g cap : Nat} {xs : List Value} (hg : w.grownBy w1 none) (ho : w.ownsRow B e 1 (.slice (some ⟨g, 0, none⟩) n cap) n xs) :
    ∀ j u, xs[j]? = some u → w1.cell? ((⟨g, 0, none⟩ : Addr).add j) = some u := fun j u hj => hg.cell (ho.cells (g := g) rfl j u hj) (by simp)

end Go.Proofs.Ythjhbnfedelniaa
namespace Go.Proofs.Ythjhbnfedelniaa
open Go Go.RowKit

def srcT (e : Nat) : Bool := e == 84

/-- In w the block q is a source of the bytes, which stands at bit p; its copy of the bytes is a row from block B on. -/
structure SrcIs (w : World) (B q : Nat) (bytes : List Nat) (p : Nat) : Prop where
  from_ : B ≤ q
  len : bytes.length ≤ 140737488355328
  at_ : p ≤ 8 * bytes.length
  small : ∀ c ∈ bytes, c < 256
  row : ∃ v, w.heap[q]? = some (.cells #[.bool true, v, .int .i64 (p : Int)] 84 (0, 0)) ∧ w.ownsRow B 5 1 v bytes.length (byteVs bytes)

theorem cell_of_three {w : World} {q : Nat} {c0 c1 c2 : Value} {t : Nat} (h : w.heap[q]? = some (.cells #[c0, c1, c2] t (0, 0))) :
    w.cell? ⟨q, 0, none⟩ = some c0 ∧ w.cell? ⟨q, 1, none⟩ = some c1 ∧ w.cell? ⟨q, 2, none⟩ = some c2 := by
  refine ⟨?_, ?_, ?_⟩ <;> simp [World.cell?, h]
theorem free_of_three {w : World} {q : Nat} {c0 c1 c2 : Value} {t : Nat} (h : w.heap[q]? = some (.cells #[c0, c1, c2] t (0, 0))) :
    w.frozen? ⟨q, 0, none⟩ = false ∧ w.frozen? ⟨q, 1, none⟩ = false ∧ w.frozen? ⟨q, 2, none⟩ = false := by
  refine ⟨?_, ?_, ?_⟩ <;> simp [World.frozen?, h]

theorem add_off (g j : Nat) : (⟨g, 0, none⟩ : Addr).add j = ⟨g, j, none⟩ := by unfold Addr.add; split <;> simp_all

theorem SrcIs.made {w : World} {B q : Nat} {bytes : List Nat} {p : Nat} (h : SrcIs w B q bytes p) : w.cell? ⟨q, 0, none⟩ = some (.bool true) := by
  obtain ⟨v, h1, _⟩ := h.row
  exact (cell_of_three h1).1
theorem SrcIs.pos {w : World} {B q : Nat} {bytes : List Nat} {p : Nat} (h : SrcIs w B q bytes p) : w.cell? ⟨q, 2, none⟩ = some (.int .i64 (p : Int)) := by
  obtain ⟨v, h1, _⟩ := h.row
  exact (cell_of_three h1).2.2
theorem SrcIs.lt {w : World} {B q : Nat} {bytes : List Nat} {p : Nat} (h : SrcIs w B q bytes p) : q < w.heap.size := by
  obtain ⟨v, h1, _⟩ := h.row
  exact lt_of_block h1
theorem SrcIs.drew {w : World} {B q : Nat} {bytes : List Nat} {p : Nat} (h : SrcIs w B q bytes p) : SrcIs w.drew B q bytes p := ⟨h.from_, h.len, h.at_, h.small, h.row⟩
theorem SrcIs.drewN {w : World} {B q : Nat} {bytes : List Nat} {p : Nat} (h : SrcIs w B q bytes p) (n : Nat) : SrcIs (w.drewN n) B q bytes p := ⟨h.from_, h.len, h.at_, h.small, h.row⟩
/-- The value of the field b, the bytes' own cells. -/
theorem SrcIs.slice {w : World} {B q : Nat} {bytes : List Nat} {p : Nat} (h : SrcIs w B q bytes p) :
    ∃ ao cap, w.cell? ⟨q, 1, none⟩ = some (.slice ao bytes.length cap) ∧ (∀ g, ao = some g → ∀ j, j < bytes.length → w.cell? (g.add j) = some (.int .u8 ((bytes.getD j 0 : Nat) : Int))) ∧ (ao = none → bytes.length = 0) ∧ (∀ g, ao = some g → g.off = 0 ∧ g.spot = none) := by
  obtain ⟨v, h1, ho⟩ := h.row
  rcases ho.2 with ⟨hv, hn0⟩ | ⟨g, cap, cur, hv, hg, hgg, hgn, hcapm, hcsz, htake⟩
  · refine ⟨none, 0, ?_, ?_, fun _ => hn0, ?_⟩
    · rw [(cell_of_three h1).2.1, hv, hn0]
    · intro g hg; cases hg
    · intro g hg; cases hg
  · refine ⟨some ⟨g, 0, none⟩, cap, ?_, ?_, ?_, ?_⟩
    · rw [(cell_of_three h1).2.1, hv]
    · intro g' hg' j hj
      simp only [Option.some.injEq] at hg'
      subst hg'
      subst hv
      refine ho.cells (g := g) rfl j _ ?_
      simp [byteVs, hj]
    · intro h; cases h
    · intro g' hg'; simp only [Option.some.injEq] at hg'; subst hg'; exact ⟨rfl, rfl⟩

theorem sIsMade_any (q : Nat) (w : World) (h : w.cell? ⟨q, 0, none⟩ = some (.bool true)) :
    Calls Try.prog 58 #[.pointer (some ⟨q, 0, none⟩)] w fun e w' => e = .returned (.bool true) ∧ w = w' := by
  go_enter Try.func58, Try.ntmps58
  go_wp2
  go_ret
  exact ⟨rfl, rfl⟩

theorem sLeft_any (B q : Nat) (bytes : List Nat) (p : Nat) (w : World) (hs : SrcIs w B q bytes p) :
    Calls Try.prog 59 #[.pointer (some ⟨q, 0, none⟩)] w fun e w' => e = .returned (.int .i64 ((8 * bytes.length - p : Nat) : Int)) ∧ ∃ n, w' = w.drewN n := by
  obtain ⟨ao, cap, h1, _, _, _⟩ := hs.slice
  have h0 := hs.made
  have h2 := hs.pos
  have hp := hs.at_
  have hl := hs.len
  obtain ⟨N, hN⟩ : ∃ N, N = bytes.length := ⟨_, rfl⟩
  rw [← hN] at h1 hp hl
  have HN := hide hN; clear hN
  go_enter Try.func59, Try.ntmps59
  go_wp2_with fail
  refine (sIsMade_any q _ h0).mono ?_
  rintro e w' ⟨rfl, rfl⟩
  go_wp2_with fail
  go_quiet (fail)
  go_wp2
  go_ret
  refine ⟨?_, _, rfl⟩
  rw [← HN.out]
  show Ending.returned (.int .i64 (8 * (N : Int) - p)) = _
  rw [show 8 * (N : Int) - p = ((8 * N - p : Nat) : Int) by omega]

set_option maxRecDepth 100000 in
set_option maxHeartbeats 400000 in
theorem sPeek_any (B q : Nat) (bytes : List Nat) (p a n : Nat) (w : World) (hs : SrcIs w B q bytes p) (hn : n ≤ 64) (ha : a + n ≤ 8 * bytes.length) :
    Calls Try.prog 77 #[.pointer (some ⟨q, 0, none⟩), .int .i64 (a : Int), .int .i64 (n : Int)] w fun e w' => e = .returned (.int .u64 ((valAt bytes a n : Nat) : Int)) ∧ w = w' := by
  obtain ⟨ao, cap, h1, hc, hnone, hoff⟩ := hs.slice
  have hl := hs.len
  obtain ⟨N, hN⟩ : ∃ N, N = bytes.length := ⟨_, rfl⟩
  rw [← hN] at h1 ha hl
  have HC := hide hc; clear hc
  have HNone := hide hnone; clear hnone
  have HOff := hide hoff; clear hoff
  have HN := hide hN; clear hN
  have HS := hide hs.small
  clear hs
  go_enter Try.func77, Try.ntmps77
  go_wp2
  go_loop [7, 11] (fun u i => ∃ k : Nat, k ≤ n ∧ i = .int .i64 k ∧ u = .int .u64 ((valAt bytes a k : Nat) : Int)) (fun _ i => n - (intOf i).toNat)
  case atStart => exact ⟨0, Nat.zero_le _, rfl, by rw [valAt_zero]; rfl⟩
  case round =>
    obtain ⟨k, hk, rfl, rfl⟩ := hrel
    by_cases hlt : k < n
    · have hgo : ∃ g : Nat, ao = some ⟨g, 0, none⟩ := by
        cases ao with
        | none => have h1 := HNone.out rfl; have h2 := HN.out; omega
        | some g => obtain ⟨h1, h2⟩ := HOff.out g rfl; obtain ⟨g1, g2, g3⟩ := g; simp at h1 h2; subst h1; subst h2; exact ⟨g1, rfl⟩
      obtain ⟨g, rfl⟩ := hgo
      have hidx : (a + k) / 8 < N := by omega
      obtain ⟨c, hcc⟩ : ∃ c, c = bytes.getD ((a + k) / 8) 0 := ⟨_, rfl⟩
      have hcell : w.cell? ⟨g, (a + k) / 8, none⟩ = some (.int .u8 (c : Int)) := by
        have := HC.out _ rfl ((a + k) / 8) (by rw [← HN.out]; exact hidx)
        rw [hcc]
        rw [add_off] at this
        exact this
      have hc256 : c < 256 := by
        have hidx' : (a + k) / 8 < bytes.length := by rw [← HN.out]; exact hidx
        rw [hcc, List.getD, List.getElem?_eq_getElem hidx']
        exact HS.out _ (List.getElem_mem _)
      obtain ⟨V, hV⟩ : ∃ V, V = valAt bytes a k := ⟨_, rfl⟩
      have hVlt : V < 2 ^ 63 := by
        have := valAt_lt bytes a k
        have := Nat.pow_le_pow_right (n := 2) (by omega) (show k ≤ 63 by omega)
        omega
      have hsucc := valAt_succ bytes a k (by rw [← HN.out]; omega)
      rw [← hV] at hsucc
      obtain ⟨b, hb⟩ : ∃ b, b = bitAt bytes (a + k) := ⟨_, rfl⟩
      rw [← hb] at hsucc
      have e1 : bits BinOp.and IntKind.u8 ((c : Int) / 2 ^ (7 - (a + k) % 8)) 1 = (b.toNat : Int) := by
        rw [and_bit8 c _ hc256 (by omega), hb, hcc]; rfl
      rw [← hV]
      have hV' : (V : Int) ≤ 9223372036854775807 := by omega
      have HV := hide hV; clear hV
      have HB := hide hb; clear hb
      have HCC := hide hcc; clear hcc
      have HSu := hide hsucc; clear hsucc
      obtain ⟨b', hb'⟩ : ∃ b' : Nat, b' = b.toNat := ⟨_, rfl⟩
      have e2 := or_bit64 V b hVlt
      obtain ⟨V2, hV2⟩ : ∃ V2 : Nat, V2 = 2 * V + b.toNat := ⟨_, rfl⟩
      rw [← hV2, ← hb'] at e2
      rw [← hb'] at e1
      have hb2 : b' ≤ 1 := by rw [hb']; cases b <;> simp
      have HV2 := hide hV2; clear hV2 hb' hVlt
      go_wp2
      go_round
      case rel => exact ⟨k + 1, by omega, by go_num, by rw [HSu.out, HV2.out]⟩
      case measure => simp [intOf]; omega
    · go_wp2
      go_ret
      obtain rfl : k = n := by omega
      exact ⟨rfl, rfl⟩


set_option maxRecDepth 100000 in
set_option maxHeartbeats 400000 in
theorem sZeros_any (B q : Nat) (bytes : List Nat) (p : Nat) (w : World) (hs : SrcIs w B q bytes p) :
    Calls Try.prog 88 #[.pointer (some ⟨q, 0, none⟩)] w fun e w' => e = .returned (.int .i64 ((zerosAt bytes p : Nat) : Int)) ∧ ∃ n, w' = w.drewN n := by
  have hp := hs.at_
  have hl := hs.len
  have h2 := hs.pos
  obtain ⟨M, hM⟩ : ∃ M, M = min (8 * bytes.length - p) 65 := ⟨_, rfl⟩
  have eM : min ((8 * bytes.length - p : Nat) : Int) 65 = (M : Int) := by omega
  have hM65 : M ≤ 65 := by omega
  have hMp : p + M ≤ 8 * bytes.length := by omega
  have HM := hide hM; clear hM
  go_enter Try.func88, Try.ntmps88
  go_wp2_with fail
  refine (sLeft_any B q bytes p _ hs).mono ?_
  rintro e w' ⟨rfl, nn, rfl⟩
  go_wp2_with fail
  go_loop [9] (fun i => ∃ k : Nat, k ≤ M ∧ i = .int .i64 k ∧ ∀ i, i < k → bitAt bytes (p + i) = false) (fun i => M - (intOf i).toNat)
  case atStart => exact ⟨0, Nat.zero_le _, rfl, by intro i hi; omega⟩
  case round =>
    obtain ⟨k, hk, rfl, hz⟩ := hrel
    have HZ := hide hz; clear hz
    by_cases hlt : k < M
    · have hv := valAt_one bytes (p + k) (by omega)
      have C : ∀ w0, SrcIs w0 B q bytes p → Calls Try.prog 77 #[.pointer (some ⟨q, 0, none⟩), .int .i64 ((p : Int) + (k : Int)), .int .i64 1] w0 fun e w' => e = .returned (.int .u64 (((bitAt bytes (p + k)).toNat : Nat) : Int)) ∧ w0 = w' := by
        intro w0 hs0
        have := sPeek_any B q bytes p (p + k) 1 w0 hs0 (by omega) (by omega)
        rw [hv] at this
        exact this
      have hsN := hs.drewN nn
      cases hb : bitAt bytes (p + k) with
      | true =>
        rw [hb] at C
        have HB := hide hb; clear hb
        go_wp2_with fail
        refine (C _ hsN).mono ?_
        rintro e w' ⟨rfl, rfl⟩
        go_wp2
        go_ret
        have hz := HM.out
        refine ⟨?_, _, rfl⟩
        rw [zerosAt_eq bytes p k hp (by omega) HZ.out (fun _ => HB.out)]
        rfl
      | false =>
        rw [hb] at C
        have HB := hide hb; clear hb
        go_wp2_with fail
        refine (C _ hsN).mono ?_
        rintro e w' ⟨rfl, rfl⟩
        go_wp2
        go_round
        case rel =>
          refine ⟨k + 1, by omega, by go_num, fun i hi => ?_⟩
          by_cases hik : i = k
          · rw [hik]; exact HB.out
          · exact HZ.out i (by omega)
        case measure => simp [intOf]; omega
    · go_wp2
      go_ret
      have hz := HM.out
      refine ⟨?_, _, rfl⟩
      obtain rfl : k = M := by omega
      rw [zerosAt_eq bytes p k hp (by omega) HZ.out (fun h => by omega)]
      rfl

/-- The same, the world behind the call left a variable. -/
theorem sLeft_k (B q : Nat) (bytes : List Nat) (p : Nat) (w : World) (hs : SrcIs w B q bytes p) :
    Calls Try.prog 59 #[.pointer (some ⟨q, 0, none⟩)] w fun e w' => e = .returned (.int .i64 ((8 * bytes.length - p : Nat) : Int)) ∧ SrcIs w' B q bytes p ∧ Kept B srcT w w' :=
  (sLeft_any B q bytes p w hs).mono fun e w' ⟨he, n, hw⟩ => by rw [hw]; exact ⟨he, hs.drewN n, (Kept.refl _ _ _).drewN n⟩
theorem sZeros_k (B q : Nat) (bytes : List Nat) (p : Nat) (w : World) (hs : SrcIs w B q bytes p) :
    Calls Try.prog 88 #[.pointer (some ⟨q, 0, none⟩)] w fun e w' => e = .returned (.int .i64 ((zerosAt bytes p : Nat) : Int)) ∧ SrcIs w' B q bytes p ∧ Kept B srcT w w' :=
  (sZeros_any B q bytes p w hs).mono fun e w' ⟨he, n, hw⟩ => by rw [hw]; exact ⟨he, hs.drewN n, (Kept.refl _ _ _).drewN n⟩
end Go.Proofs.Ythjhbnfedelniaa
namespace Go.Proofs.Ythjhbnfedelniaa
open Go Go.RowKit

def natErr (bytes : List Nat) (p : Nat) : Nat :=
  if 64 < zerosAt bytes p then 11
  else if 8 * bytes.length - p < 2 * zerosAt bytes p + 1 then 10
  else if zerosAt bytes p = 64 ∧ valAt bytes (p + zerosAt bytes p + 1) (zerosAt bytes p) ≠ 0 then 11
  else 0
def natVal (bytes : List Nat) (p : Nat) : Nat := if natErr bytes p = 0 then 2 ^ zerosAt bytes p + valAt bytes (p + zerosAt bytes p + 1) (zerosAt bytes p) - 1 else 0
def natNext (bytes : List Nat) (p : Nat) : Nat := if natErr bytes p = 0 then p + 2 * zerosAt bytes p + 1 else p

/-- The block of a source behind a store into its place. -/
theorem SrcIs.moved {w : World} {B q : Nat} {bytes : List Nat} {p : Nat} (h : SrcIs w B q bytes p) (p' : Nat) (hp : p' ≤ 8 * bytes.length) : SrcIs (w.setCell ⟨q, 2, none⟩ (.int .i64 (p' : Int))) B q bytes p' := by
  obtain ⟨v, h1, ho⟩ := h.row
  refine ⟨h.from_, h.len, hp, h.small, v, ?_, ownsRow_setCell_typed ho h1 (by decide) _⟩
  rw [heap_setCell_same h1]; simp
theorem SrcIs.keeps {w : World} {B q : Nat} {bytes : List Nat} {p : Nat} (h : SrcIs w B q bytes p) (u : Value) : Kept B srcT w (w.setCell ⟨q, 2, none⟩ u) := by
  obtain ⟨v, h1, ho⟩ := h.row
  exact (Kept.refl _ _ _).setCell h.from_ h1 rfl u
theorem SrcIs.free {w : World} {B q : Nat} {bytes : List Nat} {p : Nat} (h : SrcIs w B q bytes p) : w.frozen? ⟨q, 2, none⟩ = false := by
  obtain ⟨v, h1, _⟩ := h.row
  exact (free_of_three h1).2.2

theorem natErr_num (bytes : List Nat) (p : Nat) : natErr bytes p = 0 ∨ natErr bytes p = 10 ∨ natErr bytes p = 11 := by
  unfold natErr
  by_cases h1 : 64 < zerosAt bytes p
  · rw [if_pos h1]; omega
  rw [if_neg h1]
  by_cases h2 : 8 * bytes.length - p < 2 * zerosAt bytes p + 1
  · rw [if_pos h2]; omega
  rw [if_neg h2]
  by_cases h3 : zerosAt bytes p = 64 ∧ valAt bytes (p + zerosAt bytes p + 1) (zerosAt bytes p) ≠ 0
  · rw [if_pos h3]; omega
  · rw [if_neg h3]; omega

set_option maxRecDepth 100000 in
set_option maxHeartbeats 400000 in
theorem sNat_any (B q : Nat) (bytes : List Nat) (p : Nat) (w : World) (hs : SrcIs w B q bytes p) :
    Calls Try.prog 84 #[.pointer (some ⟨q, 0, none⟩)] w fun e w' => e = .returned (.tuple #[.int .u64 ((natVal bytes p : Nat) : Int), .int .i64 ((natErr bytes p : Nat) : Int)]) ∧ SrcIs w' B q bytes (natNext bytes p) ∧ Kept B srcT w w' := by
  have hp := hs.at_
  have hl := hs.len
  obtain ⟨k, hk⟩ : ∃ k, k = zerosAt bytes p := ⟨_, rfl⟩
  have C := sZeros_k B q bytes p w hs
  rw [← hk] at C
  have HK := hide hk; clear hk
  go_enter Try.func84, Try.ntmps84
  go_wp2_with fail
  refine (sIsMade_any q _ hs.made).mono ?_
  rintro e w' ⟨rfl, rfl⟩
  go_wp2_with fail
  refine C.mono ?_
  rintro e w1 ⟨rfl, hs1, k1⟩
  by_cases h64 : 64 < k
  · go_wp2_with fail
    go_ret2
    have he : natErr bytes p = 11 := by unfold natErr; rw [← HK.out, if_pos h64]
    rw [natVal, natNext, he]
    exact ⟨rfl, hs1, k1⟩
  obtain ⟨Lf, hLf⟩ : ∃ Lf, Lf = 8 * bytes.length - p := ⟨_, rfl⟩
  have C2 := sLeft_k B q bytes p w1 hs1
  rw [← hLf] at C2
  have HL := hide hLf; clear hLf
  have hLb : Lf ≤ 1125899906842624000 := by have := HL.out; omega
  go_wp2_with fail
  refine C2.mono ?_
  rintro e w2 ⟨rfl, hs2, k2⟩
  have hpos := hs2.pos
  have hfree := hs2.free
  by_cases hfew : Lf < 2 * k + 1
  · go_wp2_with fail
    go_ret2
    have he : natErr bytes p = 10 := by unfold natErr; rw [← HK.out, if_neg h64, if_pos (by have := HL.out; omega)]
    rw [natVal, natNext, he]
    exact ⟨rfl, hs2, k1.trans k2⟩
  obtain ⟨V, hV⟩ : ∃ V, V = valAt bytes (p + k + 1) k := ⟨_, rfl⟩
  have hVlt : V < 2 ^ k := by rw [hV]; exact valAt_lt _ _ _
  have C3 := sPeek_any B q bytes p (p + k + 1) k w2 hs2 (by omega) (by have := HL.out; omega)
  rw [← hV] at C3
  have C4 : Calls Try.prog 77 #[.pointer (some ⟨q, 0, none⟩), .int .i64 ((p : Int) + (k : Int) + 1), .int .i64 (k : Int)] w2 fun e w' => e = .returned (.int .u64 ((V : Nat) : Int)) ∧ w2 = w' := C3
  have HV := hide hV; clear hV
  clear C C2 C3
  have hp2 : p ≤ 1125899906842624000 := by omega
  have HP := hide hp; clear hp
  have he0 : natErr bytes p = if k = 64 ∧ V ≠ 0 then 11 else 0 := by unfold natErr; rw [← HK.out, ← HV.out, if_neg h64, if_neg (by have := HL.out; omega)]
  have HE := hide he0; clear he0
  by_cases hk64 : k = 64
  · subst hk64
    by_cases hV0 : V = 0
    · have hVb : ((V : Int) != 0) = false := by simp; omega
      have hV0' := hide hV0; clear hV0
      go_wp2_with fail
      refine C4.mono ?_
      rintro e w' ⟨rfl, rfl⟩
      clear C4
      go_wp2
      go_ret2
      have he : natErr bytes p = 0 := HE.out.trans (if_neg (fun h => h.2 hV0'.out))
      have hm := hs2.moved (p + (2 * 64 + 1)) (by have := HL.out; have := HP.out; omega)
      rw [natVal, natNext, he, if_pos rfl, if_pos rfl, ← HK.out, ← HV.out, hV0'.out]
      refine ⟨?_, ?_, ?_⟩
      · show Ending.returned (.tuple #[.int .u64 (IntKind.u64.wrap (IntKind.u64.wrap (IntKind.u64.wrap 18446744073709551616 + ((0 : Nat) : Int)) - 1)), .int .i64 0]) = _
        have e : IntKind.u64.wrap (IntKind.u64.wrap (IntKind.u64.wrap 18446744073709551616 + ((0 : Nat) : Int)) - 1) = ((2 ^ 64 + 0 - 1 : Nat) : Int) := by decide +kernel
        rw [e]; rfl
      · exact hm
      · exact (k1.trans k2).trans (hs2.keeps _)
    · have hVb : ((V : Int) != 0) = true := by simp; omega
      have hV0' := hide hV0; clear hV0
      go_wp2_with fail
      refine C4.mono ?_
      rintro e w' ⟨rfl, rfl⟩
      clear C4
      go_wp2
      go_ret2
      have he : natErr bytes p = 11 := HE.out.trans (if_pos ⟨by trivial, hV0'.out⟩)
      rw [natVal, natNext, he]
      exact ⟨rfl, hs2, k1.trans k2⟩
  · have hk63 : k ≤ 63 := by omega
    have hkb : ((k : Int) == 64) = false := by simp; omega
    have hk64' := hide hk64; clear hk64
    go_wp2_with fail
    refine C4.mono ?_
    rintro e w' ⟨rfl, rfl⟩
    clear C4
    go_wp2
    go_ret2
    have he := HE.out
    rw [if_neg (by rintro ⟨h, _⟩; exact hk64'.out h)] at he
    have hm := hs2.moved (p + (2 * k + 1)) (by have := HL.out; have := HP.out; omega)
    rw [natVal, natNext, he, if_pos rfl, if_pos rfl, ← HK.out, ← HV.out]
    refine ⟨?_, ?_, ?_⟩
    · show Ending.returned (.tuple #[.int .u64 (IntKind.u64.wrap (IntKind.u64.wrap (IntKind.u64.wrap (2 ^ k) + (V : Int)) - 1)), .int .i64 0]) = _
      have h2k : (2 : Nat) ^ k ≤ 2 ^ 63 := Nat.pow_le_pow_right (by omega) hk63
      have h1k : 0 < (2 : Nat) ^ k := Nat.two_pow_pos k
      have hck : ((2 : Int) ^ k) = ((2 ^ k : Nat) : Int) := by push_cast; rfl
      have e : IntKind.u64.wrap (IntKind.u64.wrap (IntKind.u64.wrap (2 ^ k) + (V : Int)) - 1) = ((2 ^ k + V - 1 : Nat) : Int) := by
        rw [hck]; simp only [IntKind.wrap_u64]; omega
      rw [e]; rfl
    · exact hm
    · exact (k1.trans k2).trans (hs2.keeps _)
end Go.Proofs.Ythjhbnfedelniaa
namespace Go.Proofs.Ythjhbnfedelniaa
open Go

def zerosL (l : List Bool) : Nat := ((l.take 65).takeWhile (fun b => !b)).length
def natErrL (l : List Bool) : Nat :=
  if 64 < zerosL l then 11
  else if l.length < 2 * zerosL l + 1 then 10
  else if zerosL l = 64 ∧ valBits ((l.drop (zerosL l + 1)).take (zerosL l)) ≠ 0 then 11
  else 0
def natValL (l : List Bool) : Nat := if natErrL l = 0 then 2 ^ zerosL l + valBits ((l.drop (zerosL l + 1)).take (zerosL l)) - 1 else 0
def natRestL (l : List Bool) : List Bool := if natErrL l = 0 then l.drop (2 * zerosL l + 1) else l

/-- The bits that are left behind bit p. -/
def leftL (bytes : List Nat) (p : Nat) : List Bool := (bitsAll bytes).drop p
theorem leftL_length (bytes : List Nat) (p : Nat) : (leftL bytes p).length = 8 * bytes.length - p := by simp [leftL, bitsAll_length]
theorem valAt_left (bytes : List Nat) (p a n : Nat) : valAt bytes (p + a) n = valBits (((leftL bytes p).drop a).take n) := by
  simp [valAt, leftL, List.drop_drop]
theorem zerosAt_left (bytes : List Nat) (p : Nat) : zerosAt bytes p = zerosL (leftL bytes p) := rfl
theorem natErr_left (bytes : List Nat) (p : Nat) : natErr bytes p = natErrL (leftL bytes p) := by
  unfold natErr natErrL
  rw [zerosAt_left, leftL_length, Nat.add_assoc, valAt_left]
theorem natVal_left (bytes : List Nat) (p : Nat) : natVal bytes p = natValL (leftL bytes p) := by
  unfold natVal natValL
  rw [natErr_left, zerosAt_left, Nat.add_assoc, valAt_left]
theorem natRest_left (bytes : List Nat) (p : Nat) : leftL bytes (natNext bytes p) = natRestL (leftL bytes p) := by
  unfold natNext natRestL
  rw [natErr_left, zerosAt_left]
  split
  · simp [leftL, List.drop_drop, Nat.add_assoc]
  · rfl
theorem natVal_lt (bytes : List Nat) (p : Nat) : natVal bytes p < 2 ^ 64 := by
  unfold natVal
  by_cases h : natErr bytes p = 0
  · rw [if_pos h]
    unfold natErr at h
    have hv := valAt_lt bytes (p + zerosAt bytes p + 1) (zerosAt bytes p)
    by_cases h1 : 64 < zerosAt bytes p
    · rw [if_pos h1] at h; cases h
    rw [if_neg h1] at h
    by_cases h2 : 8 * bytes.length - p < 2 * zerosAt bytes p + 1
    · rw [if_pos h2] at h; cases h
    rw [if_neg h2] at h
    by_cases h3 : zerosAt bytes p = 64 ∧ valAt bytes (p + zerosAt bytes p + 1) (zerosAt bytes p) ≠ 0
    · rw [if_pos h3] at h; cases h
    by_cases h4 : zerosAt bytes p = 64
    · have h5 : valAt bytes (p + zerosAt bytes p + 1) (zerosAt bytes p) = 0 := by
        by_cases h6 : valAt bytes (p + zerosAt bytes p + 1) (zerosAt bytes p) = 0
        · exact h6
        · exact absurd ⟨h4, h6⟩ h3
      rw [h5, h4]; decide
    · have h7 : 2 ^ zerosAt bytes p ≤ 2 ^ 63 := Nat.pow_le_pow_right (by omega) (by omega)
      omega
  · rw [if_neg h]; decide

/-- What a text says: how many bytes, then these; what is wrong; what is left. -/
def chunk (l : List Bool) (i : Nat) : Nat := valBits ((l.drop (8 * i)).take 8)
theorem chunk_lt (l : List Bool) (i : Nat) : chunk l i < 256 := by
  unfold chunk
  have h := valBits_lt ((l.drop (8 * i)).take 8)
  have hl : ((l.drop (8 * i)).take 8).length ≤ 8 := by simp; omega
  have := Nat.pow_le_pow_right (n := 2) (by omega) hl
  omega
def textErrL (l : List Bool) : Nat := if natErrL l ≠ 0 then natErrL l else if (natRestL l).length / 8 < natValL l then 10 else 0
def textBytesL (l : List Bool) : List Nat := if textErrL l = 0 then (List.range (natValL l)).map (chunk (natRestL l)) else []
def textRestL (l : List Bool) : List Bool := if textErrL l = 0 then (natRestL l).drop (8 * natValL l) else l

def endErrL (l : List Bool) : Nat := if 8 ≤ l.length then 12 else if l.any id then 12 else 0
theorem valBits_zero (l : List Bool) : valBits l = 0 ↔ l.any id = false := by
  refine snocInd (P := fun l => valBits l = 0 ↔ l.any id = false) (by simp [valBits]) (fun l b ih => ?_) l
  rw [valBits_snoc, List.any_append, Bool.or_eq_false_iff, ← ih]
  cases b <;> simp <;> omega
theorem endErr_left (bytes : List Nat) (p : Nat) (_hp : p ≤ 8 * bytes.length) : (if 8 ≤ 8 * bytes.length - p then 12 else if valAt bytes p (8 * bytes.length - p) ≠ 0 then 12 else 0) = endErrL (leftL bytes p) := by
  unfold endErrL
  rw [leftL_length]
  have h : valAt bytes p (8 * bytes.length - p) = valBits (leftL bytes p) := by
    have := valAt_left bytes p 0 (8 * bytes.length - p)
    rw [Nat.add_zero, List.drop_zero, List.take_of_length_le (by rw [leftL_length]; omega)] at this
    exact this
  rw [h]
  by_cases h8 : 8 ≤ 8 * bytes.length - p
  · rw [if_pos h8, if_pos h8]
  · rw [if_neg h8, if_neg h8]
    cases hv : (leftL bytes p).any id with
    | true =>
      have h2 : valBits (leftL bytes p) ≠ 0 := by
        intro h3
        rw [valBits_zero] at h3
        rw [h3] at hv
        cases hv
      rw [if_pos h2, if_pos rfl]
    | false =>
      have h2 := (valBits_zero _).2 hv
      rw [if_neg (by omega), if_neg (by simp)]

/-- The bits of bytes, byte by byte. -/
theorem bitsAll_snoc (bytes : List Nat) (c : Nat) : bitsAll (bytes ++ [c]) = bitsAll bytes ++ bitsOf c 8 := by
  apply List.ext_getElem
  · simp [bitsAll_length, bitsOf_length]; omega
  · intro i h1 h2
    rw [bitsAll_getElem]
    rw [bitsAll_length] at h1
    simp at h1
    by_cases hi : i < 8 * bytes.length
    · rw [List.getElem_append_left (by rw [bitsAll_length]; exact hi), bitsAll_getElem]
      unfold bitAt
      have : i / 8 < bytes.length := by omega
      simp [List.getD, List.getElem?_append_left this, this]
    · rw [List.getElem_append_right (by rw [bitsAll_length]; omega), bitsOf_getElem]
      unfold bitAt
      have : i / 8 = bytes.length := by omega
      rw [bitsAll_length, this]
      simp only [List.getD, List.getElem?_append_right (Nat.le_refl _), Nat.sub_self, List.getElem?_cons_zero, Option.getD_some]
      congr 1
      omega
end Go.Proofs.Ythjhbnfedelniaa
namespace Go.Proofs.Ythjhbnfedelniaa
open Go Go.RowKit

theorem SrcIs.size {w : World} {B q : Nat} {bytes : List Nat} {p : Nat} (h : SrcIs w B q bytes p) : B ≤ q := h.from_

theorem byteVs_ints (bytes : List Nat) : (bytes.map fun x : Nat => (x : Int)).map (Value.int .u8) = byteVs bytes := by simp [byteVs]

/-- A slice of bytes, nil or not, whose cells are the bytes. -/
def BytesAt (w : World) (ao : Option Addr) (bytes : List Nat) : Prop := (ao = none → bytes.length = 0) ∧ ∀ a, ao = some a → ∀ j, j < bytes.length → w.cell? (a.add j) = some (.int .u8 ((bytes.getD j 0 : Nat) : Int))

def endErr (bytes : List Nat) (p : Nat) : Nat := if 8 ≤ 8 * bytes.length - p then 12 else if valAt bytes p (8 * bytes.length - p) ≠ 0 then 12 else 0

end Go.Proofs.Ythjhbnfedelniaa
namespace Go.Proofs.Ythjhbnfedelniaa
open Go Go.RowKit

theorem bytesIn_own {w : World} {B : Nat} {v : Value} {bytes : List Nat} (h : w.ownsRow B 5 1 v bytes.length (byteVs bytes)) :
    ∃ ao cap, v = .slice ao bytes.length cap ∧ Lib.BytesIn w ao bytes.length (bytes.map fun x : Nat => (x : Int)) := by
  rcases h.2 with ⟨hv, hn0⟩ | ⟨g, cap, cur, hv, hg, hgg, hgn, hcapm, hcsz, htake⟩
  · refine ⟨none, 0, by rw [hv, hn0], ?_⟩
    intro h; omega
  · refine ⟨some ⟨g, 0, none⟩, cap, hv, ?_⟩
    subst hv
    refine fun _ => ⟨g, 0, rfl, fun i hi => ?_⟩
    have := h.cells (g := g) rfl i (.int .u8 ((bytes.getD i 0 : Nat) : Int)) (by simp [byteVs, hi])
    rw [add_off] at this
    rw [Nat.zero_add, this]
    simp [List.getD, hi]
theorem bytesIn_lit (w : World) (c : Nat) (t : Nat) : Lib.BytesIn (w.alloc (.cells #[.int .u8 (c : Int)] t)) (some ⟨w.heap.size, 0, none⟩) 1 [(c : Int)] :=
  fun _ => ⟨w.heap.size, 0, rfl, fun i hi => by
    obtain rfl : i = 0 := by omega
    exact cell_alloc_one _ _ rfl _ _⟩
theorem bytesAt_lit (w : World) (c : Nat) (t : Nat) : BytesAt (w.alloc (.cells #[.int .u8 (c : Int)] t)) (some ⟨w.heap.size, 0, none⟩) [c] := by
  refine ⟨fun h => (by cases h), fun a ha j hj => ?_⟩
  simp only [Option.some.injEq] at ha
  subst ha
  obtain rfl : j = 0 := by simpa using hj
  rw [add_off]
  exact cell_alloc_one _ _ rfl _ _

theorem natBits4 : natBits 4 = [false, false, true, false, true] := by decide +kernel
theorem packed4 : packed (natBits 4) = [40] := by decide +kernel
theorem ahd4 : ahd 4 = 2 := by decide +kernel
theorem ahd1 : ahd 1 = 1 := by decide +kernel
theorem natErr40 : natErr [40] 0 = 0 := by decide +kernel
theorem natVal40 : natVal [40] 0 = 4 := by decide +kernel
theorem natNext40 : natNext [40] 0 = 5 := by decide +kernel
theorem endErr40 : endErr [40] 5 = 0 := by decide +kernel

end Go.Proofs.Ythjhbnfedelniaa
namespace Go.Proofs.Ythjhbnfedelniaa
open Go Go.RowKit

theorem Try.info4 : (Try.prog.info? 4).map (fun i => (i.zero, i.size, i.bytes)) = some (some (.bool false), 1, 1) := by kernel_rfl

def boolVs (l : List Bool) : List Value := l.map Value.bool
theorem boolVs_length (l : List Bool) : (boolVs l).length = l.length := by simp [boolVs]
theorem boolVs_one (l : List Bool) : ∀ u ∈ boolVs l, u.oneCell' = true := by
  intro u hu; simp [boolVs] at hu; rcases hu with ⟨_, rfl⟩ | ⟨_, rfl⟩ <;> rfl
theorem boolVs_append (l m : List Bool) : boolVs (l ++ m) = boolVs l ++ boolVs m := by simp [boolVs]

/-- The value v is a slice of just these flags, in a row from block B on. -/
def Flags (w : World) (B : Nat) (v : Value) (bs : List Bool) : Prop := w.ownsRow B 4 1 v bs.length (boolVs bs)

end Go.Proofs.Ythjhbnfedelniaa
namespace Go.Proofs.Ythjhbnfedelniaa
open Go Go.RowKit

theorem zero_cells_list (z : Value) (h : z.cells = #[z]) (m : Nat) : (Builtin.zeroCells z.cells m) = (List.replicate m z).toArray := by
  rw [h]
  apply Array.ext'
  simp [Builtin.zeroCells, Nat.mod_one, List.map_const']

theorem run_append_make_own {P : Program} (w : World) (base : Nat) (t ti ty e : TypeId) (i : TypeInfo) (z : Value) (ht : P.underlying t = some (.slice e)) (hti : P.underlying ti = some (.int .i64)) (hi : P.info? e = some i) (hz : i.zero = some z)
    (hsize : i.size = 1) (hby : i.bytes = 1) (hzc : z.cells = #[z]) (hz1 : z.oneCell' = true)
    (v : Value) (n : Nat) (xs : List Value) (hown : w.ownsRow base e 1 v n xs) (hn : v ≠ .slice none 0 0) (m : Nat) (hm : 0 < m) (h63 : n + m ≤ 70368744177664) (hbase : base ≤ w.heap.size) :
    ∃ v' w', (Builtin.append_ #[t, ti] ty #[v, .int .i64 (m : Int)]).run P w = .ok v' w' ∧ w'.ownsRow base e 1 v' (n + m) (xs ++ List.replicate m z) ∧ w.grownBy w' v.ownBlock := by
  rcases hown.2 with ⟨hv, _⟩ | ⟨g, cap, cur, rfl, hbg, hg, hnc, hcm, hcs, htake⟩
  · exact absurd hv hn
  have hlen : (xs ++ List.replicate m z).length = (n + m) * 1 := by simp [hown.1]
  have hw : IntKind.i64.wrap (m : Int) = (m : Int) := by rw [IntKind.wrap_i64]; omega
  have hneg : ¬ ((m : Int) < 0) := by omega
  have h48 : ¬ (281474976710656 < (m : Int)) := by omega
  have hm0 : ¬ m = 0 := by omega
  have hm1 : ¬ ((m : Int) ≤ 0) := by omega
  have ha : ∀ w, (asInt (.int .i64 (m : Int))).run P w = .ok (m : Int) w := fun _ => rfl
  have hone : ∀ u ∈ List.replicate m z, u.oneCell' = true := by intro u hu; rw [List.eq_of_mem_replicate hu]; exact hz1
  by_cases hroom : n + m ≤ cap
  · have hst := run_storeCells_at P g n e (List.replicate m z) 0 cur w hg (by simp; omega) hone
    simp only [Nat.add_zero] at hst
    refine ⟨.slice (some ⟨g, 0, none⟩) (n + m) cap, w.setRow g (cur.toList.take n ++ List.replicate m z ++ cur.toList.drop (n + (List.replicate m z).length)).toArray, ?_, ⟨hlen, .inr ⟨g, cap, _, rfl, hbg, setRow_heap w g cur _ e _ hg, hroom, hcm, ?_, ?_⟩⟩, ⟨rfl, rfl, rfl, by simp, fun k _ hk => setRow_other w g k _ (fun e => hk (by simp [Value.ownBlock, e]))⟩⟩
    · simp [Builtin.append_, run_underlying ht, run_underlying hti, sizeOf, typeInfo, zeroValue, hi, hz, hsize, hby, hw, hneg, h48, hm0, hroom, ha, zero_cells_list z hzc, Addr.add_lit, hst]
    · simp only [List.size_toArray, List.length_append, List.length_take, List.length_drop, Array.length_toList, List.length_replicate]
      omega
    · rw [Nat.mul_one] at htake
      rw [htake, ← hlen]
      exact List.take_left
  · have hneed : ¬ (9223372036854775807 < ((n : Int) + (m : Int))) := by omega
    have hfit : ¬ (281474976710656 < Builtin.nextslicecap (n + m) cap) := by
      have := growslice_fits (need := n + m) (old := cap) (bytes := 1) (by omega) (by omega)
      omega
    have hfo := run_firstCells_some (P := P) w.drew 1 n ⟨g, 0, none⟩ n cap xs hown.1 (by simpa using hown.cells (g := g) rfl)
    have hge := grownCap_ge w (n + m) cap e
    have hcm2 : grownCap w (n + m) cap e ≤ maxLen := grownCap_le_maxLen w (n + m) cap e (by unfold maxLen; omega)
    refine ⟨.slice (some ⟨w.heap.size, 0, none⟩) (n + m) (grownCap w (n + m) cap e), w.drew.alloc (.cells (xs.toArray ++ (List.replicate m z).toArray ++ Builtin.zeroCells z.cells (grownCap w (n + m) cap e - (n + m))) e), ?_, ⟨hlen, .inr ⟨w.heap.size, _, _, rfl, hbase, heap_alloc_new w.drew _, hge, hcm2, ?_, ?_⟩⟩, ⟨rfl, rfl, rfl, by simp, fun k hk _ => Below.heap_alloc w.drew _ k hk⟩⟩
    · simp [Builtin.append_, run_underlying ht, run_underlying hti, sizeOf, typeInfo, zeroValue, hi, hz, hsize, hby, hw, hneg, h48, hm0, hroom, ha, zero_cells_list z hzc, hneed, hfit, Question.forced, hfo, newRow, grownCap]
    · have := hown.1
      simp [size_zeroCells, hzc]
      omega
    · simp only [Array.toList_append, List.append_assoc]
      rw [← List.append_assoc, ← hlen]
      exact List.take_left

theorem wpList_append_make {P : Program} (w : World) {ops : Array Oper} {rest : List Oper} {o : Oper} {a : Act} {Q : Exit → Act → World → Prop} (hgd : o.guard = none) (s x : Operand) (t ti : TypeId)
    (ho : o.op = .call { callee := .builtin .append, args := #[s, x], argTypes := #[t, ti] })
    (base : Nat) (e : TypeId) (i : TypeInfo) (z : Value) (ht : P.underlying t = some (.slice e)) (hti : P.underlying ti = some (.int .i64)) (hi : P.info? e = some i) (hz : i.zero = some z)
    (hsize : i.size = 1) (hby : i.bytes = 1) (hzc : z.cells = #[z]) (hz1 : z.oneCell' = true)
    (v : Value) (n : Nat) (xs : List Value) (hs : a.eval s = v) (hown : w.ownsRow base e 1 v n xs) (hn : v ≠ .slice none 0 0) (m : Nat) (hx : a.eval x = .int .i64 (m : Int)) (hm : 0 < m) (h63 : n + m ≤ 70368744177664) (hbase : base ≤ w.heap.size)
    (h : ∀ v' w', w'.ownsRow base e 1 v' (n + m) (xs ++ List.replicate m z) → w.grownBy w' v.ownBlock → wpList P ops Q rest (a.put o.dst v') w') : wpList P ops Q (o :: rest) a w := by
  refine wpList_plain hgd fun K hK => ?_
  obtain ⟨v', w', hrun, r1, r2⟩ := run_append_make_own (P := P) w base t ti o.type e i z ht hti hi hz hsize hby hzc hz1 v n xs hown hn m hm h63 hbase
  unfold Oper.wp
  simp [execOp, ho, resolve, invoke, builtin, hs, hx, hrun, Result.andThen]
  exact hK _ _ (h v' w' r1 r2)
end Go.Proofs.Ythjhbnfedelniaa
namespace Go.Proofs.Ythjhbnfedelniaa
open Go Go.RowKit

theorem boolVs_rep (k : Nat) : List.replicate k (Value.bool false) = boolVs (List.replicate k false) := by simp [boolVs]
theorem natBits_max : natBits 18446744073709551615 = List.replicate 64 false ++ [true] ++ List.replicate 64 false := by decide +kernel

theorem Flags.below {w w' : World} {B B' : Nat} {v : Value} {bs : List Bool} (h : Flags w B v bs) (hb : Below B' w w') (hB : w.heap.size ≤ B') : Flags w' B v bs := by
  refine ⟨h.1, ?_⟩
  rcases h.2 with hn | ⟨g, cap, cur, rfl, hg, hgg, rest⟩
  · exact .inl hn
  · exact .inr ⟨g, cap, cur, rfl, hg, by rw [hb.block g (by have := lt_of_block hgg; omega)]; exact hgg, rest⟩
theorem Flags.lower {w : World} {B B' : Nat} {v : Value} {bs : List Bool} (h : Flags w B v bs) (hB : B' ≤ B) : Flags w B' v bs := by
  refine ⟨h.1, ?_⟩
  rcases h.2 with hn | ⟨g, cap, cur, rfl, hg, rest⟩
  · exact .inl hn
  · exact .inr ⟨g, cap, cur, rfl, by omega, rest⟩

theorem ownsRow_below {w w' : World} {B B' e size n : Nat} {v : Value} {xs : List Value} (h : w.ownsRow B e size v n xs) (hb : Below B' w w') (hB : w.heap.size ≤ B') : w'.ownsRow B e size v n xs := by
  refine ⟨h.1, ?_⟩
  rcases h.2 with hn | ⟨g, cap, cur, rfl, hg, hgg, rest⟩
  · exact .inl hn
  · exact .inr ⟨g, cap, cur, rfl, hg, by rw [hb.block g (by have := lt_of_block hgg; omega)]; exact hgg, rest⟩
theorem ownsRow_lower {w : World} {B B' e size n : Nat} {v : Value} {xs : List Value} (h : w.ownsRow B e size v n xs) (hB : B' ≤ B) : w.ownsRow B' e size v n xs := by
  refine ⟨h.1, ?_⟩
  rcases h.2 with hn | ⟨g, cap, cur, rfl, hg, rest⟩
  · exact .inl hn
  · exact .inr ⟨g, cap, cur, rfl, by omega, rest⟩
theorem flags_shape {w : World} {B x n : Nat} {v : Value} (h : Flags w B v (bitsOf x (n + 1))) : ∃ g cap, v = .slice (some ⟨g, 0, none⟩) (n + 1) cap := by
  unfold Flags at h
  rw [bitsOf_length] at h
  exact own_shape h

theorem made_flags (w : World) (k : Nat) (hk : k ≤ 64) : (w.alloc (.cells (madeCells #[.bool false] k) 4)).ownsRow w.heap.size 4 1 (.slice (some ⟨w.heap.size, 0, none⟩) k k) k (boolVs (List.replicate k false)) := by
  have e' : (madeCells #[.bool false] k).toList = boolVs (List.replicate k false) := by rw [toList_madeCells_one, boolVs_rep]
  have hs : (madeCells #[Value.bool false] k).size = k := by
    have := congrArg List.length e'
    simpa [boolVs_length] using this
  refine ⟨by simp [boolVs_length], .inr ⟨w.heap.size, k, _, rfl, Nat.le_refl _, heap_alloc_new _ _, Nat.le_refl _, by unfold maxLen; omega, by rw [hs]; omega, ?_⟩⟩
  rw [Nat.mul_one, List.take_of_length_le (by rw [Array.length_toList, hs]; omega)]
  exact e'

end Go.Proofs.Ythjhbnfedelniaa
namespace Go.Proofs.Ythjhbnfedelniaa
open Go Go.RowKit

theorem valBits_take_succ (l : List Bool) (k : Nat) (h : k < l.length) : valBits (l.take (k + 1)) = 2 * valBits (l.take k) + (l.getD k false).toNat := by
  rw [List.take_succ_eq_append_getElem h, valBits_snoc]
  simp [List.getD, h]

end Go.Proofs.Ythjhbnfedelniaa
namespace Go.Proofs.Ythjhbnfedelniaa
open Go Go.RowKit

def bitsErr (n : Int) (len : Nat) : Nat := if n < 0 ∨ 64 < n then 1 else if (len : Int) < n then 10 else 0
def bitsVal (l : List Bool) (n : Int) : Nat := if bitsErr n l.length = 0 then valBits (l.take n.toNat) else 0
def bitsRest (l : List Bool) (n : Int) : List Bool := if bitsErr n l.length = 0 then l.drop n.toNat else l

theorem bitsErr_arg {n : Int} {len : Nat} (h : n < 0 ∨ 64 < n) : bitsErr n len = 1 := by unfold bitsErr; rw [if_pos h]
theorem bitsErr_ends {n : Int} {len : Nat} (h : ¬ (n < 0 ∨ 64 < n)) (h2 : (len : Int) < n) : bitsErr n len = 10 := by unfold bitsErr; rw [if_neg h, if_pos h2]
theorem bitsErr_ok {n : Nat} {len : Nat} (h : n ≤ 64) (h2 : n ≤ len) : bitsErr (n : Int) len = 0 := by unfold bitsErr; rw [if_neg (by omega), if_neg (by omega)]

set_option maxRecDepth 100000 in
theorem sTake_any (B q n : Nat) (bytes : List Nat) (p : Nat) (w : World) (hs : SrcIs w B q bytes p) (hn : n ≤ 64) (hle : p + n ≤ 8 * bytes.length) :
    Calls Try.prog 60 #[.pointer (some ⟨q, 0, none⟩), .int .i64 (n : Int)] w fun e w' => e = .returned (.int .u64 ((valAt bytes p n : Nat) : Int)) ∧ SrcIs w' B q bytes (p + n) ∧ Kept B srcT w w' := by
  have hpos := hs.pos
  have hfree := hs.free
  have hl := hs.len
  have C := sPeek_any B q bytes p p n w hs hn hle
  have HM := hide (hs.moved (p + n) hle)
  have HK := hide (fun u => hs.keeps u)
  clear hs
  go_enter Try.func60, Try.ntmps60
  go_wp2_with (go_at_call 77; refine C.mono ?_; rintro e w' ⟨rfl, rfl⟩)
  go_ret
  exact ⟨rfl, HM.out, HK.out _⟩

set_option maxRecDepth 100000 in
theorem sBits_any (B q : Nat) (n : Int) (bytes : List Nat) (p : Nat) (w : World) (hs : SrcIs w B q bytes p) (hw : (Lit.int .i64 n).wf = true) :
    Calls Try.prog 42 #[.pointer (some ⟨q, 0, none⟩), .int .i64 n] w fun e w' => e = .returned (.tuple #[.int .u64 ((bitsVal (leftL bytes p) n : Nat) : Int), .int .i64 ((bitsErr n (leftL bytes p).length : Nat) : Int)]) ∧
      (∃ p', SrcIs w' B q bytes p' ∧ leftL bytes p' = bitsRest (leftL bytes p) n) ∧ Kept B srcT w w' := by
  have hw2 : -9223372036854775808 ≤ n ∧ n ≤ 9223372036854775807 := by simpa [Lit.wf, IntKind.min, IntKind.max, IntKind.signed, IntKind.bits] using hw
  have hp := hs.at_
  by_cases h1 : n < 0
  · have he := bitsErr_arg (n := n) (len := (leftL bytes p).length) (.inl h1)
    rw [bitsVal, bitsRest, he]
    have hm := hs.made
    have HS := hide hs; clear hs he hw
    go_enter Try.func42, Try.ntmps42
    go_wp2_with (go_at_call 58; refine (sIsMade_any q _ hm).mono ?_; rintro e w' ⟨rfl, rfl⟩)
    go_ret2
    exact ⟨rfl, ⟨p, HS.out, rfl⟩, .refl _ _ _⟩
  by_cases h2 : 64 < n
  · have he := bitsErr_arg (n := n) (len := (leftL bytes p).length) (.inr h2)
    rw [bitsVal, bitsRest, he]
    have hm := hs.made
    have HS := hide hs; clear hs he hw
    go_enter Try.func42, Try.ntmps42
    go_wp2_with (go_at_call 58; refine (sIsMade_any q _ hm).mono ?_; rintro e w' ⟨rfl, rfl⟩)
    go_ret2
    exact ⟨rfl, ⟨p, HS.out, rfl⟩, .refl _ _ _⟩
  obtain ⟨m, rfl⟩ : ∃ m : Nat, n = m := ⟨n.toNat, by omega⟩
  obtain ⟨Lf, hLf⟩ : ∃ Lf, Lf = 8 * bytes.length - p := ⟨_, rfl⟩
  have C2 := sLeft_k B q bytes p w hs
  rw [← hLf] at C2
  have hm := hs.made
  by_cases h3 : Lf < m
  · have he := bitsErr_ends (n := (m : Int)) (len := (leftL bytes p).length) (by omega) (by rw [leftL_length]; omega)
    rw [bitsVal, bitsRest, he]
    clear hs he hw hLf
    go_enter Try.func42, Try.ntmps42
    go_wp2_with fail
    refine (sIsMade_any q _ hm).mono ?_; rintro e w' ⟨rfl, rfl⟩
    go_wp2_with fail
    refine C2.mono ?_; rintro e w1 ⟨rfl, hs1, k1⟩
    have HS1 := hide hs1; have HK1 := hide k1; clear hs1 k1
    go_wp2
    go_ret2
    exact ⟨rfl, ⟨p, HS1.out, rfl⟩, HK1.out⟩
  · have he := bitsErr_ok (n := m) (len := (leftL bytes p).length) (by omega) (by rw [leftL_length]; omega)
    rw [bitsVal, bitsRest, he, if_pos rfl, if_pos rfl]
    have hv := valAt_left bytes p 0 m
    rw [Nat.add_zero, List.drop_zero] at hv
    have hr : leftL bytes (p + m) = (leftL bytes p).drop m := by simp [leftL, List.drop_drop]
    have hle : p + m ≤ 8 * bytes.length := by omega
    rw [show ((m : Int)).toNat = m from rfl, ← hv]
    have HR := hide hr
    clear hs he hw hLf hr hv
    go_enter Try.func42, Try.ntmps42
    go_wp2_with fail
    refine (sIsMade_any q _ hm).mono ?_; rintro e w' ⟨rfl, rfl⟩
    go_wp2_with fail
    refine C2.mono ?_; rintro e w1 ⟨rfl, hs1, k1⟩
    have HK1 := hide k1; clear k1
    go_wp2_with fail
    refine (sTake_any B q m bytes p w1 hs1 (by omega) hle).mono ?_; rintro e w2 ⟨rfl, hs2, k2⟩
    have HS2 := hide hs2; have HK2 := hide k2; clear hs2 k2 hs1
    go_wp2
    go_ret2
    exact ⟨rfl, ⟨p + m, HS2.out, HR.out⟩, HK1.out.trans HK2.out⟩
end Go.Proofs.Ythjhbnfedelniaa
namespace Go.Proofs.Ythjhbnfedelniaa
open Go Go.RowKit

theorem zerosL_eq (l : List Bool) (k : Nat) (hk : k ≤ min l.length 65) (h : ∀ i, i < k → l.getD i false = false) (h2 : k < min l.length 65 → l.getD k false = true) : zerosL l = k := by
  unfold zerosL
  have hl : (l.take 65).length = min l.length 65 := by simp; omega
  refine tw_len _ k (by rw [hl]; exact hk) (fun i hi => ?_) (fun hlt => ?_)
  · have := h i hi
    have hil : i < l.length := by omega
    simp [List.getD, hil] at this
    rw [List.getElem_take]; exact this
  · have := h2 (by rw [← hl]; exact hlt)
    have hil : k < l.length := by omega
    simp [List.getD, hil] at this
    rw [List.getElem_take]; exact this

end Go.Proofs.Ythjhbnfedelniaa
namespace Go.Proofs.Ythjhbnfedelniaa
open Go Go.RowKit

/-- The number for which a natural number stands. -/
def numOf (u : Nat) : Int := if u % 2 = 0 then ((u / 2 : Nat) : Int) else -((u / 2 : Nat) : Int) - 1
def numValL (l : List Bool) : Int := if natErrL l = 0 then numOf (natValL l) else 0

theorem natErrL_num (l : List Bool) : natErrL l = 0 ∨ natErrL l = 10 ∨ natErrL l = 11 := by
  unfold natErrL
  by_cases h1 : 64 < zerosL l
  · rw [if_pos h1]; omega
  rw [if_neg h1]
  by_cases h2 : l.length < 2 * zerosL l + 1
  · rw [if_pos h2]; omega
  rw [if_neg h2]
  by_cases h3 : zerosL l = 64 ∧ valBits ((l.drop (zerosL l + 1)).take (zerosL l)) ≠ 0
  · rw [if_pos h3]; omega
  · rw [if_neg h3]; omega
theorem natValL_lt (l : List Bool) : natValL l < 2 ^ 64 := by
  unfold natValL
  by_cases h : natErrL l = 0
  · rw [if_pos h]
    unfold natErrL at h
    have hv := valBits_lt ((l.drop (zerosL l + 1)).take (zerosL l))
    have hvl : ((l.drop (zerosL l + 1)).take (zerosL l)).length ≤ zerosL l := by simp; omega
    have hv2 := Nat.pow_le_pow_right (n := 2) (by omega) hvl
    by_cases h1 : 64 < zerosL l
    · rw [if_pos h1] at h; cases h
    rw [if_neg h1] at h
    by_cases h2 : l.length < 2 * zerosL l + 1
    · rw [if_pos h2] at h; cases h
    rw [if_neg h2] at h
    by_cases h3 : zerosL l = 64 ∧ valBits ((l.drop (zerosL l + 1)).take (zerosL l)) ≠ 0
    · rw [if_pos h3] at h; cases h
    by_cases h4 : zerosL l = 64
    · have h5 : valBits ((l.drop (zerosL l + 1)).take (zerosL l)) = 0 := by
        by_cases h6 : valBits ((l.drop (zerosL l + 1)).take (zerosL l)) = 0
        · exact h6
        · exact absurd ⟨h4, h6⟩ h3
      rw [h5, h4]; decide
    · have h7 : 2 ^ zerosL l ≤ 2 ^ 63 := Nat.pow_le_pow_right (by omega) (by omega)
      omega
  · rw [if_neg h]; decide

/-- The same of the program's source, in the words of the bits that are left. -/
theorem sNat_left (B q : Nat) (bytes : List Nat) (p : Nat) (w : World) (hs : SrcIs w B q bytes p) :
    Calls Try.prog 84 #[.pointer (some ⟨q, 0, none⟩)] w fun e w' => e = .returned (.tuple #[.int .u64 ((natValL (leftL bytes p) : Nat) : Int), .int .i64 ((natErrL (leftL bytes p) : Nat) : Int)]) ∧
      (∃ p', SrcIs w' B q bytes p' ∧ leftL bytes p' = natRestL (leftL bytes p)) ∧ Kept B srcT w w' :=
  (sNat_any B q bytes p w hs).mono fun e w' ⟨he, h1, h2⟩ => ⟨by rw [he, natErr_left, natVal_left], ⟨_, h1, natRest_left bytes p⟩, h2⟩
theorem and_one_bool (u : Nat) (hu : u < 2 ^ 64) : (bits BinOp.and IntKind.u64 (u : Int) 1 == 0) = decide (u % 2 = 0) := by
  rw [Go.and_one_u64 _ (by omega) (by omega)]
  have e : ((u : Int)) % 2 = ((u % 2 : Nat) : Int) := by push_cast; rfl
  rw [e]
  rcases Nat.mod_two_eq_zero_or_one u with h | h <;> simp [h]

set_option maxRecDepth 100000 in
theorem unfold_any (u : Nat) (hu : u < 2 ^ 64) (w : World) :
    Calls Try.prog 91 #[.int .u64 (u : Int)] w fun e w' => e = .returned (.int .i64 (numOf u)) ∧ w = w' := by
  have hb := and_one_bool u hu
  have hu' : (u : Int) ≤ 18446744073709551615 := by omega
  by_cases hp : u % 2 = 0
  · rw [show decide (u % 2 = 0) = true by simp [hp]] at hb
    have hv : numOf u = (u : Int) / 2 := by unfold numOf; rw [if_pos hp]; omega
    have HV := hide hv; clear hv hp hu
    go_enter Try.func91, Try.ntmps91
    go_wp2
    go_ret
    refine ⟨?_, rfl⟩
    rw [HV.out]
    rfl
  · rw [show decide (u % 2 = 0) = false by simp [hp]] at hb
    have hv : numOf u = -((u : Int) / 2) - 1 := by unfold numOf; rw [if_neg hp]; omega
    have HV := hide hv; clear hv hp hu
    go_enter Try.func91, Try.ntmps91
    go_wp2
    go_ret
    refine ⟨?_, rfl⟩
    rw [HV.out]
    rfl
end Go.Proofs.Ythjhbnfedelniaa
namespace Go.Proofs.Ythjhbnfedelniaa
open Go Go.RowKit

set_option maxRecDepth 100000 in
theorem sNum_any (B q : Nat) (bytes : List Nat) (p : Nat) (w : World) (hs : SrcIs w B q bytes p) :
    Calls Try.prog 89 #[.pointer (some ⟨q, 0, none⟩)] w fun e w' => e = .returned (.tuple #[.int .i64 (numValL (leftL bytes p)), .int .i64 ((natErrL (leftL bytes p) : Nat) : Int)]) ∧
      (∃ p', SrcIs w' B q bytes p' ∧ leftL bytes p' = natRestL (leftL bytes p)) ∧ Kept B srcT w w' := by
  have C := sNat_left B q bytes p w hs
  have hlt := natValL_lt (leftL bytes p)
  obtain ⟨E, hE⟩ : ∃ E, E = natErrL (leftL bytes p) := ⟨_, rfl⟩
  obtain ⟨V, hV⟩ : ∃ V, V = natValL (leftL bytes p) := ⟨_, rfl⟩
  have hn : numValL (leftL bytes p) = if E = 0 then numOf V else 0 := by unfold numValL; rw [hE, hV]
  rw [← hE, ← hV] at C
  rw [← hV] at hlt
  rw [hn, ← hE]
  clear hE hV hn hs
  have U := fun w => unfold_any V hlt w
  by_cases h0 : E = 0
  · subst h0
    rw [if_pos rfl]
    go_enter Try.func89, Try.ntmps89
    go_wp2_with fail
    refine C.mono ?_
    clear C
    rintro e w1 ⟨rfl, h1, h2⟩
    have H1 := hide h1; have H2 := hide h2; clear h1 h2
    go_wp2_with fail
    refine (U _).mono ?_
    rintro e w' ⟨rfl, rfl⟩
    go_wp2
    go_ret2
    exact ⟨rfl, H1.out, H2.out⟩
  · rw [if_neg h0]
    have hb : ((E : Int) != 0) = true := by simp; omega
    have H0 := hide h0; clear h0
    go_enter Try.func89, Try.ntmps89
    go_wp2_with fail
    refine C.mono ?_
    clear C
    rintro e w1 ⟨rfl, h1, h2⟩
    have H1 := hide h1; have H2 := hide h2; clear h1 h2
    go_wp2
    go_ret2
    exact ⟨rfl, H1.out, H2.out⟩

theorem rem_two (u : Nat) : (((u : Int) % 2) == 1) = decide (u % 2 ≠ 0) := by
  have e : ((u : Int)) % 2 = ((u % 2 : Nat) : Int) := by push_cast; rfl
  rw [e]
  rcases Nat.mod_two_eq_zero_or_one u with h | h <;> simp [h]

/-- A flag: the next bit. -/
def flagVal (l : List Bool) : Bool := (bitsVal l 1 : Int) == 1

theorem any_take_false (l : List Bool) (k : Nat) (h : ∀ i, i < k → l.getD i false = false) : (l.take k).any id = false := by
  rw [List.any_eq_false]
  intro x hx
  obtain ⟨i, hi, rfl⟩ := List.getElem_of_mem hx
  simp at hi
  have hik : i < k := by omega
  have hil : i < l.length := by omega
  have := h i hik
  simp [List.getD, hil] at this
  rw [List.getElem_take]
  simp [this]
theorem any_of (l : List Bool) (k : Nat) (hk : k < l.length) (h : l.getD k false = true) : l.any id = true := by
  rw [List.any_eq_true]
  refine ⟨l[k], List.getElem_mem _, ?_⟩
  simpa [List.getD, hk] using h

end Go.Proofs.Ythjhbnfedelniaa
namespace Go.Proofs.Ythjhbnfedelniaa
open Go Go.RowKit

def textStr (l : List Bool) : ByteArray := strOfNums ((textBytesL l).map fun x : Nat => (x : Int))

/-- An append onto a row that was made since: of the older blocks nothing turns. -/
theorem Kept.grown_fresh {B : Nat} {T : Nat → Bool} {a w w' : World} (h : Kept B T a w) {B0 e size n : Nat} {v : Value} {xs : List Value} (hown : w.ownsRow B0 e size v n xs) (hg : w.grownBy w' v.ownBlock) (hB : B ≤ w.heap.size) (hB0 : B ≤ B0) (hB1 : a.heap.size ≤ B0) : Kept B T a w' :=
  ⟨h.below.grown hg hB (fun k hk => Nat.le_trans hB0 (hown.lt k hk).1), fun k cs e1 fr hk ht => by
    have hh := h.typed k cs e1 fr hk ht
    rw [hg.block k (lt_of_block hh) ?_]; · exact hh
    intro hk2
    have h1 := hown.lt k hk2.symm
    have h2 := lt_of_block hk
    omega⟩
theorem Kept.setCell_fresh {B : Nat} {T : Nat → Bool} {a w : World} (h : Kept B T a w) {p : Addr} (hp : B ≤ p.block) (h1 : a.heap.size ≤ p.block) (u : Value) : Kept B T a (w.setCell p u) :=
  ⟨h.below.setCell hp u, fun k cs e fr hk ht => by
    have hh := h.typed k cs e fr hk ht
    have hne : k ≠ p.block := by have := lt_of_block hk; omega
    rw [Below.heap_setCell _ _ _ _ hne]; exact hh⟩
theorem conv_own {w : World} {B n : Nat} {v : Value} {bytes : List Nat} (h : w.ownsRow B 5 1 v n (byteVs bytes)) (hn : bytes.length = n) :
    (convert 82 9 v).run Try.prog w = .ok (.string (strOfNums (bytes.map fun x : Nat => (x : Int)))) w := by
  subst hn
  rcases h.2 with ⟨hv, hn0⟩ | ⟨g, cap, cur, hv, hg, hgg, hgn, hcapm, hcsz, htake⟩
  · subst hv
    obtain rfl : bytes = [] := List.length_eq_zero_iff.1 hn0
    exact run_convert_bytes_nil w 82 5 Try.underlying82 Try.underlying5 0 0 9 Try.underlying9
  · subst hv
    refine run_convert_bytes_arg w 82 5 Try.underlying82 Try.underlying5 g 0 bytes.length cap _ (by simp) (fun i hi => ?_) 9 Try.underlying9
    have := h.cells (g := g) rfl i (.int .u8 ((bytes.getD i 0 : Nat) : Int)) (by simp [byteVs, hi])
    rw [add_off] at this
    rw [Nat.zero_add, this]
    simp [List.getD, hi]

theorem chunk_eq (l : List Bool) (i : Nat) : bitsVal (l.drop (8 * i)) 8 = if 8 * i + 8 ≤ l.length then chunk l i else 0 := by
  unfold bitsVal chunk
  by_cases h : 8 * i + 8 ≤ l.length
  · rw [if_pos h, if_pos]; · rfl
    exact bitsErr_ok (n := 8) (by omega) (by simp; omega)
  · rw [if_neg h, if_neg]
    rw [bitsErr_ends (n := 8) (by omega) (by simp; omega)]
    decide

end Go.Proofs.Ythjhbnfedelniaa
namespace Go.Proofs.Ythjhbnfedelniaa
open Go Go.RowKit

/-- A source, its slice of bytes named. -/
def SrcAt (w : World) (B q : Nat) (bytes : List Nat) (p : Nat) (v : Value) : Prop :=
  w.heap[q]? = some (.cells #[.bool true, v, .int .i64 (p : Int)] 84 (0, 0)) ∧ w.ownsRow B 5 1 v bytes.length (byteVs bytes)
theorem SrcAt.is {w w0 : World} {B q : Nat} {bytes : List Nat} {p p' : Nat} {v : Value} (h : SrcAt w B q bytes p' v) (h0 : SrcIs w0 B q bytes p) (hp : p' ≤ 8 * bytes.length) : SrcIs w B q bytes p' :=
  ⟨h0.from_, h0.len, hp, h0.small, v, h.1, h.2⟩
theorem SrcAt.moved {w : World} {B q : Nat} {bytes : List Nat} {p : Nat} {v : Value} (h : SrcAt w B q bytes p v) (p' : Nat) : SrcAt (w.setCell ⟨q, 2, none⟩ (.int .i64 (p' : Int))) B q bytes p' v := by
  refine ⟨?_, ownsRow_setCell_typed h.2 h.1 (by decide) _⟩
  rw [heap_setCell_same h.1]; simp
theorem SrcAt.alloc {w : World} {B q : Nat} {bytes : List Nat} {p : Nat} {v : Value} (h : SrcAt w B q bytes p v) (o : Obj) : SrcAt (w.alloc o) B q bytes p v :=
  ⟨heap_alloc_keeps h.1 o, h.2.alloc o⟩
theorem SrcAt.other {w : World} {B q g k : Nat} {bytes : List Nat} {p : Nat} {v : Value} (h : SrcAt w B q bytes p v) (u : Value) (h1 : q ≠ g) (h2 : v.ownBlock ≠ some g) : SrcAt (w.setCell ⟨g, k, none⟩ u) B q bytes p v :=
  ⟨by rw [Below.heap_setCell _ _ _ _ h1]; exact h.1, ownsRow_setCell_other h.2 h2 u⟩

set_option maxRecDepth 100000 in
theorem sTake_at (B q n : Nat) (bytes : List Nat) (p : Nat) (w : World) (hs : SrcIs w B q bytes p) (hn : n ≤ 64) (hle : p + n ≤ 8 * bytes.length) :
    Calls Try.prog 60 #[.pointer (some ⟨q, 0, none⟩), .int .i64 (n : Int)] w fun e w' => e = .returned (.int .u64 ((valAt bytes p n : Nat) : Int)) ∧ w.setCell ⟨q, 2, none⟩ (.int .i64 ((p + n : Nat) : Int)) = w' := by
  have hpos := hs.pos
  have hfree := hs.free
  have hl := hs.len
  have C := sPeek_any B q bytes p p n w hs hn hle
  clear hs
  go_enter Try.func60, Try.ntmps60
  go_wp2_with (go_at_call 77; refine C.mono ?_; rintro e w' ⟨rfl, rfl⟩)
  go_ret
  exact ⟨rfl, rfl⟩

theorem made_bytes (w : World) (k : Nat) (hk : k ≤ 140737488355328) : (w.alloc (.cells (madeCells #[.int .u8 0] k) 5)).ownsRow w.heap.size 5 1 (.slice (some ⟨w.heap.size, 0, none⟩) k k) k (byteVs (List.replicate k 0)) := by
  have e' : (madeCells #[.int .u8 0] k).toList = byteVs (List.replicate k 0) := by rw [toList_madeCells_one]; simp [byteVs]
  have hs : (madeCells #[Value.int .u8 0] k).size = k := by rw [size_madeCells]
  refine ⟨by simp [byteVs_length], .inr ⟨w.heap.size, k, _, rfl, Nat.le_refl _, heap_alloc_new _ _, Nat.le_refl _, by unfold maxLen; omega, by rw [hs]; omega, ?_⟩⟩
  rw [Nat.mul_one, List.take_of_length_le (by rw [Array.length_toList, hs]; omega)]
  exact e'

/-- The first k bytes of f, then zeros. -/
def filled (f : Nat → Nat) (V k : Nat) : List Nat := (List.range V).map fun i => if i < k then f i else 0
theorem filled_zero (f : Nat → Nat) (V : Nat) : filled f V 0 = List.replicate V 0 := by
  unfold filled
  apply List.ext_getElem <;> simp
theorem filled_full (f : Nat → Nat) (V : Nat) : filled f V V = (List.range V).map f := by
  unfold filled
  apply List.map_congr_left
  intro i hi
  simp at hi
  simp [hi]
theorem filled_length (f : Nat → Nat) (V k : Nat) : (filled f V k).length = V := by simp [filled]
theorem filled_set (f : Nat → Nat) (V k : Nat) (_hk : k < V) : (byteVs (filled f V k)).set k (.int .u8 ((f k : Nat) : Int)) = byteVs (filled f V (k + 1)) := by
  apply List.ext_getElem
  · simp [byteVs, filled]
  · intro i h1 h2
    simp [byteVs, filled] at h1 h2 ⊢
    rw [List.getElem_set]
    by_cases hik : k = i
    · subst hik; simp
    · rw [if_neg hik]
      simp only [List.getElem_map, List.getElem_range]
      by_cases hlt : i < k
      · simp [hlt, show i < k + 1 by omega]
      · simp [hlt, show ¬ i < k + 1 by omega]

theorem chunk_left (bytes : List Nat) (p i : Nat) : chunk (leftL bytes p) i = valAt bytes (p + 8 * i) 8 := by
  rw [valAt_left]; rfl

set_option maxRecDepth 100000 in
set_option maxHeartbeats 1600000 in
theorem sText_any (B q : Nat) (bytes : List Nat) (p : Nat) (w : World) (hs : SrcIs w B q bytes p) :
    Calls Try.prog 79 #[.pointer (some ⟨q, 0, none⟩)] w fun e w' => e = .returned (.tuple #[.string (textStr (leftL bytes p)), .int .i64 ((textErrL (leftL bytes p) : Nat) : Int)]) ∧
      (∃ p', SrcIs w' B q bytes p' ∧ leftL bytes p' = textRestL (leftL bytes p)) ∧ Kept B srcT w w' := by
  have hp := hs.at_
  have hpos := hs.pos
  have hmade := hs.made
  have hlenb := hs.len
  have C := sNat_any B q bytes p w hs
  rw [natErr_left, natVal_left] at C
  obtain ⟨l, hl⟩ : ∃ l, l = leftL bytes p := ⟨_, rfl⟩
  rw [← hl] at C ⊢
  have hlt := natValL_lt l
  obtain ⟨E, hE⟩ : ∃ E, E = natErrL l := ⟨_, rfl⟩
  obtain ⟨V, hV⟩ : ∃ V, V = natValL l := ⟨_, rfl⟩
  obtain ⟨p1, hp1⟩ : ∃ p1, p1 = natNext bytes p := ⟨_, rfl⟩
  have hrest : leftL bytes p1 = natRestL l := by rw [hp1, hl]; exact natRest_left bytes p
  rw [← hE, ← hV, ← hp1] at C
  rw [← hV] at hlt
  have HE := hide hE
  have HV := hide hV
  have HL := hide hl
  have HRest := hide hrest
  have HP1 := hide hp1
  clear hE hV hl hrest hp1
  have hV' : (V : Int) ≤ 18446744073709551615 := by omega
  have HVlt := hide hlt; clear hlt
  have HS0 := hide hs; clear hs
  by_cases h0 : E = 0
  · subst h0
    have hErr2 : (natErrL l) = 0 := HE.out.symm
    have HErr2 := hide hErr2; clear hErr2
    go_enter Try.func79, Try.ntmps79
    go_wp2_with fail
    refine (sIsMade_any q _ hmade).mono ?_
    rintro e w' ⟨rfl, rfl⟩
    go_wp2_with fail
    refine C.mono ?_
    clear C
    rintro e w1 ⟨rfl, hs1, k1⟩
    have H1 := hide hs1; have K1 := hide k1; clear hs1 k1
    have hp1b := H1.out.at_
    obtain ⟨Lf, hLf⟩ : ∃ Lf, Lf = 8 * bytes.length - p1 := ⟨_, rfl⟩
    have C2 := sLeft_k B q bytes p1 w1 H1.out
    rw [← hLf] at C2
    have HLf := hide hLf; clear hLf
    have hLb : Lf ≤ 1125899906842624 := by have := HLf.out; omega
    go_wp2_with fail
    refine C2.mono ?_
    clear C2
    rintro e w2 ⟨rfl, hs2, k2⟩
    have H2 := hide hs2; have K2 := hide k2; clear hs2 k2
    have hfree2 := H2.out.free
    have hpos2 := H2.out.pos
    have HNl : Hid ((natRestL l).length = Lf) := by rw [← HRest.out, leftL_length]; exact HLf.out.symm
    by_cases hmuch : Lf / 8 < V
    · have he : textErrL l = 10 := by unfold textErrL; rw [HErr2.out, ← HV.out, HNl.out]; simp [hmuch]
      have HTE := hide he; clear he
      go_wp2_with fail
      go_ret2
      rw [textStr, textBytesL, textRestL, HTE.out]
      exact ⟨rfl, ⟨p, H2.out.moved p hp, HL.out.symm⟩, (K1.out.trans K2.out).trans (H2.out.keeps _)⟩
    · have he : textErrL l = 0 := by unfold textErrL; rw [HErr2.out, ← HV.out, HNl.out]; simp [hmuch]
      have hV8 : 8 * V ≤ Lf := by omega
      have hV9 : V ≤ 140737488355328 := by omega
      have HT : Hid (textBytesL l = (List.range V).map (chunk (natRestL l)) ∧ textRestL l = (natRestL l).drop (8 * V)) := by
        unfold textBytesL textRestL; rw [he, if_pos rfl, if_pos rfl, ← HV.out]; exact ⟨rfl, rfl⟩
      have HTE := hide he; clear he
      have hmk := run_make_row' (P := Try.prog) 82 5 (.int .u8 0) 1 Try.underlying82 Try.info5 rfl .u64 .u64 V (by omega) (by omega)
      obtain ⟨v, hat⟩ : ∃ v, SrcAt w2 B q bytes p1 v := by
        obtain ⟨v, h1, h2⟩ := H2.out.row
        exact ⟨v, h1, h2⟩
      have HAt := hide hat; clear hat
      have hqlt : q < w2.heap.size := H2.out.lt
      obtain ⟨M, hM⟩ : ∃ M, M = w2.heap.size := ⟨_, rfl⟩
      have hq2 : q ≠ M := by omega
      have hv2 : v.ownBlock ≠ some M := by
        intro h
        have := (HAt.out.2.lt M h).2
        omega
      have HQ2 := hide hq2; have HV2 := hide hv2; clear hq2 hv2
      have hB : B ≤ M := by have := H2.out.from_; omega
      have HM := hide hM
      go_wp2_with fail
      rw [← hM]
      clear hM hmk
      go_loopw [38] (fun i wr => ∃ k : Nat, k ≤ V ∧ i = .int .i64 k ∧ wr.ownsRow M 5 1 (.slice (some ⟨M, 0, none⟩) V V) V (byteVs (filled (chunk (natRestL l)) V k)) ∧ SrcAt wr B q bytes (p1 + 8 * k) v ∧ Kept B srcT w2 wr) (fun i _ => V - (intOf i).toNat)
      case atStart =>
        refine ⟨0, Nat.zero_le _, rfl, ?_, HAt.out.alloc _, (Kept.refl _ _ _).alloc (by have := HM.out; omega) _⟩
        rw [filled_zero, HM.out]
        exact made_bytes w2 V hV9
      case round =>
        obtain ⟨k, hk, rfl, hown, hsr, hkr⟩ := hrel
        have HO := hide hown; have HR := hide hsr; have HK := hide hkr; clear hown hsr hkr
        by_cases hltk : k < V
        · have hle : p1 + 8 * k + 8 ≤ 8 * bytes.length := by have := HLf.out; omega
          have CT := sTake_at B q 8 bytes (p1 + 8 * k) wr (HR.out.is H2.out (by omega)) (by omega) hle
          obtain ⟨c, hcc⟩ : ∃ c, c = chunk (natRestL l) k := ⟨_, rfl⟩
          have hcv : valAt bytes (p1 + 8 * k) 8 = c := by rw [hcc, ← HRest.out, chunk_left]
          rw [hcv] at CT
          have hc256 : c < 256 := by rw [hcc]; exact chunk_lt _ _
          have hcw : (c : Int) % 256 = (c : Int) := by omega
          have HCC := hide hcc; clear hcc hcv
          have hcellt : (wr.setCell ⟨q, 2, none⟩ (.int .i64 ((p1 + 8 * k + 8 : Nat) : Int))).ownsRow M 5 1 (.slice (some ⟨M, 0, none⟩) V V) V (byteVs (filled (chunk (natRestL l)) V k)) := ownsRow_setCell_typed HO.out HR.out.1 (by decide) _
          obtain ⟨w3, hw3⟩ : ∃ w3, w3 = wr.setCell ⟨q, 2, none⟩ (.int .i64 ((p1 + 8 * k + 8 : Nat) : Int)) := ⟨_, rfl⟩
          have hsr3 := HR.out.moved (p1 + 8 * k + 8)
          have hkr3 := HK.out.setCell (p := ⟨q, 2, none⟩) H2.out.from_ HR.out.1 rfl (.int .i64 ((p1 + 8 * k + 8 : Nat) : Int))
          rw [← hw3] at hcellt CT hsr3 hkr3
          clear hw3
          have hcl := hcellt.cells (g := M) rfl k (.int .u8 (((filled (chunk (natRestL l)) V k).getD k 0 : Nat) : Int)) (by simp [byteVs, filled_length, hltk])
          rw [add_off] at hcl
          obtain ⟨x0, hx0⟩ : ∃ x0 : Nat, x0 = (filled (chunk (natRestL l)) V k).getD k 0 := ⟨_, rfl⟩
          rw [← hx0] at hcl
          clear hx0
          have hfr : w3.frozen? ⟨M, k, none⟩ = false := by
            rcases hcellt.2 with ⟨h, _⟩ | ⟨g, cap, cur, h, _, hgg, _⟩
            · cases h
            · simp only [Value.slice.injEq, Option.some.injEq, Addr.mk.injEq, and_true, true_and] at h
              obtain ⟨rfl, _⟩ := h
              simp [World.frozen?, hgg]
          have HO3 := hide hcellt; have HR3 := hide hsr3; have HK3 := hide hkr3; clear hcellt hsr3 hkr3
          go_wp2_with fail
          refine CT.mono ?_
          clear CT
          rintro e w' ⟨rfl, rfl⟩
          go_wp2
          go_roundw
          case rel =>
            have hst := (HO3.out.stored k (.int .u8 (c : Int))).1
            rw [HCC.out, filled_set _ _ _ hltk] at hst
            rw [HCC.out]
            refine ⟨k + 1, by omega, by go_num, hst, ?_, HK3.out.setCell_fresh (p := ⟨M, k, none⟩) hB (by have := HM.out; simp; omega) _⟩
            have := HR3.out.other (k := k) (.int .u8 ((chunk (natRestL l) k : Nat) : Int)) HQ2.out HV2.out
            rw [show p1 + 8 * (k + 1) = p1 + 8 * k + 8 by omega]
            exact this
          case measure => simp [intOf]; omega
        · obtain rfl : k = V := by omega
          have hcv := conv_own HO.out (filled_length _ _ _)
          rw [filled_full] at hcv
          go_wp2
          go_ret2
          rw [textStr, HT.out.1, HT.out.2, HTE.out]
          refine ⟨by rw [List.map_map]; rfl, ⟨p1 + 8 * k, HR.out.is H2.out (by have := HLf.out; omega), ?_⟩, (K1.out.trans K2.out).trans HK.out⟩
          rw [← HRest.out]
          simp [leftL, List.drop_drop]
  · have hb : ((E : Int) != 0) = true := by simp; omega
    have H0 := hide h0; clear h0
    go_enter Try.func79, Try.ntmps79
    go_wp2_with fail
    refine (sIsMade_any q _ hmade).mono ?_
    rintro e w' ⟨rfl, rfl⟩
    go_wp2_with fail
    refine C.mono ?_
    clear C
    rintro e w1 ⟨rfl, hs1, k1⟩
    have H1 := hide hs1; have K1 := hide k1; clear hs1 k1
    go_wp2
    go_ret2
    have he : textErrL l = E := by unfold textErrL; rw [← HE.out, if_pos H0.out]
    have hr : natRestL l = l := by unfold natRestL; rw [← HE.out, if_neg H0.out]
    have ht : textBytesL l = [] := by unfold textBytesL; rw [he, if_neg H0.out]
    have ht2 : textRestL l = l := by unfold textRestL; rw [he, if_neg H0.out]
    rw [textStr, ht, ht2, he]
    exact ⟨rfl, ⟨p1, H1.out, by rw [HRest.out, hr]⟩, K1.out⟩
end Go.Proofs.Ythjhbnfedelniaa
namespace Go.Proofs.Ythjhbnfedelniaa
open Go Go.RowKit

theorem own_shape_pos {w : World} {base e size n : Nat} {v : Value} {xs : List Value} (h : w.ownsRow base e size v n xs) (hn : 0 < n) : ∃ g cap, v = .slice (some ⟨g, 0, none⟩) n cap := by
  rcases h.2 with ⟨_, h0⟩ | ⟨g, cap, cur, hv, _⟩
  · omega
  · exact ⟨g, cap, hv⟩
end Go.Proofs.Ythjhbnfedelniaa
