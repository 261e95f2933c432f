/- Joined: Math, Law. -/
import Derived.WalkSmall
import Derived.WalkKit
import Derived.Deep.RegionLaw
/- Plain facts on lists of bits: a number in n bits, the value of bits, what a sink holds after some bits. No program here. -/
namespace Go.Proofs.YtcnecokamckfaaaGreatDoor
open Go

def valBits (l : List Bool) : Nat := l.foldl (fun a b => 2 * a + b.toNat) 0
theorem valBits_nil : valBits [] = 0 := rfl
theorem valBits_snoc (l : List Bool) (b : Bool) : valBits (l ++ [b]) = 2 * valBits l + b.toNat := by simp [valBits]
theorem snocInd {α : Type} {P : List α → Prop} (h0 : P []) (h1 : ∀ l b, P l → P (l ++ [b])) (l : List α) : P l := by
  have h : ∀ r : List α, P r.reverse := by
    intro r
    induction r with
    | nil => exact h0
    | cons a r ih => rw [List.reverse_cons]; exact h1 _ _ ih
  have := h l.reverse
  rwa [List.reverse_reverse] at this
theorem valBits_lt (l : List Bool) : valBits l < 2 ^ l.length := by
  refine snocInd (P := fun l => valBits l < 2 ^ l.length) (by simp [valBits]) (fun l b ih => ?_) l
  rw [valBits_snoc]; simp [Nat.pow_succ]; cases b <;> simp <;> omega

/-- The low n bits of x, the highest one first. -/
def bitsOf (x n : Nat) : List Bool := (List.range n).map fun i => x.testBit (n - 1 - i)
theorem bitsOf_length (x n : Nat) : (bitsOf x n).length = n := by simp [bitsOf]
theorem bitsOf_zero (x : Nat) : bitsOf x 0 = [] := rfl
theorem bitsOf_getElem (x n i : Nat) (h : i < (bitsOf x n).length) : (bitsOf x n)[i] = x.testBit (n - 1 - i) := by simp [bitsOf]
theorem bitsOf_take_succ (x n k : Nat) (h : k < n) : (bitsOf x n).take (k + 1) = (bitsOf x n).take k ++ [x.testBit (n - 1 - k)] := by
  rw [List.take_succ_eq_append_getElem (by simpa [bitsOf] using h), bitsOf_getElem]
theorem bitsOf_succ (x n : Nat) : bitsOf x (n + 1) = x.testBit n :: bitsOf x n := by
  simp only [bitsOf, List.range_succ_eq_map, List.map_cons, List.map_map]
  congr 1
  apply List.map_congr_left
  intro i hi
  simp at hi
  simp only [Function.comp]
  congr 1
  omega

/-- The bits of the last byte that is not full; the bytes that are full. -/
def restOf (bs : List Bool) : Nat := valBits (bs.drop (8 * (bs.length / 8)))
def fullOf (bs : List Bool) : List Nat := (List.range (bs.length / 8)).map fun j => valBits ((bs.drop (8 * j)).take 8)
theorem fullOf_length (bs : List Bool) : (fullOf bs).length = bs.length / 8 := by simp [fullOf]
theorem restOf_lt (bs : List Bool) : restOf bs < 128 := by
  unfold restOf
  have h := valBits_lt (bs.drop (8 * (bs.length / 8)))
  have hl : (bs.drop (8 * (bs.length / 8))).length ≤ 7 := by rw [List.length_drop]; omega
  have := Nat.pow_le_pow_right (n := 2) (by omega) hl
  omega
theorem restOf_snoc_ne (bs : List Bool) (b : Bool) (h : (bs.length + 1) % 8 ≠ 0) : restOf (bs ++ [b]) = 2 * restOf bs + b.toNat := by
  unfold restOf
  have e : (bs ++ [b]).length / 8 = bs.length / 8 := by simp; omega
  rw [e, List.drop_append_of_le_length (by omega), valBits_snoc]
theorem restOf_snoc_eq (bs : List Bool) (b : Bool) (h : (bs.length + 1) % 8 = 0) : restOf (bs ++ [b]) = 0 := by
  unfold restOf
  have e : 8 * ((bs ++ [b]).length / 8) = (bs ++ [b]).length := by simp; omega
  rw [e, List.drop_length]; rfl
theorem fullOf_snoc_ne (bs : List Bool) (b : Bool) (h : (bs.length + 1) % 8 ≠ 0) : fullOf (bs ++ [b]) = fullOf bs := by
  unfold fullOf
  have e : (bs ++ [b]).length / 8 = bs.length / 8 := by simp; omega
  rw [e]
  apply List.map_congr_left
  intro j hj
  simp at hj
  rw [List.drop_append_of_le_length (by omega), List.take_append_of_le_length (by simp; omega)]
theorem fullOf_snoc_eq (bs : List Bool) (b : Bool) (h : (bs.length + 1) % 8 = 0) : fullOf (bs ++ [b]) = fullOf bs ++ [2 * restOf bs + b.toNat] := by
  unfold fullOf restOf
  have e : (bs ++ [b]).length / 8 = bs.length / 8 + 1 := by simp; omega
  rw [e, List.range_succ, List.map_append]
  congr 1
  · apply List.map_congr_left
    intro j hj
    simp at hj
    rw [List.drop_append_of_le_length (by omega), List.take_append_of_le_length (by simp; omega)]
  · simp only [List.map_cons, List.map_nil]
    rw [List.drop_append_of_le_length (by omega), List.take_of_length_le (by simp; omega), valBits_snoc]

/-- The walk's own words for '& 1', '<< 1 |'. -/
theorem bit_of (x k : Nat) (hx : x < 2 ^ 64) : bits BinOp.and IntKind.u64 ((x : Int) / 2 ^ k) 1 % 256 = ((x.testBit k).toNat : Int) := by
  have h0 : (0 : Int) ≤ (x : Int) / 2 ^ k := Int.ediv_nonneg (by omega) (by exact_mod_cast Nat.zero_le _)
  have h1 : (x : Int) / 2 ^ k ≤ 18446744073709551615 := by
    have : (x : Int) / 2 ^ k ≤ x := Int.ediv_le_self _ (by omega)
    omega
  rw [Go.and_one_u64 _ h0 h1]
  have e : ((x : Int) / 2 ^ k) % 2 = ((x / 2 ^ k % 2 : Nat) : Int) := by push_cast; rfl
  rw [e, Nat.testBit_eq_decide_div_mod_eq]
  rcases Nat.mod_two_eq_zero_or_one (x / 2 ^ k) with h | h <;> simp [h]
theorem or_bit (r : Nat) (b : Bool) (hr : r < 128) : bits BinOp.or IntKind.u8 ((r : Int) * 2) (b.toNat : Int) = ((2 * r + b.toNat : Nat) : Int) := by
  have h : ∀ r : Fin 128, ∀ b : Bool, bits BinOp.or IntKind.u8 (((r.val : Nat) : Int) * 2) (b.toNat : Int) = ((2 * r.val + b.toNat : Nat) : Int) := by decide +kernel
  exact h ⟨r, hr⟩ b

end Go.Proofs.YtcnecokamckfaaaGreatDoor

/- What a call may change: only blocks of its own from B on, and of these only blocks of the given element types. An append onto a row of the call's own, as one step of a region that draws. -/
namespace Go.Proofs.YtcnecokamckfaaaGreatDoor
open Go Go.RowKit

theorem hide {p : Prop} (h : p) : Hid p := h

/-- Below block B nothing has turned; and no block of cells whose element type is outside T has turned, wherever it lies. -/
structure Kept (B : Nat) (T : Nat → Bool) (w w' : World) : Prop where
  below : Below B w w'
  typed : ∀ (k : Nat) (cs : Array Value) (e : Nat) (fr : Nat × Nat), w.heap[k]? = some (.cells cs e fr) → T e = false → w'.heap[k]? = some (.cells cs e fr)

theorem Kept.refl (B : Nat) (T : Nat → Bool) (w : World) : Kept B T w w := ⟨Below.refl _ _, fun _ _ _ _ h _ => h⟩
theorem Kept.trans {B : Nat} {T : Nat → Bool} {a b c : World} (h : Kept B T a b) (k : Kept B T b c) : Kept B T a c :=
  ⟨h.below.trans k.below, fun i cs e fr hi ht => k.typed i cs e fr (h.typed i cs e fr hi ht) ht⟩
theorem Kept.mono {B B' : Nat} {T T' : Nat → Bool} {w w' : World} (h : Kept B T w w') (hB : B' ≤ B) (hT : ∀ e, T' e = false → T e = false) : Kept B' T' w w' :=
  ⟨h.below.mono hB, fun i cs e fr hi ht => h.typed i cs e fr hi (hT e ht)⟩
theorem Kept.drew {B : Nat} {T : Nat → Bool} {a w : World} (h : Kept B T a w) : Kept B T a w.drew := ⟨h.below.drew, fun k cs e fr hk ht => h.typed k cs e fr hk ht⟩
theorem Kept.drewN {B : Nat} {T : Nat → Bool} {a w : World} (h : Kept B T a w) (n : Nat) : Kept B T a (w.drewN n) :=
  ⟨⟨h.below.os, h.below.tape, h.below.output, h.below.size, h.below.block⟩, fun k cs e fr hk ht => h.typed k cs e fr hk ht⟩
theorem Kept.alloc {B : Nat} {T : Nat → Bool} {a w : World} (h : Kept B T a w) (hB : B ≤ w.heap.size) (o : Obj) : Kept B T a (w.alloc o) :=
  ⟨h.below.alloc hB o, fun k cs e fr hk ht => by
    have hh := h.typed k cs e fr hk ht
    rw [Below.heap_alloc _ _ _ (lt_of_block hh)]; exact hh⟩
theorem Kept.setCell {B : Nat} {T : Nat → Bool} {a w : World} (h : Kept B T a w) {p : Addr} (hp : B ≤ p.block) {cs0 : Array Value} {e0 : Nat} {fr0 : Nat × Nat}
    (hb : w.heap[p.block]? = some (.cells cs0 e0 fr0)) (hT : T e0 = true) (u : Value) : Kept B T a (w.setCell p u) :=
  ⟨h.below.setCell hp u, fun k cs e fr hk ht => by
    have hh := h.typed k cs e fr hk ht
    have hne : k ≠ p.block := by
      rintro rfl
      rw [hh] at hb
      simp only [Option.some.injEq, Obj.cells.injEq] at hb
      rw [hb.2.1] at ht
      rw [ht] at hT
      cases hT
    rw [Below.heap_setCell _ _ _ _ hne]; exact hh⟩
/-- Behind an append onto an owned row of a type in T. -/
theorem Kept.grown {B : Nat} {T : Nat → Bool} {a w w' : World} (h : Kept B T a w) {B0 e size n : Nat} {v : Value} {xs : List Value} (hown : w.ownsRow B0 e size v n xs) (hT : T e = true) (hg : w.grownBy w' v.ownBlock) (hB : B ≤ w.heap.size) (hB0 : B ≤ B0) : Kept B T a w' :=
  ⟨h.below.grown hg hB (fun k hk => Nat.le_trans hB0 (hown.lt k hk).1), fun k cs e1 fr hk ht => by
    have hh := h.typed k cs e1 fr hk ht
    rw [hg.block k (lt_of_block hh) ?_]; · exact hh
    intro hk2
    rcases hown.2 with ⟨rfl, _⟩ | ⟨g, cap, cur, rfl, _, hgg, _⟩
    · simp [Value.ownBlock] at hk2
    · simp [Value.ownBlock] at hk2
      subst hk2
      rw [hh] at hgg
      simp only [Option.some.injEq, Obj.cells.injEq] at hgg
      rw [hgg.2.1] at ht
      rw [ht] at hT
      cases hT⟩
/-- A row of another element type stays owned. -/
theorem Kept.ownsRow {B : Nat} {T : Nat → Bool} {w w' : World} (h : Kept B T w w') {B0 e size n : Nat} {v : Value} {xs : List Value} (hown : w.ownsRow B0 e size v n xs) (ht : T e = false) : w'.ownsRow B0 e size v n xs := by
  refine ⟨hown.1, ?_⟩
  rcases hown.2 with hn | ⟨g, cap, cur, rfl, hb, hgg, rest⟩
  · exact .inl hn
  · exact .inr ⟨g, cap, cur, rfl, hb, h.typed g cur e (0, 0) hgg ht, rest⟩

/-- A row stays owned while a cell of a block of another element type is written. -/
theorem ownsRow_setCell_typed {w : World} {base : Nat} {e : Nat} {size : Nat} {v : Value} {n : Nat} {xs : List Value} (h : w.ownsRow base e size v n xs) {a : Addr} {cs0 : Array Value} {e0 : Nat} {fr0 : Nat × Nat}
    (hb : w.heap[a.block]? = some (.cells cs0 e0 fr0)) (hne : e0 ≠ e) (u : Value) : (w.setCell a u).ownsRow base e size v n xs := by
  refine ownsRow_setCell_other h ?_ u
  rcases h.2 with ⟨rfl, _⟩ | ⟨g, cap, cur, rfl, _, hgg, _⟩
  · simp [Value.ownBlock]
  · simp only [Value.ownBlock]
    intro hk
    simp only [Option.some.injEq] at hk
    rw [hk, hb] at hgg
    simp only [Option.some.injEq, Obj.cells.injEq] at hgg
    exact hne hgg.2.1
theorem ownsRow_drew {w : World} {base : Nat} {e : Nat} {size : Nat} {v : Value} {n : Nat} {xs : List Value} (h : w.ownsRow base e size v n xs) : w.drew.ownsRow base e size v n xs := h
theorem ownsRow_drewN {w : World} {base : Nat} {e : Nat} {size : Nat} {v : Value} {n : Nat} {xs : List Value} (h : w.ownsRow base e size v n xs) (k : Nat) : (w.drewN k).ownsRow base e size v n xs := h

/-- append onto a row of the call's own, as one step of a region that draws its order. -/
theorem step_append_own {P : Program} {ops : Array Oper} {o : Oper} {a : Act} {w : World} {K : Act → World → Prop} {Q : Exit → Act → World → Prop} {E : Prop}
    (hg : o.guard = none) (s x : Operand) (t : TypeId) (hop : o.op = Op.call { callee := Callee.builtin Builtin.append, args := #[s, x], argTypes := #[t, t] })
    (base : Nat) (e : TypeId) (i : TypeInfo) (z : Value) (size bytes : Nat) (h1 : P.underlying t = some (.slice e)) (h2 : P.info? e = some i) (h3 : i.zero = some z) (h4 : i.size = size) (h5 : i.bytes = bytes) (h6 : z.cells.size = size) (h7 : 0 < size)
    (v : Value) (n : Nat) (xs : List Value) (hs : a.eval s = v) (hown : w.ownsRow base e size v n xs)
    (ad : Addr) (m c : Nat) (news : List Value) (hx : a.eval x = .slice (some ad) m c) (hn : news.length = m * size) (hc : ∀ j u, news[j]? = some u → w.cell? (ad.add j) = some u) (h1c : ∀ u ∈ news, u.oneCell' = true)
    (b1 : n + m ≤ maxLen) (b2 : (n + m) * bytes ≤ 140737488355328) (hbase : base ≤ w.heap.size)
    (hK : ∀ v' w', w'.ownsRow base e size v' (n + m) (xs ++ news) → w.grownBy w' v.ownBlock → K (a.put o.dst v') w') :
    if Region.wanted o (yielded ops a.tmps) = true then Oper.wp P o a w K Q else E := by
  have hw : Region.wanted o (yielded ops a.tmps) = true := by simp [Region.wanted, hg]
  rw [if_pos hw]
  obtain ⟨v', w', hrun, r1, r2, _⟩ := run_append_own (P := P) w base t o.type e i z size bytes h1 h2 h3 h4 h5 h6 h7 v n xs hown ad m c news hn hc h1c b1 b2 hbase
  unfold Oper.wp
  simp [execOp, hop, resolve, invoke, builtin, hs, hx, hrun, Result.andThen]
  exact hK v' w' r1 r2

/-- A block of four cells: what its cells hold; that they may be written; what the block is behind a store. -/
theorem cell_of_four {w : World} {q : Nat} {c0 c1 c2 c3 : Value} {t : Nat} (h : w.heap[q]? = some (.cells #[c0, c1, c2, c3] t (0, 0))) :
    w.cell? ⟨q, 0, none⟩ = some c0 ∧ w.cell? ⟨q, 1, none⟩ = some c1 ∧ w.cell? ⟨q, 2, none⟩ = some c2 ∧ w.cell? ⟨q, 3, none⟩ = some c3 := by
  refine ⟨?_, ?_, ?_, ?_⟩ <;> simp [World.cell?, h]
theorem free_of_four {w : World} {q : Nat} {c0 c1 c2 c3 : Value} {t : Nat} (h : w.heap[q]? = some (.cells #[c0, c1, c2, c3] t (0, 0))) :
    w.frozen? ⟨q, 0, none⟩ = false ∧ w.frozen? ⟨q, 1, none⟩ = false ∧ w.frozen? ⟨q, 2, none⟩ = false ∧ w.frozen? ⟨q, 3, none⟩ = false := by
  refine ⟨?_, ?_, ?_, ?_⟩ <;> simp [World.frozen?, h]
theorem heap_setCell_same {w : World} {q k : Nat} {cs : Array Value} {t : Nat} {fr : Nat × Nat} (h : w.heap[q]? = some (.cells cs t fr)) (u : Value) :
    (w.setCell ⟨q, k, none⟩ u).heap[q]? = some (.cells (cs.setIfInBounds k u) t fr) := by
  have hlt := lt_of_block h
  have h' : w.heap[q] = .cells cs t fr := by simpa [Array.getElem?_eq_getElem hlt] using h
  show (w.heap.modify q _)[q]? = _
  rw [Array.getElem?_eq_getElem (by simpa using hlt), Array.getElem_modify_self, h']
  rfl

theorem cell_alloc_one (w : World) (n : Nat) (hn : n = w.heap.size) (v : Value) (t : Nat) : (w.alloc (.cells #[v] t)).cell? ⟨n, 0, none⟩ = some v := by
  subst hn; exact cell_of_one (heap_alloc_new w _)
/-- An append onto a row of one type leaves a block of another type as it was. -/
theorem grow_keeps {w0 w1 w' : World} {q B n : Nat} {e e0 size : Nat} {cs : Array Value} {fr0 : Nat × Nat} {v : Value} {xs : List Value} (hq : w0.heap[q]? = some (.cells cs e0 fr0)) (ho : w0.ownsRow B e size v n xs) (hne : e0 ≠ e)
    (hg : w1.grownBy w' v.ownBlock) (hh : w1.heap = w0.heap) : w'.heap[q]? = some (.cells cs e0 fr0) := by
  rw [← hh] at hq
  have ho2 : w1.ownsRow B e size v n xs := by unfold World.ownsRow at ho ⊢; rw [hh]; exact ho
  clear ho
  rw [hg.block q (lt_of_block hq) ?_]; · exact hq
  rcases ho2.2 with ⟨rfl, _⟩ | ⟨g, cap, cur, rfl, _, hgg, _⟩
  · simp [Value.ownBlock]
  · simp only [Value.ownBlock]
    intro hk
    simp only [Option.some.injEq] at hk
    rw [hk] at hq
    rw [hq] at hgg
    simp only [Option.some.injEq, Obj.cells.injEq] at hgg
    exact hne hgg.2.1
theorem heap_alloc_keeps {w : World} {q : Nat} {ob : Obj} (hq : w.heap[q]? = some ob) (o : Obj) : (w.alloc o).heap[q]? = some ob := by
  rw [Below.heap_alloc _ _ _ (lt_of_block hq)]; exact hq
theorem own_shape {w : World} {base e size n : Nat} {v : Value} {xs : List Value} (h : w.ownsRow base e size v (n + 1) xs) : ∃ g cap, v = .slice (some ⟨g, 0, none⟩) (n + 1) cap := by
  rcases h.2 with ⟨_, h0⟩ | ⟨g, cap, cur, hv, _⟩
  · cases h0
  · exact ⟨g, cap, hv⟩

end Go.Proofs.YtcnecokamckfaaaGreatDoor
