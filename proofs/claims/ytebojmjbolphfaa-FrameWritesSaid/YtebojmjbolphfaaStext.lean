/- Contract of Text of the program's source. -/
import Derived.Test.YtebojmjbolphfaaRstext
namespace Go.Proofs.Ytebojmjbolphfaa
open Go Go.RowKit

/-- A source, its slice of bytes named. -/
def SrcAt (w : World) (B q : Nat) (bytes : List Nat) (p : Nat) (v : Value) : Prop :=
  w.heap[q]? = some (.cells #[.bool true, v, .int .i64 (p : Int)] 84 (0, 0)) ∧ w.ownsRow B 5 1 v bytes.length (byteVs bytes)
theorem SrcAt.is {w w0 : World} {B q : Nat} {bytes : List Nat} {p p' : Nat} {v : Value} (h : SrcAt w B q bytes p' v) (h0 : SrcIs w0 B q bytes p) (hp : p' ≤ 8 * bytes.length) : SrcIs w B q bytes p' :=
  ⟨h0.from_, h0.len, hp, h0.small, v, h.1, h.2⟩
theorem SrcAt.moved {w : World} {B q : Nat} {bytes : List Nat} {p : Nat} {v : Value} (h : SrcAt w B q bytes p v) (p' : Nat) : SrcAt (w.setCell ⟨q, 2, none⟩ (.int .i64 (p' : Int))) B q bytes p' v := by
  refine ⟨?_, ownsRow_setCell_typed h.2 h.1 (by decide) _⟩
  rw [heap_setCell_same h.1]; simp
theorem SrcAt.alloc {w : World} {B q : Nat} {bytes : List Nat} {p : Nat} {v : Value} (h : SrcAt w B q bytes p v) (o : Obj) : SrcAt (w.alloc o) B q bytes p v :=
  ⟨heap_alloc_keeps h.1 o, h.2.alloc o⟩
theorem SrcAt.other {w : World} {B q g k : Nat} {bytes : List Nat} {p : Nat} {v : Value} (h : SrcAt w B q bytes p v) (u : Value) (h1 : q ≠ g) (h2 : v.ownBlock ≠ some g) : SrcAt (w.setCell ⟨g, k, none⟩ u) B q bytes p v :=
  ⟨by rw [Below.heap_setCell _ _ _ _ h1]; exact h.1, ownsRow_setCell_other h.2 h2 u⟩

set_option maxRecDepth 100000 in
theorem sTake_at (B q n : Nat) (bytes : List Nat) (p : Nat) (w : World) (hs : SrcIs w B q bytes p) (hn : n ≤ 64) (hle : p + n ≤ 8 * bytes.length) :
    Calls Try.prog 70 #[.pointer (some ⟨q, 0, none⟩), .int .i64 (n : Int)] w fun e w' => e = .returned (.int .u64 ((valAt bytes p n : Nat) : Int)) ∧ w.setCell ⟨q, 2, none⟩ (.int .i64 ((p + n : Nat) : Int)) = w' := by
  have hpos := hs.pos
  have hfree := hs.free
  have hl := hs.len
  have C := sPeek_any B q bytes p p n w hs hn hle
  clear hs
  go_enter Try.func70, Try.ntmps70
  go_wp2_with (go_at_call 69; refine C.mono ?_; rintro e w' ⟨rfl, rfl⟩)
  go_ret
  exact ⟨rfl, rfl⟩

theorem made_bytes (w : World) (k : Nat) (hk : k ≤ 140737488355328) : (w.alloc (.cells (madeCells #[.int .u8 0] k) 5)).ownsRow w.heap.size 5 1 (.slice (some ⟨w.heap.size, 0, none⟩) k k) k (byteVs (List.replicate k 0)) := by
  have e' : (madeCells #[.int .u8 0] k).toList = byteVs (List.replicate k 0) := by rw [toList_madeCells_one]; simp [byteVs]
  have hs : (madeCells #[Value.int .u8 0] k).size = k := by rw [size_madeCells]
  refine ⟨by simp [byteVs_length], .inr ⟨w.heap.size, k, _, rfl, Nat.le_refl _, heap_alloc_new _ _, Nat.le_refl _, by unfold maxLen; omega, by rw [hs]; omega, ?_⟩⟩
  rw [Nat.mul_one, List.take_of_length_le (by rw [Array.length_toList, hs]; omega)]
  exact e'

/-- The first k bytes of f, then zeros. -/
def filled (f : Nat → Nat) (V k : Nat) : List Nat := (List.range V).map fun i => if i < k then f i else 0
theorem filled_zero (f : Nat → Nat) (V : Nat) : filled f V 0 = List.replicate V 0 := by
  unfold filled
  apply List.ext_getElem <;> simp
theorem filled_full (f : Nat → Nat) (V : Nat) : filled f V V = (List.range V).map f := by
  unfold filled
  apply List.map_congr_left
  intro i hi
  simp at hi
  simp [hi]
theorem filled_length (f : Nat → Nat) (V k : Nat) : (filled f V k).length = V := by simp [filled]
theorem filled_set (f : Nat → Nat) (V k : Nat) (_hk : k < V) : (byteVs (filled f V k)).set k (.int .u8 ((f k : Nat) : Int)) = byteVs (filled f V (k + 1)) := by
  apply List.ext_getElem
  · simp [byteVs, filled]
  · intro i h1 h2
    simp [byteVs, filled] at h1 h2 ⊢
    rw [List.getElem_set]
    by_cases hik : k = i
    · subst hik; simp
    · rw [if_neg hik]
      simp only [List.getElem_map, List.getElem_range]
      by_cases hlt : i < k
      · simp [hlt, show i < k + 1 by omega]
      · simp [hlt, show ¬ i < k + 1 by omega]

theorem chunk_left (bytes : List Nat) (p i : Nat) : chunk (leftL bytes p) i = valAt bytes (p + 8 * i) 8 := by
  rw [valAt_left]; rfl

end Go.Proofs.Ytebojmjbolphfaa
