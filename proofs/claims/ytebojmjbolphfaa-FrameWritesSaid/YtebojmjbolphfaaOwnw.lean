/- The walk of FrameOwn. -/
import Derived.Test.YtebojmjbolphfaaFback
import Derived.Laws.OwnMore
import Derived.Maps.AppendAt
namespace Go.Proofs.Ytebojmjbolphfaa
open Go Go.RowKit Crc

theorem enc_small (f t k s a : Int) (x : List Nat) : ∀ c ∈ encN f t k s a x, c < 256 := by
  unfold encN
  split
  · exact sealed_small _ (packed_small _)
  · simp
theorem enc_len (f t k s a : Int) (x : List Nat) : (encN f t k s a x).length ≤ 140000 := by
  cases hc : ckB f t k s a x.length with
  | false => rw [encN_no hc]; simp
  | true =>
    obtain ⟨F, T, K, S, A, rfl, rfl, rfl, rfl, rfl, _, _, _, _, hS, hA, hn, _⟩ := ck_nat hc
    have := formBits_le F T K S A x hS hA (by omega)
    rw [encN_ok hc]; unfold formN headN; rw [sealed_length, packed_length]; omega
/-- What is written and read is what was given. -/
theorem dec_enc {f t k s a : Int} {x : List Nat} (hs : ∀ c ∈ x, c < 256) (hc : ckB f t k s a x.length = true) :
    decErr (encN f t k s a x) = 0 ∧ decF (encN f t k s a x) = f ∧ decT (encN f t k s a x) = t ∧ decK (encN f t k s a x) = k ∧ decS (encN f t k s a x) = s ∧ decA (encN f t k s a x) = a ∧ decX (encN f t k s a x) = x := by
  obtain ⟨F, T, K, S, A, rfl, rfl, rfl, rfl, rfl, hF, hT, _, hK, hS, hA, hn, h2⟩ := ck_nat hc
  rw [encN_ok hc]
  exact dec_form F T K S A x hF hT hK hS hA (by omega) hs (fun h => ⟨(h2 h).1, List.length_eq_zero_iff.1 (by have := (h2 h).2; omega)⟩) hc
theorem byteVs_set (l : List Nat) (j u : Nat) : (byteVs l).set j (.int .u8 (u : Int)) = byteVs (l.set j u) := by simp [byteVs, List.map_set]
theorem byteVs_at (l : List Nat) (j : Nat) (h : j < l.length) : (byteVs l)[j]? = some (.int .u8 ((l.getD j 0 : Nat) : Int)) := by simp [byteVs, h]
theorem set_small {l : List Nat} (hl : ∀ c ∈ l, c < 256) (j u : Nat) (hu : u < 256) : ∀ c ∈ l.set j u, c < 256 := fun c hc => by
  rcases List.mem_or_eq_of_mem_set hc with h | h
  · exact hl c h
  · omega
/-- A row of bytes of the call's own, in a world that has grown beside it alone: what the bytes are is open. -/
structure Row (W : World) (base : Nat) (v : Value) (n : Nat) (ys : List Nat) (w : World) : Prop where
  small : ∀ c ∈ ys, c < 256
  len : ys.length = n
  own : w.ownsRow base 5 1 v n (byteVs ys)
  grown : W.grownBy w v.ownBlock
theorem Row.at {W : World} {base : Nat} {ao : Option Addr} {n cap : Nat} {ys : List Nat} {w : World} (h : Row W base (.slice ao n cap) n ys w) {j : Nat} (hj : j < n) :
    ∃ g, ao = some ⟨g, 0, none⟩ ∧ base ≤ g ∧ w.cell? ⟨g, j, none⟩ = some (.int .u8 ((ys.getD j 0 : Nat) : Int)) ∧ w.frozen? ⟨g, j, none⟩ = false ∧ ys.getD j 0 < 256 ∧ ∀ u : Nat, u < 256 → Row W base (.slice (some ⟨g, 0, none⟩) n cap) n (ys.set j u) (w.setCell ⟨g, j, none⟩ (.int .u8 (u : Int))) := by
  have hn := h.len
  rcases h.own.2 with ⟨_, h0⟩ | ⟨g, cap', cur, h1, hb, _⟩
  · omega
  · simp only [Value.slice.injEq, true_and] at h1
    obtain ⟨rfl, rfl⟩ := h1
    refine ⟨g, rfl, hb, ?_, h.own.frozenAt j, ?_, fun u hu => ?_⟩
    · rw [h.own.cellAt j (by omega), byteVs_at ys j (by omega)]
    · rw [List.getD, List.getElem?_eq_getElem (by omega)]; exact h.small _ (List.getElem_mem _)
    · have hst := h.own.stored j (.int .u8 (u : Int))
      rw [byteVs_set] at hst
      exact ⟨set_small h.small j u hu, by simp [hn], hst.1, h.grown.trans hst.2⟩
theorem Row.new {W : World} {base : Nat} {v : Value} {ys : List Nat} (ho : W.ownsRow base 5 1 v ys.length (byteVs ys)) (hs : ∀ c ∈ ys, c < 256) : Row W base v ys.length ys W :=
  ⟨hs, rfl, ho, World.grownBy.refl _ _⟩
theorem own_ge {w : World} {base e size n g : Nat} {v : Value} {xs : List Value} (h : w.ownsRow base e size v n xs) (hg : v.ownBlock = some g) : base ≤ g ∧ g < w.heap.size := by
  rcases h.2 with ⟨rfl, _⟩ | ⟨g', cap, cur, rfl, hb, hgg, _⟩
  · simp [Value.ownBlock] at hg
  · simp [Value.ownBlock] at hg; subst hg; exact ⟨hb, lt_of_block hgg⟩
theorem own_ne {w : World} {base e size n q t : Nat} {v : Value} {xs : List Value} {cs : Array Value} {fr : Nat × Nat} (h : w.ownsRow base e size v n xs) (hq : w.heap[q]? = some (.cells cs t fr)) (hne : t ≠ e) : some q ≠ v.ownBlock := by
  rcases h.2 with ⟨rfl, _⟩ | ⟨g', cap, cur, rfl, hb, hgg, _⟩
  · simp [Value.ownBlock]
  · simp only [Value.ownBlock, ne_eq, Option.some.injEq]
    intro hk
    rw [← hk, hq] at hgg
    simp only [Option.some.injEq, Obj.cells.injEq] at hgg
    exact hne hgg.2.1

theorem own_call {w w' : World} {base e size n : Nat} {v : Value} {xs : List Value} (h : w.ownsRow base e size v n xs) (hb : Below w.heap.size w w') : w'.ownsRow base e size v n xs :=
  h.kept (row := none) ⟨hb.os, hb.tape, hb.output, hb.size, fun k hk _ => hb.block k hk⟩ (by cases v.ownBlock <;> simp)

/-- How things stand within FrameOwn: the datagram's box at P, the copy's at Q. -/
structure Oo (w0 : World) (P Q : Nat) (cs ds : Array Value) (va vw : Value) (x : List Nat) (w : World) : Prop where
  below : Below P w0 w
  lt : P < Q
  sz : Q < w.heap.size
  bx : w.heap[P]? = some (.cells cs 24 (0, 0))
  bq : w.heap[Q]? = some (.cells ds 24 (0, 0))
  hx : Bv w P va x
  hw : Bv w Q vw x
theorem Oo.keep {w0 : World} {P Q : Nat} {cs ds : Array Value} {va vw : Value} {x : List Nat} {w w' : World} (h : Oo w0 P Q cs ds va vw x w) (hb : Below (Q + 1) w w') : Oo w0 P Q cs ds va vw x w' := by
  have h1 := h.sz; have h2 := h.lt
  exact ⟨h.below.trans (hb.mono (by omega)), h.lt, Nat.lt_of_lt_of_le h.sz hb.size, (hb.block P (by omega)).trans h.bx, (hb.block Q (by omega)).trans h.bq, h.hx.below hb (by omega), h.hw.below hb (by omega)⟩
theorem Oo.call {w0 : World} {P Q : Nat} {cs ds : Array Value} {va vw : Value} {x : List Nat} {w w' : World} (h : Oo w0 P Q cs ds va vw x w) (hb : Below w.heap.size w w') : Oo w0 P Q cs ds va vw x w' :=
  h.keep (hb.mono h.sz)
theorem Oo.alloc {w0 : World} {P Q : Nat} {cs ds : Array Value} {va vw : Value} {x : List Nat} {w : World} (h : Oo w0 P Q cs ds va vw x w) (o : Obj) : Oo w0 P Q cs ds va vw x (w.alloc o) :=
  h.call ((Below.refl _ _).alloc (Nat.le_refl _) o)
theorem Oo.row {w0 : World} {P Q : Nat} {cs ds : Array Value} {va vw : Value} {x : List Nat} {W w : World} (h : Oo w0 P Q cs ds va vw x W) {base n : Nat} {v : Value} {ys : List Nat} (hr : Row W base v n ys w) (hb : Q < base) : Oo w0 P Q cs ds va vw x w :=
  h.keep ((Below.refl _ _).grown hr.grown h.sz (fun k hk => by have := (own_ge hr.own hk).1; omega))
theorem Oo.le {w0 : World} {P Q : Nat} {cs ds : Array Value} {va vw : Value} {x : List Nat} {w : World} (h : Oo w0 P Q cs ds va vw x w) : P ≤ w.heap.size := by
  have h1 := h.sz; have h2 := h.lt; omega
theorem Oo.new {w0 : World} {P : Nat} {cs : Array Value} {va vw : Value} {x : List Nat} {w : World} (h : Bo w0 P cs va x w) (ds : Array Value) (hw : Bv w w.heap.size vw x) : Oo w0 P w.heap.size cs ds va vw x (w.alloc (.cells ds 24)) :=
  ⟨(h.alloc _).below, h.sz, by simp, (h.alloc _).bx, heap_alloc_new _ _, (h.alloc _).hx, hw.below ((Below.refl _ _).alloc (Nat.le_refl _) _) (Nat.le_refl _)⟩
end Go.Proofs.Ytebojmjbolphfaa
