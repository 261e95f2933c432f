/- Flags: append of flags; how things stand while the document writes an event. -/
import Derived.Test.YthjhbnfedelniaaEc
import Derived.Test.YthjhbnfedelniaaFm4
import Derived.Test.YthjhbnfedelniaaPack
import Derived.Deep.RegionHeld3
namespace Go.Proofs.Ythjhbnfedelniaa
open Go Go.RowKit

theorem flags_pos {w : World} {B : Nat} {v : Value} {bs : List Bool} (h : Flags w B v bs) (hp : 0 < bs.length) : ∃ g cap, v = .slice (some ⟨g, 0, none⟩) bs.length cap := by
  rcases h.2 with ⟨_, h0⟩ | ⟨g, cap, cur, hv, _⟩
  · omega
  · exact ⟨g, cap, hv⟩
/-- Another row of flags, of a later block, is left by an append. -/
theorem Flags.other {w w' : World} {B B' : Nat} {v v' : Value} {l l' : List Bool} (h : Flags w B v l) (_ho : Flags w B' v' l') (hlt : ∀ k, v'.ownBlock = some k → k < B) (hg : w.grownBy w' v'.ownBlock) : Flags w' B v l := by
  refine ⟨h.1, ?_⟩
  rcases h.2 with hn | ⟨g, cap, cur, rfl, hb, hgg, rest⟩
  · exact .inl hn
  · refine .inr ⟨g, cap, cur, rfl, hb, ?_, rest⟩
    rw [hg.block g (lt_of_block hgg) ?_]; · exact hgg
    intro hk
    have := hlt g hk.symm
    omega
theorem Flags.drew {w : World} {B : Nat} {v : Value} {l : List Bool} (h : Flags w B v l) : Flags w.drew B v l := h
theorem own_lt_new {w : World} {B : Nat} {v : Value} {l : List Bool} (h : Flags w B v l) : ∀ k, v.ownBlock = some k → k < w.heap.size := fun k hk => (h.lt k hk).2

/-- append(flags, flags..), as one step of a region that draws its order. -/
theorem step_append_flags {ops : Array Oper} {o : Oper} {a : Act} {w : World} {K : Act → World → Prop} {Q : Exit → Act → World → Prop} {E : Prop}
    (hg : o.guard = none) (s x : Operand) (hop : o.op = Op.call { callee := Callee.builtin Builtin.append, args := #[s, x], argTypes := #[45, 45] })
    (B B' : Nat) (v v' : Value) (l l' : List Bool) (hs : a.eval s = v) (hx : a.eval x = v') (hv : Flags w B v l) (hv' : Flags w B' v' l') (hlen : l.length + l'.length ≤ 1048576) (hB : B ≤ w.heap.size) (hpos : 0 < l'.length)
    (hK : ∀ g cap n w', Flags w' B (.slice (some ⟨g, 0, none⟩) n cap) (l ++ l') → w.grownBy w' v.ownBlock → K (a.put o.dst (.slice (some ⟨g, 0, none⟩) n cap)) w') :
    if Region.wanted o (yielded ops a.tmps) = true then Oper.wp Try.prog o a w K Q else E := by
  obtain ⟨i0, hi, hz0, hz1, hz2⟩ := info_parts Try.info4
  obtain ⟨g', cap', rfl⟩ := flags_pos hv' hpos
  refine step_append_own hg s x 45 hop B 4 i0 (.bool false) 1 1 Try.underlying45 hi hz0 hz1 hz2 rfl (by decide) v l.length (boolVs l) hs hv ⟨g', 0, none⟩ l'.length cap' (boolVs l') hx (by rw [boolVs_length, Nat.mul_one]) (hv'.cells (g := g') rfl) (boolVs_one _) (by unfold maxLen; omega) (by omega) hB (fun v3 w3 h1 h2 => ?_)
  rw [← boolVs_append, ← List.length_append] at h1
  obtain ⟨g, cap, rfl⟩ := flags_pos h1 (by rw [List.length_append]; omega)
  exact hK g cap _ w3 h1 h2
/-- append(flags, flags..). -/
theorem wpList_append_flags {ops : Array Oper} {rest : List Oper} {o : Oper} {a : Act} {w : World} {Q : Exit → Act → World → Prop} (hgd : o.guard = none) (s x : Operand)
    (hop : o.op = Op.call { callee := Callee.builtin Builtin.append, args := #[s, x], argTypes := #[45, 45] })
    (B B' : Nat) (v v' : Value) (l l' : List Bool) (hs : a.eval s = v) (hx : a.eval x = v') (hv : Flags w B v l) (hv' : Flags w B' v' l') (hlen : l.length + l'.length ≤ 1048576) (hB : B ≤ w.heap.size) (hpos : 0 < l'.length)
    (hK : ∀ g cap n w', Flags w' B (.slice (some ⟨g, 0, none⟩) n cap) (l ++ l') → w.grownBy w' v.ownBlock → wpList Try.prog ops Q rest (a.put o.dst (.slice (some ⟨g, 0, none⟩) n cap)) w') : wpList Try.prog ops Q (o :: rest) a w := by
  obtain ⟨i0, hi, hz0, hz1, hz2⟩ := info_parts Try.info4
  obtain ⟨g', cap', rfl⟩ := flags_pos hv' hpos
  refine wpList_append_own w hgd s x 45 hop B 4 i0 (.bool false) 1 1 Try.underlying45 hi hz0 hz1 hz2 rfl (by decide) v l.length (boolVs l) hs hv ⟨g', 0, none⟩ l'.length cap' (boolVs l') hx (by rw [boolVs_length, Nat.mul_one]) (hv'.cells (g := g') rfl) (boolVs_one _) (by unfold maxLen; omega) (by omega) hB (fun v3 w3 h1 h2 _ => ?_)
  rw [← boolVs_append, ← List.length_append] at h1
  obtain ⟨g, cap, rfl⟩ := flags_pos h1 (by rw [List.length_append]; omega)
  exact hK g cap _ w3 h1 h2

/-- How things stand while an event is written: boxes that lie apart, the attributes, the flags so far. -/
structure He (w0 : World) (P : Nat) (bx : List (Nat × Array Value × Nat)) (va : Value) (x : List At) (w : World) (v : Value) (l : List Bool) : Prop where
  below : Below P w0 w
  size : P ≤ w.heap.size
  boxes : ∀ p ∈ bx, w.heap[p.1]? = some (.cells p.2.1 p.2.2 (0, 0)) ∧ p.2.2 ≠ 4
  body : Av w P va x
  flags : Flags w P v l
theorem He.call {w0 : World} {P : Nat} {bx : List (Nat × Array Value × Nat)} {va : Value} {x : List At} {w w' : World} {v : Value} {l : List Bool} (h : He w0 P bx va x w v l) (hb : Below w.heap.size w w') : He w0 P bx va x w' v l :=
  ⟨h.below.trans (hb.mono h.size), Nat.le_trans h.size hb.size, fun p hp => ⟨(hb.block p.1 (lt_of_block (h.boxes p hp).1)).trans (h.boxes p hp).1, (h.boxes p hp).2⟩, h.body.below hb h.size, h.flags.below hb (Nat.le_refl _)⟩
theorem He.drew {w0 : World} {P : Nat} {bx : List (Nat × Array Value × Nat)} {va : Value} {x : List At} {w : World} {v : Value} {l : List Bool} (h : He w0 P bx va x w v l) : He w0 P bx va x w.drew v l := h.call ((Below.refl _ _).drew)
theorem He.fresh {w0 : World} {P : Nat} {bx : List (Nat × Array Value × Nat)} {va : Value} {x : List At} {w w' : World} {v v' : Value} {l l' : List Bool} (h : He w0 P bx va x w v l) (hb : Below w.heap.size w w') (hf : Flags w' w.heap.size v' l') : He w0 P bx va x w' v' l' :=
  ⟨(h.call hb).below, (h.call hb).size, (h.call hb).boxes, (h.call hb).body, hf.lower h.size⟩
theorem He.grow {w0 : World} {P : Nat} {bx : List (Nat × Array Value × Nat)} {va : Value} {x : List At} {w w' : World} {v v' : Value} {l l' : List Bool} (h : He w0 P bx va x w v l) (hg : w.grownBy w' v.ownBlock) (hf : Flags w' P v' l') : He w0 P bx va x w' v' l' := by
  have hlt : ∀ k, v.ownBlock = some k → P ≤ k := fun k hk => (World.ownsRow.lt h.flags k hk).1
  refine ⟨h.below.grown hg h.size hlt, Nat.le_trans h.size hg.size, fun p hp => ⟨grow_keeps (h.boxes p hp).1 h.flags (h.boxes p hp).2 hg rfl, (h.boxes p hp).2⟩, h.body.keep (fun b o hb => ?_), hf⟩
  have := h.size
  exact World.cell?_of_block (hg.block b (by omega) (fun e => by have := hlt b e.symm; omega))
theorem He.box {w0 : World} {P : Nat} {bx : List (Nat × Array Value × Nat)} {va : Value} {x : List At} {w : World} {v : Value} {l : List Bool} (h : He w0 P bx va x w v l) (cs : Array Value) (t : Nat) (ht : t ≠ 4) : He w0 P ((w.heap.size, cs, t) :: bx) va x (w.alloc (.cells cs t)) v l := by
  have hb := (Below.refl w.heap.size w).alloc (Nat.le_refl _) (.cells cs t)
  refine ⟨(h.call hb).below, (h.call hb).size, fun p hp => ?_, (h.call hb).body, (h.call hb).flags⟩
  rcases List.mem_cons.1 hp with rfl | hp
  · exact ⟨heap_alloc_new w _, ht⟩
  · exact (h.call hb).boxes p hp
theorem He.unbox {w0 : World} {P : Nat} {p : Nat × Array Value × Nat} {bx : List (Nat × Array Value × Nat)} {va : Value} {x : List At} {w : World} {v : Value} {l : List Bool} (h : He w0 P (p :: bx) va x w v l) : He w0 P bx va x w v l :=
  ⟨h.below, h.size, fun q hq => h.boxes q (List.mem_cons_of_mem _ hq), h.body, h.flags⟩
end Go.Proofs.Ythjhbnfedelniaa
