/- The bytes of an event; how things stand within a law over an event and rows of bytes. -/
import Derived.Test.YtiljekpfkkocnaaPut4
import Derived.Test.YtiljekpfkkocnaaBv
namespace Go.Proofs.Ytiljekpfkkocnaa
open Go Go.RowKit

theorem evBytes_small (ev : Ev) : ∀ c ∈ evBytes ev, c < 256 := by
  unfold evBytes; split
  · exact packed_small _
  · intro c hc; cases hc
theorem evBytes_len (ev : Ev) (hn : Wf ev.ats) : (evBytes ev).length ≤ 2000 := by
  unfold evBytes; split
  · rename_i h
    have := evBits_le ev (EvOk.of h) (fun x hx => zig_ok (hn x hx))
    have := packed_length_le (evBits ev)
    omega
  · simp

/-- How things stand within EventWrites: the event's box, its attributes, what was written. -/
structure Wx4 (w0 : World) (P : Nat) (cs : Array Value) (va : Value) (x : List At) (rows : List (Value × List Nat)) (w : World) : Prop where
  below : Below P w0 w
  sz : P < w.heap.size
  bx : w.heap[P]? = some (.cells cs 26 (0, 0))
  hx : Av w P va x
  rows : ∀ r ∈ rows, Bv w w.heap.size r.1 r.2
theorem Wx4.call {w0 : World} {P : Nat} {cs : Array Value} {va : Value} {x : List At} {rows : List (Value × List Nat)} {w w' : World} (h : Wx4 w0 P cs va x rows w) (hb : Below w.heap.size w w') : Wx4 w0 P cs va x rows w' :=
  ⟨h.below.trans (hb.mono (Nat.le_of_lt h.sz)), Nat.lt_of_lt_of_le h.sz hb.size, (hb.block P h.sz).trans h.bx, h.hx.below hb (Nat.le_of_lt h.sz), fun r hr => ((h.rows r hr).below hb (Nat.le_refl _)).mono hb.size⟩
/-- A call that changes only what lies behind the rows. -/
theorem Wx4.from_ {w0 : World} {P : Nat} {cs : Array Value} {va : Value} {x : List At} {rows : List (Value × List Nat)} {w1 w w' : World} (h1 : Wx4 w0 P cs va x rows w1) (h : Below w1.heap.size w1 w) (hb : Below w1.heap.size w w') : Wx4 w0 P cs va x rows w' := h1.call (h.trans hb)
theorem Wx4.row {w0 : World} {P : Nat} {cs : Array Value} {va : Value} {x : List At} {rows : List (Value × List Nat)} {w w' : World} (h : Wx4 w0 P cs va x rows w) (hb : Below w.heap.size w w') {v : Value} {l : List Nat} (hv : Bv w' w'.heap.size v l) : Wx4 w0 P cs va x ((v, l) :: rows) w' := by
  have hc := h.call hb
  exact ⟨hc.below, hc.sz, hc.bx, hc.hx, fun r hr => (List.mem_cons.1 hr).elim (fun e => by rw [e]; exact hv) (hc.rows r)⟩
end Go.Proofs.Ytiljekpfkkocnaa
