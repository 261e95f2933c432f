/- Contract: indexed, the index of bounds. -/
import Derived.Test.YtpbloplbpkedcaaPi9
namespace Go.Proofs.Ytpbloplbpkedcaa
open Go Go.RowKit Go.Sort Go.Maps Go.WideMaps

/-- How the index stands while it is built: its two maps behind P, and all that does not turn. -/
structure IxS (P : Nat) (w u1 : World) (F : Nm → Option Nat) (G : Nat → ByteArray → Option (Vl × Vl)) (nF nG : Nat) (u : World) : Prop where
  m1 : ∃ D, u.ownsMap Try.prog 9 (plainElem (H := Unit) Try.prog 3) (P + 1) nF D ∧ MapF D F
  m2 : ∃ D, u.ownsMap Try.prog 125 fndE (P + 1 + 1) nG D ∧ MapG D G
  size : u1.heap.size ≤ u.heap.size
  block : ∀ x, x < u1.heap.size → x ≠ P + 1 → x ≠ P + 1 + 1 → u.heap[x]? = u1.heap[x]?
  below : Below P w u
  hp : P + 1 + 1 + 1 < u1.heap.size
theorem IxS.later {P : Nat} {w u1 : World} {F : Nm → Option Nat} {G : Nat → ByteArray → Option (Vl × Vl)} {nF nG : Nat} {u u' : World} (h : IxS P w u1 F G nF nG u) (hb : Below u.heap.size u u') : IxS P w u1 F G nF nG u' := by
  obtain ⟨⟨D1, h1, h2⟩, ⟨D2, h3, h4⟩, h5, h6, h7, h8⟩ := h
  exact ⟨⟨D1, owns_below9 h1 (hb.block _ h1.lt), h2⟩, ⟨D2, owns_below9 h3 (hb.block _ h3.lt), h4⟩, Nat.le_trans h5 hb.size, fun x hx a b => (hb.block x (by omega)).trans (h6 x hx a b), h7.trans (hb.mono (by omega)), h8⟩
theorem IxS.put1 {P : Nat} {w u1 : World} {F : Nm → Option Nat} {G : Nat → ByteArray → Option (Vl × Vl)} {nF nG : Nat} {u u' : World} {D : DataW Unit} {x : Nm} {i : Nat} (h : IxS P w u1 F G nF nG u) (hD : MapF D F)
    (ho : u'.ownsMap Try.prog 9 (plainElem (H := Unit) Try.prog 3) (P + 1) (nF + 1) (D.put (.string x) (.lit (.int .i64 (i : Int))))) (hg : u.grownBy u' (some (P + 1))) : IxS P w u1 (updF F x i) G (nF + 1) nG u' := by
  obtain ⟨_, ⟨D2, h3, h4⟩, h5, h6, h7, h8⟩ := h
  exact ⟨⟨_, ho, hD.put ho.isMap⟩, ⟨D2, h3.kept hg (by simp), h4⟩, Nat.le_trans h5 hg.size, fun y hy a b => (hg.block y (by omega) (by simpa using a)).trans (h6 y hy a b), h7.grown hg (by omega) (fun k hk => by cases hk; omega), h8⟩
theorem IxS.put2 {P : Nat} {w u1 : World} {F : Nm → Option Nat} {G : Nat → ByteArray → Option (Vl × Vl)} {nF nG : Nat} {u u' : World} {D : DataW Unit} {i : Nat} {a : ByteArray} {x y : Vl} (h : IxS P w u1 F G nF nG u) (hD : MapG D G) (hi : i ≤ 140737488355328) (ha : a.size ≤ maxLen)
    (ho : u'.ownsMap Try.prog 125 fndE (P + 1 + 1) (nG + 1) (D.put (spotK i a) (fndD x y))) (hg : u.grownBy u' (some (P + 1 + 1))) : IxS P w u1 F (updG G i a (x, y)) nF (nG + 1) u' := by
  obtain ⟨⟨D1, h1, h2⟩, _, h5, h6, h7, h8⟩ := h
  exact ⟨⟨D1, h1.kept hg (by simp), h2⟩, ⟨_, ho, hD.put hi ha ho.isMap⟩, Nat.le_trans h5 hg.size, fun y hy a b => (hg.block y (by omega) (by simpa using b)).trans (h6 y hy a b), h7.grown hg (by omega) (fun k hk => by cases hk; omega), h8⟩
theorem made9 {H : Type} {u : World} {b : Nat} (h : u.heap[b]? = some (.map #[] 0)) (k : TypeId) (R : Value → Option (DataW H × List MemPlace)) : u.ownsMap Try.prog k R b 0 (.map []) := by
  obtain ⟨es, c, h4, h5⟩ := World.ownsMap_made u Try.prog k R
  have e : some (Obj.map es c) = some (Obj.map #[] 0) := h4.symm.trans (heap_alloc_new u _)
  injection e with e
  injection e with e1 e2
  subst e1 e2
  exact ⟨_, _, h, h5⟩
/-- The drawn region of the index: what all its loads want stays whatever comes up. -/
structure Hd9 (P A mo : Nat) (k r : Nat) (y : At) (u : World) : Prop where
  x1 : u.cell? ⟨P + 1 + 1 + 1, 1, none⟩ = some (.map (some (P + 1 + 1)))
  s0 : u.cell? ⟨A + 1, 0, none⟩ = some (.int .i64 (k : Int))
  s1 : u.cell? ⟨A + 1, 1, none⟩ = some (.string y.name)
  a1 : u.cell? ⟨A, 1, none⟩ = some (.int .i64 y.k)
  a2 : u.cell? ⟨A, 2, none⟩ = some (.int .i64 y.n)
  a3 : u.cell? ⟨A, 3, none⟩ = some (.string y.s)
  lk : (Instr.lookup 85 (.map (some mo)) (.string y.s) false).run Try.prog u = .ok (.int .i64 (r : Int)) u
theorem rk_lookup {w u : World} {mo : Nat} {L : List Nm} {s : ByteArray} (h : RkAt w mo L) (hp : L.Pairwise (fun x y => x < y)) (hs : nb s ∈ L) (hz : s.size ≤ maxLen) (hu : u.heap[mo]? = w.heap[mo]?) :
    (Instr.lookup 85 (.map (some mo)) (.string s) false).run Try.prog u = .ok (.int .i64 (rankIn L (nb s) : Int)) u := by
  obtain ⟨n, D, ho, hat⟩ := h.below hu
  obtain ⟨c, hrun, hc, _⟩ := ho.lookup_int lawS9 Try.underlying85 Try.underlying3 (zeroI u) (keyOf_string_mk (P := Try.prog) (k := 9) Try.underlying9 hz)
  obtain ⟨i, hi, e⟩ := List.mem_iff_getElem.1 hs
  have h2 := hat i hi
  rw [e] at h2
  have h3 : c = (i : Int) := lit_inj9 (hc.symm.trans h2)
  rw [hrun, h3, ← e, rank_at hp hi]
end Go.Proofs.Ytpbloplbpkedcaa
