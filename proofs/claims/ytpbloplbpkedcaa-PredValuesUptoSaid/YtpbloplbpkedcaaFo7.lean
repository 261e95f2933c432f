/- Trees and conditions as data, and how they lie in memory. -/
import Derived.Test.YtpbloplbpkedcaaLaw
namespace Go.Proofs.Ytpbloplbpkedcaa
open Go Go.RowKit

def em : ByteArray := ⟨#[]⟩
structure Opd where
  var : ByteArray
  attr : ByteArray
  vk : Int
  vn : Int
  vs : ByteArray
  deriving DecidableEq
structure Cnd where
  left : Opd
  rel : Int
  right : Opd
  deriving DecidableEq
/-- What a node holds itself. -/
structure Nt where
  kind : Int
  var : ByteArray
  ty : ByteArray
  tests : List Cnd
  deriving DecidableEq
/-- A row of nodes, each with its kids. -/
inductive Fo where
  | nil
  | cons (d : Nt) (kids next : Fo)
  deriving DecidableEq
def Fo.len : Fo → Nat
  | .nil => 0
  | .cons _ _ n => n.len + 1
def Fo.isNil : Fo → Bool
  | .nil => true
  | .cons _ _ _ => false
theorem Fo.isNil_len (f : Fo) : f.isNil = decide (f.len = 0) := by cases f <;> simp [Fo.isNil, Fo.len]
/-- Each node of a row, and each below, has a property that follows from its kids having it. -/
def Fo.All (p : Nt → Fo → Prop) : Fo → Prop
  | .nil => True
  | .cons d k n => p d k ∧ Fo.All p n
theorem Fo.all_of {p : Nt → Fo → Prop} (h : ∀ d k, Fo.All p k → p d k) : ∀ f, Fo.All p f
  | .nil => trivial
  | .cons d k n => ⟨h d k (Fo.all_of h k), Fo.all_of h n⟩
theorem Fo.node_ind {p : Nt → Fo → Prop} (h : ∀ d k, Fo.All p k → p d k) (d : Nt) (k : Fo) : p d k := h d k (Fo.all_of h k)

/-- How much a tree holds. -/
def szO (o : Opd) : Nat := o.var.size + o.attr.size + o.vs.size + 1
def szC (c : Cnd) : Nat := szO c.left + szO c.right + 1
def szT : List Cnd → Nat
  | [] => 0
  | c :: r => szC c + szT r
def szD (d : Nt) : Nat := d.var.size + d.ty.size + szT d.tests + 1
def szF : Fo → Nat
  | .nil => 0
  | .cons d k n => szD d + szF k + szF n
theorem szT_len : ∀ l : List Cnd, 3 * l.length ≤ szT l
  | [] => Nat.le_refl _
  | c :: r => by have := szT_len r; simp only [szT, szC, szO, List.length_cons]; omega
theorem szT_mem : ∀ {l : List Cnd} {c : Cnd}, c ∈ l → szC c ≤ szT l
  | c :: r, x, h => by
    rcases List.mem_cons.1 h with rfl | h
    · simp only [szT]; omega
    · have := szT_mem h; simp only [szT]; omega
theorem szF_len : ∀ f : Fo, f.len ≤ szF f
  | .nil => Nat.le_refl _
  | .cons d k n => by have := szF_len n; simp only [szF, Fo.len, szD]; omega

def encO (o : Opd) : List Value := [.string o.var, .string o.attr, .int .i64 o.vk, .int .i64 o.vn, .string o.vs]
def encC (c : Cnd) : List Value := [.string c.left.var, .string c.left.attr, .int .i64 c.left.vk, .int .i64 c.left.vn, .string c.left.vs, .int .i64 c.rel, .string c.right.var, .string c.right.attr, .int .i64 c.right.vk, .int .i64 c.right.vn, .string c.right.vs]
theorem encC_len (c : Cnd) : (encC c).length = 11 := rfl
def opV (o : Opd) : Value := .agg #[.string o.var, .string o.attr, .int .i64 o.vk, .int .i64 o.vn, .string o.vs]
def cdV (c : Cnd) : Value := .agg #[.string c.left.var, .string c.left.attr, .int .i64 c.left.vk, .int .i64 c.left.vn, .string c.left.vs, .int .i64 c.rel, .string c.right.var, .string c.right.attr, .int .i64 c.right.vk, .int .i64 c.right.vn, .string c.right.vs]
def ndV (d : Nt) (tv kv : Value) : Value := .agg #[.int .i64 d.kind, .string d.var, .string d.ty, tv, kv]

/-- A row of conditions at an address. -/
def CdAt (w : World) : List Cnd → Nat → Nat → Prop
  | [], _, _ => True
  | c :: r, b, o => (∀ j u, (encC c)[j]? = some u → w.cell? ⟨b, o + j, none⟩ = some u) ∧ CdAt w r b (o + 11)
/-- A slice of conditions, in blocks of G. -/
def CdV (w : World) (G : Nat → Prop) (v : Value) (l : List Cnd) : Prop :=
  ∃ ao cap, v = .slice ao l.length cap ∧ (l ≠ [] → ∃ b o, ao = some ⟨b, o, none⟩ ∧ G b ∧ CdAt w l b o)
/-- A row of nodes at an address, all below in blocks of G. -/
def FoAt (w : World) (G : Nat → Prop) : Fo → Nat → Nat → Prop
  | .nil, _, _ => True
  | .cons d k n, b, o => (∃ ta tc ka kc, w.cell? ⟨b, o, none⟩ = some (.int .i64 d.kind) ∧ w.cell? ⟨b, o + 1, none⟩ = some (.string d.var) ∧ w.cell? ⟨b, o + 2, none⟩ = some (.string d.ty) ∧
      w.cell? ⟨b, o + 3, none⟩ = some (.slice ta d.tests.length tc) ∧ w.cell? ⟨b, o + 4, none⟩ = some (.slice ka k.len kc) ∧
      CdV w G (.slice ta d.tests.length tc) d.tests ∧ (k.isNil = false → ∃ b' o', ka = some ⟨b', o', none⟩ ∧ G b' ∧ FoAt w G k b' o')) ∧ FoAt w G n b (o + 5)
/-- A slice of nodes. -/
def KdV (w : World) (G : Nat → Prop) (v : Value) (k : Fo) : Prop := ∃ ka kc, v = .slice ka k.len kc ∧ (k.isNil = false → ∃ b o, ka = some ⟨b, o, none⟩ ∧ G b ∧ FoAt w G k b o)
/-- A node behind an address. -/
def NdP (w : World) (G : Nat → Prop) (d : Nt) (k : Fo) (b o : Nat) : Prop :=
  ∃ ta tc ka kc, w.cell? ⟨b, o, none⟩ = some (.int .i64 d.kind) ∧ w.cell? ⟨b, o + 1, none⟩ = some (.string d.var) ∧ w.cell? ⟨b, o + 2, none⟩ = some (.string d.ty) ∧
      w.cell? ⟨b, o + 3, none⟩ = some (.slice ta d.tests.length tc) ∧ w.cell? ⟨b, o + 4, none⟩ = some (.slice ka k.len kc) ∧
      CdV w G (.slice ta d.tests.length tc) d.tests ∧ (k.isNil = false → ∃ b' o', ka = some ⟨b', o', none⟩ ∧ G b' ∧ FoAt w G k b' o')
theorem FoAt.cons {w : World} {G : Nat → Prop} {d : Nt} {k n : Fo} {b o : Nat} (h : FoAt w G (.cons d k n) b o) : NdP w G d k b o ∧ FoAt w G n b (o + 5) := h
/-- A node as a value. -/
def NdV (w : World) (G : Nat → Prop) (d : Nt) (k : Fo) (v : Value) : Prop := ∃ tv kv, v = ndV d tv kv ∧ CdV w G tv d.tests ∧ KdV w G kv k

/-- The blocks of G are in w' as they are in w. -/
def Keep (G : Nat → Prop) (w w' : World) : Prop := ∀ b, G b → w'.heap[b]? = w.heap[b]?
theorem Keep.refl (G : Nat → Prop) (w : World) : Keep G w w := fun _ _ => rfl
theorem Keep.trans {G : Nat → Prop} {a b c : World} (h : Keep G a b) (k : Keep G b c) : Keep G a c := fun x hx => (k x hx).trans (h x hx)
theorem Keep.mono {G H : Nat → Prop} {a b : World} (h : Keep G a b) (k : ∀ x, H x → G x) : Keep H a b := fun x hx => h x (k x hx)
theorem Keep.cell {G : Nat → Prop} {a b : World} (h : Keep G a b) {x o : Nat} (hx : G x) : b.cell? ⟨x, o, none⟩ = a.cell? ⟨x, o, none⟩ := by
  simp only [World.cell?, h x hx]
theorem Keep.of_below {B : Nat} {a b : World} (h : Below B a b) : Keep (fun x => x < B) a b := fun x hx => h.block x hx
theorem Keep.drew {G : Nat → Prop} {a b : World} (h : Keep G a b) : Keep G a b.drew := h
theorem Keep.drewN {G : Nat → Prop} {a b : World} (h : Keep G a b) (n : Nat) : Keep G a (b.drewN n) := h
theorem CdAt.keep {w w' : World} {G : Nat → Prop} (h : Keep G w w') : ∀ {l : List Cnd} {b o : Nat}, G b → CdAt w l b o → CdAt w' l b o
  | [], _, _, _, _ => trivial
  | _ :: _, _, _, hb, hc => ⟨fun j u hu => (h.cell hb).trans (hc.1 j u hu), CdAt.keep h hb hc.2⟩
theorem CdV.keep {w w' : World} {G : Nat → Prop} {v : Value} {l : List Cnd} (hc : CdV w G v l) (h : Keep G w w') : CdV w' G v l := by
  obtain ⟨ao, cap, rfl, hh⟩ := hc
  refine ⟨ao, cap, rfl, fun hl => ?_⟩
  obtain ⟨b, o, rfl, hb, ha⟩ := hh hl
  exact ⟨b, o, rfl, hb, CdAt.keep h hb ha⟩
theorem FoAt.keep {w w' : World} {G : Nat → Prop} (h : Keep G w w') : ∀ {f : Fo} {b o : Nat}, G b → FoAt w G f b o → FoAt w' G f b o
  | .nil, _, _, _, _ => trivial
  | .cons d k n, b, o, hb, ⟨⟨ta, tc, ka, kc, c0, c1, c2, c3, c4, ht, hk⟩, hn⟩ => by
    refine ⟨⟨ta, tc, ka, kc, (h.cell hb).trans c0, (h.cell hb).trans c1, (h.cell hb).trans c2, (h.cell hb).trans c3, (h.cell hb).trans c4, ht.keep h, fun hh => ?_⟩, FoAt.keep h hb hn⟩
    obtain ⟨b', o', e, hb', hf⟩ := hk hh
    exact ⟨b', o', e, hb', FoAt.keep h hb' hf⟩
theorem KdV.keep {w w' : World} {G : Nat → Prop} {v : Value} {k : Fo} (hk : KdV w G v k) (h : Keep G w w') : KdV w' G v k := by
  obtain ⟨ka, kc, rfl, hh⟩ := hk
  refine ⟨ka, kc, rfl, fun hn => ?_⟩
  obtain ⟨b, o, e, hb, hf⟩ := hh hn
  exact ⟨b, o, e, hb, FoAt.keep h hb hf⟩
theorem NdP.keep {w w' : World} {G : Nat → Prop} {d : Nt} {k : Fo} {b o : Nat} (hd : NdP w G d k b o) (h : Keep G w w') (hb : w'.heap[b]? = w.heap[b]?) : NdP w' G d k b o := by
  obtain ⟨ta, tc, ka, kc, c0, c1, c2, c3, c4, ht, hk⟩ := hd
  have e : ∀ o, w'.cell? ⟨b, o, none⟩ = w.cell? ⟨b, o, none⟩ := fun o => by simp only [World.cell?, hb]
  refine ⟨ta, tc, ka, kc, (e _).trans c0, (e _).trans c1, (e _).trans c2, (e _).trans c3, (e _).trans c4, ht.keep h, fun hh => ?_⟩
  obtain ⟨b', o', e', hb', hf⟩ := hk hh
  exact ⟨b', o', e', hb', FoAt.keep h hb' hf⟩
theorem NdV.keep {w w' : World} {G : Nat → Prop} {d : Nt} {k : Fo} {v : Value} (hd : NdV w G d k v) (h : Keep G w w') : NdV w' G d k v := by
  obtain ⟨tv, kv, rfl, ht, hk⟩ := hd
  exact ⟨tv, kv, rfl, ht.keep h, hk.keep h⟩
/-- A node handed over as a value, laid into a block of its own. -/
theorem NdV.shape {w : World} {G : Nat → Prop} {d : Nt} {k : Fo} {v : Value} (h : NdV w G d k v) :
    ∃ ta tc ka kc, v = .agg #[.int .i64 d.kind, .string d.var, .string d.ty, .slice ta d.tests.length tc, .slice ka k.len kc] := by
  obtain ⟨tv, kv, rfl, ⟨ta, tc, rfl, _⟩, ⟨ka, kc, rfl, _⟩⟩ := h
  exact ⟨ta, tc, ka, kc, rfl⟩
theorem NdV.inj {w : World} {G : Nat → Prop} {d : Nt} {k : Fo} {ta ka : Option Addr} {tc kc : Nat} (h : NdV w G d k (.agg #[.int .i64 d.kind, .string d.var, .string d.ty, .slice ta d.tests.length tc, .slice ka k.len kc])) :
    CdV w G (.slice ta d.tests.length tc) d.tests ∧ (k.isNil = false → ∃ b o, ka = some ⟨b, o, none⟩ ∧ G b ∧ FoAt w G k b o) := by
  obtain ⟨tv, kv, he, ht, ⟨ka', kc', rfl, hk⟩⟩ := h
  simp only [ndV, Value.agg.injEq, Array.mk.injEq, List.cons.injEq, Value.slice.injEq, and_true, true_and] at he
  obtain ⟨rfl, rfl, rfl⟩ := he
  exact ⟨ht, hk⟩
theorem NdP.of_box {w w' : World} {G : Nat → Prop} {d : Nt} {k : Fo} {v : Value} {q : Nat} {cs : Array Value} {t : TypeId} (h : NdV w G d k v) (hG : Keep G w w') (hv : v = .agg cs) (hq : w'.heap[q]? = some (.cells cs t (0, 0))) : NdP w' G d k q 0 := by
  obtain ⟨ta, tc, ka, kc, rfl⟩ := h.shape
  obtain ⟨ht, hk⟩ := h.inj
  simp only [Value.agg.injEq] at hv
  subst hv
  refine ⟨ta, tc, ka, kc, ?_, ?_, ?_, ?_, ?_, ht.keep hG, fun hh => ?_⟩
  · simp [World.cell?, hq]
  · simp [World.cell?, hq]
  · simp [World.cell?, hq]
  · simp [World.cell?, hq]
  · simp [World.cell?, hq]
  · obtain ⟨b, o, e, hb, hf⟩ := hk hh
    exact ⟨b, o, e, hb, FoAt.keep hG hb hf⟩
theorem NdP.val {w : World} {G : Nat → Prop} {d : Nt} {k : Fo} {b o : Nat} (h : NdP w G d k b o) : ∃ ta tc ka kc, w.cell? ⟨b, o, none⟩ = some (.int .i64 d.kind) ∧ w.cell? ⟨b, o + 1, none⟩ = some (.string d.var) ∧ w.cell? ⟨b, o + 2, none⟩ = some (.string d.ty) ∧
      w.cell? ⟨b, o + 3, none⟩ = some (.slice ta d.tests.length tc) ∧ w.cell? ⟨b, o + 4, none⟩ = some (.slice ka k.len kc) ∧ NdV w G d k (.agg #[.int .i64 d.kind, .string d.var, .string d.ty, .slice ta d.tests.length tc, .slice ka k.len kc]) := by
  obtain ⟨ta, tc, ka, kc, c0, c1, c2, c3, c4, ht, hk⟩ := h
  exact ⟨ta, tc, ka, kc, c0, c1, c2, c3, c4, _, _, rfl, ht, ka, kc, rfl, hk⟩
theorem CdV.mono {w : World} {G H : Nat → Prop} {v : Value} {l : List Cnd} (h : CdV w G v l) (hk : ∀ x, G x → H x) : CdV w H v l := by
  obtain ⟨ao, cap, rfl, hh⟩ := h
  refine ⟨ao, cap, rfl, fun hl => ?_⟩
  obtain ⟨b, o, e, hb, hc⟩ := hh hl
  exact ⟨b, o, e, hk b hb, hc⟩
theorem FoAt.mono {w : World} {G H : Nat → Prop} (hk : ∀ x, G x → H x) : ∀ {f : Fo} {b o : Nat}, FoAt w G f b o → FoAt w H f b o
  | .nil, _, _, _ => trivial
  | .cons d k n, b, o, ⟨⟨ta, tc, ka, kc, c0, c1, c2, c3, c4, ht, hkk⟩, hn⟩ => by
    refine ⟨⟨ta, tc, ka, kc, c0, c1, c2, c3, c4, ht.mono hk, fun hh => ?_⟩, FoAt.mono hk hn⟩
    obtain ⟨b', o', e, hb', hf⟩ := hkk hh
    exact ⟨b', o', e, hk _ hb', FoAt.mono hk hf⟩
theorem NdP.mono {w : World} {G H : Nat → Prop} {d : Nt} {k : Fo} {b o : Nat} (h : NdP w G d k b o) (hk : ∀ x, G x → H x) : NdP w H d k b o := by
  obtain ⟨ta, tc, ka, kc, c0, c1, c2, c3, c4, ht, hkk⟩ := h
  refine ⟨ta, tc, ka, kc, c0, c1, c2, c3, c4, ht.mono hk, fun hh => ?_⟩
  obtain ⟨b', o', e, hb', hf⟩ := hkk hh
  exact ⟨b', o', e, hk _ hb', FoAt.mono hk hf⟩
theorem NdV.mono {w : World} {G H : Nat → Prop} {d : Nt} {k : Fo} {v : Value} (h : NdV w G d k v) (hk : ∀ x, G x → H x) : NdV w H d k v := by
  obtain ⟨tv, kv, rfl, ht, ka, kc, rfl, hkk⟩ := h
  refine ⟨tv, _, rfl, ht.mono hk, ka, kc, rfl, fun hh => ?_⟩
  obtain ⟨b', o', e, hb', hf⟩ := hkk hh
  exact ⟨b', o', e, hk _ hb', FoAt.mono hk hf⟩
/-- The node at an index of a row. -/
def Fo.drop : Fo → Nat → Fo
  | f, 0 => f
  | .nil, _ + 1 => .nil
  | .cons _ _ n, i + 1 => n.drop i
theorem Fo.drop_zero (f : Fo) : f.drop 0 = f := by cases f <;> rfl
theorem Fo.len_drop : ∀ (f : Fo) (i : Nat), (f.drop i).len = f.len - i
  | f, 0 => by rw [Fo.drop_zero]; rfl
  | .nil, _ + 1 => by simp [Fo.drop, Fo.len]
  | .cons d k n, i + 1 => by show (n.drop i).len = n.len + 1 - (i + 1); rw [Fo.len_drop n i]; omega
theorem Fo.drop_cons : ∀ {f : Fo} {i : Nat}, i < f.len → ∃ d k, f.drop i = .cons d k (f.drop (i + 1))
  | .nil, i, h => absurd h (Nat.not_lt_zero _)
  | .cons d k n, 0, _ => ⟨d, k, by simp [Fo.drop, Fo.drop_zero]⟩
  | .cons d k n, i + 1, h => by
    obtain ⟨d', k', e⟩ := Fo.drop_cons (f := n) (i := i) (by simp only [Fo.len] at h; omega)
    exact ⟨d', k', by simpa [Fo.drop] using e⟩
theorem Fo.drop_end {f : Fo} {i : Nat} (h : f.len ≤ i) : f.drop i = .nil := by
  have := Fo.len_drop f i
  cases hh : f.drop i with
  | nil => rfl
  | cons d k n => rw [hh] at this; simp only [Fo.len] at this; omega
theorem FoAt.drop {w : World} {G : Nat → Prop} : ∀ {f : Fo} {b o : Nat} (i : Nat), FoAt w G f b o → FoAt w G (f.drop i) b (o + i * 5)
  | f, b, o, 0, h => by rw [Fo.drop_zero]; simpa using h
  | .nil, _, _, _ + 1, _ => trivial
  | .cons d k n, b, o, i + 1, h => by
    have := FoAt.drop i h.2
    rw [show o + 5 + i * 5 = o + (i + 1) * 5 by omega] at this
    exact this
theorem Fo.All.drop {p : Nt → Fo → Prop} : ∀ {f : Fo} (i : Nat), Fo.All p f → Fo.All p (f.drop i)
  | f, 0, h => by rw [Fo.drop_zero]; exact h
  | .nil, _ + 1, _ => trivial
  | .cons _ _ n, i + 1, h => Fo.All.drop i h.2
theorem szF_drop : ∀ (f : Fo) (i : Nat), szF (f.drop i) ≤ szF f
  | f, 0 => by rw [Fo.drop_zero]; exact Nat.le_refl _
  | .nil, _ + 1 => Nat.le_refl _
  | .cons d k n, i + 1 => by have := szF_drop n i; simp only [szF]; show szF (n.drop i) ≤ _; omega
theorem CdAt.at {w : World} : ∀ {l : List Cnd} {b o : Nat} (i : Nat) (hi : i < l.length), CdAt w l b o → ∀ j u, (encC l[i])[j]? = some u → w.cell? ⟨b, o + i * 11 + j, none⟩ = some u
  | [], _, _, i, hi, _, _, _, _ => absurd hi (Nat.not_lt_zero _)
  | c :: r, b, o, 0, _, h, j, u, hu => by simpa using h.1 j u hu
  | c :: r, b, o, i + 1, hi, h, j, u, hu => by
    have := CdAt.at (o := o + 11) i (by simpa using hi) h.2 j u (by simpa using hu)
    rw [show o + 11 + i * 11 + j = o + (i + 1) * 11 + j by omega] at this
    exact this
/-- A condition's eleven cells. -/
theorem CdAt.cells {w : World} {l : List Cnd} {b o : Nat} (h : CdAt w l b o) {i : Nat} (hi : i < l.length) :
    w.cell? ⟨b, o + i * 11, none⟩ = some (.string l[i].left.var) ∧ w.cell? ⟨b, o + i * 11 + 1, none⟩ = some (.string l[i].left.attr) ∧ w.cell? ⟨b, o + i * 11 + 2, none⟩ = some (.int .i64 l[i].left.vk) ∧ w.cell? ⟨b, o + i * 11 + 3, none⟩ = some (.int .i64 l[i].left.vn) ∧ w.cell? ⟨b, o + i * 11 + 4, none⟩ = some (.string l[i].left.vs) ∧ w.cell? ⟨b, o + i * 11 + 5, none⟩ = some (.int .i64 l[i].rel) ∧
    w.cell? ⟨b, o + i * 11 + 6, none⟩ = some (.string l[i].right.var) ∧ w.cell? ⟨b, o + i * 11 + 7, none⟩ = some (.string l[i].right.attr) ∧ w.cell? ⟨b, o + i * 11 + 8, none⟩ = some (.int .i64 l[i].right.vk) ∧ w.cell? ⟨b, o + i * 11 + 9, none⟩ = some (.int .i64 l[i].right.vn) ∧ w.cell? ⟨b, o + i * 11 + 10, none⟩ = some (.string l[i].right.vs) :=
  ⟨h.at i hi 0 _ rfl, h.at i hi 1 _ rfl, h.at i hi 2 _ rfl, h.at i hi 3 _ rfl, h.at i hi 4 _ rfl, h.at i hi 5 _ rfl, h.at i hi 6 _ rfl, h.at i hi 7 _ rfl, h.at i hi 8 _ rfl, h.at i hi 9 _ rfl, h.at i hi 10 _ rfl⟩
end Go.Proofs.Ytpbloplbpkedcaa
