/- Conditions of events and of bound events: what they say (no program in it), and how bounds lie in memory. -/
import Derived.Test.YtpbloplbpkedcaaFo7
import Derived.Test.YtpbloplbpkedcaaFm7
import Derived.Test.YtpbloplbpkedcaaGe9
import Derived.Sort.Grow
import Derived.Lib.QuietBelow
namespace Go.Proofs.Ytpbloplbpkedcaa
open Go Go.RowKit Go.Sort

/-- A value: its kind, number and text. -/
structure Vl where
  k : Int
  n : Int
  s : ByteArray
  deriving DecidableEq
def Vl.v (x : Vl) : Value := .agg #[.int .i64 x.k, .int .i64 x.n, .string x.s]
def zeroL : Vl := ⟨0, 0, ⟨#[]⟩⟩
def getL (xs : List At) (nm : ByteArray) : Vl := match xs.find? (isNm nm) with | some x => ⟨x.k, x.n, x.s⟩ | none => zeroL
theorem getV_eq (xs : List At) (nm : ByteArray) : getV xs nm = (getL xs nm).v := by
  unfold getV getL Vl.v zeroL
  cases xs.find? (isNm nm) <;> rfl
def constL (o : Opd) : Vl := ⟨o.vk, o.vn, o.vs⟩
def ownL (o : Opd) (xs : List At) : Vl := if o.attr = em then constL o else getL xs o.attr
def holdL (rel : Int) (a b : Vl) : Bool := holdsB rel a.k a.n a.s.data.toList b.k b.n b.s.data.toList
def testB (c : Cnd) (xs : List At) : Bool := holdL c.rel (ownL c.left xs) (ownL c.right xs)
/-- A bound: a variable and its event. -/
structure Bd where
  var : ByteArray
  src : Int
  seq : Int
  time : Int
  ty : ByteArray
  ats : List At
  deriving DecidableEq, Inhabited
def isVar (v : ByteArray) (b : Bd) : Bool := b.var.toList == v.toList
def valL (o : Opd) (bs : List Bd) : Option Vl := if o.attr = em then some (constL o) else (bs.find? (isVar o.var)).map fun b => ownL o b.ats
def condB (c : Cnd) (bs : List Bd) : Bool := match valL c.left bs, valL c.right bs with | some a, some b => holdL c.rel a b | _, _ => true
def allB (l : List Cnd) (bs : List Bd) : Bool := l.all fun c => condB c bs
def termB (d : Nt) (ty : ByteArray) (xs : List At) : Bool := decide (d.kind = 1) && (decide (d.ty = ty) && d.tests.all fun c => testB c xs)
/-- Whether an operand's variable is among some. -/
def knownB (o : Opd) (l : List Nm) : Bool := decide (o.attr = em) || decide (nb o.var ∈ l)
def readyB (c : Cnd) (l : List Nm) : Bool := knownB c.left l && knownB c.right l
theorem isVar_nb (v : ByteArray) (b : Bd) : isVar v b = decide (nb b.var = nb v) := by
  unfold isVar
  rw [Lib.toList_data, Lib.toList_data]
  show (nb b.var == nb v) = _
  by_cases h : nb b.var = nb v <;> simp [h]

def encB (x : Bd) (a : Value) : List Value := [.string x.var, .int .i64 x.src, .int .i64 x.seq, .int .i64 x.time, .string x.ty, a]
theorem encB_len (x : Bd) (a : Value) : (encB x a).length = 6 := rfl
def bdV (x : Bd) (a : Value) : Value := .agg #[.string x.var, .int .i64 x.src, .int .i64 x.seq, .int .i64 x.time, .string x.ty, a]
/-- A row of bounds at an address; what they hold lies below block B. -/
def BdAt (w : World) (B : Nat) : List Bd → Nat → Nat → Prop
  | [], _, _ => True
  | x :: r, b, o => (∃ aa ac, (∀ j u, (encB x (.slice aa x.ats.length ac))[j]? = some u → w.cell? ⟨b, o + j, none⟩ = some u) ∧ Av w B (.slice aa x.ats.length ac) x.ats) ∧ BdAt w B r b (o + 6)
/-- In w the value v is a slice of the bounds, which lie below block B. -/
def BsV (w : World) (B : Nat) (v : Value) (bs : List Bd) : Prop :=
  ∃ ao cap, v = .slice ao bs.length cap ∧ bs.length ≤ cap ∧ (cap ≤ 9223372036854775807 ∧ (ao = none → cap = 0)) ∧ (bs ≠ [] → ∃ b o, ao = some ⟨b, o, none⟩ ∧ b < B ∧ BdAt w B bs b o)
theorem BdAt.keep {w w' : World} {B : Nat} (hk : ∀ b, b < B → w'.heap[b]? = w.heap[b]?) : ∀ {l : List Bd} {b o : Nat}, w'.heap[b]? = w.heap[b]? → BdAt w B l b o → BdAt w' B l b o
  | [], _, _, _, _ => trivial
  | x :: r, b, o, hb, ⟨⟨aa, ac, hc, ha⟩, hr⟩ => by
    refine ⟨⟨aa, ac, fun j u hu => ?_, ha.keep fun b' o' h' => by simp only [World.cell?, hk b' h']⟩, BdAt.keep hk hb hr⟩
    rw [← hc j u hu]
    simp only [World.cell?, hb]
theorem BdAt.mono {w : World} {B B' : Nat} (hB : B ≤ B') : ∀ {l : List Bd} {b o : Nat}, BdAt w B l b o → BdAt w B' l b o
  | [], _, _, _ => trivial
  | x :: r, b, o, ⟨⟨aa, ac, hc, ha⟩, hr⟩ => ⟨⟨aa, ac, hc, ha.mono hB⟩, BdAt.mono hB hr⟩
theorem BsV.below {w w' : World} {B B' : Nat} {v : Value} {bs : List Bd} (h : BsV w B v bs) (hb : Below B' w w') (hB : B ≤ B') : BsV w' B v bs := by
  obtain ⟨ao, cap, rfl, h1, h2, hh⟩ := h
  refine ⟨ao, cap, rfl, h1, h2, fun hl => ?_⟩
  obtain ⟨b, o, e, hlt, hat⟩ := hh hl
  exact ⟨b, o, e, hlt, BdAt.keep (fun x hx => hb.block x (Nat.lt_of_lt_of_le hx hB)) (hb.block b (Nat.lt_of_lt_of_le hlt hB)) hat⟩
theorem BsV.mono {w : World} {B B' : Nat} {v : Value} {bs : List Bd} (h : BsV w B v bs) (hB : B ≤ B') : BsV w B' v bs := by
  obtain ⟨ao, cap, rfl, h1, h2, hh⟩ := h
  refine ⟨ao, cap, rfl, h1, h2, fun hl => ?_⟩
  obtain ⟨b, o, e, hlt, hat⟩ := hh hl
  exact ⟨b, o, e, Nat.lt_of_lt_of_le hlt hB, hat.mono hB⟩
theorem BsV.shape {w : World} {B : Nat} {v : Value} {bs : List Bd} (h : BsV w B v bs) : ∃ ao cap, v = .slice ao bs.length cap ∧ bs.length ≤ cap ∧ cap ≤ 9223372036854775807 := by
  obtain ⟨ao, cap, rfl, h1, h2, _⟩ := h
  exact ⟨ao, cap, rfl, h1, h2.1⟩
theorem BsV.nil (w : World) (B : Nat) : BsV w B (.slice none 0 0) [] := ⟨none, 0, rfl, Nat.le_refl _, ⟨by omega, fun _ => rfl⟩, fun h => absurd rfl h⟩
theorem BdAt.drop {w : World} {B : Nat} : ∀ {l : List Bd} {b o : Nat} (k : Nat) (x : Bd), BdAt w B l b o → l[k]? = some x →
    ∃ aa ac, (∀ j u, (encB x (.slice aa x.ats.length ac))[j]? = some u → w.cell? ⟨b, o + k * 6 + j, none⟩ = some u) ∧ Av w B (.slice aa x.ats.length ac) x.ats
  | [], _, _, k, x, _, hx => by simp at hx
  | y :: r, b, o, 0, x, h, hx => by
    obtain rfl : y = x := by simpa using hx
    obtain ⟨aa, ac, hc, ha⟩ := h.1
    exact ⟨aa, ac, fun j u hu => by rw [Nat.zero_mul, Nat.add_zero]; exact hc j u hu, ha⟩
  | y :: r, b, o, k + 1, x, h, hx => by
    obtain ⟨aa, ac, hc, ha⟩ := BdAt.drop k x h.2 (by simpa using hx)
    exact ⟨aa, ac, fun j u hu => by rw [show o + (k + 1) * 6 + j = o + 6 + k * 6 + j by omega]; exact hc j u hu, ha⟩
/-- Where a slice of bounds lies, if it holds one. -/
theorem BsV.at {w : World} {B : Nat} {ao : Option Addr} {n cap k : Nat} {bs : List Bd} {x : Bd} (h : BsV w B (.slice ao n cap) bs) (hx : bs[k]? = some x) :
    ∃ b o aa ac, ao = some ⟨b, o, none⟩ ∧ b < B ∧ k < n ∧ n ≤ cap ∧ (∀ j u, (encB x (.slice aa x.ats.length ac))[j]? = some u → w.cell? ⟨b, o + k * 6 + j, none⟩ = some u) ∧ Av w B (.slice aa x.ats.length ac) x.ats := by
  obtain ⟨ao', cap', he, h1, h2, hh⟩ := h
  simp only [Value.slice.injEq] at he
  obtain ⟨rfl, rfl, rfl⟩ := he
  have hk := (List.getElem?_eq_some_iff.1 hx).1
  obtain ⟨b, o, rfl, hlt, hat⟩ := hh (fun e => by rw [e] at hk; simp at hk)
  obtain ⟨aa, ac, hc, ha⟩ := hat.drop k x hx
  exact ⟨b, o, aa, ac, rfl, hlt, hk, h1, hc, ha⟩
theorem six_cells {w : World} {b a : Nat} {x : Bd} {v : Value} (h : ∀ i u, (encB x v)[i]? = some u → w.cell? ⟨b, a + i, none⟩ = some u) :
    w.cell? ⟨b, a, none⟩ = some (.string x.var) ∧ w.cell? ⟨b, a + 1, none⟩ = some (.int .i64 x.src) ∧ w.cell? ⟨b, a + 2, none⟩ = some (.int .i64 x.seq) ∧ w.cell? ⟨b, a + 3, none⟩ = some (.int .i64 x.time) ∧ w.cell? ⟨b, a + 4, none⟩ = some (.string x.ty) ∧ w.cell? ⟨b, a + 5, none⟩ = some v :=
  ⟨h 0 _ rfl, h 1 _ rfl, h 2 _ rfl, h 3 _ rfl, h 4 _ rfl, h 5 _ rfl⟩
theorem find_var {bs : List Bd} {v : ByteArray} {k : Nat} {x : Bd} (hx : bs[k]? = some x) (h : ∀ j y, j < k → bs[j]? = some y → isVar v y = false) (h2 : isVar v x = true) : bs.find? (isVar v) = some x := by
  obtain ⟨hk, rfl⟩ := List.getElem?_eq_some_iff.1 hx
  rw [List.find?_eq_some_iff_getElem]
  refine ⟨h2, k, hk, rfl, fun j hj => ?_⟩
  have := h j _ hj (List.getElem?_eq_getElem (by omega))
  simp [this]
theorem find_novar {bs : List Bd} {v : ByteArray} (h : ∀ j y, j < bs.length → bs[j]? = some y → isVar v y = false) : bs.find? (isVar v) = none := by
  rw [List.find?_eq_none]
  intro x hx
  obtain ⟨i, hi, rfl⟩ := List.mem_iff_getElem.1 hx
  have := h i _ hi (List.getElem?_eq_getElem hi)
  simp [this]

/-- Once and for all: a condition all of whose variables are bound says the same with more bounds behind. -/
theorem val_more {o : Opd} {bs ms : List Bd} (h : knownB o (bs.map fun b => nb b.var) = true) : valL o (bs ++ ms) = valL o bs := by
  unfold valL
  unfold knownB at h
  by_cases he : o.attr = em
  · rw [if_pos he, if_pos he]
  · rw [decide_eq_false he, Bool.false_or, decide_eq_true_eq] at h
    obtain ⟨b, hb, hv⟩ := List.mem_map.1 h
    rw [if_neg he, if_neg he, List.find?_append]
    cases hf : bs.find? (isVar o.var) with
    | none =>
      have := List.find?_eq_none.1 hf b hb
      rw [isVar_nb, hv] at this
      simp at this
    | some x => rfl
theorem cond_more {c : Cnd} {bs ms : List Bd} (h : readyB c (bs.map fun b => nb b.var) = true) : condB c (bs ++ ms) = condB c bs := by
  unfold readyB at h
  rw [Bool.and_eq_true] at h
  unfold condB
  rw [val_more h.1, val_more h.2]
/-- What both parts say, all say. -/
theorem all_part (l : List Cnd) (q : Cnd → Bool) (p : Cnd → Bool) : l.all p = ((l.filter q).all p && (l.filter fun c => !q c).all p) := by
  induction l with
  | nil => rfl
  | cons c r ih =>
    rw [List.all_cons, ih]
    cases hq : q c
    · rw [List.filter_cons_of_neg (by simp [hq]), List.filter_cons_of_pos (by simp [hq]), List.all_cons]
      cases p c <;> simp
    · rw [List.filter_cons_of_pos hq, List.filter_cons_of_neg (by simp [hq]), List.all_cons, Bool.and_assoc]

/-- A contract that ends in 'Below', met in a world of the class of a region whose operations only read. -/
theorem rg {P : Program} {f : FuncId} {args : Array Value} {w : World} {v : Value} (h : ∀ u, Below w.heap.size w u → Calls P f args u fun e w' => e = .returned v ∧ Below u.heap.size u w') (d : Nat) (os : Array Obj) :
    Calls P f args (grow (redrawn w d) os) fun e w'' => e = .returned v ∧ ∃ p : Regrown, w'' = grow (redrawn w p.d) p.os := Calls.regrown_of (h _ (below_regrown w d os))
end Go.Proofs.Ytpbloplbpkedcaa
