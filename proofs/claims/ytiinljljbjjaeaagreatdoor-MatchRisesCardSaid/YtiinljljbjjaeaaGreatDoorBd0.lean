/- How bounds lie in memory. -/
import Derived.Test.YtiinljljbjjaeaaGreatDoorBm0
import Derived.Test.YtiinljljbjjaeaaGreatDoorEc
import Derived.Lib.Hide
import Derived.Sort.Grow
import Derived.Lib.QuietBelow
namespace Go.Proofs.YtiinljljbjjaeaaGreatDoor
open Go Go.RowKit

def encB (x : Bd) (a : Value) : List Value := [.string x.var, .int .i64 x.ev.src, .int .i64 x.ev.seq, .int .i64 x.ev.time, .string x.ev.ty, a]
theorem encB_len (x : Bd) (a : Value) : (encB x a).length = 6 := rfl
theorem encB_one (x : Bd) (aa : Option Addr) (n c : Nat) : ∀ u ∈ encB x (.slice aa n c), u.oneCell' = true := by
  intro u hu
  simp only [encB, List.mem_cons, List.not_mem_nil, or_false] at hu
  rcases hu with rfl | rfl | rfl | rfl | rfl | rfl <;> rfl
/-- A bound as a value. -/
def bdV (x : Bd) (a : Value) : Value := .agg #[.string x.var, .int .i64 x.ev.src, .int .i64 x.ev.seq, .int .i64 x.ev.time, .string x.ev.ty, a]
/-- A row of bounds at an address; their attributes lie below block B. -/
def BdAt (w : World) (B : Nat) : List Bd → Nat → Nat → Prop
  | [], _, _ => True
  | x :: r, b, o => (∃ aa ac, (∀ j u, (encB x (.slice aa x.ev.ats.length ac))[j]? = some u → w.cell? ⟨b, o + j, none⟩ = some u) ∧ Av w B (.slice aa x.ev.ats.length ac) x.ev.ats ∧ (aa = none → ac = 0)) ∧ BdAt w B r b (o + 6)
/-- In w the value v is a slice of the bounds, which lie below block B. -/
structure BsV (w : World) (B : Nat) (v : Value) (bs : List Bd) : Prop where
  wide : ∀ x ∈ bs, x.var.size ≤ maxLen ∧ x.ev.ty.size ≤ maxLen
  len : bs.length * 80 ≤ 140737488355328
  row : ∃ ao cap, v = .slice ao bs.length cap ∧ bs.length ≤ cap ∧ cap ≤ 9223372036854775807 ∧ (ao = none → cap = 0) ∧ (bs ≠ [] → ∃ b o, ao = some ⟨b, o, none⟩ ∧ b < B ∧ BdAt w B bs b o)
theorem BdAt.keep {w w' : World} {B : Nat} (hk : ∀ b, b < B → w'.heap[b]? = w.heap[b]?) : ∀ {l : List Bd} {b o : Nat}, w'.heap[b]? = w.heap[b]? → BdAt w B l b o → BdAt w' B l b o
  | [], _, _, _, _ => trivial
  | x :: r, b, o, hb, ⟨⟨aa, ac, hc, ha, hn⟩, hr⟩ => by
    refine ⟨⟨aa, ac, fun j u hu => ?_, ha.keep fun b' o' h' => by simp only [World.cell?, hk b' h'], hn⟩, BdAt.keep hk hb hr⟩
    rw [← hc j u hu]
    simp only [World.cell?, hb]
theorem BdAt.mono {w : World} {B B' : Nat} (hB : B ≤ B') : ∀ {l : List Bd} {b o : Nat}, BdAt w B l b o → BdAt w B' l b o
  | [], _, _, _ => trivial
  | x :: r, b, o, ⟨⟨aa, ac, hc, ha, hn⟩, hr⟩ => ⟨⟨aa, ac, hc, ha.mono hB, hn⟩, BdAt.mono hB hr⟩
theorem BdAt.take {w : World} {B : Nat} : ∀ {l : List Bd} {b o : Nat} (k : Nat), BdAt w B l b o → BdAt w B (l.take k) b o
  | [], _, _, k, h => by simpa using h
  | x :: r, b, o, 0, h => trivial
  | x :: r, b, o, k + 1, h => ⟨h.1, BdAt.take k h.2⟩
theorem BsV.below {w w' : World} {B B' : Nat} {v : Value} {bs : List Bd} (h : BsV w B v bs) (hb : Below B' w w') (hB : B ≤ B') : BsV w' B v bs := by
  obtain ⟨h1, h2, ao, cap, rfl, h3, h4, h5, hh⟩ := h
  refine ⟨h1, h2, ao, cap, rfl, h3, h4, h5, fun hl => ?_⟩
  obtain ⟨b, o, e, hlt, hat⟩ := hh hl
  exact ⟨b, o, e, hlt, BdAt.keep (fun x hx => hb.block x (Nat.lt_of_lt_of_le hx hB)) (hb.block b (Nat.lt_of_lt_of_le hlt hB)) hat⟩
theorem BsV.mono {w : World} {B B' : Nat} {v : Value} {bs : List Bd} (h : BsV w B v bs) (hB : B ≤ B') : BsV w B' v bs := by
  obtain ⟨h1, h2, ao, cap, rfl, h3, h4, h5, hh⟩ := h
  refine ⟨h1, h2, ao, cap, rfl, h3, h4, h5, fun hl => ?_⟩
  obtain ⟨b, o, e, hlt, hat⟩ := hh hl
  exact ⟨b, o, e, Nat.lt_of_lt_of_le hlt hB, hat.mono hB⟩
theorem BsV.shape {w : World} {B : Nat} {v : Value} {bs : List Bd} (h : BsV w B v bs) : ∃ ao cap, v = .slice ao bs.length cap := by
  obtain ⟨_, _, ao, cap, rfl, _⟩ := h
  exact ⟨ao, cap, rfl⟩
theorem BsV.nil (w : World) (B : Nat) : BsV w B (.slice none 0 0) [] := ⟨by simp, by simp, none, 0, rfl, Nat.le_refl _, by omega, fun _ => rfl, fun h => absurd rfl h⟩
theorem BsV.num {w : World} {B : Nat} {ao : Option Addr} {n cap : Nat} {bs : List Bd} (h : BsV w B (.slice ao n cap) bs) : n = bs.length ∧ n ≤ 9223372036854775807 ∧ n ≤ cap ∧ cap ≤ 9223372036854775807 ∧ (ao = none → cap = 0) ∧ n * 80 ≤ 140737488355328 := by
  obtain ⟨ao', cap', he, h1, h2, h3, _⟩ := h.row
  have hl := h.len
  simp only [Value.slice.injEq] at he
  obtain ⟨rfl, rfl, rfl⟩ := he
  exact ⟨rfl, by omega, h1, h2, h3, hl⟩
theorem BdAt.drop {w : World} {B : Nat} : ∀ {l : List Bd} {b o : Nat} (k : Nat) (x : Bd), BdAt w B l b o → l[k]? = some x →
    ∃ aa ac, (∀ j u, (encB x (.slice aa x.ev.ats.length ac))[j]? = some u → w.cell? ⟨b, o + k * 6 + j, none⟩ = some u) ∧ Av w B (.slice aa x.ev.ats.length ac) x.ev.ats ∧ (aa = none → ac = 0)
  | [], _, _, k, x, _, hx => by simp at hx
  | y :: r, b, o, 0, x, h, hx => by
    obtain rfl : y = x := by simpa using hx
    obtain ⟨aa, ac, hc, ha⟩ := h.1
    exact ⟨aa, ac, fun j u hu => by rw [Nat.zero_mul, Nat.add_zero]; exact hc j u hu, ha⟩
  | y :: r, b, o, k + 1, x, h, hx => by
    obtain ⟨aa, ac, hc, ha⟩ := BdAt.drop k x h.2 (by simpa using hx)
    exact ⟨aa, ac, fun j u hu => by rw [show o + (k + 1) * 6 + j = o + 6 + k * 6 + j by omega]; exact hc j u hu, ha⟩
theorem six_cells {w : World} {b a : Nat} {x : Bd} {v : Value} (h : ∀ i u, (encB x v)[i]? = some u → w.cell? ⟨b, a + i, none⟩ = some u) :
    w.cell? ⟨b, a, none⟩ = some (.string x.var) ∧ w.cell? ⟨b, a + 1, none⟩ = some (.int .i64 x.ev.src) ∧ w.cell? ⟨b, a + 2, none⟩ = some (.int .i64 x.ev.seq) ∧ w.cell? ⟨b, a + 3, none⟩ = some (.int .i64 x.ev.time) ∧ w.cell? ⟨b, a + 4, none⟩ = some (.string x.ev.ty) ∧ w.cell? ⟨b, a + 5, none⟩ = some v :=
  ⟨h 0 _ rfl, h 1 _ rfl, h 2 _ rfl, h 3 _ rfl, h 4 _ rfl, h 5 _ rfl⟩
/-- Where the k-th of a slice of bounds lies. -/
theorem BsV.at {w : World} {B : Nat} {ao : Option Addr} {n cap k : Nat} {bs : List Bd} (h : BsV w B (.slice ao n cap) bs) (hk : k < n) :
    ∃ b o aa ac, ao = some ⟨b, o, none⟩ ∧ b < B ∧ k < bs.length ∧ bs[k]!.var.size ≤ maxLen ∧ bs[k]!.ev.ty.size ≤ maxLen ∧ (aa = none → ac = 0) ∧ Av w B (.slice aa bs[k]!.ev.ats.length ac) bs[k]!.ev.ats ∧
      ∀ u : World, Below B w u → ∀ j v, (encB bs[k]! (.slice aa bs[k]!.ev.ats.length ac))[j]? = some v → u.cell? ⟨b, o + k * 6 + j, none⟩ = some v := by
  obtain ⟨hw, _, ao', cap', he, h1, h2, h3, hh⟩ := h
  simp only [Value.slice.injEq] at he
  obtain ⟨rfl, rfl, rfl⟩ := he
  obtain ⟨b, o, rfl, hlt, hat⟩ := hh (fun e => by rw [e] at hk; simp at hk)
  obtain ⟨aa, ac, hc, ha, hn⟩ := hat.drop k bs[k]! (by rw [getElem!_pos bs k hk, List.getElem?_eq_getElem hk])
  have hx := hw bs[k]! (by rw [getElem!_pos bs k hk]; exact List.getElem_mem _)
  exact ⟨b, o, aa, ac, rfl, hlt, hk, hx.1, hx.2, hn, ha, fun u hu j v hj => by rw [hu.cell (p := ⟨b, _, none⟩) hlt]; exact hc j v hj⟩
/-- The first k of them. -/
theorem BsV.take {w : World} {B : Nat} {ao : Option Addr} {n cap k : Nat} {bs : List Bd} (h : BsV w B (.slice ao n cap) bs) (hk : k ≤ n) : BsV w B (.slice ao k cap) (bs.take k) := by
  obtain ⟨hw, hl, ao', cap', he, h1, h2, h3, hh⟩ := h
  simp only [Value.slice.injEq] at he
  obtain ⟨rfl, rfl, rfl⟩ := he
  have hlk : (bs.take k).length = k := by rw [List.length_take]; omega
  refine ⟨fun x hx => hw x (List.mem_of_mem_take hx), by rw [hlk]; omega, ao, cap, by rw [hlk], by rw [hlk]; omega, h2, h3, fun hne => ?_⟩
  obtain ⟨b, o, e, hlt, hat⟩ := hh (fun e => hne (by rw [e]; exact List.take_nil))
  exact ⟨b, o, e, hlt, hat.take k⟩
theorem take_one {bs : List Bd} {k : Nat} (hk : k < bs.length) : bs.take (k + 1) = bs.take k ++ [bs[k]!] := by
  rw [List.take_succ_eq_append_getElem hk, getElem!_pos bs k hk]
theorem cells_six {w : World} {q : Nat} {c0 c1 c2 c3 c4 c5 : Value} {t : Nat} (h : w.heap[q]? = some (.cells #[c0, c1, c2, c3, c4, c5] t (0, 0))) :
    w.cell? ⟨q, 0, none⟩ = some c0 ∧ w.cell? ⟨q, 1, none⟩ = some c1 ∧ w.cell? ⟨q, 2, none⟩ = some c2 ∧ w.cell? ⟨q, 3, none⟩ = some c3 ∧ w.cell? ⟨q, 4, none⟩ = some c4 ∧ w.cell? ⟨q, 5, none⟩ = some c5 := by
  refine ⟨?_, ?_, ?_, ?_, ?_, ?_⟩ <;> simp [World.cell?, h]
theorem cells_one0 {w : World} {q : Nat} {c0 : Value} {t : Nat} (h : w.heap[q]? = some (.cells #[c0] t (0, 0))) : w.cell? ⟨q, 0, none⟩ = some c0 := by simp [World.cell?, h]
/-- A contract that ends in 'Below', met in a world of the class of a region whose operations only read. -/
theorem rg {P : Program} {f : FuncId} {args : Array Value} {w : World} {v : Value} (h : ∀ u, Below w.heap.size w u → Calls P f args u fun e w' => e = .returned v ∧ Below u.heap.size u w') (d : Nat) (os : Array Obj) :
    Calls P f args (Sort.grow (redrawn w d) os) fun e w'' => e = .returned v ∧ ∃ p : Regrown, w'' = Sort.grow (redrawn w p.d) p.os := Calls.regrown_of (h _ (below_regrown w d os))
theorem ret_bool0 {a b : Bool} (h : a = b) : Ending.returned (.bool a) = Ending.returned (.bool b) := by rw [h]
theorem ret_int0 {k : IntKind} {a b : Int} (h : a = b) : Ending.returned (.int k a) = Ending.returned (.int k b) := by rw [h]
end Go.Proofs.YtiinljljbjjaeaaGreatDoor
