/- Rows of bounds as lists of cells; rows of the call's own. -/
import Derived.Test.YtiinljljbjjaeaaGreatDoorBd0
import Derived.Laws.OwnMore
import Derived.Maps.AppendAt
namespace Go.Proofs.YtiinljljbjjaeaaGreatDoor
open Go Go.RowKit

theorem infoBd : (Tryz.prog.info? 54).map (fun i => (i.zero, i.size, i.bytes)) = some (some (.agg #[.string ⟨#[]⟩, .int .i64 0, .int .i64 0, .int .i64 0, .string ⟨#[]⟩, .slice none 0 0]), 6, 80) := by kernel_rfl
theorem add_off0 (b o j : Nat) : (⟨b, o, none⟩ : Addr).add j = ⟨b, o + j, none⟩ := by unfold Addr.add; split <;> simp_all
/-- The cells of a row of bounds; of each slice of attributes A is said. -/
def RwL (A : Value → List At → Prop) : List Bd → List Value → Prop
  | [], xs => xs = []
  | x :: r, xs => ∃ aa ac ys, xs = encB x (.slice aa x.ev.ats.length ac) ++ ys ∧ A (.slice aa x.ev.ats.length ac) x.ev.ats ∧ RwL A r ys
/-- What is said of a slice of attributes that lies below block B. -/
def AvN (w : World) (B : Nat) (v : Value) (ats : List At) : Prop := Av w B v ats ∧ ∀ n c, v = .slice none n c → c = 0
theorem AvN.below {w w' : World} {B B' : Nat} {v : Value} {ats : List At} (h : AvN w B v ats) (hb : Below B' w w') (hB : B ≤ B') : AvN w' B v ats := ⟨h.1.below hb hB, h.2⟩
theorem AvN.mono {w : World} {B B' : Nat} {v : Value} {ats : List At} (h : AvN w B v ats) (hB : B ≤ B') : AvN w B' v ats := ⟨h.1.mono hB, h.2⟩
theorem RwL.imp {A A' : Value → List At → Prop} : ∀ {bs : List Bd} {xs : List Value}, (∀ v, ∀ x ∈ bs, A v x.ev.ats → A' v x.ev.ats) → RwL A bs xs → RwL A' bs xs
  | [], _, _, h => h
  | x :: r, _, hA, ⟨aa, ac, ys, e, h1, h2⟩ => ⟨aa, ac, ys, e, hA _ x (List.mem_cons_self ..) h1, h2.imp fun v y hy => hA v y (List.mem_cons_of_mem _ hy)⟩
theorem RwL.len {A : Value → List At → Prop} : ∀ {bs : List Bd} {xs : List Value}, RwL A bs xs → xs.length = bs.length * 6
  | [], _, h => by rw [h]; rfl
  | x :: r, _, ⟨aa, ac, ys, e, _, h2⟩ => by rw [e, List.length_append, encB_len, h2.len, List.length_cons]; omega
theorem RwL.one {A : Value → List At → Prop} : ∀ {bs : List Bd} {xs : List Value}, RwL A bs xs → ∀ u ∈ xs, u.oneCell' = true
  | [], _, h => by rw [h]; exact fun u h => by cases h
  | x :: r, _, ⟨aa, ac, ys, e, _, h2⟩ => by
    rw [e]
    intro u hu
    rcases List.mem_append.1 hu with hu | hu
    · exact encB_one _ _ _ _ u hu
    · exact h2.one u hu
theorem RwL.app {A : Value → List At → Prop} : ∀ {bs cs : List Bd} {xs ys : List Value}, RwL A bs xs → RwL A cs ys → RwL A (bs ++ cs) (xs ++ ys)
  | [], _, _, _, h, k => by rw [h]; exact k
  | x :: r, _, _, _, ⟨aa, ac, zs, e, h1, h2⟩, k => ⟨aa, ac, _, by rw [e, List.append_assoc], h1, h2.app k⟩
theorem RwL.single {A : Value → List At → Prop} {x : Bd} {aa : Option Addr} {ac : Nat} (h : A (.slice aa x.ev.ats.length ac) x.ev.ats) : RwL A [x] (encB x (.slice aa x.ev.ats.length ac)) := ⟨aa, ac, [], (List.append_nil _).symm, h, rfl⟩
/-- The k-th of them. -/
theorem RwL.nth {A : Value → List At → Prop} : ∀ {bs : List Bd} {xs : List Value} {k : Nat}, RwL A bs xs → k < bs.length →
    ∃ ys aa ac zs, xs = ys ++ (encB bs[k]! (.slice aa bs[k]!.ev.ats.length ac) ++ zs) ∧ RwL A (bs.take k) ys ∧ A (.slice aa bs[k]!.ev.ats.length ac) bs[k]!.ev.ats ∧ RwL A (bs.drop (k + 1)) zs
  | [], _, k, _, hk => absurd hk (Nat.not_lt_zero _)
  | x :: r, _, 0, ⟨aa, ac, ys, e, h1, h2⟩, _ => ⟨[], aa, ac, ys, e, rfl, h1, h2⟩
  | x :: r, _, k + 1, ⟨aa, ac, ys, e, h1, h2⟩, hk => by
    obtain ⟨ys', aa', ac', zs', e', g1, g2, g3⟩ := h2.nth (k := k) (by simpa using hk)
    have hx : (x :: r)[k + 1]! = r[k]! := by simp
    rw [hx]
    exact ⟨_, aa', ac', zs', by rw [e, e', List.append_assoc], ⟨aa, ac, ys', rfl, h1, g1⟩, g2, g3⟩
theorem BdAt.list {w : World} {B : Nat} : ∀ {bs : List Bd} {b o : Nat}, BdAt w B bs b o → ∃ xs, RwL (AvN w B) bs xs ∧ ∀ j u, xs[j]? = some u → w.cell? ⟨b, o + j, none⟩ = some u
  | [], _, _, _ => ⟨[], rfl, fun j u h => by simp at h⟩
  | x :: r, b, o, ⟨⟨aa, ac, hc, ha, hn⟩, hr⟩ => by
    obtain ⟨xs, h1, h2⟩ := hr.list
    refine ⟨_, ⟨aa, ac, xs, rfl, ⟨ha, fun n c e => by simp only [Value.slice.injEq] at e; rw [← e.2.2]; exact hn e.1⟩, h1⟩, fun j u hj => ?_⟩
    by_cases hlt : j < 6
    · rw [List.getElem?_append_left (by rw [encB_len]; exact hlt)] at hj
      exact hc j u hj
    · rw [List.getElem?_append_right (by rw [encB_len]; omega), encB_len] at hj
      have := h2 (j - 6) u hj
      rwa [show o + 6 + (j - 6) = o + j by omega] at this
theorem BdAt.of_list {w : World} {B : Nat} : ∀ {bs : List Bd} {xs : List Value} {b o : Nat}, RwL (AvN w B) bs xs → (∀ j u, xs[j]? = some u → w.cell? ⟨b, o + j, none⟩ = some u) → BdAt w B bs b o
  | [], _, _, _, _, _ => trivial
  | x :: r, _, b, o, ⟨aa, ac, ys, e, ha, hr⟩, h => by
    refine ⟨⟨aa, ac, fun j u hj => h j u (by rw [e, List.getElem?_append_left (List.getElem?_eq_some_iff.1 hj).1]; exact hj), ha.1, fun hn => ha.2 _ _ (by rw [hn])⟩, BdAt.of_list hr fun j u hj => ?_⟩
    have := h (6 + j) u (by rw [e, List.getElem?_append_right (by rw [encB_len]; omega), encB_len, show 6 + j - 6 = j by omega]; exact hj)
    rwa [show o + 6 + j = o + (6 + j) by omega]
/-- The cells of a slice of bounds. -/
theorem BsV.list {w : World} {B : Nat} {ao : Option Addr} {n cap : Nat} {bs : List Bd} (h : BsV w B (.slice ao n cap) bs) : ∃ xs, RwL (AvN w B) bs xs ∧ xs.length = n * 6 ∧ ∀ u : World, Below B w u → ∀ ad, ao = some ad → ∀ j v, xs[j]? = some v → u.cell? (ad.add j) = some v := by
  obtain ⟨ao', cap', he, h1, h2, h3, hh⟩ := h.row
  simp only [Value.slice.injEq] at he
  obtain ⟨rfl, rfl, rfl⟩ := he
  by_cases hb : bs = []
  · subst hb
    exact ⟨[], rfl, rfl, fun _ _ _ _ j v h => by simp at h⟩
  · obtain ⟨b, o, rfl, hlt, hat⟩ := hh hb
    obtain ⟨xs, q1, q2⟩ := hat.list
    refine ⟨xs, q1, q1.len, fun u hu ad e j v hj => ?_⟩
    cases e
    rw [add_off0, hu.cell (p := ⟨b, _, none⟩) hlt]
    exact q2 j v hj
/-- A row of bounds that the call made. -/
theorem BsV.of_own {w : World} {base : Nat} {v : Value} {bs : List Bd} {xs : List Value} (h : w.ownsRow base 54 6 v bs.length xs) (hr : RwL (AvN w w.heap.size) bs xs) (hw : ∀ x ∈ bs, x.var.size ≤ maxLen ∧ x.ev.ty.size ≤ maxLen) (hl : bs.length * 80 ≤ 140737488355328) : BsV w w.heap.size v bs := by
  rcases h.2 with ⟨rfl, h0⟩ | ⟨g, cap, cur, rfl, hb, hg, h1, h2, _, _⟩
  · exact ⟨hw, hl, none, 0, by rw [h0], by omega, by omega, fun _ => rfl, fun hne => absurd (List.eq_nil_of_length_eq_zero h0) hne⟩
  · refine ⟨hw, hl, _, cap, rfl, h1, by unfold maxLen at h2; omega, (fun e => by cases e), fun _ => ⟨g, 0, rfl, lt_of_block hg, BdAt.of_list hr fun j u hj => ?_⟩⟩
    have := h.cells (g := g) rfl j u hj
    rwa [add_off0] at this
theorem RwL.cells {w : World} {base g n cap k : Nat} {xs ys zs : List Value} {x : Bd} {v : Value} (h : w.ownsRow base 54 6 (.slice (some ⟨g, 0, none⟩) n cap) n xs) (e : xs = ys ++ (encB x v ++ zs)) (hl : ys.length = k * 6) :
    ∀ i u, (encB x v)[i]? = some u → w.cell? ⟨g, k * 6 + i, none⟩ = some u := fun i u hu => by
  have hi := (List.getElem?_eq_some_iff.1 hu).1
  have := h.cells (g := g) rfl (k * 6 + i) u (by rw [e, List.getElem?_append_right (by omega), hl, show k * 6 + i - k * 6 = i by omega, List.getElem?_append_left hi]; exact hu)
  rwa [add_off0, Nat.zero_add] at this
/-- The k-th bound's event, written. -/
theorem own_set5 {w : World} {base g n cap k : Nat} {xs ys zs : List Value} {x : Bd} {v v' : Value} (h : w.ownsRow base 54 6 (.slice (some ⟨g, 0, none⟩) n cap) n xs) (e : xs = ys ++ (encB x v ++ zs)) (hl : ys.length = k * 6) :
    (((((w.setCell ⟨g, k * 6 + 1, none⟩ (.int .i64 x.ev.src)).setCell ⟨g, k * 6 + 1 + 1, none⟩ (.int .i64 x.ev.seq)).setCell ⟨g, k * 6 + 1 + 2, none⟩ (.int .i64 x.ev.time)).setCell ⟨g, k * 6 + 1 + 3, none⟩ (.string x.ev.ty)).setCell ⟨g, k * 6 + 1 + 4, none⟩ v').ownsRow base 54 6 (.slice (some ⟨g, 0, none⟩) n cap) n (ys ++ (encB x v' ++ zs)) ∧
      w.grownBy (((((w.setCell ⟨g, k * 6 + 1, none⟩ (.int .i64 x.ev.src)).setCell ⟨g, k * 6 + 1 + 1, none⟩ (.int .i64 x.ev.seq)).setCell ⟨g, k * 6 + 1 + 2, none⟩ (.int .i64 x.ev.time)).setCell ⟨g, k * 6 + 1 + 3, none⟩ (.string x.ev.ty)).setCell ⟨g, k * 6 + 1 + 4, none⟩ v') (some g) := by
  have s1 := h.stored (k * 6 + 1) (.int .i64 x.ev.src)
  have s2 := s1.1.stored (k * 6 + 1 + 1) (.int .i64 x.ev.seq)
  have s3 := s2.1.stored (k * 6 + 1 + 2) (.int .i64 x.ev.time)
  have s4 := s3.1.stored (k * 6 + 1 + 3) (.string x.ev.ty)
  have s5 := s4.1.stored (k * 6 + 1 + 4) v'
  refine ⟨?_, (((s1.2.trans s2.2).trans s3.2).trans s4.2).trans s5.2⟩
  have := s5.1
  rw [e] at this
  have e1 : (((((ys ++ (encB x v ++ zs)).set (k * 6 + 1) (.int .i64 x.ev.src)).set (k * 6 + 1 + 1) (.int .i64 x.ev.seq)).set (k * 6 + 1 + 2) (.int .i64 x.ev.time)).set (k * 6 + 1 + 3) (.string x.ev.ty)).set (k * 6 + 1 + 4) v' = ys ++ (encB x v' ++ zs) := by
    simp only [List.set_append_right _ _ (show ys.length ≤ k * 6 + 1 by omega), List.set_append_right _ _ (show ys.length ≤ k * 6 + 1 + 1 by omega), List.set_append_right _ _ (show ys.length ≤ k * 6 + 1 + 2 by omega), List.set_append_right _ _ (show ys.length ≤ k * 6 + 1 + 3 by omega), List.set_append_right _ _ (show ys.length ≤ k * 6 + 1 + 4 by omega), hl]
    rw [show k * 6 + 1 - k * 6 = 1 by omega, show k * 6 + 1 + 1 - k * 6 = 2 by omega, show k * 6 + 1 + 2 - k * 6 = 3 by omega, show k * 6 + 1 + 3 - k * 6 = 4 by omega, show k * 6 + 1 + 4 - k * 6 = 5 by omega]
    rfl
  rw [e1] at this
  exact this
end Go.Proofs.YtiinljljbjjaeaaGreatDoor
