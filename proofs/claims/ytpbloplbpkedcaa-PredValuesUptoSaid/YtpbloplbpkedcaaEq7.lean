/- Whether two slices of texts, of conditions, are the same: the library's Equal. -/
import Derived.Test.YtpbloplbpkedcaaSs7
import Derived.Laws.StructEq
import Derived.Shelf.SlicesQ.Equal
import Derived.Shelf.SlGeneric
namespace Go.Proofs.Ytpbloplbpkedcaa
open Go Go.RowKit Go.Maps Go.Sort

theorem EqualStr_lens (a1 a2 : Option Addr) (n c m d : Nat) (w : World) (h : n ≠ m) : Calls Try.prog 33 #[.slice a1 n c, .slice a2 m d] w fun e w' => e = .returned (.bool false) ∧ ∃ q, w' = w.drewN q := by
  have h1 : ¬ (n : Int) = (m : Int) := by omega
  have h2 : ((n : Int) == (m : Int)) = false := beq_eq_false_iff_ne.2 h1
  have h3 : (n == m) = false := beq_eq_false_iff_ne.2 h
  go_enter Try.func33, Try.ntmps33
  go_wp2
  go_ret
  exact ⟨rfl, 0, rfl⟩
theorem EqualStr_none (a1 a2 : Option Addr) (c d : Nat) (w : World) : Calls Try.prog 33 #[.slice a1 0 c, .slice a2 0 d] w fun e w' => e = .returned (.bool true) ∧ ∃ q, w' = w.drewN q := by
  go_enter Try.func33, Try.ntmps33
  go_wp2
  refine wp_loop_rounds 1 ?_
  rw [rounds_succ]
  go_wp2
  go_ret
  exact ⟨rfl, 0, rfl⟩
theorem EqualStr_any (a b : List Nm) (va vb : Value) (G : Nat → Prop) (w : World) (ha : SsV w G va a) (hb : SsV w G vb b) (hn : a.length ≤ 9223372036854775807) :
    Calls Try.prog 33 #[va, vb] w fun e w' => e = .returned (.bool (decide (a = b))) ∧ ∃ q, w' = w.drewN q := by
  obtain ⟨aa, ca, rfl, h1⟩ := ha
  obtain ⟨ab, cb, rfl, h2⟩ := hb
  by_cases hl : a.length = b.length
  · cases a with
    | nil =>
      have : b = [] := List.eq_nil_of_length_eq_zero hl.symm
      subst this
      simpa using EqualStr_none aa ab ca cb w
    | cons x r =>
      cases b with
      | nil => simp at hl
      | cons y t =>
        obtain ⟨b1, o1, rfl, _, hc1⟩ := h1 (List.cons_ne_nil _ _)
        obtain ⟨b2, o2, rfl, _, hc2⟩ := h2 (List.cons_ne_nil _ _)
        have hx : ∀ (l : List Nm) (b o : Nat), (∀ j x, l[j]? = some x → w.cell? ⟨b, o + j, none⟩ = some (.string (ba x))) → ∀ j, j < (l.map ba).length → w.cell? ⟨b, o + j, none⟩ = some (.string (l.map ba)[j]!) := fun l b o h j hj => by
          have hj' : j < l.length := by simpa using hj
          rw [getElem!_pos (l.map ba) j hj, List.getElem_map]
          exact h j _ (List.getElem?_eq_getElem hj')
        have := Try.slices_Equal (α := ByteArray) Value.string (fun x y => x.toList == y.toList) (NeqAt.string _ _) b1 o1 (x :: r).length ca b2 o2 (y :: t).length cb ((x :: r).map ba) ((y :: t).map ba) w (by simp) (by simp) hn (by omega) (hx _ b1 o1 hc1) (hx _ b2 o2 hc2)
        rw [allEq_eq] at this
        exact this
  · rw [decide_eq_false (fun h => hl (by rw [h]))]
    exact EqualStr_lens aa ab _ ca _ cb w hl
/-- Two operands, two conditions. -/
def oEq (x y : Opd) : Bool := x.var.toList == y.var.toList && (x.attr.toList == y.attr.toList && vEq x.vk x.vn x.vs y.vk y.vn y.vs)
def cEq (x y : Cnd) : Bool := oEq x.left y.left && (x.rel == y.rel && oEq x.right y.right)
theorem oEq_iff {x y : Opd} : oEq x y = true ↔ x = y := by
  unfold oEq
  rw [Bool.and_eq_true, Bool.and_eq_true, vEq_iff, beq_iff_eq, beq_iff_eq]
  constructor
  · rintro ⟨a, b, c, d, e⟩
    cases x; cases y
    simp only at a b c d e
    subst c d e
    rw [ba_ext2 a, ba_ext2 b]
  · rintro rfl; simp
theorem cEq_iff {x y : Cnd} : cEq x y = true ↔ x = y := by
  unfold cEq
  rw [Bool.and_eq_true, Bool.and_eq_true, oEq_iff, oEq_iff, beq_iff_eq]
  constructor
  · rintro ⟨a, b, c⟩
    cases x; cases y
    simp only at a b c
    subst a b c; rfl
  · rintro rfl; simp
theorem cEq_dec (x y : Cnd) : cEq x y = decide (x = y) := by
  cases h : cEq x y with
  | true => rw [decide_eq_true (cEq_iff.1 h)]
  | false => rw [decide_eq_false (fun e => by rw [cEq_iff.2 e] at h; cases h)]
set_option maxRecDepth 100000 in
set_option maxHeartbeats 2000000 in
theorem cNe : NeqAt Try.prog 27 (fun x : Cnd => .agg (encC x).toArray) cEq := by
  refine ⟨fun x y w => ?_, GuardAt.agg _ (by kernel_rfl)⟩
  have a2 := Try.isAgg2; have z2 := Try.sizeOf2; have u2 := Try.underlying2
  have a3 := Try.isAgg3; have z3 := Try.sizeOf3; have u3 := Try.underlying3
  have a9 := Try.isAgg9; have z9 := Try.sizeOf9; have u9 := Try.underlying9
  have av := Try.isAgg23; have zv := Try.sizeOf23
  have ao := Try.isAgg25; have zo := Try.sizeOf25
  have hS : Try.prog.underlying 27 = some (.struct (Try.prog.fieldsOf 27)) := by kernel_rfl
  have hp : Try.prog.stoodInHeld 27 = false := by kernel_rfl
  have hS1 : Try.prog.underlying 25 = some (.struct (Try.prog.fieldsOf 25)) := by kernel_rfl
  have hp1 : Try.prog.stoodInHeld 25 = false := by kernel_rfl
  have hS2 : Try.prog.underlying 23 = some (.struct (Try.prog.fieldsOf 23)) := by kernel_rfl
  have hp2 : Try.prog.stoodInHeld 23 = false := by kernel_rfl
  have hq : ∀ (k1 m1 : Int) (s1 : ByteArray) (k2 m2 : Int) (s2 : ByteArray) (w : World), (Op.equalIn (9997 + 1) 23 (.agg #[.int .i64 k1, .int .i64 m1, .string s1]) (.agg #[.int .i64 k2, .int .i64 m2, .string s2])).run Try.prog w = .ok (vEq k1 m1 s1 k2 m2 s2) w := fun k1 m1 s1 k2 m2 s2 w => by
    rw [run_equalIn_agg w 9997 23 _ _ hS2 hp2]
    simp only [Program.fieldsOf, Try.underlying23]
    go_simp
    unfold vEq
    by_cases h1 : k1 = k2 <;> by_cases h2 : m1 = m2 <;> by_cases h3 : s1.toList = s2.toList <;> simp [h1, h2, h3]
  have ho : ∀ (x y : Opd) (w : World), (Op.equalIn (9997 + 1 + 1) 25 (.agg #[.string x.var, .string x.attr, .int .i64 x.vk, .int .i64 x.vn, .string x.vs]) (.agg #[.string y.var, .string y.attr, .int .i64 y.vk, .int .i64 y.vn, .string y.vs])).run Try.prog w = .ok (oEq x y) w := fun x y w => by
    rw [run_equalIn_agg w (9997 + 1) 25 _ _ hS1 hp1]
    simp only [Program.fieldsOf, Try.underlying25]
    have hq' := hq x.vk x.vn x.vs y.vk y.vn y.vs
    go_simp
    unfold oEq
    by_cases h1 : x.var.toList = y.var.toList <;> by_cases h2 : x.attr.toList = y.attr.toList <;> cases h3 : vEq x.vk x.vn x.vs y.vk y.vn y.vs <;> simp [h1, h2]
  obtain ⟨l1, r1, g1⟩ := x
  obtain ⟨l2, r2, g2⟩ := y
  simp only [encC]
  rw [run_neq_struct, show (10000 : Nat) = 9997 + 1 + 1 + 1 from rfl, run_equalIn_agg w (9997 + 1 + 1) 27 _ _ hS hp]
  simp only [Program.fieldsOf, Try.underlying27]
  have ho1 := ho l1 l2
  have ho2 := ho g1 g2
  go_simp
  unfold cEq
  cases h1 : oEq l1 l2 <;> by_cases h2 : r1 = r2 <;> cases h3 : oEq g1 g2 <;> simp [h2]
end Go.Proofs.Ytpbloplbpkedcaa
