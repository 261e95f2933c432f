/- The mathematics of layer 7: what is told of a tree; which conditions, nodes and patterns may be. No program in this text. -/
import Derived.Test.YtpbloplbpkedcaaFo7
import Derived.Test.YtpbloplbpkedcaaVm
namespace Go.Proofs.Ytpbloplbpkedcaa
open Go Go.RowKit

abbrev Nm := List UInt8
def nb (s : ByteArray) : Nm := s.data.toList
theorem nb_em {s : ByteArray} : nb s = [] ↔ s = em := by
  constructor
  · intro h; apply ByteArray.ext; unfold nb at h; simpa [em] using h
  · rintro rfl; rfl
def termsF : Fo → Nat
  | .nil => 0
  | .cons _ k n => (if k.isNil then 1 else termsF k) + termsF n
def termsN (k : Fo) : Nat := if k.isNil then 1 else termsF k
theorem termsF_cons (d : Nt) (k n : Fo) : termsF (.cons d k n) = termsN k + termsF n := rfl
def deepF : Fo → Nat
  | .nil => 0
  | .cons _ k n => max (deepF k + 1) (deepF n)
theorem termsF_sz : ∀ f : Fo, termsF f ≤ szF f
  | .nil => Nat.le_refl _
  | .cons d k n => by
    have h1 := termsF_sz k; have h2 := termsF_sz n
    simp only [termsF, szF, szD]; split <;> omega
theorem termsN_sz (k : Fo) : termsN k ≤ szF k + 1 := by unfold termsN; have := termsF_sz k; split <;> omega
theorem termsN_pos (k : Fo) : 1 ≤ termsN k := by
  induction k with
  | nil => exact Nat.le_refl _
  | cons d k n ih _ =>
    show 1 ≤ termsN k + termsF n
    omega
theorem deepF_sz : ∀ f : Fo, deepF f ≤ szF f
  | .nil => Nat.le_refl _
  | .cons d k n => by
    have h1 := deepF_sz k; have h2 := deepF_sz n
    simp only [deepF, szF, szD]; omega

/-- Ways to choose. -/
def altsG : Fo → Bool → Nat → Nat
  | .nil, _, a => a
  | .cons d k n, o, a => altsG n o (if o then min (a + (if k.isNil then 1 else if d.kind = 4 then altsG k true 0 else altsG k false 1)) 65 else min (a * (if k.isNil then 1 else if d.kind = 4 then altsG k true 0 else altsG k false 1)) 65)
def altsN (d : Nt) (k : Fo) : Nat := if k.isNil then 1 else if d.kind = 4 then altsG k true 0 else altsG k false 1
theorem altsG_cons (d : Nt) (k n : Fo) (o : Bool) (a : Nat) : altsG (.cons d k n) o a = altsG n o (if o then min (a + altsN d k) 65 else min (a * altsN d k) 65) := rfl
theorem altsG_le : ∀ (f : Fo) (o : Bool) (a : Nat), a ≤ 65 → altsG f o a ≤ 65
  | .nil, _, _, h => h
  | .cons d k n, o, a, _ => by rw [altsG_cons]; refine altsG_le n o _ ?_; split <;> omega
theorem altsN_le (d : Nt) (k : Fo) : altsN d k ≤ 65 := by
  unfold altsN; split
  · omega
  · split
    · exact altsG_le _ _ _ (by omega)
    · exact altsG_le _ _ _ (by omega)
theorem alts_pos : ∀ f : Fo, Fo.All (fun d k => 1 ≤ altsN d k) f ∧ ∀ o a, 1 ≤ a → 1 ≤ altsG f o a
  | .nil => ⟨trivial, fun _ _ h => h⟩
  | .cons d k n => by
    obtain ⟨hk, hk2⟩ := alts_pos k
    obtain ⟨hn, hn2⟩ := alts_pos n
    have h1 : 1 ≤ altsN d k := by
      unfold altsN
      cases k with
      | nil => simp [Fo.isNil]
      | cons d' k' n' =>
        simp only [Fo.isNil, Bool.false_eq_true, if_false]
        split
        · obtain ⟨a, b⟩ := alts_pos k'
          obtain ⟨a', b'⟩ := alts_pos n'
          rw [altsG_cons]
          refine b' _ _ ?_
          have := hk.1
          simp only [if_true]; omega
        · exact hk2 _ _ (Nat.le_refl _)
    refine ⟨⟨h1, hn⟩, fun o a ha => ?_⟩
    rw [altsG_cons]
    refine hn2 _ _ ?_
    split
    · omega
    · have := Nat.mul_le_mul ha h1; omega
theorem altsN_pos (d : Nt) (k : Fo) : 1 ≤ altsN d k := (alts_pos (.cons d k .nil)).1.1
theorem altsG_full : ∀ (f : Fo) (o : Bool), altsG f o 65 = 65
  | .nil, _ => rfl
  | .cons d k n, o => by
    rw [altsG_cons]
    have h := altsN_pos d k
    have e : (if o = true then min (65 + altsN d k) 65 else min (65 * altsN d k) 65) = 65 := by split <;> omega
    rw [e]; exact altsG_full n o
theorem altsN_first {d : Nt} {d' : Nt} {k' n' : Fo} : altsN d (.cons d' k' n') = altsG n' (decide (d.kind = 4)) (altsN d' k') := by
  have h := altsN_le d' k'
  unfold altsN
  simp only [Fo.isNil, Bool.false_eq_true, if_false]
  by_cases hd : d.kind = 4
  · rw [if_pos hd, altsG_cons, decide_eq_true hd]
    simp only [if_true, Nat.zero_add]
    rw [Nat.min_eq_left h]; rfl
  · rw [if_neg hd, altsG_cons, decide_eq_false hd]
    simp only [Bool.false_eq_true, if_false, Nat.one_mul]
    rw [Nat.min_eq_left h]; rfl

/-- A text put to a rising list, once. -/
def putL (l : List Nm) (s : Nm) : List Nm := if s ∈ l then l else l.takeWhile (fun x => Op.bytesLess x s) ++ s :: l.dropWhile (fun x => Op.bytesLess x s)
def putAll (a l : List Nm) : List Nm := l.foldl putL a
theorem mem_putL {l : List Nm} {s x : Nm} : x ∈ putL l s ↔ x = s ∨ x ∈ l := by
  unfold putL
  split
  · rename_i h
    exact ⟨.inr, fun hx => hx.elim (fun e => e ▸ h) id⟩
  · rw [List.mem_append, List.mem_cons]
    have e : x ∈ l ↔ x ∈ l.takeWhile (fun x => Op.bytesLess x s) ∨ x ∈ l.dropWhile (fun x => Op.bytesLess x s) := by
      rw [← List.mem_append, List.takeWhile_append_dropWhile]
    rw [e]
    constructor
    · rintro (h | h | h)
      · exact .inr (.inl h)
      · exact .inl h
      · exact .inr (.inr h)
    · rintro (h | h | h)
      · exact .inr (.inl h)
      · exact .inl h
      · exact .inr (.inr h)
theorem mem_putAll {x : Nm} : ∀ {l a : List Nm}, x ∈ putAll a l ↔ x ∈ a ∨ x ∈ l
  | [], a => by simp [putAll]
  | s :: r, a => by
    show x ∈ putAll (putL a s) r ↔ _
    rw [mem_putAll, mem_putL, List.mem_cons]
    constructor
    · rintro ((h | h) | h)
      · exact .inr (.inl h)
      · exact .inl h
      · exact .inr (.inr h)
    · rintro (h | h | h)
      · exact .inl (.inr h)
      · exact .inl (.inl h)
      · exact .inr h
/-- Less, as the walk reckons it, is an order. -/
theorem bl_irr (a : Nm) : Op.bytesLess a a = false := by rw [less_cb, cb_self]; rfl
theorem bl_lt : ∀ a b : Nm, Op.bytesLess a b = decide (a < b)
  | [], [] => by simp [Op.bytesLess]
  | [], _ :: _ => by simp [Op.bytesLess]
  | _ :: _, [] => by simp [Op.bytesLess]
  | x :: a, y :: b => by
    have ih := bl_lt a b
    by_cases h : x < y
    · simp [Op.bytesLess, h, List.cons_lt_cons_iff]
    · by_cases h2 : y < x
      · have hn : x ≠ y := fun e => by subst e; exact h h2
        simp [Op.bytesLess, h, h2, hn, List.cons_lt_cons_iff]
      · have e : x = y := UInt8.le_antisymm (UInt8.not_lt.1 h2) (UInt8.not_lt.1 h)
        subst e
        simp [Op.bytesLess, h, ih, List.cons_lt_cons_iff]
theorem nm_trans {a b c : Nm} (h : a < b) (k : b < c) : a < c := List.lt_trans h k
theorem nm_total {a b : Nm} (h : ¬ a < b) (hne : a ≠ b) : b < a := by
  have h1 : b ≤ a := List.not_lt.1 h
  exact Classical.byContradiction fun h2 => hne (List.le_antisymm (List.not_lt.1 h2) h1)
def Rising (l : List Nm) : Prop := l.Pairwise (· < ·)
theorem Rising.nil : Rising [] := List.Pairwise.nil
theorem take_lt {s : Nm} : ∀ {l : List Nm} {x : Nm}, x ∈ l.takeWhile (fun x => Op.bytesLess x s) → x < s
  | y :: r, x, h => by
    rw [List.takeWhile_cons] at h
    split at h
    · rename_i hy
      rcases List.mem_cons.1 h with rfl | h
      · rw [bl_lt] at hy; simpa using hy
      · exact take_lt h
    · cases h
theorem drop_gt {s : Nm} : ∀ {l : List Nm}, Rising l → s ∉ l → ∀ {x : Nm}, x ∈ l.dropWhile (fun x => Op.bytesLess x s) → s < x
  | [], _, _, _, h => by cases h
  | y :: r, hr, hs, x, h => by
    rw [List.dropWhile_cons] at h
    split at h
    · exact drop_gt (List.Pairwise.of_cons hr) (fun hh => hs (List.mem_cons_of_mem _ hh)) h
    · rename_i hy
      rw [bl_lt] at hy
      have hys : s < y := nm_total (by simpa using hy) (fun e => hs (by rw [e]; exact List.mem_cons_self))
      rcases List.mem_cons.1 h with rfl | h
      · exact hys
      · exact nm_trans hys (List.rel_of_pairwise_cons hr h)
theorem putL_rising {l : List Nm} (h : Rising l) (s : Nm) : Rising (putL l s) := by
  unfold putL
  split
  · exact h
  · rename_i hs
    refine List.pairwise_append.2 ⟨h.sublist (List.takeWhile_sublist _), List.pairwise_cons.2 ⟨fun x hx => drop_gt h hs hx, h.sublist (List.dropWhile_sublist _)⟩, fun x hx y hy => ?_⟩
    have h1 := take_lt hx
    rcases List.mem_cons.1 hy with rfl | hy
    · exact h1
    · exact nm_trans h1 (drop_gt h hs hy)
theorem putAll_rising : ∀ {l a : List Nm}, Rising a → Rising (putAll a l)
  | [], _, h => h
  | s :: r, a, h => putAll_rising (l := r) (putL_rising h s)
theorem rising_ext : ∀ {a b : List Nm}, Rising a → Rising b → (∀ x, x ∈ a ↔ x ∈ b) → a = b
  | [], [], _, _, _ => rfl
  | [], y :: b, _, _, h => absurd ((h y).2 List.mem_cons_self) (by simp)
  | x :: a, [], _, _, h => absurd ((h x).1 List.mem_cons_self) (by simp)
  | x :: a, y :: b, ha, hb, h => by
    have ha' := List.pairwise_cons.1 ha
    have hb' := List.pairwise_cons.1 hb
    have e : x = y := by
      rcases List.mem_cons.1 ((h x).1 List.mem_cons_self) with e | hx
      · exact e
      · rcases List.mem_cons.1 ((h y).2 List.mem_cons_self) with e | hy
        · exact e.symm
        · exact absurd (nm_trans (ha'.1 y hy) (hb'.1 x hx)) (List.lt_irrefl _)
    subst e
    rw [rising_ext ha'.2 hb'.2 (fun z => ?_)]
    constructor
    · intro hz
      rcases List.mem_cons.1 ((h z).1 (List.mem_cons_of_mem _ hz)) with rfl | hz'
      · exact absurd (ha'.1 z hz) (List.lt_irrefl _)
      · exact hz'
    · intro hz
      rcases List.mem_cons.1 ((h z).2 (List.mem_cons_of_mem _ hz)) with rfl | hz'
      · exact absurd (hb'.1 z hz) (List.lt_irrefl _)
      · exact hz'

/-- The variables of a tree. -/
def v0 (d : Nt) : List Nm := if d.var.size = 0 then [] else [nb d.var]
def varsG : Fo → List Nm → List Nm
  | .nil, a => a
  | .cons d k n, a => varsG n (putAll a (varsG k (v0 d)))
def varsN (d : Nt) (k : Fo) : List Nm := varsG k (v0 d)
theorem varsG_cons (d : Nt) (k n : Fo) (a : List Nm) : varsG (.cons d k n) a = varsG n (putAll a (varsN d k)) := rfl
theorem v0_rising (d : Nt) : Rising (v0 d) := by unfold v0; split <;> simp [Rising]
theorem varsG_rising : ∀ (f : Fo) {a : List Nm}, Rising a → Rising (varsG f a)
  | .nil, _, h => h
  | .cons _ _ n, _, h => varsG_rising n (putAll_rising h)
theorem varsN_rising (d : Nt) (k : Fo) : Rising (varsN d k) := varsG_rising k (v0_rising d)
/-- Is a variable of a row of nodes, or of a node. -/
def inF (x : Nm) : Fo → Prop
  | .nil => False
  | .cons d k n => x ∈ v0 d ∨ inF x k ∨ inF x n
theorem mem_varsG {x : Nm} : ∀ {f : Fo} {a : List Nm}, x ∈ varsG f a ↔ x ∈ a ∨ inF x f
  | .nil, a => by simp [varsG, inF]
  | .cons d k n, a => by
    rw [varsG_cons, mem_varsG, mem_putAll, varsN, mem_varsG, inF]
    constructor
    · rintro ((h | h | h) | h)
      · exact .inl h
      · exact .inr (.inl h)
      · exact .inr (.inr (.inl h))
      · exact .inr (.inr (.inr h))
    · rintro (h | h | h | h)
      · exact .inl (.inl h)
      · exact .inl (.inr (.inl h))
      · exact .inl (.inr (.inr h))
      · exact .inr h
theorem mem_varsN {x : Nm} {d : Nt} {k : Fo} : x ∈ varsN d k ↔ x ∈ v0 d ∨ inF x k := mem_varsG
theorem inF_cons {x : Nm} {d : Nt} {k n : Fo} : inF x (.cons d k n) ↔ x ∈ varsN d k ∨ inF x n := by rw [mem_varsN, inF, or_assoc]

/-- The variables that are surely bound. -/
def sureOf (o : Bool) (L : List (List Nm)) : List Nm := L.foldl (fun out l => l.foldl (fun out x => if o = true → ∀ m ∈ L, x ∈ m then putL out x else out) out) []
def sureL : Fo → List (List Nm)
  | .nil => []
  | .cons d k n => (if k.isNil then v0 d else sureOf (decide (d.kind = 4)) (sureL k)) :: sureL n
def sureN (d : Nt) (k : Fo) : List Nm := if k.isNil then v0 d else sureOf (decide (d.kind = 4)) (sureL k)
theorem sureL_cons (d : Nt) (k n : Fo) : sureL (.cons d k n) = sureN d k :: sureL n := rfl
theorem sureL_len : ∀ f : Fo, (sureL f).length = f.len
  | .nil => rfl
  | .cons d k n => by rw [sureL_cons, List.length_cons, sureL_len n]; rfl
theorem mem_sure1 {P : Nm → Prop} [DecidablePred P] {x : Nm} : ∀ {l out : List Nm}, x ∈ l.foldl (fun out x => if P x then putL out x else out) out ↔ x ∈ out ∨ (x ∈ l ∧ P x)
  | [], out => by simp
  | s :: r, out => by
    rw [List.foldl_cons, mem_sure1, List.mem_cons]
    split
    · rename_i h
      rw [mem_putL]
      constructor
      · rintro ((rfl | h1) | ⟨h1, h2⟩)
        · exact .inr ⟨.inl rfl, h⟩
        · exact .inl h1
        · exact .inr ⟨.inr h1, h2⟩
      · rintro (h1 | ⟨rfl | h1, h2⟩)
        · exact .inl (.inr h1)
        · exact .inl (.inl rfl)
        · exact .inr ⟨h1, h2⟩
    · rename_i h
      constructor
      · rintro (h1 | ⟨h1, h2⟩)
        · exact .inl h1
        · exact .inr ⟨.inr h1, h2⟩
      · rintro (h1 | ⟨rfl | h1, h2⟩)
        · exact .inl h1
        · exact absurd h2 h
        · exact .inr ⟨h1, h2⟩
theorem rising_sure1 {P : Nm → Prop} [DecidablePred P] : ∀ {l out : List Nm}, Rising out → Rising (l.foldl (fun out x => if P x then putL out x else out) out)
  | [], _, h => h
  | s :: r, out, h => by
    rw [List.foldl_cons]
    refine rising_sure1 (l := r) ?_
    split
    · exact putL_rising h s
    · exact h
theorem mem_sure2 {P : Nm → Prop} [DecidablePred P] {x : Nm} : ∀ {L : List (List Nm)} {out : List Nm}, x ∈ L.foldl (fun out l => l.foldl (fun out x => if P x then putL out x else out) out) out ↔ x ∈ out ∨ ((∃ m ∈ L, x ∈ m) ∧ P x)
  | [], out => by simp
  | l :: r, out => by
    rw [List.foldl_cons, mem_sure2, mem_sure1]
    constructor
    · rintro ((h | ⟨h1, h2⟩) | ⟨⟨m, hm, hx⟩, h2⟩)
      · exact .inl h
      · exact .inr ⟨⟨l, List.mem_cons_self, h1⟩, h2⟩
      · exact .inr ⟨⟨m, List.mem_cons_of_mem _ hm, hx⟩, h2⟩
    · rintro (h | ⟨⟨m, hm, hx⟩, h2⟩)
      · exact .inl (.inl h)
      · rcases List.mem_cons.1 hm with rfl | hm
        · exact .inl (.inr ⟨hx, h2⟩)
        · exact .inr ⟨⟨m, hm, hx⟩, h2⟩
theorem rising_sure2 {P : Nm → Prop} [DecidablePred P] : ∀ {L : List (List Nm)} {out : List Nm}, Rising out → Rising (L.foldl (fun out l => l.foldl (fun out x => if P x then putL out x else out) out) out)
  | [], _, h => h
  | l :: r, out, h => by rw [List.foldl_cons]; exact rising_sure2 (L := r) (rising_sure1 h)
theorem mem_sureOf {o : Bool} {L : List (List Nm)} {x : Nm} : x ∈ sureOf o L ↔ (∃ m ∈ L, x ∈ m) ∧ (o = true → ∀ m ∈ L, x ∈ m) := by
  unfold sureOf
  rw [mem_sure2]
  simp
theorem sureN_rising (d : Nt) (k : Fo) : Rising (sureN d k) := by
  unfold sureN
  split
  · exact v0_rising d
  · exact rising_sure2 Rising.nil

/-- No variable stands in two kids of a node that takes of each of them one. -/
def saB (k : Int) : Bool := decide (k = 2) || decide (k = 3)
def meets (a b : List Nm) : Bool := a.any fun x => decide (x ∈ b)
theorem meets_iff {a b : List Nm} : meets a b = true ↔ ∃ x, x ∈ a ∧ x ∈ b := by simp [meets]
def bindG : Fo → Bool → List Nm → Bool
  | .nil, _, _ => true
  | .cons d k n, sa, acc => bindG k (saB d.kind) [] && !(sa && meets acc (varsN d k)) && bindG n sa (acc ++ varsN d k)
def bindN (d : Nt) (k : Fo) : Bool := bindG k (saB d.kind) []
theorem bindG_cons (d : Nt) (k n : Fo) (sa : Bool) (acc : List Nm) : bindG (.cons d k n) sa acc = (bindN d k && !(sa && meets acc (varsN d k)) && bindG n sa (acc ++ varsN d k)) := rfl

/-- Which operands, conditions, nodes may be. -/
def okO (o : Opd) (vars : List Nm) : Bool :=
  if o.attr = em then decide (o.var = em) && ckB o.vk o.vn (nb o.vs)
  else (decide (o.vk = 0) && decide (o.vn = 0) && decide (o.vs = em)) && nameB (nb o.attr) && (if vars = [] then decide (o.var = em) else decide (nb o.var ∈ vars))
def okC (c : Cnd) (vars : List Nm) : Bool := decide (1 ≤ c.rel) && decide (c.rel ≤ 6) && okO c.left vars && okO c.right vars && !(decide (c.left.attr = em) && decide (c.right.attr = em))
def condE (c : Cnd) (vars : List Nm) : Int := if okC c vars then 0 else 74
def condsE (l : List Cnd) (vars : List Nm) : Int := if 16 < l.length then 74 else if l.all (fun c => okC c vars) then 0 else 74
def nodeE (d : Nt) (n : Nat) : Int :=
  if d.kind = 1 then (if 0 < n ∨ nameB (nb d.var) = false ∨ nameB (nb d.ty) = false then 71 else condsE d.tests [])
  else if d.kind = 2 ∨ d.kind = 3 ∨ d.kind = 4 then (if 2 ≤ n ∧ d.var = em ∧ d.ty = em ∧ d.tests = [] then 0 else 71)
  else 71
def nodeF : Fo → Int
  | .nil => 0
  | .cons d k n => if nodeE d k.len ≠ 0 then nodeE d k.len else if nodeF k ≠ 0 then nodeF k else nodeF n
def nodeN (d : Nt) (k : Fo) : Int := if nodeE d k.len ≠ 0 then nodeE d k.len else nodeF k
theorem nodeF_cons (d : Nt) (k n : Fo) : nodeF (.cons d k n) = if nodeN d k ≠ 0 then nodeN d k else nodeF n := by
  simp only [nodeF, nodeN]
  by_cases h : nodeE d k.len = 0 <;> simp [h]
def shapeN (d : Nt) (k : Fo) : Int := if 8 < deepF k + 1 ∨ 12 < termsN k then 72 else if nodeN d k ≠ 0 then nodeN d k else if 64 < altsN d k then 72 else 0
structure Pt where
  name : ByteArray
  win : Int
  d : Nt
  k : Fo
  wh : List Cnd
def patE (p : Pt) : Int :=
  if nameB (nb p.name) = false ∨ p.win < 1 ∨ 1099511627776 < p.win then 70
  else if shapeN p.d p.k ≠ 0 then shapeN p.d p.k
  else if bindN p.d p.k = false then 73
  else condsE p.wh (varsN p.d p.k)
end Go.Proofs.Ytpbloplbpkedcaa
