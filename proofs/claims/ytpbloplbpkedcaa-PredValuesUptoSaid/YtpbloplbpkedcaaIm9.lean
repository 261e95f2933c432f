/- The index of bound events: brief values, how they stand; what the index finds (no program in it). -/
import Derived.Test.YtpbloplbpkedcaaCo9
import Derived.Test.YtpbloplbpkedcaaNm9
namespace Go.Proofs.Ytpbloplbpkedcaa
open Go Go.RowKit Go.Sort

/-- A rank as four bytes, the highest first. -/
def be4 (r : Nat) : List UInt8 := [UInt8.ofNat (r / 16777216 % 256), UInt8.ofNat (r / 65536 % 256), UInt8.ofNat (r / 256 % 256), UInt8.ofNat (r % 256)]
theorem cb_lt {a b : List UInt8} (h : Op.bytesLess a b = true) : Lib.compareBytes a b = -1 := by
  rw [less_cb, decide_eq_true_eq] at h
  induction a generalizing b with
  | nil => cases b <;> simp [Lib.compareBytes] at h ⊢
  | cons x r ih =>
    cases b with
    | nil => simp [Lib.compareBytes] at h
    | cons y t =>
      simp only [Lib.compareBytes] at h ⊢
      by_cases h1 : x < y
      · rw [if_pos h1]
      · rw [if_neg h1] at h ⊢
        by_cases h2 : y < x
        · rw [if_pos h2] at h; omega
        · rw [if_neg h2] at h ⊢; exact ih h
theorem cb_gt {a b : List UInt8} (h : Op.bytesLess b a = true) : Lib.compareBytes a b = 1 := by
  rw [less_cb, decide_eq_true_eq] at h
  induction a generalizing b with
  | nil => cases b <;> simp [Lib.compareBytes] at h ⊢
  | cons x r ih =>
    cases b with
    | nil => simp [Lib.compareBytes]
    | cons y t =>
      simp only [Lib.compareBytes] at h ⊢
      by_cases h1 : x < y
      · have h2 : ¬ y < x := fun h2 => absurd (UInt8.lt_trans h1 h2) (UInt8.lt_irrefl _)
        rw [if_neg h2, if_pos h1] at h; omega
      · rw [if_neg h1]
        by_cases h2 : y < x
        · rw [if_pos h2]
        · rw [if_neg h2] at h ⊢
          rw [if_neg h1] at h
          exact ih h
theorem u8_lt {a b : Nat} (ha : a < 256) (hb : b < 256) : UInt8.ofNat a < UInt8.ofNat b ↔ a < b := by
  rw [UInt8.lt_iff_toNat_lt]
  simp only [UInt8.toNat_ofNat']
  omega
theorem be4_less {i j : Nat} (h : i < j) (hj : j < 4294967296) : Op.bytesLess (be4 i) (be4 j) = true := by
  rw [less_cb, decide_eq_true_eq]
  unfold be4
  simp only [Lib.compareBytes]
  have a1 := u8_lt (a := i / 16777216 % 256) (b := j / 16777216 % 256) (by omega) (by omega)
  have a2 := u8_lt (a := j / 16777216 % 256) (b := i / 16777216 % 256) (by omega) (by omega)
  have a3 := u8_lt (a := i / 65536 % 256) (b := j / 65536 % 256) (by omega) (by omega)
  have a4 := u8_lt (a := j / 65536 % 256) (b := i / 65536 % 256) (by omega) (by omega)
  have a5 := u8_lt (a := i / 256 % 256) (b := j / 256 % 256) (by omega) (by omega)
  have a6 := u8_lt (a := j / 256 % 256) (b := i / 256 % 256) (by omega) (by omega)
  have a7 := u8_lt (a := i % 256) (b := j % 256) (by omega) (by omega)
  have a8 := u8_lt (a := j % 256) (b := i % 256) (by omega) (by omega)
  simp only [a1, a2, a3, a4, a5, a6, a7, a8]
  repeat (split <;> try omega)
/-- Ranks that stand as the texts do. -/
def Ranks (rk : Nm → Nat) (S : List Nm) : Prop := (∀ s ∈ S, rk s < 4294967296) ∧ ∀ s ∈ S, ∀ t ∈ S, s < t → rk s < rk t
def briefL (rk : Nm → Nat) (v : Vl) : Vl := ⟨v.k, v.n, ba (be4 (rk (nb v.s)))⟩
theorem ba_data (l : List UInt8) : (ba l).data.toList = l := nb_ba l
theorem brief_cmp {rk : Nm → Nat} {S : List Nm} (h : Ranks rk S) {s t : Nm} (hs : s ∈ S) (ht : t ∈ S) : Lib.compareBytes (be4 (rk s)) (be4 (rk t)) = Lib.compareBytes s t := by
  by_cases h1 : s < t
  · rw [cb_lt (be4_less (h.2 s hs t ht h1) (h.1 t ht)), cb_lt (by rw [bl_lt]; exact decide_eq_true h1)]
  by_cases h2 : t < s
  case neg =>
    obtain rfl : s = t := List.le_antisymm h2 h1
    rw [cb_self, cb_self]
  · replace h1 := h2
    rw [cb_gt (be4_less (h.2 t ht s hs h1) (h.1 s hs)), cb_gt (by rw [bl_lt]; exact decide_eq_true h1)]
theorem brief_both {rk : Nm → Nat} {S : List Nm} (h : Ranks rk S) (rel : Int) {a b : Vl} (ha : nb a.s ∈ S) (hb : nb b.s ∈ S) : holdL rel (briefL rk a) (briefL rk b) = holdL rel a b := by
  unfold holdL holdsB briefL
  simp only [ba_data]
  have e : cmpV a.k a.n (be4 (rk (nb a.s))) b.k b.n (be4 (rk (nb b.s))) = cmpV a.k a.n a.s.data.toList b.k b.n b.s.data.toList := by
    unfold cmpV
    rw [brief_cmp h ha hb]
    rfl
  rw [e]
theorem hold_zero_left (rel : Int) (b : Vl) : holdL rel zeroL b = false := by
  unfold holdL holdsB zeroL
  have h1 : cmpB 0 b.k = false := by simp [cmpB]
  simp [h1, kindB]
theorem hold_zero_right (rel : Int) (a : Vl) : holdL rel a zeroL = false := by
  unfold holdL holdsB zeroL
  have h1 : cmpB a.k 0 = false := by simp [cmpB]; omega
  simp [h1, kindB]
/-- What the index tells of an attribute: its value and its brief one. -/
def fndL (rk : Nm → Nat) (xs : List At) (nm : ByteArray) : Vl × Vl := match xs.find? (isNm nm) with | some x => (⟨x.k, x.n, x.s⟩, briefL rk ⟨x.k, x.n, x.s⟩) | none => (zeroL, zeroL)
theorem fndL_fst (rk : Nm → Nat) (xs : List At) (nm : ByteArray) : (fndL rk xs nm).1 = getL xs nm := by
  unfold fndL getL
  cases xs.find? (isNm nm) <;> rfl
/-- All texts of attributes' values. -/
def strsA (xs : List At) : List Nm := xs.map fun x => nb x.s
def strsB (bs : List Bd) : List Nm := bs.flatMap fun b => strsA b.ats
theorem fnd_hold {rk : Nm → Nat} {S : List Nm} (h : Ranks rk S) (rel : Int) {xs ys : List At} (hx : ∀ s ∈ strsA xs, s ∈ S) (hy : ∀ s ∈ strsA ys, s ∈ S) (m n : ByteArray) :
    holdL rel (fndL rk xs m).2 (fndL rk ys n).2 = holdL rel (getL xs m) (getL ys n) := by
  unfold fndL getL
  cases h1 : xs.find? (isNm m) with
  | none => rw [hold_zero_left, hold_zero_left]
  | some x =>
    cases h2 : ys.find? (isNm n) with
    | none => rw [hold_zero_right, hold_zero_right]
    | some y => exact brief_both h rel (hx _ (List.mem_map_of_mem (f := fun x : At => nb x.s) (List.mem_of_find?_eq_some h1))) (hy _ (List.mem_map_of_mem (f := fun x : At => nb x.s) (List.mem_of_find?_eq_some h2)))

/-- The rank of a text: how many of a row stand ahead of it. -/
def rankIn (l : List Nm) (s : Nm) : Nat := l.idxOf s
theorem rank_at {l : List Nm} (h : l.Pairwise (fun x y => x < y)) {i : Nat} (hi : i < l.length) : rankIn l l[i] = i := by
  induction l generalizing i with
  | nil => simp at hi
  | cons x r ih =>
    obtain ⟨h1, h2⟩ := List.pairwise_cons.1 h
    cases i with
    | zero => simp [rankIn]
    | succ i =>
      have hi' : i < r.length := by simpa using hi
      have hne : x ≠ r[i] := fun e => by have := h1 _ (List.getElem_mem hi'); rw [← e] at this; exact List.lt_irrefl _ this
      have := ih h2 hi'
      unfold rankIn at this ⊢
      rw [List.getElem_cons_succ, List.idxOf_cons, this, beq_eq_false_iff_ne.2 hne]
      rfl
theorem ranks_of {l : List Nm} (h : l.Pairwise (fun x y => x < y)) (hl : l.length ≤ 4294967296) {S : List Nm} (hS : ∀ s ∈ S, s ∈ l) : Ranks (rankIn l) S := by
  refine ⟨fun s hs => ?_, fun s hs t ht hlt => ?_⟩
  · obtain ⟨i, hi, rfl⟩ := List.mem_iff_getElem.1 (hS s hs)
    rw [rank_at h hi]; omega
  · obtain ⟨i, hi, rfl⟩ := List.mem_iff_getElem.1 (hS s hs)
    obtain ⟨j, hj, rfl⟩ := List.mem_iff_getElem.1 (hS t ht)
    rw [rank_at h hi, rank_at h hj]
    rcases Nat.lt_trichotomy i j with h1 | h1 | h1
    · exact h1
    · subst h1; exact absurd hlt (List.lt_irrefl _)
    · have := List.pairwise_iff_getElem.1 h j i hj hi h1
      exact absurd (List.lt_trans hlt this) (List.lt_irrefl _)
end Go.Proofs.Ytpbloplbpkedcaa
