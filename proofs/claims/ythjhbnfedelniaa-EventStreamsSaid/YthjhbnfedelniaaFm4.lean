/- Plain facts on events as bits. No program here. -/
import Derived.Test.YthjhbnfedelniaaBackm
import Derived.Test.YthjhbnfedelniaaBase
namespace Go.Proofs.Ythjhbnfedelniaa
open Go

/-- The bits of an attribute; of an event. -/
def valBitsA (x : At) : List Bool := if x.k = 1 then natBits (zigN x.n) else textBits x.s.data.toList
def atBits (x : At) : List Bool := textBits x.name.data.toList ++ bitsOf x.k.toNat 2 ++ valBitsA x
def headE (e : Ev) : List Bool := bitsOf e.src.toNat 4 ++ natBits e.seq.toNat ++ natBits e.time.toNat ++ textBits e.ty.data.toList ++ bitsOf e.ats.length 4
def evBits (e : Ev) : List Bool := headE e ++ e.ats.flatMap atBits

theorem ckGo_all {xs : List At} {i : Nat} (h : ckGo xs i = 0) : ∀ j, i ≤ j → j < xs.length → nameB xs[j]!.name.data.toList = true ∧ ckB xs[j]!.k xs[j]!.n xs[j]!.s.data.toList = true := by
  generalize hm : xs.length - i = m
  induction m generalizing i with
  | zero => intro j h1 h2; omega
  | succ m ih =>
    intro j h1 h2
    rw [ckGo] at h
    rw [if_pos (by omega)] at h
    split at h
    · exact absurd h (by decide)
    · rename_i hn
      split at h
      · exact absurd h (by decide)
      · rename_i hc
        split at h
        · exact absurd h (by decide)
        · by_cases hij : i = j
          · subst hij; exact ⟨by simpa using hn, by simpa using hc⟩
          · exact ih h (by omega) j (by omega) h2
theorem ckAll_zero {xs : List At} (h : ckAll xs = 0) : xs.length ≤ 8 ∧ ∀ x ∈ xs, nameB x.name.data.toList = true ∧ ckB x.k x.n x.s.data.toList = true := by
  unfold ckAll at h
  split at h
  · exact absurd h (by decide)
  · refine ⟨by omega, fun x hx => ?_⟩
    obtain ⟨i, hi, rfl⟩ := List.mem_iff_getElem.1 hx
    have := ckGo_all h i (Nat.zero_le _) hi
    rwa [getElem!_pos xs i hi] at this
theorem nameB_len {s : List UInt8} (h : nameB s = true) : s.length ≤ 32 := (of_decide_eq_true h).2.1
/-- What Check takes of an attribute. -/
theorem ckB_parts {k n : Int} {s : List UInt8} (h : ckB k n s = true) : (k = 1 ∧ s.length = 0) ∨ (k = 2 ∧ n = 0 ∧ s.length ≤ 64) := by
  unfold ckB at h
  split at h
  · rename_i hk; exact .inl ⟨hk, by simpa using h⟩
  · split at h
    · rename_i hk
      simp only [Bool.and_eq_true, decide_eq_true_eq] at h
      exact .inr ⟨hk, h.1, h.2⟩
    · cases h
/-- What is written of an event that may be: all in natural numbers. -/
structure EvOk (e : Ev) : Prop where
  src0 : 0 ≤ e.src
  src : e.src < 16
  seq0 : 0 ≤ e.seq
  seq : e.seq ≤ 1099511627776
  time0 : 0 ≤ e.time
  time : e.time ≤ 1099511627776
  ty : e.ty.size ≤ 32
  ats : e.ats.length ≤ 8
  each : ∀ x ∈ e.ats, x.name.size ≤ 32 ∧ ((x.k = 1 ∧ x.s.size = 0) ∨ (x.k = 2 ∧ x.n = 0 ∧ x.s.size ≤ 64))
theorem size_of_data (s : ByteArray) : s.size = s.data.toList.length := by simp
theorem EvOk.of {e : Ev} (h : ckE e = 0) : EvOk e := by
  cases hb : evB e with
  | false => rw [ckE_no hb] at h; exact absurd h (by decide)
  | true =>
    rw [ckE_ok hb] at h
    obtain ⟨h1, h2⟩ := ckAll_zero h
    simp only [evB, evSrcB, evTmB, Bool.and_eq_true, decide_eq_true_eq] at hb
    obtain ⟨⟨⟨⟨a, b⟩, c, d⟩, e1, f⟩, g⟩ := hb
    refine ⟨a, b, c, d, e1, f, by rw [size_of_data]; exact nameB_len g, h1, fun x hx => ?_⟩
    obtain ⟨h3, h4⟩ := h2 x hx
    rw [size_of_data, size_of_data]
    exact ⟨nameB_len h3, ckB_parts h4⟩

theorem ahd_small4 (u : Nat) (h : u ≤ 1099511627776) : ahd u ≤ 40 := by
  unfold ahd
  have : (u + 1).log2 < 41 := (Nat.log2_lt (by omega)).2 (by omega)
  omega
theorem ahd_text (u : Nat) (h : u ≤ 64) : ahd u ≤ 6 := by
  unfold ahd
  have : (u + 1).log2 < 7 := (Nat.log2_lt (by omega)).2 (by omega)
  omega
theorem textBits_len (s : ByteArray) : (textBits s.data.toList).length = 2 * ahd s.size + 1 + 8 * s.size := by
  unfold textBits
  rw [List.length_append, natBits_length, size_of_data]
  congr 1
  generalize s.data.toList = l
  induction l with
  | nil => rfl
  | cons c r ih => rw [List.flatMap_cons, List.length_append, ih, bitsOf_length, List.length_cons]; omega
theorem headE_len (e : Ev) : (headE e).length = 4 + (2 * ahd e.seq.toNat + 1) + (2 * ahd e.time.toNat + 1) + (2 * ahd e.ty.size + 1 + 8 * e.ty.size) + 4 := by
  unfold headE
  simp only [List.length_append, bitsOf_length, natBits_length, textBits_len]
theorem atBits_len (x : At) : (atBits x).length = (2 * ahd x.name.size + 1 + 8 * x.name.size) + 2 + (valBitsA x).length := by
  unfold atBits
  simp only [List.length_append, bitsOf_length, textBits_len]
theorem valBitsA_le (x : At) (h : (x.k = 1 ∧ x.s.size = 0) ∨ (x.k = 2 ∧ x.n = 0 ∧ x.s.size ≤ 64)) (hn : zigN x.n < 2 ^ 64) : (valBitsA x).length ≤ 525 := by
  unfold valBitsA
  rcases h with ⟨h1, h2⟩ | ⟨h1, h2, h3⟩
  · rw [if_pos h1, natBits_length]
    have := ahd_le (zigN x.n) hn
    omega
  · rw [if_neg (by omega), textBits_len]
    have := ahd_text x.s.size h3
    omega
theorem flatAt_le (xs : List At) (hn : ∀ x ∈ xs, zigN x.n < 2 ^ 64) (h : ∀ x ∈ xs, x.name.size ≤ 32 ∧ ((x.k = 1 ∧ x.s.size = 0) ∨ (x.k = 2 ∧ x.n = 0 ∧ x.s.size ≤ 64))) : (xs.flatMap atBits).length ≤ xs.length * 796 := by
  induction xs with
  | nil => simp
  | cons x r ih =>
    have h1 := ih (fun y hy => hn y (by simp [hy])) (fun y hy => h y (by simp [hy]))
    obtain ⟨h2, h3⟩ := h x (by simp)
    have h4 := valBitsA_le x h3 (hn x (by simp))
    have h5 := ahd_text x.name.size (by omega)
    rw [List.flatMap_cons, List.length_append, atBits_len, List.length_cons]
    omega
theorem evBits_le (e : Ev) (h : EvOk e) (hn : ∀ x ∈ e.ats, zigN x.n < 2 ^ 64) : (evBits e).length ≤ 8192 := by
  have h1 := flatAt_le e.ats hn h.each
  have h2 := ahd_small4 e.seq.toNat (by have := h.seq; omega)
  have h3 := ahd_small4 e.time.toNat (by have := h.time; omega)
  have h4 := ahd_text e.ty.size (by have := h.ty; omega)
  have h5 := h.ty
  have h6 := h.ats
  unfold evBits
  rw [List.length_append, headE_len]
  omega
end Go.Proofs.Ythjhbnfedelniaa
