/- Joined: Fm4, Put4, Fb0, Pt0, Pu0, Fla4, Form4, Rby4, Fo0, Rb0, Ww0. -/
import Derived.Test.YtppacelaeaaodaaJb
import Derived.Test.YtppacelaeaaodaaEv
import Derived.Test.YtppacelaeaaodaaEc
import Derived.Test.YtppacelaeaaodaaJa
import Derived.Test.YtppacelaeaaodaaBm0
import Derived.Test.YtppacelaeaaodaaCp0
import Derived.Test.YtppacelaeaaodaaAp0
import Derived.Deep.RegionHeld3
import Derived.Test.YtppacelaeaaodaaRc0
import Derived.Test.YtppacelaeaaodaaBe0
/- Plain facts on events as bits. No program here. -/
namespace Go.Proofs.Ytppacelaeaaodaa
open Go

/-- The bits of an attribute; of an event. -/
def valBitsA (x : At) : List Bool := if x.k = 1 then natBits (zigN x.n) else textBits x.s.data.toList
def atBits (x : At) : List Bool := textBits x.name.data.toList ++ bitsOf x.k.toNat 2 ++ valBitsA x
def headE (e : Ev) : List Bool := bitsOf e.src.toNat 4 ++ natBits e.seq.toNat ++ natBits e.time.toNat ++ textBits e.ty.data.toList ++ bitsOf e.ats.length 4
def evBits (e : Ev) : List Bool := headE e ++ e.ats.flatMap atBits

theorem ckGo_all {xs : List At} {i : Nat} (h : ckGo xs i = 0) : ∀ j, i ≤ j → j < xs.length → nameB xs[j]!.name.data.toList = true ∧ ckB xs[j]!.k xs[j]!.n xs[j]!.s.data.toList = true := by
  generalize hm : xs.length - i = m
  induction m generalizing i with
  | zero => intro j h1 h2; omega
  | succ m ih =>
    intro j h1 h2
    rw [ckGo] at h
    rw [if_pos (by omega)] at h
    split at h
    · exact absurd h (by decide)
    · rename_i hn
      split at h
      · exact absurd h (by decide)
      · rename_i hc
        split at h
        · exact absurd h (by decide)
        · by_cases hij : i = j
          · subst hij; exact ⟨by simpa using hn, by simpa using hc⟩
          · exact ih h (by omega) j (by omega) h2
theorem ckAll_zero {xs : List At} (h : ckAll xs = 0) : xs.length ≤ 8 ∧ ∀ x ∈ xs, nameB x.name.data.toList = true ∧ ckB x.k x.n x.s.data.toList = true := by
  unfold ckAll at h
  split at h
  · exact absurd h (by decide)
  · refine ⟨by omega, fun x hx => ?_⟩
    obtain ⟨i, hi, rfl⟩ := List.mem_iff_getElem.1 hx
    have := ckGo_all h i (Nat.zero_le _) hi
    rwa [getElem!_pos xs i hi] at this
theorem nameB_len {s : List UInt8} (h : nameB s = true) : s.length ≤ 32 := (of_decide_eq_true h).2.1
/-- What Check takes of an attribute. -/
theorem ckB_parts {k n : Int} {s : List UInt8} (h : ckB k n s = true) : (k = 1 ∧ s.length = 0) ∨ (k = 2 ∧ n = 0 ∧ s.length ≤ 64) := by
  unfold ckB at h
  split at h
  · rename_i hk; exact .inl ⟨hk, by simpa using h⟩
  · split at h
    · rename_i hk
      simp only [Bool.and_eq_true, decide_eq_true_eq] at h
      exact .inr ⟨hk, h.1, h.2⟩
    · cases h
/-- What is written of an event that may be: all in natural numbers. -/
structure EvOk (e : Ev) : Prop where
  src0 : 0 ≤ e.src
  src : e.src < 16
  seq0 : 0 ≤ e.seq
  seq : e.seq ≤ 1099511627776
  time0 : 0 ≤ e.time
  time : e.time ≤ 1099511627776
  ty : e.ty.size ≤ 32
  ats : e.ats.length ≤ 8
  each : ∀ x ∈ e.ats, x.name.size ≤ 32 ∧ ((x.k = 1 ∧ x.s.size = 0) ∨ (x.k = 2 ∧ x.n = 0 ∧ x.s.size ≤ 64))
theorem size_of_data (s : ByteArray) : s.size = s.data.toList.length := by simp
theorem EvOk.of {e : Ev} (h : ckE e = 0) : EvOk e := by
  cases hb : evB e with
  | false => rw [ckE_no hb] at h; exact absurd h (by decide)
  | true =>
    rw [ckE_ok hb] at h
    obtain ⟨h1, h2⟩ := ckAll_zero h
    simp only [evB, evSrcB, evTmB, Bool.and_eq_true, decide_eq_true_eq] at hb
    obtain ⟨⟨⟨⟨a, b⟩, c, d⟩, e1, f⟩, g⟩ := hb
    refine ⟨a, b, c, d, e1, f, by rw [size_of_data]; exact nameB_len g, h1, fun x hx => ?_⟩
    obtain ⟨h3, h4⟩ := h2 x hx
    rw [size_of_data, size_of_data]
    exact ⟨nameB_len h3, ckB_parts h4⟩

theorem ahd_small4 (u : Nat) (h : u ≤ 1099511627776) : ahd u ≤ 40 := by
  unfold ahd
  have : (u + 1).log2 < 41 := (Nat.log2_lt (by omega)).2 (by omega)
  omega
theorem ahd_text (u : Nat) (h : u ≤ 64) : ahd u ≤ 6 := by
  unfold ahd
  have : (u + 1).log2 < 7 := (Nat.log2_lt (by omega)).2 (by omega)
  omega
theorem textBits_len (s : ByteArray) : (textBits s.data.toList).length = 2 * ahd s.size + 1 + 8 * s.size := by
  unfold textBits
  rw [List.length_append, natBits_length, size_of_data]
  congr 1
  generalize s.data.toList = l
  induction l with
  | nil => rfl
  | cons c r ih => rw [List.flatMap_cons, List.length_append, ih, bitsOf_length, List.length_cons]; omega
theorem headE_len (e : Ev) : (headE e).length = 4 + (2 * ahd e.seq.toNat + 1) + (2 * ahd e.time.toNat + 1) + (2 * ahd e.ty.size + 1 + 8 * e.ty.size) + 4 := by
  unfold headE
  simp only [List.length_append, bitsOf_length, natBits_length, textBits_len]
theorem atBits_len (x : At) : (atBits x).length = (2 * ahd x.name.size + 1 + 8 * x.name.size) + 2 + (valBitsA x).length := by
  unfold atBits
  simp only [List.length_append, bitsOf_length, textBits_len]
theorem valBitsA_le (x : At) (h : (x.k = 1 ∧ x.s.size = 0) ∨ (x.k = 2 ∧ x.n = 0 ∧ x.s.size ≤ 64)) (hn : zigN x.n < 2 ^ 64) : (valBitsA x).length ≤ 525 := by
  unfold valBitsA
  rcases h with ⟨h1, h2⟩ | ⟨h1, h2, h3⟩
  · rw [if_pos h1, natBits_length]
    have := ahd_le (zigN x.n) hn
    omega
  · rw [if_neg (by omega), textBits_len]
    have := ahd_text x.s.size h3
    omega
theorem flatAt_le (xs : List At) (hn : ∀ x ∈ xs, zigN x.n < 2 ^ 64) (h : ∀ x ∈ xs, x.name.size ≤ 32 ∧ ((x.k = 1 ∧ x.s.size = 0) ∨ (x.k = 2 ∧ x.n = 0 ∧ x.s.size ≤ 64))) : (xs.flatMap atBits).length ≤ xs.length * 796 := by
  induction xs with
  | nil => simp
  | cons x r ih =>
    have h1 := ih (fun y hy => hn y (by simp [hy])) (fun y hy => h y (by simp [hy]))
    obtain ⟨h2, h3⟩ := h x (by simp)
    have h4 := valBitsA_le x h3 (hn x (by simp))
    have h5 := ahd_text x.name.size (by omega)
    rw [List.flatMap_cons, List.length_append, atBits_len, List.length_cons]
    omega
theorem evBits_le (e : Ev) (h : EvOk e) (hn : ∀ x ∈ e.ats, zigN x.n < 2 ^ 64) : (evBits e).length ≤ 8192 := by
  have h1 := flatAt_le e.ats hn h.each
  have h2 := ahd_small4 e.seq.toNat (by have := h.seq; omega)
  have h3 := ahd_small4 e.time.toNat (by have := h.time; omega)
  have h4 := ahd_text e.ty.size (by have := h.ty; omega)
  have h5 := h.ty
  have h6 := h.ats
  unfold evBits
  rw [List.length_append, headE_len]
  omega
end Go.Proofs.Ytppacelaeaaodaa

/- Contracts: put of an attribute, of an event, into a sink that has room; how many bits an event has. -/
namespace Go.Proofs.Ytppacelaeaaodaa
open Go Go.RowKit

theorem cell_of_four4 {w : World} {q : Nat} {c0 c1 c2 c3 : Value} {t : Nat} {fr : Nat × Nat} (h : w.heap[q]? = some (.cells #[c0, c1, c2, c3] t fr)) :
    w.cell? ⟨q, 0, none⟩ = some c0 ∧ w.cell? ⟨q, 1, none⟩ = some c1 ∧ w.cell? ⟨q, 2, none⟩ = some c2 ∧ w.cell? ⟨q, 3, none⟩ = some c3 := by
  refine ⟨?_, ?_, ?_, ?_⟩ <;> simp [World.cell?, h]

set_option maxRecDepth 100000 in
set_option maxHeartbeats 1600000 in
theorem ePutAttr_int (B q : Nat) (bs : List Bool) (nm s : ByteArray) (n : Int) (w : World) (hs : SinkIs w B q bs) (hB : B ≤ w.heap.size) (hn : (Lit.int .i64 n).wf = true)
    (hl : bs.length + ((2 * ahd nm.size + 1 + 8 * nm.size) + 2 + (2 * ahd (zigN n) + 1)) ≤ 1048576) :
    Calls Try.prog 148 #[.pointer (some ⟨q, 0, none⟩), .agg #[.string nm, .int .i64 1, .int .i64 n, .string s]] w
      fun e w' => e = .returned (.tuple #[]) ∧ SinkIs w' B q (bs ++ (textBits nm.data.toList ++ bitsOf 1 2 ++ natBits (zigN n))) ∧ Below B w w' := by
  obtain ⟨P, hP⟩ : ∃ P, P = w.heap.size := ⟨_, rfl⟩
  obtain ⟨W, hW⟩ : ∃ W, W = w.alloc (.cells #[.string nm, .int .i64 1, .int .i64 n, .string s] 110) := ⟨_, rfl⟩
  have hbel : Below B w W := by rw [hW]; exact (Below.refl _ _).alloc hB _
  have HSW := hide (by rw [hW]; exact hs.below ((Below.refl w.heap.size w).alloc (Nat.le_refl _) _) (Nat.le_refl _) : SinkIs W B q bs)
  have HPW := hide (by rw [hW, hP]; exact heap_alloc_new w _ : W.heap[P]? = some (.cells #[.string nm, .int .i64 1, .int .i64 n, .string s] 110 (0, 0)))
  have HBel := hide hbel; have HW := hide hW; have HP := hide hP
  have htl := textBits_len nm
  obtain ⟨L, hL⟩ : ∃ L, L = (textBits nm.data.toList).length := ⟨_, rfl⟩
  have CT := fun (w : World) (h : SinkIs w B q bs) => kText_fits B q nm bs w h (by omega)
  have CB := fun (w : World) (h : SinkIs w B q (bs ++ textBits nm.data.toList)) => kBits_fits B q 1 2 _ w h (by decide) (by decide) (by rw [List.length_append]; omega)
  have CN := fun (w : World) (h : SinkIs w B q (bs ++ textBits nm.data.toList ++ bitsOf 1 2)) => kNum_fits B q n _ w hn h (by rw [List.length_append, List.length_append, bitsOf_length]; omega)
  have HCT := hide CT; have HCB := hide CB; have HCN := hide CN
  clear hs hbel hW hP CT CB CN hl htl hL hn hB
  obtain ⟨c0, c1, c2, c3⟩ := cell_of_four4 HPW.out
  go_enter Try.func148, Try.ntmps148
  go_wp2_with fail
  rw [← HW.out, ← HP.out]
  refine (HCT.out _ HSW.out).mono ?_
  rintro e w1 ⟨rfl, hs1, k1⟩
  clear c0 c1 c2 c3
  have HP1 := hide (k1.typed _ _ _ _ HPW.out (by decide))
  obtain ⟨c0, c1, c2, c3⟩ := cell_of_four4 HP1.out
  have HS1 := hide hs1; have K1 := hide k1; clear hs1 k1
  go_wp2_with fail
  refine (HCB.out _ HS1.out).mono ?_
  rintro e w2 ⟨rfl, hs2, k2⟩
  clear c0 c1 c2 c3
  have HP2 := hide (k2.typed _ _ _ _ HP1.out (by decide))
  obtain ⟨c0, c1, c2, c3⟩ := cell_of_four4 HP2.out
  have HS2 := hide hs2; have K2 := hide (K1.out.trans k2); clear hs2 k2
  go_wp2_with fail
  refine (HCN.out _ HS2.out).mono ?_
  rintro e w3 ⟨rfl, hs3, k3⟩
  have HS3 := hide hs3; have K3 := hide (K2.out.trans k3); clear hs3 k3
  go_wp2
  go_end0
  refine ⟨rfl, ?_, HBel.out.trans K3.out.below⟩
  have := HS3.out
  rwa [List.append_assoc, List.append_assoc, ← List.append_assoc (textBits _)] at this

set_option maxRecDepth 100000 in
set_option maxHeartbeats 1600000 in
theorem ePutAttr_str (B q : Nat) (bs : List Bool) (nm s : ByteArray) (n : Int) (w : World) (hs : SinkIs w B q bs) (hB : B ≤ w.heap.size)
    (hl : bs.length + ((2 * ahd nm.size + 1 + 8 * nm.size) + 2 + (2 * ahd s.size + 1 + 8 * s.size)) ≤ 1048576) :
    Calls Try.prog 148 #[.pointer (some ⟨q, 0, none⟩), .agg #[.string nm, .int .i64 2, .int .i64 n, .string s]] w
      fun e w' => e = .returned (.tuple #[]) ∧ SinkIs w' B q (bs ++ (textBits nm.data.toList ++ bitsOf 2 2 ++ textBits s.data.toList)) ∧ Below B w w' := by
  obtain ⟨P, hP⟩ : ∃ P, P = w.heap.size := ⟨_, rfl⟩
  obtain ⟨W, hW⟩ : ∃ W, W = w.alloc (.cells #[.string nm, .int .i64 2, .int .i64 n, .string s] 110) := ⟨_, rfl⟩
  have hbel : Below B w W := by rw [hW]; exact (Below.refl _ _).alloc hB _
  have HSW := hide (by rw [hW]; exact hs.below ((Below.refl w.heap.size w).alloc (Nat.le_refl _) _) (Nat.le_refl _) : SinkIs W B q bs)
  have HPW := hide (by rw [hW, hP]; exact heap_alloc_new w _ : W.heap[P]? = some (.cells #[.string nm, .int .i64 2, .int .i64 n, .string s] 110 (0, 0)))
  have HBel := hide hbel; have HW := hide hW; have HP := hide hP
  have htl := textBits_len nm
  obtain ⟨L, hL⟩ : ∃ L, L = (textBits nm.data.toList).length := ⟨_, rfl⟩
  have CT := fun (w : World) (h : SinkIs w B q bs) => kText_fits B q nm bs w h (by omega)
  have CB := fun (w : World) (h : SinkIs w B q (bs ++ textBits nm.data.toList)) => kBits_fits B q 2 2 _ w h (by decide) (by decide) (by rw [List.length_append]; omega)
  have CN := fun (w : World) (h : SinkIs w B q (bs ++ textBits nm.data.toList ++ bitsOf 2 2)) => kText_fits B q s _ w h (by rw [List.length_append, List.length_append, bitsOf_length]; omega)
  have HCT := hide CT; have HCB := hide CB; have HCN := hide CN
  clear hs hbel hW hP CT CB CN hl htl hL hB
  obtain ⟨c0, c1, c2, c3⟩ := cell_of_four4 HPW.out
  go_enter Try.func148, Try.ntmps148
  go_wp2_with fail
  rw [← HW.out, ← HP.out]
  refine (HCT.out _ HSW.out).mono ?_
  rintro e w1 ⟨rfl, hs1, k1⟩
  clear c0 c1 c2 c3
  have HP1 := hide (k1.typed _ _ _ _ HPW.out (by decide))
  obtain ⟨c0, c1, c2, c3⟩ := cell_of_four4 HP1.out
  have HS1 := hide hs1; have K1 := hide k1; clear hs1 k1
  go_wp2_with fail
  refine (HCB.out _ HS1.out).mono ?_
  rintro e w2 ⟨rfl, hs2, k2⟩
  clear c0 c1 c2 c3
  have HP2 := hide (k2.typed _ _ _ _ HP1.out (by decide))
  obtain ⟨c0, c1, c2, c3⟩ := cell_of_four4 HP2.out
  have HS2 := hide hs2; have K2 := hide (K1.out.trans k2); clear hs2 k2
  go_wp2_with fail
  refine (HCN.out _ HS2.out).mono ?_
  rintro e w3 ⟨rfl, hs3, k3⟩
  have HS3 := hide hs3; have K3 := hide (K2.out.trans k3); clear hs3 k3
  go_wp2
  go_end0
  refine ⟨rfl, ?_, HBel.out.trans K3.out.below⟩
  have := HS3.out
  rwa [List.append_assoc, List.append_assoc, ← List.append_assoc (textBits _)] at this

def AtOk (x : At) : Prop := x.name.size ≤ 32 ∧ ((x.k = 1 ∧ x.s.size = 0) ∨ (x.k = 2 ∧ x.n = 0 ∧ x.s.size ≤ 64))
theorem ePutAttr_any (B q : Nat) (bs : List Bool) (x : At) (w : World) (hs : SinkIs w B q bs) (hB : B ≤ w.heap.size) (hx : AtOk x) (hn : (Lit.int .i64 x.n).wf = true) (hl : bs.length + (atBits x).length ≤ 1048576) :
    Calls Try.prog 148 #[.pointer (some ⟨q, 0, none⟩), .agg #[.string x.name, .int .i64 x.k, .int .i64 x.n, .string x.s]] w
      fun e w' => e = .returned (.tuple #[]) ∧ SinkIs w' B q (bs ++ atBits x) ∧ Below B w w' := by
  obtain ⟨nm, k, n, s⟩ := x
  obtain ⟨h1, h2⟩ := hx
  simp only at h1 h2 hn ⊢
  rw [atBits_len] at hl
  rcases h2 with ⟨rfl, h3⟩ | ⟨rfl, h3, h4⟩
  · rw [show atBits ⟨nm, 1, n, s⟩ = textBits nm.data.toList ++ bitsOf 1 2 ++ natBits (zigN n) from rfl]
    rw [show valBitsA ⟨nm, 1, n, s⟩ = natBits (zigN n) from rfl, natBits_length] at hl
    exact ePutAttr_int B q bs nm s n w hs hB hn hl
  · rw [show atBits ⟨nm, 2, n, s⟩ = textBits nm.data.toList ++ bitsOf 2 2 ++ textBits s.data.toList from rfl]
    rw [show valBitsA ⟨nm, 2, n, s⟩ = textBits s.data.toList from rfl, textBits_len] at hl
    exact ePutAttr_str B q bs nm s n w hs hB hl
end Go.Proofs.Ytppacelaeaaodaa
namespace Go.Proofs.Ytppacelaeaaodaa
open Go Go.RowKit

theorem take_flat (xs : List At) (k : Nat) (h : k < xs.length) : (xs.take (k + 1)).flatMap atBits = (xs.take k).flatMap atBits ++ atBits xs[k]! := by
  rw [List.take_succ_eq_append_getElem h, List.flatMap_append, getElem!_pos xs k h]; simp
theorem take_flat_le (xs : List At) (k : Nat) (h : k < xs.length) : ((xs.take k).flatMap atBits).length + (atBits xs[k]!).length ≤ (xs.flatMap atBits).length := by
  have e : xs.flatMap atBits = (xs.take (k + 1)).flatMap atBits ++ (xs.drop (k + 1)).flatMap atBits := by rw [← List.flatMap_append, List.take_append_drop]
  rw [e, take_flat xs k h, List.length_append, List.length_append]; omega

set_option maxRecDepth 100000 in
set_option maxHeartbeats 3200000 in
theorem eput_nat (B q S Q T : Nat) (bs : List Bool) (ty : ByteArray) (ats : List At) (ao : Option Addr) (n cap : Nat) (w : World) (hs : SinkIs w B q bs) (hB : B ≤ w.heap.size)
    (hv : Av w B (.slice ao n cap) ats) (hok : EvOk ⟨S, Q, T, ty, ats⟩) (hn : ∀ x ∈ ats, (Lit.int .i64 x.n).wf = true) (hl : bs.length + (evBits ⟨S, Q, T, ty, ats⟩).length ≤ 1048576) :
    Calls Try.prog 130 #[.pointer (some ⟨q, 0, none⟩), .agg #[.int .i64 (S : Int), .int .i64 (Q : Int), .int .i64 (T : Int), .string ty, .slice ao n cap]] w
      fun e w' => e = .returned (.tuple #[]) ∧ SinkIs w' B q (bs ++ evBits ⟨S, Q, T, ty, ats⟩) ∧ Below B w w' := by
  obtain ⟨P, hP⟩ : ∃ P, P = w.heap.size := ⟨_, rfl⟩
  obtain ⟨W, hW⟩ : ∃ W, W = w.alloc (.cells #[.int .i64 (S : Int), .int .i64 (Q : Int), .int .i64 (T : Int), .string ty, .slice ao n cap] 29) := ⟨_, rfl⟩
  have hbel : Below B w W := by rw [hW]; exact (Below.refl _ _).alloc hB _
  have HSW := hide (by rw [hW]; exact hs.below ((Below.refl w.heap.size w).alloc (Nat.le_refl _) _) (Nat.le_refl _) : SinkIs W B q bs)
  have HPW := hide (by rw [hW, hP]; exact heap_alloc_new w _ : W.heap[P]? = some (.cells #[.int .i64 (S : Int), .int .i64 (Q : Int), .int .i64 (T : Int), .string ty, .slice ao n cap] 29 (0, 0)))
  have HBel := hide hbel; have HW := hide hW; have HP := hide hP
  have hBP : B ≤ P := by omega
  obtain ⟨hnx, hn63⟩ := hv.num
  have hn8 : n ≤ 8 := by have := hok.ats; simp only at this; omega
  have hS := hok.src; have hQ := hok.seq; have hT := hok.time; have hty := hok.ty
  simp only at hS hQ hT hty
  have hS16 : S < 16 := by omega
  have hQ40 : Q ≤ 1099511627776 := by omega
  have hT40 : T ≤ 1099511627776 := by omega
  have hel : (evBits ⟨S, Q, T, ty, ats⟩).length = 4 + (2 * ahd Q + 1) + (2 * ahd T + 1) + (2 * ahd ty.size + 1 + 8 * ty.size) + 4 + (ats.flatMap atBits).length := by
    unfold evBits; rw [List.length_append, headE_len]; rfl
  rw [hel] at hl
  have htl := textBits_len ty
  have hql := natBits_length Q; have htl2 := natBits_length T
  obtain ⟨L, hL⟩ : ∃ L, L = (ats.flatMap atBits).length := ⟨_, rfl⟩
  rw [← hL] at hl
  have C1 := fun (w : World) (h : SinkIs w B q bs) => kBits_fits B q S 4 bs w h (by decide) (by omega) (by omega)
  have C2 := fun (w : World) (h : SinkIs w B q (bs ++ bitsOf S 4)) => kNat_fits B q Q _ w (by omega) h (by rw [List.length_append, bitsOf_length]; omega)
  have C3 := fun (w : World) (h : SinkIs w B q (bs ++ bitsOf S 4 ++ natBits Q)) => kNat_fits B q T _ w (by omega) h (by rw [List.length_append, List.length_append, bitsOf_length]; omega)
  have C4 := fun (w : World) (h : SinkIs w B q (bs ++ bitsOf S 4 ++ natBits Q ++ natBits T)) => kText_fits B q ty _ w h (by rw [List.length_append, List.length_append, List.length_append, bitsOf_length]; omega)
  have C5 := fun (w : World) (h : SinkIs w B q (bs ++ bitsOf S 4 ++ natBits Q ++ natBits T ++ textBits ty.data.toList)) => kBits_fits B q n 4 _ w h (by decide) (by omega) (by rw [List.length_append, List.length_append, List.length_append, List.length_append, bitsOf_length]; omega)
  obtain ⟨hd, hhd⟩ : ∃ hd, hd = bs ++ headE ⟨S, Q, T, ty, ats⟩ := ⟨_, rfl⟩
  have HHD : Hid (bs ++ bitsOf S 4 ++ natBits Q ++ natBits T ++ textBits ty.data.toList ++ bitsOf n 4 = hd) := by
    rw [hhd, hnx]; unfold headE; simp only [List.append_assoc]; rfl
  have HEV : Hid (hd ++ ats.flatMap atBits = bs ++ evBits ⟨S, Q, T, ty, ats⟩) := by rw [hhd]; exact List.append_assoc _ _ _
  have hhl : hd.length + L ≤ 1048576 := by rw [hhd, List.length_append, headE_len]; show _ + (4 + (2 * ahd Q + 1) + (2 * ahd T + 1) + (2 * ahd ty.size + 1 + 8 * ty.size) + 4) + L ≤ _; omega
  have CA := fun (w : World) (k : Nat) (hk : k < ats.length) (h : SinkIs w B q (hd ++ (ats.take k).flatMap atBits)) (hBw : B ≤ w.heap.size) => ePutAttr_any B q _ ats[k]! w h hBw (by rw [getElem!_pos ats k hk]; exact hok.each _ (List.getElem_mem _)) (by rw [getElem!_pos ats k hk]; exact hn _ (List.getElem_mem _)) (by rw [List.length_append]; have := take_flat_le ats k hk; omega)
  have HC1 := hide C1; have HC2 := hide C2; have HC3 := hide C3; have HC4 := hide C4; have HC5 := hide C5; have HCA := hide CA
  have HAV := hide (hv.below hbel (Nat.le_refl _))
  have HNX := hide hnx
  clear hs hbel hW hP C1 C2 C3 C4 C5 CA hl hel htl hql htl2 hL hn hok hv hhd hhl hQ hT hS hnx hB
  have hSw : (S : Int) < 16 := by omega
  have hQw : (Q : Int) ≤ 1099511627776 := by omega
  have hTw : (T : Int) ≤ 1099511627776 := by omega
  have hnw : (n : Int) ≤ 8 := by omega
  obtain ⟨c0, c1, c2, c3, c4⟩ := cell_of_five HPW.out
  go_enter Try.func130, Try.ntmps130
  go_wp2_with fail
  rw [← HW.out, ← HP.out]
  refine (HC1.out _ HSW.out).mono ?_
  rintro e w1 ⟨rfl, hs1, k1⟩
  clear c0 c1 c2 c3 c4
  have HP1 := hide (k1.typed _ _ _ _ HPW.out (by decide))
  obtain ⟨c0, c1, c2, c3, c4⟩ := cell_of_five HP1.out
  have HS1 := hide hs1; have K1 := hide k1; clear hs1 k1
  go_wp2_with fail
  refine (HC2.out _ HS1.out).mono ?_
  rintro e w2 ⟨rfl, hs2, k2⟩
  clear c0 c1 c2 c3 c4
  have HP2 := hide (k2.typed _ _ _ _ HP1.out (by decide))
  obtain ⟨c0, c1, c2, c3, c4⟩ := cell_of_five HP2.out
  have HS2 := hide hs2; have K2 := hide (K1.out.trans k2); clear hs2 k2
  go_wp2_with fail
  refine (HC3.out _ HS2.out).mono ?_
  rintro e w3 ⟨rfl, hs3, k3⟩
  clear c0 c1 c2 c3 c4
  have HP3 := hide (k3.typed _ _ _ _ HP2.out (by decide))
  obtain ⟨c0, c1, c2, c3, c4⟩ := cell_of_five HP3.out
  have HS3 := hide hs3; have K3 := hide (K2.out.trans k3); clear hs3 k3
  go_wp2_with fail
  refine (HC4.out _ HS3.out).mono ?_
  rintro e w4 ⟨rfl, hs4, k4⟩
  clear c0 c1 c2 c3 c4
  have HP4 := hide (k4.typed _ _ _ _ HP3.out (by decide))
  obtain ⟨c0, c1, c2, c3, c4⟩ := cell_of_five HP4.out
  have HS4 := hide hs4; have K4 := hide (K3.out.trans k4); clear hs4 k4
  go_wp2_with fail
  refine (HC5.out _ HS4.out).mono ?_
  rintro e w5 ⟨rfl, hs5, k5⟩
  rw [HHD.out] at hs5
  clear c0 c1 c2 c3 c4
  have HP5 := hide (k5.typed _ _ _ _ HP4.out (by decide))
  obtain ⟨c0, c1, c2, c3, c4⟩ := cell_of_five HP5.out
  have HS5 := hide hs5; have K5 := hide (HBel.out.trans (K4.out.trans k5).below)
  have HAV5 := hide (HAV.out.below (K4.out.trans k5).below (Nat.le_refl _))
  have HB5 := hide (show B ≤ w5.heap.size from Nat.le_of_lt (Nat.lt_of_le_of_lt hBP (lt_of_block HP5.out)))
  clear hs5 k5
  go_wp2_with fail
  go_loopw [36] (fun i wr => ∃ k : Nat, k ≤ n ∧ i = .int .i64 k ∧ Hid (SinkIs wr B q (hd ++ (ats.take k).flatMap atBits)) ∧ Hid (Below B w5 wr)) (fun i _ => n - (intOf i).toNat)
  case atStart => exact ⟨0, Nat.zero_le _, rfl, by simpa using HS5, Below.refl _ _⟩
  case round =>
    obtain ⟨k, hk, rfl, HSr, HKr⟩ := hrel
    by_cases hlt : k < n
    · have hkl : k < ats.length := by rw [← HNX.out]; exact hlt
      obtain ⟨b, o, rfl, hb, hnn, _, hcap, hcell⟩ := (HAV5.out.below HKr.out (Nat.le_refl _)).at (by omega)
      obtain ⟨x, hx⟩ : ∃ x, x = ats[k]! := ⟨_, rfl⟩
      obtain ⟨a0, a1, a2, a3⟩ := four_cells (w := wr) (b := b) (a := o + k * 4) (x := x) (fun i u hu => hcell k hkl i u (by rw [← hx]; exact hu))
      have HT := hide (take_flat ats k hkl)
      have hBr : B ≤ wr.heap.size := Nat.le_trans HB5.out HKr.out.size
      have hkz : (0 : Int) ≤ (k : Int) := by omega
      have CP := HCA.out (wr.alloc (.cells #[.string x.name, .int .i64 x.k, .int .i64 x.n, .string x.s] 110)) k hkl (HSr.out.below ((Below.refl wr.heap.size wr).alloc (Nat.le_refl _) _) (Nat.le_refl _)) (by simp; omega)
      rw [← hx] at CP HT
      have HCP := hide CP
      have HBR := hide hBr
      clear hcell hx hkl CP hb hnn
      go_wp2_with (go_at_call 148; (with_reducible refine (HCP.out).mono ?_); rintro e w7 ⟨rfl, hs7, hb7⟩; have HS7 := hide hs7; have HB7 := hide hb7; clear hs7 hb7)
      go_roundw
      case rel => exact ⟨k + 1, by omega, by go_num, by rw [HT.out, ← List.append_assoc]; exact HS7.out, (HKr.out.alloc HBR.out _).trans HB7.out⟩
      case measure => simp [intOf]; omega
    · go_wp2
      go_end0
      obtain rfl : k = n := by omega
      refine ⟨rfl, ?_, K5.out.trans HKr.out⟩
      have := HSr.out
      rwa [List.take_of_length_le (by rw [HNX.out]; exact Nat.le_refl _), HEV.out] at this
end Go.Proofs.Ytppacelaeaaodaa
namespace Go.Proofs.Ytppacelaeaaodaa
open Go Go.RowKit

theorem zig_ok {n : Int} (h : (Lit.int .i64 n).wf = true) : zigN n < 2 ^ 64 := zigN_lt n (by simpa [Lit.wf, IntKind.min, IntKind.max, IntKind.signed, IntKind.bits] using h)
def Wf (ats : List At) : Prop := ∀ x ∈ ats, (Lit.int .i64 x.n).wf = true

theorem eput_any (ev : Ev) (B q : Nat) (bs : List Bool) (ao : Option Addr) (n cap : Nat) (w : World) (hs : SinkIs w B q bs) (hB : B ≤ w.heap.size)
    (hv : Av w B (.slice ao n cap) ev.ats) (hok : EvOk ev) (hn : Wf ev.ats) (hl : bs.length + (evBits ev).length ≤ 1048576) :
    Calls Try.prog 130 #[.pointer (some ⟨q, 0, none⟩), evV ev (.slice ao n cap)] w
      fun e w' => e = .returned (.tuple #[]) ∧ SinkIs w' B q (bs ++ evBits ev) ∧ Below B w w' := by
  obtain ⟨s, sq, t, ty, ats⟩ := ev
  have h1 := hok.src0; have h2 := hok.seq0; have h3 := hok.time0
  simp only at h1 h2 h3
  obtain ⟨S, rfl⟩ := Int.eq_ofNat_of_zero_le h1
  obtain ⟨Q, rfl⟩ := Int.eq_ofNat_of_zero_le h2
  obtain ⟨T, rfl⟩ := Int.eq_ofNat_of_zero_le h3
  exact eput_nat B q S Q T bs ty ats ao n cap w hs hB hv hok hn hl

set_option maxRecDepth 100000 in
set_option maxHeartbeats 1600000 in
theorem eSize_any (ev : Ev) (B : Nat) (ao : Option Addr) (n cap : Nat) (w : World) (hB : B ≤ w.heap.size) (hv : Av w B (.slice ao n cap) ev.ats) (hok : EvOk ev) (hn : Wf ev.ats) :
    Calls Try.prog 129 #[evV ev (.slice ao n cap)] w fun e w' => e = .returned (.int .i64 ((evBits ev).length : Int)) ∧ Below w.heap.size w w' := by
  obtain ⟨P, hP⟩ : ∃ P, P = w.heap.size := ⟨_, rfl⟩
  obtain ⟨W, hW⟩ : ∃ W, W = w.alloc (.cells #[.int .i64 ev.src, .int .i64 ev.seq, .int .i64 ev.time, .string ev.ty, .slice ao n cap] 29) := ⟨_, rfl⟩
  have hbel : Below P w W := by rw [hW, hP]; exact (Below.refl _ _).alloc (Nat.le_refl _) _
  have hsz : P < W.heap.size := by rw [hW, hP]; simp
  have HPW := hide (by rw [hW, hP]; exact heap_alloc_new w _ : W.heap[P]? = some (.cells #[.int .i64 ev.src, .int .i64 ev.seq, .int .i64 ev.time, .string ev.ty, .slice ao n cap] 29 (0, 0)))
  have HBel := hide hbel; have HW := hide hW; have HP := hide hP
  have hle := evBits_le ev hok (fun x hx => zig_ok (hn x hx))
  have CP := fun (w : World) (q : Nat) (h : SinkIs w q q []) (hB : q ≤ w.heap.size) (hv : Av w q (.slice ao n cap) ev.ats) => eput_any ev q q [] ao n cap w h hB hv hok hn (by simp; omega)
  simp only [List.nil_append] at CP
  have HCP := hide CP
  have HAV := hide (hv.below hbel (by omega))
  obtain ⟨l, hlv⟩ : ∃ l, l = evBits ev := ⟨_, rfl⟩
  rw [← hlv] at hle HCP ⊢
  have HBP := hide (show B ≤ P by omega)
  have HSZ := hide hsz
  unfold evV at HCP ⊢
  rw [← hP]
  obtain ⟨s, sq, t, ty, ats⟩ := ev
  simp only at *
  have HLE := hide hle
  clear hbel hW hP CP hn hok hv hlv hB hle hsz
  go_enter Try.func129, Try.ntmps129
  go_wp2_with fail
  rw [← HW.out, ← HP.out]
  refine (newSink_any W).mono ?_
  obtain ⟨H1, hH1⟩ : ∃ H1, H1 = W.heap.size := ⟨_, rfl⟩
  rw [← hH1]
  have HH1 := hide hH1
  rintro e w1 ⟨rfl, hs1, k1⟩
  have h01 : P < H1 := by rw [hH1]; exact HSZ.out
  have hp1 := (k1.below.block P h01).trans HPW.out
  obtain ⟨c0, c1, c2, c3, c4⟩ := cell_of_five hp1
  have HS1 := hide hs1
  have HB1 := hide (HBel.out.trans (k1.below.mono (Nat.le_of_lt h01)))
  have HA1 := hide ((HAV.out.below k1.below (by have := HBP.out; omega)).mono (show B ≤ H1 by have := HBP.out; omega))
  have H1S := hide (show H1 ≤ w1.heap.size from Nat.le_of_lt hs1.lt)
  have H01 := hide h01
  clear hs1 k1 hH1 h01 hp1
  go_wp2_with fail
  refine (HCP.out w1 H1 HS1.out H1S.out HA1.out).mono ?_
  rintro e w2 ⟨rfl, hs2, hb2⟩
  have HB2 := hide (HB1.out.trans (hb2.mono (Nat.le_of_lt H01.out)))
  have CL := kLen_any H1 _ w2 hs2.made hs2.count
  clear hs2 hb2 c0 c1 c2 c3 c4
  go_wp2_with fail
  refine CL.mono ?_
  rintro e w3 ⟨rfl, rfl⟩
  go_wp2
  go_ret
  exact ⟨rfl, HB2.out⟩

/-- What Put answers of a sink that holds n bits. -/
def putErr (n : Nat) (ev : Ev) : Int := if ckE ev ≠ 0 then ckE ev else if 1048576 < n + (evBits ev).length then 3 else 0
def putBits (bs : List Bool) (ev : Ev) : List Bool := if putErr bs.length ev = 0 then bs ++ evBits ev else bs
theorem putErr_ck {n : Nat} {ev : Ev} (h : ckE ev ≠ 0) : putErr n ev = ckE ev := by unfold putErr; rw [if_pos h]
theorem putErr_long {n : Nat} {ev : Ev} (h : ckE ev = 0) (h2 : 1048576 < n + (evBits ev).length) : putErr n ev = 3 := by unfold putErr; rw [if_neg (by simpa using h), if_pos h2]
theorem putErr_ok {n : Nat} {ev : Ev} (h : ckE ev = 0) (h2 : ¬ 1048576 < n + (evBits ev).length) : putErr n ev = 0 := by unfold putErr; rw [if_neg (by simpa using h), if_neg h2]

set_option maxRecDepth 100000 in
set_option maxHeartbeats 3200000 in
theorem ePut_any (ev : Ev) (B q : Nat) (bs : List Bool) (ao : Option Addr) (n cap : Nat) (w : World) (hs : SinkIs w B q bs) (hB : B ≤ w.heap.size)
    (hv : Av w B (.slice ao n cap) ev.ats) (hty : ev.ty.size ≤ maxLen) (hn : Wf ev.ats) :
    Calls Try.prog 100 #[.pointer (some ⟨q, 0, none⟩), evV ev (.slice ao n cap)] w
      fun e w' => e = .returned (.int .i64 (putErr bs.length ev)) ∧ SinkIs w' B q (putBits bs ev) ∧ Below B w w' := by
  obtain ⟨P, hP⟩ : ∃ P, P = w.heap.size := ⟨_, rfl⟩
  obtain ⟨W, hW⟩ : ∃ W, W = w.alloc (.cells #[.int .i64 ev.src, .int .i64 ev.seq, .int .i64 ev.time, .string ev.ty, .slice ao n cap] 29) := ⟨_, rfl⟩
  have hbel : Below B w W := by rw [hW]; exact (Below.refl _ _).alloc hB _
  have hsz : P < W.heap.size := by rw [hW, hP]; simp
  have HPW := hide (by rw [hW, hP]; exact heap_alloc_new w _ : W.heap[P]? = some (.cells #[.int .i64 ev.src, .int .i64 ev.seq, .int .i64 ev.time, .string ev.ty, .slice ao n cap] 29 (0, 0)))
  have HSW := hide (by rw [hW]; exact hs.below ((Below.refl w.heap.size w).alloc (Nat.le_refl _) _) (Nat.le_refl _) : SinkIs W B q bs)
  have HBel := hide hbel; have HW := hide hW; have HP := hide hP
  have HBP := hide (show B ≤ P by omega)
  have hsl := hs.len
  have CB := fun (w : World) (h : SinkIs w B q bs) => kBits_fits B q 0 0 bs w h (by decide) (by decide) (by simpa using hsl)
  simp only [bitsOf_zero, List.append_nil] at CB
  have CC := fun (w : World) (h : Av w B (.slice ao n cap) ev.ats) (hB : B ≤ w.heap.size) => eCheck_any ev B ao n cap w h hB hty
  have HCB := hide CB
  have HAV := hide (hv.below hbel (Nat.le_refl _))
  by_cases hck : ckE ev = 0
  case neg =>
    rw [putErr_ck hck]
    rw [show putBits bs ev = bs by unfold putBits; rw [putErr_ck hck, if_neg hck]]
    obtain ⟨c, hc⟩ : ∃ c, c = ckE ev := ⟨_, rfl⟩
    rw [← hc] at CC hck ⊢
    have b1 : (c == 0) = false := by simp [hck]
    have b2 : (c != 0) = true := by simp [hck]
    have HCC := hide CC
    unfold evV at HCC ⊢
    obtain ⟨s, sq, t, ty, ats⟩ := ev
    simp only at *
    clear hs hbel hW hP CB CC hc hck hv hB hsz hn hty hsl
    go_enter Try.func100, Try.ntmps100
    go_wp2_with fail
    rw [← HW.out, ← HP.out]
    refine (HCB.out _ HSW.out).mono ?_
    rintro e w1 ⟨rfl, hs1, k1⟩
    have hp1 := k1.typed _ _ _ _ HPW.out (by decide)
    obtain ⟨c0, c1, c2, c3, c4⟩ := cell_of_five hp1
    have HS1 := hide hs1; have HB1 := hide (HBel.out.trans k1.below); have HA1 := hide (HAV.out.below k1.below (Nat.le_refl _))
    have HZ1 := hide (show B ≤ w1.heap.size from Nat.le_trans HBP.out (Nat.le_of_lt (lt_of_block hp1)))
    clear hs1 k1 hp1
    go_wp2_with fail
    refine (HCC.out _ HA1.out HZ1.out).mono ?_
    rintro e w2 ⟨rfl, hb2⟩
    have HS2 := hide (HS1.out.below hb2 (Nat.le_refl _)); have HB2 := hide (HB1.out.trans (hb2.mono HZ1.out))
    clear hb2 c0 c1 c2 c3 c4
    go_wp2
    go_ret
    exact ⟨rfl, HS2.out, HB2.out⟩
  have hok := EvOk.of hck
  rw [hck] at CC
  have HCC := hide CC
  have CS := fun (w : World) (h : Av w B (.slice ao n cap) ev.ats) (hB : B ≤ w.heap.size) => eSize_any ev B ao n cap w hB h hok hn
  obtain ⟨l, hlv⟩ : ∃ l, l = (evBits ev).length := ⟨_, rfl⟩
  obtain ⟨m, hm⟩ : ∃ m, m = bs.length := ⟨_, rfl⟩
  rw [← hlv] at CS
  have HCS := hide CS
  have CL := fun (w : World) (h : SinkIs w B q bs) => kLen_any q _ w h.made h.count
  rw [← hm] at CL hsl
  have HCL := hide CL
  by_cases hfit : 1048576 < m + l
  · rw [putErr_long hck (by rw [← hm, ← hlv]; exact hfit)]
    rw [show putBits bs ev = bs by unfold putBits; rw [putErr_long hck (by rw [← hm, ← hlv]; exact hfit), if_neg (by decide)]]
    have hd : decide (1048576 - (m : Int) < (l : Int)) = true := by simp; omega
    have hm0 : (0 : Int) ≤ (m : Int) := by omega
    have hm1 : (m : Int) ≤ 1048576 := by omega
    unfold evV at HCC HCS ⊢
    obtain ⟨s, sq, t, ty, ats⟩ := ev
    simp only at *
    clear hs hbel hW hP CB CC CS CL hck hv hB hsz hn hty hsl hok hlv hm hfit
    go_enter Try.func100, Try.ntmps100
    go_wp2_with fail
    rw [← HW.out, ← HP.out]
    refine (HCB.out _ HSW.out).mono ?_
    rintro e w1 ⟨rfl, hs1, k1⟩
    have HP1 := hide (k1.typed _ _ _ _ HPW.out (by decide))
    obtain ⟨c0, c1, c2, c3, c4⟩ := cell_of_five HP1.out
    have HS1 := hide hs1; have HB1 := hide (HBel.out.trans k1.below); have HA1 := hide (HAV.out.below k1.below (Nat.le_refl _))
    have HZ1 := hide (show B ≤ w1.heap.size from Nat.le_trans HBP.out (Nat.le_of_lt (lt_of_block HP1.out)))
    clear hs1 k1
    go_wp2_with fail
    refine (HCC.out _ HA1.out HZ1.out).mono ?_
    rintro e w2 ⟨rfl, hb2⟩
    have HS2 := hide (HS1.out.below hb2 (Nat.le_refl _)); have HB2 := hide (HB1.out.trans (hb2.mono HZ1.out)); have HA2 := hide (HA1.out.below hb2 HZ1.out)
    have HZ2 := hide (Nat.le_trans HZ1.out hb2.size)
    have HP2 := hide ((hb2.block P (lt_of_block HP1.out)).trans HP1.out)
    clear hb2 c0 c1 c2 c3 c4
    obtain ⟨c0, c1, c2, c3, c4⟩ := cell_of_five HP2.out
    go_wp2_with fail
    refine (HCS.out _ HA2.out HZ2.out).mono ?_
    rintro e w3 ⟨rfl, hb3⟩
    have HS3 := hide (HS2.out.below hb3 (Nat.le_refl _)); have HB3 := hide (HB2.out.trans (hb3.mono HZ2.out))
    clear hb3 c0 c1 c2 c3 c4
    go_wp2_with fail
    refine (HCL.out _ HS3.out).mono ?_
    rintro e w4 ⟨rfl, rfl⟩
    go_wp2
    go_ret
    exact ⟨rfl, HS3.out, HB3.out⟩
  · rw [putErr_ok hck (by rw [← hm, ← hlv]; exact hfit)]
    rw [show putBits bs ev = bs ++ evBits ev by unfold putBits; rw [putErr_ok hck (by rw [← hm, ← hlv]; exact hfit), if_pos rfl]]
    have CP := fun (w : World) (h : SinkIs w B q bs) (hB : B ≤ w.heap.size) (hv : Av w B (.slice ao n cap) ev.ats) => eput_any ev B q bs ao n cap w h hB hv hok hn (by rw [← hm, ← hlv]; omega)
    have HCP := hide CP
    have hd : decide (1048576 - (m : Int) < (l : Int)) = false := by simp; omega
    have hm0 : (0 : Int) ≤ (m : Int) := by omega
    have hm1 : (m : Int) ≤ 1048576 := by omega
    obtain ⟨eb, heb⟩ : ∃ eb, eb = evBits ev := ⟨_, rfl⟩
    rw [← heb] at HCP ⊢
    unfold evV at HCC HCS HCP ⊢
    obtain ⟨s, sq, t, ty, ats⟩ := ev
    simp only at *
    clear hs hbel hW hP CB CC CS CL CP hck hv hB hsz hn hty hsl hok hlv hm hfit heb
    go_enter Try.func100, Try.ntmps100
    go_wp2_with fail
    rw [← HW.out, ← HP.out]
    refine (HCB.out _ HSW.out).mono ?_
    rintro e w1 ⟨rfl, hs1, k1⟩
    have HP1 := hide (k1.typed _ _ _ _ HPW.out (by decide))
    obtain ⟨c0, c1, c2, c3, c4⟩ := cell_of_five HP1.out
    have HS1 := hide hs1; have HB1 := hide (HBel.out.trans k1.below); have HA1 := hide (HAV.out.below k1.below (Nat.le_refl _))
    have HZ1 := hide (show B ≤ w1.heap.size from Nat.le_trans HBP.out (Nat.le_of_lt (lt_of_block HP1.out)))
    clear hs1 k1
    go_wp2_with fail
    refine (HCC.out _ HA1.out HZ1.out).mono ?_
    rintro e w2 ⟨rfl, hb2⟩
    have HS2 := hide (HS1.out.below hb2 (Nat.le_refl _)); have HB2 := hide (HB1.out.trans (hb2.mono HZ1.out)); have HA2 := hide (HA1.out.below hb2 HZ1.out)
    have HZ2 := hide (Nat.le_trans HZ1.out hb2.size)
    have HP2 := hide ((hb2.block P (lt_of_block HP1.out)).trans HP1.out)
    clear hb2 c0 c1 c2 c3 c4
    obtain ⟨c0, c1, c2, c3, c4⟩ := cell_of_five HP2.out
    go_wp2_with fail
    refine (HCS.out _ HA2.out HZ2.out).mono ?_
    rintro e w3 ⟨rfl, hb3⟩
    have HS3 := hide (HS2.out.below hb3 (Nat.le_refl _)); have HB3 := hide (HB2.out.trans (hb3.mono HZ2.out)); have HA3 := hide (HA2.out.below hb3 HZ2.out)
    have HZ3 := hide (Nat.le_trans HZ2.out hb3.size)
    have HP3 := hide ((hb3.block P (lt_of_block HP2.out)).trans HP2.out)
    clear hb3 c0 c1 c2 c3 c4
    obtain ⟨c0, c1, c2, c3, c4⟩ := cell_of_five HP3.out
    go_wp2_with fail
    refine (HCL.out _ HS3.out).mono ?_
    rintro e w4 ⟨rfl, rfl⟩
    go_wp2_with fail
    refine (HCP.out _ HS3.out HZ3.out HA3.out).mono ?_
    rintro e w5 ⟨rfl, hs5, hb5⟩
    have HS5 := hide hs5; have HB5 := hide (HB3.out.trans hb5)
    clear hs5 hb5 c0 c1 c2 c3 c4
    go_wp2
    go_ret
    exact ⟨rfl, HS5.out, HB5.out⟩
end Go.Proofs.Ytppacelaeaaodaa
namespace Go.Proofs.Ytppacelaeaaodaa
open Go Go.RowKit

def evBytes (ev : Ev) : List Nat := if ckE ev = 0 then packed (evBits ev) else []
theorem evBytes_no {ev : Ev} (h : ckE ev ≠ 0) : evBytes ev = [] := by unfold evBytes; rw [if_neg h]
theorem evBytes_ok {ev : Ev} (h : ckE ev = 0) : evBytes ev = packed (evBits ev) := by unfold evBytes; rw [if_pos h]

end Go.Proofs.Ytppacelaeaaodaa

/- The bits of a partial match, and how many they are at most. -/
namespace Go.Proofs.Ytppacelaeaaodaa
open Go Go.RowKit

def bdBits (x : Bd) : List Bool := textBits x.var.data.toList ++ evBits x.ev
def pmBits (l : List Bd) : List Bool := bitsOf l.length 4 ++ l.flatMap bdBits
theorem nmB_len {n : Nat} {x : Bd} (h : nmB n x = true) : x.var.size ≤ 32 := by
  unfold nmB at h
  rw [size_of_data]
  rcases Bool.or_eq_true_iff.1 h with h | h
  · exact nameB_len h
  · have := (Bool.and_eq_true_iff.1 h).1
    simp only [decide_eq_true_eq] at this
    rw [this]; simp
theorem bdBits_le (x : Bd) (hv : x.var.size ≤ 32) (h : EvOk x.ev) (hn : ∀ a ∈ x.ev.ats, (Lit.int .i64 a.n).wf = true) : (bdBits x).length ≤ 8461 := by
  unfold bdBits
  have h1 := textBits_len x.var
  have h2 := ahd_text x.var.size (by omega)
  have h3 := evBits_le x.ev h (fun a ha => zig_ok (hn a ha))
  rw [List.length_append]
  omega
theorem flatBd_le : ∀ (l : List Bd) (_ : ∀ x ∈ l, (bdBits x).length ≤ 8461), (l.flatMap bdBits).length ≤ 8461 * l.length
  | [], _ => by simp
  | x :: r, h => by
    have h1 := flatBd_le r (fun y hy => h y (List.mem_cons_of_mem _ hy))
    have h2 := h x List.mem_cons_self
    simp only [List.flatMap_cons, List.length_append, List.length_cons]
    omega
theorem pmBits_le (l : List Bd) (h : Okl l) (hw : ∀ b ∈ l, ∀ a ∈ b.ev.ats, (Lit.int .i64 a.n).wf = true) : (pmBits l).length ≤ 4 + 8461 * l.length ∧ l.length ≤ 12 := by
  refine ⟨?_, h.len⟩
  unfold pmBits
  have := flatBd_le l (fun x hx => bdBits_le x (nmB_len (h.nm x hx)) (EvOk.of (h.ev x hx)) (hw x hx))
  rw [List.length_append, bitsOf_length]
  omega
theorem take_bd (xs : List Bd) (k : Nat) (h : k < xs.length) : (xs.take (k + 1)).flatMap bdBits = (xs.take k).flatMap bdBits ++ bdBits xs[k]! := by
  rw [List.take_succ_eq_append_getElem h, List.flatMap_append, getElem!_pos xs k h]; simp
theorem take_bd_le (xs : List Bd) (k : Nat) (h : k < xs.length) : ((xs.take k).flatMap bdBits).length + (bdBits xs[k]!).length ≤ (xs.flatMap bdBits).length := by
  have h1 := take_bd xs k h
  have h2 : xs.flatMap bdBits = (xs.take (k + 1)).flatMap bdBits ++ (xs.drop (k + 1)).flatMap bdBits := by rw [← List.flatMap_append, List.take_append_drop]
  rw [h2, h1]
  simp only [List.length_append]
  omega
end Go.Proofs.Ytppacelaeaaodaa

/- Contract: the bits of a partial match that may be, put to a sink that has room for them. -/
namespace Go.Proofs.Ytppacelaeaaodaa
open Go Go.RowKit

set_option maxRecDepth 100000 in
set_option maxHeartbeats 3200000 in
theorem mput_any (l : List Bd) (B q : Nat) (bs : List Bool) (ao : Option Addr) (n cap : Nat) (w : World) (hs : SinkIs w B q bs) (hB : B ≤ w.heap.size)
    (hv : BsV w B (.slice ao n cap) l) (hok : Okl l) (hwf : ∀ b ∈ l, ∀ a ∈ b.ev.ats, (Lit.int .i64 a.n).wf = true) (hl : bs.length + (pmBits l).length ≤ 1048576) :
    Calls Try.prog 71 #[.pointer (some ⟨q, 0, none⟩), .agg #[.slice ao n cap]] w
      fun e w' => e = .returned (.tuple #[]) ∧ SinkIs w' B q (bs ++ pmBits l) ∧ Below B w w' := by
  obtain ⟨P, hP⟩ : ∃ P, P = w.heap.size := ⟨_, rfl⟩
  obtain ⟨W, hW⟩ : ∃ W, W = w.alloc (.cells #[.slice ao n cap] 24) := ⟨_, rfl⟩
  have hbel : Below B w W := by rw [hW]; exact (Below.refl _ _).alloc hB _
  have HSW := hide (by rw [hW]; exact hs.below ((Below.refl w.heap.size w).alloc (Nat.le_refl _) _) (Nat.le_refl _) : SinkIs W B q bs)
  have HPW := hide (by rw [hW, hP]; exact heap_alloc_new w _ : W.heap[P]? = some (.cells #[.slice ao n cap] 24 (0, 0)))
  have HBel := hide hbel; have HW := hide hW; have HP := hide hP
  have hBP : B ≤ P := by omega
  obtain ⟨hn, hn63, hnc, hc63, _, hn80⟩ := hv.num
  have hlen := hok.len
  have hn16 : n ≤ 12 := by omega
  have eN : IntKind.u64.wrap (n : Int) = n := by rw [IntKind.wrap_u64]; omega
  have hel : (pmBits l).length = 4 + (l.flatMap bdBits).length := by unfold pmBits; rw [List.length_append, bitsOf_length]
  rw [hel] at hl
  have C1 := fun (w : World) (h : SinkIs w B q bs) => kBits_fits B q n 4 bs w h (by decide) (by omega) (by omega)
  obtain ⟨hd, hhd⟩ : ∃ hd, hd = bs ++ bitsOf n 4 := ⟨_, rfl⟩
  have HEV : Hid (hd ++ l.flatMap bdBits = bs ++ pmBits l) := by rw [hhd, hn]; exact List.append_assoc _ _ _
  have hhl : hd.length + (l.flatMap bdBits).length ≤ 1048576 := by rw [hhd, List.length_append, bitsOf_length]; omega
  rw [← hhd] at C1
  have CT := fun (w : World) (k : Nat) (hk : k < l.length) (h : SinkIs w B q (hd ++ (l.take k).flatMap bdBits)) => kText_fits B q l[k]!.var _ w h (by
    have h1 := take_bd_le l k hk
    have h2 := textBits_len l[k]!.var
    unfold bdBits at h1
    rw [List.length_append] at h1 ⊢
    unfold bdBits at hhl ⊢
    omega)
  have CE := fun (w : World) (k : Nat) (aa : Option Addr) (ac : Nat) (hk : k < l.length) (h : SinkIs w B q (hd ++ (l.take k).flatMap bdBits ++ textBits l[k]!.var.data.toList)) (hBw : B ≤ w.heap.size) (ha : Av w B (.slice aa l[k]!.ev.ats.length ac) l[k]!.ev.ats) (hty : l[k]!.ev.ty.size ≤ maxLen) =>
    (show Calls Try.prog 100 #[.pointer (some ⟨q, 0, none⟩), evV l[k]!.ev (.slice aa l[k]!.ev.ats.length ac)] w fun e w' => e = .returned (.int .i64 0) ∧ SinkIs w' B q (hd ++ (l.take (k + 1)).flatMap bdBits) ∧ Below B w w' from by
      have hm : l[k]! ∈ l := by rw [getElem!_pos l k hk]; exact List.getElem_mem _
      have he := ePut_any l[k]!.ev B q _ aa _ ac w h hBw ha hty (fun x hx => hwf _ hm x hx)
      have h0 : putErr (hd ++ (l.take k).flatMap bdBits ++ textBits l[k]!.var.data.toList).length l[k]!.ev = 0 := putErr_ok (hok.ev _ hm) (by
        have h1 := take_bd_le l k hk
        have h2 : (bdBits l[k]!).length = (textBits l[k]!.var.data.toList).length + (evBits l[k]!.ev).length := List.length_append
        rw [List.length_append, List.length_append]
        omega)
      unfold putBits at he
      rw [h0, if_pos rfl] at he
      have h3 : hd ++ (l.take k).flatMap bdBits ++ textBits l[k]!.var.data.toList ++ evBits l[k]!.ev = hd ++ (l.take (k + 1)).flatMap bdBits := by
        rw [take_bd l k hk]; unfold bdBits; simp only [List.append_assoc]
      rw [h3] at he
      exact he)
  have HC1 := hide C1; have HCT := hide CT; have HCE := hide CE
  have HAV := hide (hv.below hbel (Nat.le_refl _))
  have HN := hide hn
  clear hs hbel hW hP C1 CT CE hl hel hhl hwf hok hv hhd hlen hB hn hn80
  have c0 := cells_one0 HPW.out
  go_enter Try.func71, Try.ntmps71
  go_wp2_with fail
  rw [← HW.out, ← HP.out]
  refine (HC1.out _ HSW.out).mono ?_
  rintro e w5 ⟨rfl, hs5, k5⟩
  clear c0 eN
  have HP5 := hide (k5.typed _ _ _ _ HPW.out (by decide))
  have c0 := cells_one0 HP5.out
  have HS5 := hide hs5; have K5 := hide (HBel.out.trans k5.below)
  have HAV5 := hide (HAV.out.below k5.below (Nat.le_refl _))
  have HB5 := hide (show B ≤ w5.heap.size from Nat.le_of_lt (Nat.lt_of_le_of_lt hBP (lt_of_block HP5.out)))
  clear hs5 k5
  go_wp2_with fail
  clear c0
  go_loopw [15] (fun i wr => ∃ k : Nat, k ≤ n ∧ i = .int .i64 k ∧ Hid (SinkIs wr B q (hd ++ (l.take k).flatMap bdBits)) ∧ Hid (Below B w5 wr)) (fun i _ => n - (intOf i).toNat)
  case atStart => exact ⟨0, Nat.zero_le _, rfl, by simpa using HS5, Below.refl _ _⟩
  case round =>
    obtain ⟨k, hk, rfl, HSr, HKr⟩ := hrel
    by_cases hlt : k < n
    · obtain ⟨b, o, aa, ac, rfl, hb, hkl, hvs, hts, hnil, hav, hc⟩ := HAV5.out.at hlt
      obtain ⟨a0, a1, a2, a3, a4, a5⟩ := six_cells (hc wr HKr.out)
      have hBr : B ≤ wr.heap.size := Nat.le_trans HB5.out HKr.out.size
      have hX := (Below.refl wr.heap.size wr).alloc (Nat.le_refl _) (.cells #[.string l[k]!.var, .int .i64 l[k]!.ev.src, .int .i64 l[k]!.ev.seq, .int .i64 l[k]!.ev.time, .string l[k]!.ev.ty, .slice aa l[k]!.ev.ats.length ac] 39)
      have HCP := hide (HCT.out _ k hkl (HSr.out.below hX (Nat.le_refl _)))
      have HXB := hide (heap_alloc_new wr (.cells #[.string l[k]!.var, .int .i64 l[k]!.ev.src, .int .i64 l[k]!.ev.seq, .int .i64 l[k]!.ev.time, .string l[k]!.ev.ty, .slice aa l[k]!.ev.ats.length ac] 39))
      have HXL := hide (HKr.out.alloc hBr (.cells #[.string l[k]!.var, .int .i64 l[k]!.ev.src, .int .i64 l[k]!.ev.seq, .int .i64 l[k]!.ev.time, .string l[k]!.ev.ty, .slice aa l[k]!.ev.ats.length ac] 39))
      have HCQ := hide (fun u (hu : Below B w5 u) h => HCE.out u k aa ac hkl h (Nat.le_trans HB5.out hu.size) (hav.below hu (Nat.le_refl _)) hts)
      unfold evV at HCQ
      generalize l[k]! = x at *
      have HBR := hide hBr
      clear hc hkl hb hav hts hvs hnil hX
      go_wp2_with fail
      (with_reducible refine (HCP.out).mono ?_)
      rintro e w7 ⟨rfl, hs7, k7⟩
      have HS7 := hide hs7
      have HB7 := hide (HXL.out.trans k7.below)
      have c6 := k7.typed _ _ _ _ HXB.out (by decide)
      clear hs7 k7 a0 a1 a2 a3 a4 a5
      obtain ⟨a0, a1, a2, a3, a4, a5⟩ := cells_six c6
      clear c6
      go_wp2_with fail
      (with_reducible refine (HCQ.out _ HB7.out HS7.out).mono ?_)
      rintro e w8 ⟨rfl, hs8, hb8⟩
      have HS8 := hide hs8; have HB8 := hide (HB7.out.trans hb8)
      clear hs8 hb8
      go_wp2_with fail
      go_roundw
      case rel => exact ⟨k + 1, by omega, by go_num, HS8, HB8⟩
      case measure => simp [intOf]; omega
    · go_wp2
      go_end0
      obtain rfl : k = n := by omega
      refine ⟨rfl, ?_, K5.out.trans HKr.out⟩
      have := HSr.out
      rwa [List.take_of_length_le (by rw [← HN.out]; exact Nat.le_refl _), HEV.out] at this
end Go.Proofs.Ytppacelaeaaodaa

/- Contracts: size, Put, Bytes of a partial match. -/
namespace Go.Proofs.Ytppacelaeaaodaa
open Go Go.RowKit

theorem pm_le (ps : List Bd) (h : Okl ps) (hw : WfB ps) : (pmBits ps).length ≤ 1048576 := by
  obtain ⟨h1, h2⟩ := pmBits_le ps h hw
  omega
set_option maxRecDepth 100000 in
set_option maxHeartbeats 1600000 in
theorem mSize_any (ps : List Bd) (B : Nat) (ao : Option Addr) (n cap : Nat) (w : World) (hB : B ≤ w.heap.size) (hv : BsV w B (.slice ao n cap) ps) (hok : Okl ps) (hn : WfB ps) :
    Calls Try.prog 70 #[.agg #[.slice ao n cap]] w fun e w' => e = .returned (.int .i64 ((pmBits ps).length : Int)) ∧ Below w.heap.size w w' := by
  obtain ⟨P, hP⟩ : ∃ P, P = w.heap.size := ⟨_, rfl⟩
  obtain ⟨W, hW⟩ : ∃ W, W = w.alloc (.cells #[.slice ao n cap] 24) := ⟨_, rfl⟩
  have hbel : Below P w W := by rw [hW, hP]; exact (Below.refl _ _).alloc (Nat.le_refl _) _
  have hsz : P < W.heap.size := by rw [hW, hP]; simp
  have HPW := hide (by rw [hW, hP]; exact heap_alloc_new w _ : W.heap[P]? = some (.cells #[.slice ao n cap] 24 (0, 0)))
  have HBel := hide hbel; have HW := hide hW; have HP := hide hP
  have hle : (pmBits ps).length ≤ 1048576 := pm_le ps hok hn
  have CP := fun (w : World) (q : Nat) (h : SinkIs w q q []) (hB : q ≤ w.heap.size) (hv : BsV w q (.slice ao n cap) ps) => mput_any ps q q [] ao n cap w h hB hv hok hn (by simp; omega)
  simp only [List.nil_append] at CP
  have HCP := hide CP
  have HAV := hide (hv.below hbel (by omega))
  obtain ⟨l, hlv⟩ : ∃ l, l = pmBits ps := ⟨_, rfl⟩
  rw [← hlv] at hle HCP ⊢
  have HBP := hide (show B ≤ P by omega)
  have HSZ := hide hsz
  rw [← hP]
  have HLE := hide hle
  clear hbel hW hP CP hn hok hv hlv hB hle hsz
  go_enter Try.func70, Try.ntmps70
  go_wp2_with fail
  rw [← HW.out, ← HP.out]
  refine (newSink_any W).mono ?_
  obtain ⟨H1, hH1⟩ : ∃ H1, H1 = W.heap.size := ⟨_, rfl⟩
  rw [← hH1]
  have HH1 := hide hH1
  rintro e w1 ⟨rfl, hs1, k1⟩
  have h01 : P < H1 := by rw [hH1]; exact HSZ.out
  have hp1 := (k1.below.block P h01).trans HPW.out
  have c0 := cells_one0 hp1
  have HS1 := hide hs1
  have HB1 := hide (HBel.out.trans (k1.below.mono (Nat.le_of_lt h01)))
  have HA1 := hide ((HAV.out.below k1.below (by have := HBP.out; omega)).mono (show B ≤ H1 by have := HBP.out; omega))
  have H1S := hide (show H1 ≤ w1.heap.size from Nat.le_of_lt hs1.lt)
  have H01 := hide h01
  clear hs1 k1 hH1 h01 hp1
  go_wp2_with fail
  refine (HCP.out w1 H1 HS1.out H1S.out HA1.out).mono ?_
  rintro e w2 ⟨rfl, hs2, hb2⟩
  have HB2 := hide (HB1.out.trans (hb2.mono (Nat.le_of_lt H01.out)))
  have CL := kLen_any H1 _ w2 hs2.made hs2.count
  clear hs2 hb2 c0
  go_wp2_with fail
  refine CL.mono ?_
  rintro e w3 ⟨rfl, rfl⟩
  go_wp2
  go_ret
  exact ⟨rfl, HB2.out⟩

/-- What Put answers of a sink that holds n bits. -/
def putErrP (n : Nat) (ps : List Bd) : Int := if ckP ps ≠ 0 then ckP ps else if 1048576 < n + (pmBits ps).length then 3 else 0
def putBitsP (bs : List Bool) (ps : List Bd) : List Bool := if putErrP bs.length ps = 0 then bs ++ pmBits ps else bs
theorem putErrP_ck {n : Nat} {ps : List Bd} (h : ckP ps ≠ 0) : putErrP n ps = ckP ps := by unfold putErrP; rw [if_pos h]
theorem putErrP_long {n : Nat} {ps : List Bd} (h : ckP ps = 0) (h2 : 1048576 < n + (pmBits ps).length) : putErrP n ps = 3 := by unfold putErrP; rw [if_neg (by simpa using h), if_pos h2]
theorem putErrP_ok {n : Nat} {ps : List Bd} (h : ckP ps = 0) (h2 : ¬ 1048576 < n + (pmBits ps).length) : putErrP n ps = 0 := by unfold putErrP; rw [if_neg (by simpa using h), if_neg h2]

set_option maxRecDepth 100000 in
set_option maxHeartbeats 3200000 in
theorem mPut_any (ps : List Bd) (B q : Nat) (bs : List Bool) (ao : Option Addr) (n cap : Nat) (w : World) (hs : SinkIs w B q bs) (hB : B ≤ w.heap.size)
    (hv : BsV w B (.slice ao n cap) ps) (hn : WfB ps) :
    Calls Try.prog 33 #[.pointer (some ⟨q, 0, none⟩), .agg #[.slice ao n cap]] w
      fun e w' => e = .returned (.int .i64 (putErrP bs.length ps)) ∧ SinkIs w' B q (putBitsP bs ps) ∧ Below B w w' := by
  obtain ⟨P, hP⟩ : ∃ P, P = w.heap.size := ⟨_, rfl⟩
  obtain ⟨W, hW⟩ : ∃ W, W = w.alloc (.cells #[.slice ao n cap] 24) := ⟨_, rfl⟩
  have hbel : Below B w W := by rw [hW]; exact (Below.refl _ _).alloc hB _
  have hsz : P < W.heap.size := by rw [hW, hP]; simp
  have HPW := hide (by rw [hW, hP]; exact heap_alloc_new w _ : W.heap[P]? = some (.cells #[.slice ao n cap] 24 (0, 0)))
  have HSW := hide (by rw [hW]; exact hs.below ((Below.refl w.heap.size w).alloc (Nat.le_refl _) _) (Nat.le_refl _) : SinkIs W B q bs)
  have HBel := hide hbel; have HW := hide hW; have HP := hide hP
  have HBP := hide (show B ≤ P by omega)
  have hsl := hs.len
  have CB := fun (w : World) (h : SinkIs w B q bs) => kBits_fits B q 0 0 bs w h (by decide) (by decide) (by simpa using hsl)
  simp only [bitsOf_zero, List.append_nil] at CB
  have CC := fun (w : World) (h : BsV w B (.slice ao n cap) ps) (hB : B ≤ w.heap.size) => mCheck_any B ao n cap ps w h hB
  have HCB := hide CB
  have HAV := hide (hv.below hbel (Nat.le_refl _))
  by_cases hck : ckP ps = 0
  case neg =>
    rw [putErrP_ck hck]
    rw [show putBitsP bs ps = bs by unfold putBitsP; rw [putErrP_ck hck, if_neg hck]]
    obtain ⟨c, hc⟩ : ∃ c, c = ckP ps := ⟨_, rfl⟩
    rw [← hc] at CC hck ⊢
    have b1 : (c == 0) = false := by simp [hck]
    have b2 : (c != 0) = true := by simp [hck]
    have HCC := hide CC
    clear hs hbel hW hP CB CC hc hck hv hB hsz hn hsl
    go_enter Try.func33, Try.ntmps33
    go_wp2_with fail
    rw [← HW.out, ← HP.out]
    refine (HCB.out _ HSW.out).mono ?_
    rintro e w1 ⟨rfl, hs1, k1⟩
    have hp1 := k1.typed _ _ _ _ HPW.out (by decide)
    have c0 := cells_one0 hp1
    have HS1 := hide hs1; have HB1 := hide (HBel.out.trans k1.below); have HA1 := hide (HAV.out.below k1.below (Nat.le_refl _))
    have HZ1 := hide (show B ≤ w1.heap.size from Nat.le_trans HBP.out (Nat.le_of_lt (lt_of_block hp1)))
    clear hs1 k1 hp1
    go_wp2_with fail
    refine (HCC.out _ HA1.out HZ1.out).mono ?_
    rintro e w2 ⟨rfl, hb2⟩
    have HS2 := hide (HS1.out.below hb2 (Nat.le_refl _)); have HB2 := hide (HB1.out.trans (hb2.mono HZ1.out))
    clear hb2 c0
    go_wp2
    go_ret
    exact ⟨rfl, HS2.out, HB2.out⟩
  have hok := (ckP_iff ps).1 hck
  rw [hck] at CC
  have HCC := hide CC
  have CS := fun (w : World) (h : BsV w B (.slice ao n cap) ps) (hB : B ≤ w.heap.size) => mSize_any ps B ao n cap w hB h hok hn
  obtain ⟨l, hlv⟩ : ∃ l, l = (pmBits ps).length := ⟨_, rfl⟩
  obtain ⟨m, hm⟩ : ∃ m, m = bs.length := ⟨_, rfl⟩
  rw [← hlv] at CS
  have HCS := hide CS
  have CL := fun (w : World) (h : SinkIs w B q bs) => kLen_any q _ w h.made h.count
  rw [← hm] at CL hsl
  have HCL := hide CL
  by_cases hfit : 1048576 < m + l
  · rw [putErrP_long hck (by rw [← hm, ← hlv]; exact hfit)]
    rw [show putBitsP bs ps = bs by unfold putBitsP; rw [putErrP_long hck (by rw [← hm, ← hlv]; exact hfit), if_neg (by decide)]]
    have hd : decide (1048576 - (m : Int) < (l : Int)) = true := by simp; omega
    have hm0 : (0 : Int) ≤ (m : Int) := by omega
    have hm1 : (m : Int) ≤ 1048576 := by omega
    clear hs hbel hW hP CB CC CS CL hck hv hB hsz hn hsl hok hlv hm hfit
    go_enter Try.func33, Try.ntmps33
    go_wp2_with fail
    rw [← HW.out, ← HP.out]
    refine (HCB.out _ HSW.out).mono ?_
    rintro e w1 ⟨rfl, hs1, k1⟩
    have HP1 := hide (k1.typed _ _ _ _ HPW.out (by decide))
    have c0 := cells_one0 HP1.out
    have HS1 := hide hs1; have HB1 := hide (HBel.out.trans k1.below); have HA1 := hide (HAV.out.below k1.below (Nat.le_refl _))
    have HZ1 := hide (show B ≤ w1.heap.size from Nat.le_trans HBP.out (Nat.le_of_lt (lt_of_block HP1.out)))
    clear hs1 k1
    go_wp2_with fail
    refine (HCC.out _ HA1.out HZ1.out).mono ?_
    rintro e w2 ⟨rfl, hb2⟩
    have HS2 := hide (HS1.out.below hb2 (Nat.le_refl _)); have HB2 := hide (HB1.out.trans (hb2.mono HZ1.out)); have HA2 := hide (HA1.out.below hb2 HZ1.out)
    have HZ2 := hide (Nat.le_trans HZ1.out hb2.size)
    have HP2 := hide ((hb2.block P (lt_of_block HP1.out)).trans HP1.out)
    clear hb2 c0
    have c0 := cells_one0 HP2.out
    go_wp2_with fail
    refine (HCS.out _ HA2.out HZ2.out).mono ?_
    rintro e w3 ⟨rfl, hb3⟩
    have HS3 := hide (HS2.out.below hb3 (Nat.le_refl _)); have HB3 := hide (HB2.out.trans (hb3.mono HZ2.out))
    clear hb3 c0
    go_wp2_with fail
    refine (HCL.out _ HS3.out).mono ?_
    rintro e w4 ⟨rfl, rfl⟩
    go_wp2
    go_ret
    exact ⟨rfl, HS3.out, HB3.out⟩
  · rw [putErrP_ok hck (by rw [← hm, ← hlv]; exact hfit)]
    rw [show putBitsP bs ps = bs ++ pmBits ps by unfold putBitsP; rw [putErrP_ok hck (by rw [← hm, ← hlv]; exact hfit), if_pos rfl]]
    have CP := fun (w : World) (h : SinkIs w B q bs) (hB : B ≤ w.heap.size) (hv : BsV w B (.slice ao n cap) ps) => mput_any ps B q bs ao n cap w h hB hv hok hn (by rw [← hm, ← hlv]; omega)
    have HCP := hide CP
    have hd : decide (1048576 - (m : Int) < (l : Int)) = false := by simp; omega
    have hm0 : (0 : Int) ≤ (m : Int) := by omega
    have hm1 : (m : Int) ≤ 1048576 := by omega
    obtain ⟨eb, heb⟩ : ∃ eb, eb = pmBits ps := ⟨_, rfl⟩
    rw [← heb] at HCP ⊢
    clear hs hbel hW hP CB CC CS CL CP hck hv hB hsz hn hsl hok hlv hm hfit heb
    go_enter Try.func33, Try.ntmps33
    go_wp2_with fail
    rw [← HW.out, ← HP.out]
    refine (HCB.out _ HSW.out).mono ?_
    rintro e w1 ⟨rfl, hs1, k1⟩
    have HP1 := hide (k1.typed _ _ _ _ HPW.out (by decide))
    have c0 := cells_one0 HP1.out
    have HS1 := hide hs1; have HB1 := hide (HBel.out.trans k1.below); have HA1 := hide (HAV.out.below k1.below (Nat.le_refl _))
    have HZ1 := hide (show B ≤ w1.heap.size from Nat.le_trans HBP.out (Nat.le_of_lt (lt_of_block HP1.out)))
    clear hs1 k1
    go_wp2_with fail
    refine (HCC.out _ HA1.out HZ1.out).mono ?_
    rintro e w2 ⟨rfl, hb2⟩
    have HS2 := hide (HS1.out.below hb2 (Nat.le_refl _)); have HB2 := hide (HB1.out.trans (hb2.mono HZ1.out)); have HA2 := hide (HA1.out.below hb2 HZ1.out)
    have HZ2 := hide (Nat.le_trans HZ1.out hb2.size)
    have HP2 := hide ((hb2.block P (lt_of_block HP1.out)).trans HP1.out)
    clear hb2 c0
    have c0 := cells_one0 HP2.out
    go_wp2_with fail
    refine (HCS.out _ HA2.out HZ2.out).mono ?_
    rintro e w3 ⟨rfl, hb3⟩
    have HS3 := hide (HS2.out.below hb3 (Nat.le_refl _)); have HB3 := hide (HB2.out.trans (hb3.mono HZ2.out)); have HA3 := hide (HA2.out.below hb3 HZ2.out)
    have HZ3 := hide (Nat.le_trans HZ2.out hb3.size)
    have HP3 := hide ((hb3.block P (lt_of_block HP2.out)).trans HP2.out)
    clear hb3 c0
    have c0 := cells_one0 HP3.out
    go_wp2_with fail
    refine (HCL.out _ HS3.out).mono ?_
    rintro e w4 ⟨rfl, rfl⟩
    go_wp2_with fail
    refine (HCP.out _ HS3.out HZ3.out HA3.out).mono ?_
    rintro e w5 ⟨rfl, hs5, hb5⟩
    have HS5 := hide hs5; have HB5 := hide (HB3.out.trans hb5)
    clear hs5 hb5 c0
    go_wp2
    go_ret
    exact ⟨rfl, HS5.out, HB5.out⟩
end Go.Proofs.Ytppacelaeaaodaa
namespace Go.Proofs.Ytppacelaeaaodaa
open Go Go.RowKit

def pmBytes (ps : List Bd) : List Nat := if ckP ps = 0 then packed (pmBits ps) else []
theorem pmBytes_no {ps : List Bd} (h : ckP ps ≠ 0) : pmBytes ps = [] := by unfold pmBytes; rw [if_neg h]
theorem pmBytes_ok {ps : List Bd} (h : ckP ps = 0) : pmBytes ps = packed (pmBits ps) := by unfold pmBytes; rw [if_pos h]

set_option maxRecDepth 100000 in
set_option maxHeartbeats 3200000 in
theorem mBytes_any (ps : List Bd) (B : Nat) (ao : Option Addr) (n cap : Nat) (w : World) (hB : B ≤ w.heap.size)
    (hv : BsV w B (.slice ao n cap) ps) (hn : WfB ps) :
    Calls Try.prog 29 #[.agg #[.slice ao n cap]] w
      fun e w' => ∃ v, e = .returned (.tuple #[v, .int .i64 (ckP ps)]) ∧ w'.ownsRow w.heap.size 5 1 v (pmBytes ps).length (byteVs (pmBytes ps)) ∧ Below w.heap.size w w' := by
  obtain ⟨P, hP⟩ : ∃ P, P = w.heap.size := ⟨_, rfl⟩
  obtain ⟨W, hW⟩ : ∃ W, W = w.alloc (.cells #[.slice ao n cap] 24) := ⟨_, rfl⟩
  have hbel : Below P w W := by rw [hW, hP]; exact (Below.refl _ _).alloc (Nat.le_refl _) _
  have hsz : P < W.heap.size := by rw [hW, hP]; simp
  have HPW := hide (by rw [hW, hP]; exact heap_alloc_new w _ : W.heap[P]? = some (.cells #[.slice ao n cap] 24 (0, 0)))
  have HBel := hide hbel; have HW := hide hW; have HP := hide hP
  have HBP := hide (show B ≤ P by omega)
  have CP := fun (w : World) (q : Nat) (h : SinkIs w q q []) (hB : q ≤ w.heap.size) (hv : BsV w q (.slice ao n cap) ps) => mPut_any ps q q [] ao n cap w h hB hv hn
  have HAV := hide (hv.below hbel (by omega))
  have HSZ := hide hsz
  rw [← hP]
  by_cases hck : ckP ps = 0
  · have hok := (ckP_iff ps).1 hck
    have hle : (pmBits ps).length ≤ 1048576 := pm_le ps hok hn
    have hpe : putErrP ([] : List Bool).length ps = 0 := putErrP_ok hck (by simp; omega)
    simp only [hpe, putBitsP, if_true, List.nil_append] at CP
    rw [pmBytes_ok hck, hck]
    obtain ⟨l, hl⟩ : ∃ l, l = pmBits ps := ⟨_, rfl⟩
    rw [← hl] at CP ⊢
    have HCP := hide CP
    clear hbel hW hP CP hn hv hB hsz hck hok hle hpe hl
    go_enter Try.func29, Try.ntmps29
    go_wp2_with fail
    rw [← HW.out, ← HP.out]
    refine (newSink_any W).mono ?_
    obtain ⟨H1, hH1⟩ : ∃ H1, H1 = W.heap.size := ⟨_, rfl⟩
    rw [← hH1]
    rintro e w1 ⟨rfl, hs1, k1⟩
    have h01 : P < H1 := by rw [hH1]; exact HSZ.out
    have hp1 := (k1.below.block P h01).trans HPW.out
    have c0 := cells_one0 hp1
    have HS1 := hide hs1
    have HB1 := hide (HBel.out.trans (k1.below.mono (Nat.le_of_lt h01)))
    have HA1 := hide ((HAV.out.below k1.below (by have := HBP.out; omega)).mono (show B ≤ H1 by have := HBP.out; omega))
    have H1S := hide (show H1 ≤ w1.heap.size from Nat.le_of_lt hs1.lt)
    have H01 := hide h01
    clear hs1 k1 hH1 h01 hp1
    go_wp2_with fail
    refine (HCP.out w1 H1 HS1.out H1S.out HA1.out).mono ?_
    rintro e w2 ⟨rfl, hs2, hb2⟩
    have HB2 := hide (HB1.out.trans (hb2.mono (Nat.le_of_lt H01.out)))
    have HS2 := hide hs2
    clear hs2 hb2 c0
    go_wp2_with fail
    refine (kOut_any H1 H1 l w2 HS2.out).mono ?_
    rintro e w3 ⟨v3, rfl, ho3, hb3⟩
    have HO3 := hide ho3; have HB3 := hide hb3
    have hsz2 : P ≤ w2.heap.size := by have := HB2.out.size; rw [← HP.out] at this; exact this
    have HSZ2 := hide hsz2
    clear ho3 hb3 hsz2
    go_wp2
    go_ret2
    exact ⟨_, rfl, ownsRow_lower HO3.out HSZ2.out, HB2.out.trans (HB3.out.mono HSZ2.out)⟩
  · have hpe : putErrP ([] : List Bool).length ps = ckP ps := putErrP_ck hck
    simp only [hpe] at CP
    rw [pmBytes_no hck]
    obtain ⟨c, hc⟩ : ∃ c, c = ckP ps := ⟨_, rfl⟩
    rw [← hc] at CP hck ⊢
    have b1 : (c == 0) = false := by simp [hck]
    have b2 : (c != 0) = true := by simp [hck]
    have HCP := hide CP
    clear hbel hW hP CP hn hv hB hsz hck hpe hc
    go_enter Try.func29, Try.ntmps29
    go_wp2_with fail
    rw [← HW.out, ← HP.out]
    refine (newSink_any W).mono ?_
    obtain ⟨H1, hH1⟩ : ∃ H1, H1 = W.heap.size := ⟨_, rfl⟩
    rw [← hH1]
    rintro e w1 ⟨rfl, hs1, k1⟩
    have h01 : P < H1 := by rw [hH1]; exact HSZ.out
    have hp1 := (k1.below.block P h01).trans HPW.out
    have c0 := cells_one0 hp1
    have HS1 := hide hs1
    have HB1 := hide (HBel.out.trans (k1.below.mono (Nat.le_of_lt h01)))
    have HA1 := hide ((HAV.out.below k1.below (by have := HBP.out; omega)).mono (show B ≤ H1 by have := HBP.out; omega))
    have H1S := hide (show H1 ≤ w1.heap.size from Nat.le_of_lt hs1.lt)
    have H01 := hide h01
    clear hs1 k1 hH1 h01 hp1
    go_wp2_with fail
    refine (HCP.out w1 H1 HS1.out H1S.out HA1.out).mono ?_
    rintro e w2 ⟨rfl, hs2, hb2⟩
    have HB2 := hide (HB1.out.trans (hb2.mono (Nat.le_of_lt H01.out)))
    clear hs2 hb2 c0
    go_wp2
    go_ret2
    exact ⟨_, rfl, World.ownsRow_nil _ _ _ _, HB2.out⟩
end Go.Proofs.Ytppacelaeaaodaa

/- Flags: append of flags; how things stand while the document writes an event. -/
namespace Go.Proofs.Ytppacelaeaaodaa
open Go Go.RowKit

theorem flags_pos {w : World} {B : Nat} {v : Value} {bs : List Bool} (h : Flags w B v bs) (hp : 0 < bs.length) : ∃ g cap, v = .slice (some ⟨g, 0, none⟩) bs.length cap := by
  rcases h.2 with ⟨_, h0⟩ | ⟨g, cap, cur, hv, _⟩
  · omega
  · exact ⟨g, cap, hv⟩
/-- Another row of flags, of a later block, is left by an append. -/
theorem Flags.other {w w' : World} {B B' : Nat} {v v' : Value} {l l' : List Bool} (h : Flags w B v l) (_ho : Flags w B' v' l') (hlt : ∀ k, v'.ownBlock = some k → k < B) (hg : w.grownBy w' v'.ownBlock) : Flags w' B v l := by
  refine ⟨h.1, ?_⟩
  rcases h.2 with hn | ⟨g, cap, cur, rfl, hb, hgg, rest⟩
  · exact .inl hn
  · refine .inr ⟨g, cap, cur, rfl, hb, ?_, rest⟩
    rw [hg.block g (lt_of_block hgg) ?_]; · exact hgg
    intro hk
    have := hlt g hk.symm
    omega
theorem Flags.drew {w : World} {B : Nat} {v : Value} {l : List Bool} (h : Flags w B v l) : Flags w.drew B v l := h
theorem own_lt_new {w : World} {B : Nat} {v : Value} {l : List Bool} (h : Flags w B v l) : ∀ k, v.ownBlock = some k → k < w.heap.size := fun k hk => (h.lt k hk).2

/-- append(flags, flags..), as one step of a region that draws its order. -/
theorem step_append_flags {ops : Array Oper} {o : Oper} {a : Act} {w : World} {K : Act → World → Prop} {Q : Exit → Act → World → Prop} {E : Prop}
    (hg : o.guard = none) (s x : Operand) (hop : o.op = Op.call { callee := Callee.builtin Builtin.append, args := #[s, x], argTypes := #[55, 55] })
    (B B' : Nat) (v v' : Value) (l l' : List Bool) (hs : a.eval s = v) (hx : a.eval x = v') (hv : Flags w B v l) (hv' : Flags w B' v' l') (hlen : l.length + l'.length ≤ 1048576) (hB : B ≤ w.heap.size) (hpos : 0 < l'.length)
    (hK : ∀ g cap n w', Flags w' B (.slice (some ⟨g, 0, none⟩) n cap) (l ++ l') → w.grownBy w' v.ownBlock → K (a.put o.dst (.slice (some ⟨g, 0, none⟩) n cap)) w') :
    if Region.wanted o (yielded ops a.tmps) = true then Oper.wp Try.prog o a w K Q else E := by
  obtain ⟨i0, hi, hz0, hz1, hz2⟩ := info_parts Try.info4
  obtain ⟨g', cap', rfl⟩ := flags_pos hv' hpos
  refine step_append_own hg s x 55 hop B 4 i0 (.bool false) 1 1 Try.underlying55 hi hz0 hz1 hz2 rfl (by decide) v l.length (boolVs l) hs hv ⟨g', 0, none⟩ l'.length cap' (boolVs l') hx (by rw [boolVs_length, Nat.mul_one]) (hv'.cells (g := g') rfl) (boolVs_one _) (by unfold maxLen; omega) (by omega) hB (fun v3 w3 h1 h2 => ?_)
  rw [← boolVs_append, ← List.length_append] at h1
  obtain ⟨g, cap, rfl⟩ := flags_pos h1 (by rw [List.length_append]; omega)
  exact hK g cap _ w3 h1 h2
/-- append(flags, flags..). -/
theorem wpList_append_flags {ops : Array Oper} {rest : List Oper} {o : Oper} {a : Act} {w : World} {Q : Exit → Act → World → Prop} (hgd : o.guard = none) (s x : Operand)
    (hop : o.op = Op.call { callee := Callee.builtin Builtin.append, args := #[s, x], argTypes := #[55, 55] })
    (B B' : Nat) (v v' : Value) (l l' : List Bool) (hs : a.eval s = v) (hx : a.eval x = v') (hv : Flags w B v l) (hv' : Flags w B' v' l') (hlen : l.length + l'.length ≤ 1048576) (hB : B ≤ w.heap.size) (hpos : 0 < l'.length)
    (hK : ∀ g cap n w', Flags w' B (.slice (some ⟨g, 0, none⟩) n cap) (l ++ l') → w.grownBy w' v.ownBlock → wpList Try.prog ops Q rest (a.put o.dst (.slice (some ⟨g, 0, none⟩) n cap)) w') : wpList Try.prog ops Q (o :: rest) a w := by
  obtain ⟨i0, hi, hz0, hz1, hz2⟩ := info_parts Try.info4
  obtain ⟨g', cap', rfl⟩ := flags_pos hv' hpos
  refine wpList_append_own w hgd s x 55 hop B 4 i0 (.bool false) 1 1 Try.underlying55 hi hz0 hz1 hz2 rfl (by decide) v l.length (boolVs l) hs hv ⟨g', 0, none⟩ l'.length cap' (boolVs l') hx (by rw [boolVs_length, Nat.mul_one]) (hv'.cells (g := g') rfl) (boolVs_one _) (by unfold maxLen; omega) (by omega) hB (fun v3 w3 h1 h2 _ => ?_)
  rw [← boolVs_append, ← List.length_append] at h1
  obtain ⟨g, cap, rfl⟩ := flags_pos h1 (by rw [List.length_append]; omega)
  exact hK g cap _ w3 h1 h2

/-- How things stand while an event is written: boxes that lie apart, the attributes, the flags so far. -/
structure He (w0 : World) (P : Nat) (bx : List (Nat × Array Value × Nat)) (va : Value) (x : List At) (w : World) (v : Value) (l : List Bool) : Prop where
  below : Below P w0 w
  size : P ≤ w.heap.size
  boxes : ∀ p ∈ bx, w.heap[p.1]? = some (.cells p.2.1 p.2.2 (0, 0)) ∧ p.2.2 ≠ 4
  body : Av w P va x
  flags : Flags w P v l
theorem He.call {w0 : World} {P : Nat} {bx : List (Nat × Array Value × Nat)} {va : Value} {x : List At} {w w' : World} {v : Value} {l : List Bool} (h : He w0 P bx va x w v l) (hb : Below w.heap.size w w') : He w0 P bx va x w' v l :=
  ⟨h.below.trans (hb.mono h.size), Nat.le_trans h.size hb.size, fun p hp => ⟨(hb.block p.1 (lt_of_block (h.boxes p hp).1)).trans (h.boxes p hp).1, (h.boxes p hp).2⟩, h.body.below hb h.size, h.flags.below hb (Nat.le_refl _)⟩
theorem He.drew {w0 : World} {P : Nat} {bx : List (Nat × Array Value × Nat)} {va : Value} {x : List At} {w : World} {v : Value} {l : List Bool} (h : He w0 P bx va x w v l) : He w0 P bx va x w.drew v l := h.call ((Below.refl _ _).drew)
theorem He.fresh {w0 : World} {P : Nat} {bx : List (Nat × Array Value × Nat)} {va : Value} {x : List At} {w w' : World} {v v' : Value} {l l' : List Bool} (h : He w0 P bx va x w v l) (hb : Below w.heap.size w w') (hf : Flags w' w.heap.size v' l') : He w0 P bx va x w' v' l' :=
  ⟨(h.call hb).below, (h.call hb).size, (h.call hb).boxes, (h.call hb).body, hf.lower h.size⟩
theorem He.grow {w0 : World} {P : Nat} {bx : List (Nat × Array Value × Nat)} {va : Value} {x : List At} {w w' : World} {v v' : Value} {l l' : List Bool} (h : He w0 P bx va x w v l) (hg : w.grownBy w' v.ownBlock) (hf : Flags w' P v' l') : He w0 P bx va x w' v' l' := by
  have hlt : ∀ k, v.ownBlock = some k → P ≤ k := fun k hk => (World.ownsRow.lt h.flags k hk).1
  refine ⟨h.below.grown hg h.size hlt, Nat.le_trans h.size hg.size, fun p hp => ⟨grow_keeps (h.boxes p hp).1 h.flags (h.boxes p hp).2 hg rfl, (h.boxes p hp).2⟩, h.body.keep (fun b o hb => ?_), hf⟩
  have := h.size
  exact World.cell?_of_block (hg.block b (by omega) (fun e => by have := hlt b e.symm; omega))
theorem He.box {w0 : World} {P : Nat} {bx : List (Nat × Array Value × Nat)} {va : Value} {x : List At} {w : World} {v : Value} {l : List Bool} (h : He w0 P bx va x w v l) (cs : Array Value) (t : Nat) (ht : t ≠ 4) : He w0 P ((w.heap.size, cs, t) :: bx) va x (w.alloc (.cells cs t)) v l := by
  have hb := (Below.refl w.heap.size w).alloc (Nat.le_refl _) (.cells cs t)
  refine ⟨(h.call hb).below, (h.call hb).size, fun p hp => ?_, (h.call hb).body, (h.call hb).flags⟩
  rcases List.mem_cons.1 hp with rfl | hp
  · exact ⟨heap_alloc_new w _, ht⟩
  · exact (h.call hb).boxes p hp
theorem He.unbox {w0 : World} {P : Nat} {p : Nat × Array Value × Nat} {bx : List (Nat × Array Value × Nat)} {va : Value} {x : List At} {w : World} {v : Value} {l : List Bool} (h : He w0 P (p :: bx) va x w v l) : He w0 P bx va x w v l :=
  ⟨h.below, h.size, fun q hq => h.boxes q (List.mem_cons_of_mem _ hq), h.body, h.flags⟩
end Go.Proofs.Ytppacelaeaaodaa

/- Contract: Form of the document. -/
namespace Go.Proofs.Ytppacelaeaaodaa
open Go Go.RowKit

set_option maxRecDepth 100000 in
set_option maxHeartbeats 6400000 in
theorem r4Form_nat (S Q T : Nat) (ty : ByteArray) (ats : List At) (B : Nat) (ao : Option Addr) (n cap : Nat) (w : World) (hB : B ≤ w.heap.size)
    (hv : Av w B (.slice ao n cap) ats) (hok : EvOk ⟨S, Q, T, ty, ats⟩) (hn : ∀ x ∈ ats, (Lit.int .i64 x.n).wf = true) (hle : (evBits ⟨S, Q, T, ty, ats⟩).length ≤ 8192) :
    Calls Try.prog 73 #[.agg #[.int .i64 (S : Int), .int .i64 (Q : Int), .int .i64 (T : Int), .string ty, .slice ao n cap]] w
      fun e w' => ∃ v, e = .returned v ∧ Flags w' w.heap.size v (evBits ⟨S, Q, T, ty, ats⟩) ∧ Below w.heap.size w w' := by
  obtain ⟨P, hP⟩ : ∃ P, P = w.heap.size := ⟨_, rfl⟩
  obtain ⟨W, hW⟩ : ∃ W, W = w.alloc (.cells #[.int .i64 (S : Int), .int .i64 (Q : Int), .int .i64 (T : Int), .string ty, .slice ao n cap] 29) := ⟨_, rfl⟩
  obtain ⟨ev, hev⟩ : ∃ ev : Array Value, ev = #[.int .i64 (S : Int), .int .i64 (Q : Int), .int .i64 (T : Int), .string ty, .slice ao n cap] := ⟨_, rfl⟩
  have h0 : He w P [] (.slice ao n cap) ats w (.slice none 0 0) [] := ⟨Below.refl _ _, by omega, fun p hp => (by cases hp), hv.mono (by omega), World.ownsRow_nil _ _ _ _⟩
  have h1 := h0.box #[.int .i64 (S : Int), .int .i64 (Q : Int), .int .i64 (T : Int), .string ty, .slice ao n cap] 29 (by decide)
  rw [← hW, ← hP] at h1
  have HD := hide h1
  obtain ⟨hnx, hn63⟩ := hv.num
  have hn8 : n ≤ 8 := by have := hok.ats; simp only at this; omega
  have hS := hok.src; have hQ := hok.seq; have hT := hok.time; have hty := hok.ty
  simp only at hS hQ hT hty
  have hS16 : S < 16 := by omega
  have hQ40 : Q ≤ 1099511627776 := by omega
  have hT40 : T ≤ 1099511627776 := by omega
  have CS : ∀ w, Calls Try.prog 34 #[.int .u64 (S : Int), .int .i64 4] w fun e w' => ∃ v, e = .returned v ∧ Flags w' w.heap.size v (bitsOf S 4) ∧ Below w.heap.size w w' := fun w => rLow_any S 4 w (by omega) (by omega)
  have CQ : ∀ w, Calls Try.prog 101 #[.int .u64 (Q : Int)] w fun e w' => ∃ v, e = .returned v ∧ Flags w' w.heap.size v (natBits Q) ∧ Below w.heap.size w w' := fun w => rNat_any Q w (by omega)
  have CT : ∀ w, Calls Try.prog 101 #[.int .u64 (T : Int)] w fun e w' => ∃ v, e = .returned v ∧ Flags w' w.heap.size v (natBits T) ∧ Below w.heap.size w w' := fun w => rNat_any T w (by omega)
  have CX : ∀ w, Calls Try.prog 72 #[.string ty] w fun e w' => ∃ v, e = .returned v ∧ Flags w' w.heap.size v (textBits ty.data.toList) ∧ Below w.heap.size w w' := fun w => rText_any ty w (by omega)
  have CN : ∀ w, Calls Try.prog 34 #[.int .u64 (n : Int), .int .i64 4] w fun e w' => ∃ v, e = .returned v ∧ Flags w' w.heap.size v (bitsOf n 4) ∧ Below w.heap.size w w' := fun w => rLow_any n 4 w (by omega) (by omega)
  have eS : IntKind.u64.wrap (S : Int) = S := by rw [IntKind.wrap_u64]; omega
  have eQ : IntKind.u64.wrap (Q : Int) = Q := by rw [IntKind.wrap_u64]; omega
  have eT : IntKind.u64.wrap (T : Int) = T := by rw [IntKind.wrap_u64]; omega
  have eN : IntKind.u64.wrap (n : Int) = n := by rw [IntKind.wrap_u64]; omega
  have ES := hide eS; have EQ := hide eQ; have ET := hide eT; have EN := hide eN
  have HW := hide hW; have HP := hide hP
  have hql := ahd_small4 Q hQ40; have htl := ahd_small4 T hT40; have hyl := ahd_text ty.size (by omega)
  have HQL := hide hql; have HTL := hide htl; have HYL := hide hyl; have HTY := hide hty
  have HTX := hide (textBits_len ty)
  have HNX := hide hnx
  have HOK := hide hok; have HWF := hide hn; have HLE := hide hle
  rw [← hP]
  clear hW hP h0 h1 hev hS hQ hT eS eQ eT eN hql htl hyl hok hn hv hB hle hty hQ40 hT40 hnx
  obtain ⟨c0, c1, c2, c3, c4⟩ := cell_of_five (HD.out.boxes _ (List.mem_cons_self ..)).1
  go_enter Try.func73, Try.ntmps73
  go_wp2_with fail
  rw [← HW.out, ← HP.out]
  have eS := ES.out; have eQ := EQ.out
  go_region_held3 (fun w' => w'.cell? ⟨P, 0, none⟩ = some (.int .i64 (S : Int)) ∧ w'.cell? ⟨P, 1, none⟩ = some (.int .i64 (Q : Int))) (first | exact ⟨c0, c1⟩ | go_keep)
    (first
      | (go_at_call 34; (with_reducible refine (CS _).mono ?_); rintro e w2 ⟨v1, rfl, hf, hb⟩; obtain ⟨g1, cap1, rfl⟩ := flags_pos hf (by rw [bitsOf_length]; decide); have HD := hide (HD.out.drew.fresh hb hf); clear c0 c1 c2 c3 c4; obtain ⟨c0, c1, c2, c3, c4⟩ := cell_of_five (HD.out.boxes _ (List.mem_cons_self ..)).1; clear hf hb)
      | (go_at_call 101; (with_reducible refine (CQ _).mono ?_); rintro e w3 ⟨v2, rfl, hf, hb⟩; obtain ⟨g2, cap2, rfl⟩ := flags_pos hf (by rw [natBits_length]; omega); have HN := hide hf; have HD := hide (HD.out.call hb); clear c0 c1 c2 c3 c4; obtain ⟨c0, c1, c2, c3, c4⟩ := cell_of_five (HD.out.boxes _ (List.mem_cons_self ..)).1; clear hf hb)
      | (refine step_append_flags (by rfl) (.tmp 10) (.tmp 15) (by rfl) _ _ _ _ _ _ (by simp [Act.eval]) (by simp [Act.eval]) HD.out.flags HN.out (by have := HQL.out; simp [bitsOf_length, natBits_length]; omega) HD.out.size (by rw [natBits_length]; omega) ?_; intro g3 cap3 ng3 w4 hf hg; have HD := hide (HD.out.grow hg hf); clear c0 c1 c2 c3 c4; obtain ⟨c0, c1, c2, c3, c4⟩ := cell_of_five (HD.out.boxes _ (List.mem_cons_self ..)).1; clear hf hg))
  clear eS eQ
  go_wp2_with fail
  have eT := ET.out
  go_region_held3 (fun w' => w'.cell? ⟨P, 2, none⟩ = some (.int .i64 (T : Int)) ∧ w'.cell? ⟨P, 3, none⟩ = some (.string ty)) (first | exact ⟨c2, c3⟩ | go_keep)
    (first
      | (go_at_call 101; (with_reducible refine (CT _).mono ?_); rintro e w5 ⟨v1, rfl, hf, hb⟩; obtain ⟨g1, cap1, rfl⟩ := flags_pos hf (by rw [natBits_length]; omega); have HN := hide hf; have HD := hide (HD.out.drew.call hb); clear c0 c1 c2 c3 c4; obtain ⟨c0, c1, c2, c3, c4⟩ := cell_of_five (HD.out.boxes _ (List.mem_cons_self ..)).1; clear hf hb)
      | (go_at_call 72; (with_reducible refine (CX _).mono ?_); rintro e w6 ⟨v2, rfl, hf, hb⟩; obtain ⟨g2, cap2, rfl⟩ := flags_pos hf (by rw [HTX.out]; omega); have HNA := hide hf; have HLt := hide (own_lt_new HD.out.flags); (try have HN := hide (HN.out.below hb (Nat.le_refl _))); have HD := hide (HD.out.call hb); clear c0 c1 c2 c3 c4; obtain ⟨c0, c1, c2, c3, c4⟩ := cell_of_five (HD.out.boxes _ (List.mem_cons_self ..)).1; clear hf hb)
      | (refine step_append_flags (by rfl) (.tmp 17) (.tmp 21) (by rfl) _ _ _ _ _ _ (by simp [Act.eval]) (by simp [Act.eval]) HD.out.flags HN.out (by have := HQL.out; have := HTL.out; simp [bitsOf_length, natBits_length]; omega) HD.out.size (by rw [natBits_length]; omega) ?_; intro g3 cap3 ng3 w7 hf hg; (try have HNA := hide (HNA.out.other HD.out.flags HLt.out hg)); have HD := hide (HD.out.grow hg hf); clear c0 c1 c2 c3 c4; obtain ⟨c0, c1, c2, c3, c4⟩ := cell_of_five (HD.out.boxes _ (List.mem_cons_self ..)).1; clear hf hg)
      | (refine step_append_flags (by rfl) (.tmp 22) (.tmp 25) (by rfl) _ _ _ _ _ _ (by simp [Act.eval]) (by simp [Act.eval]) HD.out.flags HNA.out (by have := HQL.out; have := HTL.out; have := HYL.out; have := HTY.out; rw [HTX.out]; simp [bitsOf_length, natBits_length]; omega) HD.out.size (by rw [HTX.out]; omega) ?_; intro g4 cap4 ng4 w8 hf hg; have HD := hide (HD.out.grow hg hf); clear c0 c1 c2 c3 c4; obtain ⟨c0, c1, c2, c3, c4⟩ := cell_of_five (HD.out.boxes _ (List.mem_cons_self ..)).1; clear hf hg))
  clear eT
  have eN := EN.out
  go_wp2_with (first
      | (go_at_call 34; (with_reducible refine (CN _).mono ?_); rintro e w9 ⟨v1, rfl, hf, hb⟩; obtain ⟨g1, cap1, rfl⟩ := flags_pos hf (by rw [bitsOf_length]; decide); have HN := hide hf; have HD := hide (HD.out.call hb); clear c0 c1 c2 c3 c4; obtain ⟨c0, c1, c2, c3, c4⟩ := cell_of_five (HD.out.boxes _ (List.mem_cons_self ..)).1; clear hf hb)
      | (at_builtin; refine wpList_append_flags rfl (.tmp 27) (.tmp 32) rfl _ _ _ _ _ _ (by simp [Act.eval]) (by simp [Act.eval]) HD.out.flags HN.out (by have := HQL.out; have := HTL.out; have := HYL.out; have := HTY.out; simp [HTX.out, bitsOf_length, natBits_length]; omega) HD.out.size (by rw [bitsOf_length]; decide) ?_; intro g3 cap3 ng3 w10 hf hg; have HD := hide (HD.out.grow hg hf); clear c0 c1 c2 c3 c4; obtain ⟨c0, c1, c2, c3, c4⟩ := cell_of_five (HD.out.boxes _ (List.mem_cons_self ..)).1; clear hf hg))
  have HHD : Hid (bitsOf S 4 ++ natBits Q ++ natBits T ++ textBits ty.data.toList ++ bitsOf n 4 = headE ⟨S, Q, T, ty, ats⟩) := by
    rw [HNX.out]; rfl
  have hd0 := HD.out
  simp only [List.append_assoc] at hd0
  have hhd := HHD.out
  simp only [List.append_assoc] at hhd
  rw [hhd] at hd0
  have HD := hide hd0
  have HHL := hide (show (headE ⟨S, Q, T, ty, ats⟩).length + (ats.flatMap atBits).length ≤ 8192 by have := HLE.out; unfold evBits at this; rw [List.length_append] at this; exact this)
  obtain ⟨hd, hhd2⟩ : ∃ hd, hd = headE ⟨S, Q, T, ty, ats⟩ := ⟨_, rfl⟩
  rw [← hhd2] at HD HHL
  have HHDV := hide hhd2
  clear hd0 hhd hhd2 eN c0 c1 c2 c3 c4
  go_loopw [3, 4] (fun v i wr => ∃ (k : Nat) (g c m : Nat), k ≤ n ∧ i = .int .i64 k ∧ v = .slice (some ⟨g, 0, none⟩) m c ∧ Hid (He w P [(P, #[.int .i64 (S : Int), .int .i64 (Q : Int), .int .i64 (T : Int), .string ty, .slice ao n cap], 29)] (.slice ao n cap) ats wr (.slice (some ⟨g, 0, none⟩) m c) (hd ++ (ats.take k).flatMap atBits))) (fun _ i _ => n - (intOf i).toNat)
  case atStart => exact ⟨0, _, _, _, Nat.zero_le _, rfl, rfl, by simpa using HD⟩
  case round =>
    obtain ⟨k, g, c, m, hk, rfl, rfl, HD⟩ := hrel
    obtain ⟨c0, c1, c2, c3, c4⟩ := cell_of_five (HD.out.boxes _ (List.mem_cons_self ..)).1
    by_cases hlt : k < n
    · have hkl : k < ats.length := by rw [← HNX.out]; exact hlt
      obtain ⟨b, o, rfl, hb, hnn, _, hcap, hcell⟩ := HD.out.body.at (by omega)
      obtain ⟨x, hx⟩ : ∃ x, x = ats[k]! := ⟨_, rfl⟩
      obtain ⟨b0, b1, b2, b3⟩ := four_cells (w := wr) (b := b) (a := o + k * 4) (x := x) (fun i u hu => hcell k hkl i u (by rw [← hx]; exact hu))
      have hxo := HOK.out.each x (by rw [hx, getElem!_pos ats k hkl]; exact List.getElem_mem _)
      have hxw := HWF.out x (by rw [hx, getElem!_pos ats k hkl]; exact List.getElem_mem _)
      have hfl := take_flat_le ats k hkl
      have hft := take_flat ats k hkl
      rw [← hx] at hfl hft
      rw [atBits_len] at hfl
      have htl := textBits_len x.name
      have hkz : (0 : Int) ≤ (k : Int) := by omega
      have HHL2 := HHL.out
      have hll : (hd ++ (ats.take k).flatMap atBits).length + (textBits x.name.data.toList).length + 2 + (valBitsA x).length ≤ 8192 := by rw [List.length_append]; omega
      obtain ⟨nm, xk, xn, xs⟩ := x
      simp only at b0 b1 b2 b3 hxo hxw htl hll
      have HD1 := HD.out.box #[.string nm, .int .i64 xk, .int .i64 xn, .string xs] 110 (by decide)
      have CX : ∀ w, Calls Try.prog 72 #[.string nm] w fun e w' => ∃ v, e = .returned v ∧ Flags w' w.heap.size v (textBits nm.data.toList) ∧ Below w.heap.size w w' := fun w => rText_any nm w (by omega)
      have hpt : 0 < (textBits nm.data.toList).length := by omega
      have HD := hide HD1
      have HCX := hide CX; have HPT := hide hpt; have HLL := hide hll; have HFT := hide hft
      clear hcell hx hkl hb hnn hfl hft htl HHL2 HD1 CX hpt hll
      obtain ⟨a0, a1, a2, a3⟩ := cell_of_four4 (HD.out.boxes _ (List.mem_cons_self ..)).1
      obtain ⟨hx1, hx2⟩ := hxo
      obtain ⟨K, rfl⟩ : ∃ K : Nat, xk = (K : Int) := ⟨xk.toNat, by omega⟩
      have hK : K = 1 ∨ K = 2 := by omega
      have CK : ∀ w, Calls Try.prog 34 #[.int .u64 (K : Int), .int .i64 2] w fun e w' => ∃ v, e = .returned v ∧ Flags w' w.heap.size v (bitsOf K 2) ∧ Below w.heap.size w w' := fun w => rLow_any K 2 w (by omega) (by omega)
      have HCK := hide CK
      have eK : IntKind.u64.wrap (K : Int) = K := by rw [IntKind.wrap_u64]; omega
      obtain ⟨tn, htn⟩ : ∃ tn, tn = textBits nm.data.toList := ⟨_, rfl⟩
      obtain ⟨l0, hl0⟩ : ∃ l0, l0 = hd ++ (ats.take k).flatMap atBits := ⟨_, rfl⟩
      have hd1 := HD.out
      have hcx := HCX.out; have hpt := HPT.out; have hll := HLL.out
      rw [← hl0] at hd1 hll
      rw [← htn] at hcx hpt hll
      have HA1 := hide (show l0.length + tn.length ≤ 1048576 by omega)
      have HA2 := hide (show (l0 ++ tn).length + (bitsOf K 2).length ≤ 1048576 by rw [List.length_append, bitsOf_length]; omega)
      have HA3 := hide (show (l0 ++ tn ++ bitsOf K 2).length + (valBitsA ⟨nm, K, xn, xs⟩).length ≤ 1048576 by rw [List.length_append, List.length_append, bitsOf_length]; omega)
      have HP2 := hide (show 0 < (bitsOf K 2).length by rw [bitsOf_length]; omega)
      have HD := hide hd1; have HCX := hide hcx; have HPT := hide hpt
      have HBITS : Hid (hd ++ (ats.take (k + 1)).flatMap atBits = l0 ++ tn ++ bitsOf K 2 ++ valBitsA ⟨nm, K, xn, xs⟩) := by
        rw [HFT.out, hl0, htn]; simp only [atBits, List.append_assoc]; rfl
      have HKK := hide hK
      have HX2 := hide hx2
      clear CK hx1 hx2 hl0 htn hd1 hcx hpt hll hK HLL HFT
      go_wp2_with fail
      go_region_held3 (fun w' => w'.cell? ⟨wr.heap.size, 0, none⟩ = some (.string nm) ∧ w'.cell? ⟨wr.heap.size, 1, none⟩ = some (.int .i64 (K : Int))) (first | exact ⟨a0, a1⟩ | go_keep)
        (first
          | (go_at_call 72; (with_reducible refine (HCX.out _).mono ?_); rintro e w2 ⟨v1, rfl, hf, hb⟩; obtain ⟨g1, cap1, rfl⟩ := flags_pos hf HPT.out; have HN := hide hf; have HD := hide (HD.out.drew.call hb); clear c0 c1 c2 c3 c4 a0 a1 a2 a3; obtain ⟨c0, c1, c2, c3, c4⟩ := cell_of_five (HD.out.boxes _ (List.mem_cons_of_mem _ (List.mem_cons_self ..))).1; obtain ⟨a0, a1, a2, a3⟩ := cell_of_four4 (HD.out.boxes _ (List.mem_cons_self ..)).1; clear hf hb)
          | (go_at_call 34; (with_reducible refine (HCK.out _).mono ?_); rintro e w3 ⟨v2, rfl, hf, hb⟩; obtain ⟨g2, cap2, rfl⟩ := flags_pos hf HP2.out; have HNA := hide hf; have HLt := hide (own_lt_new HD.out.flags); (try have HN := hide (HN.out.below hb (Nat.le_refl _))); have HD := hide (HD.out.call hb); clear c0 c1 c2 c3 c4 a0 a1 a2 a3; obtain ⟨c0, c1, c2, c3, c4⟩ := cell_of_five (HD.out.boxes _ (List.mem_cons_of_mem _ (List.mem_cons_self ..))).1; obtain ⟨a0, a1, a2, a3⟩ := cell_of_four4 (HD.out.boxes _ (List.mem_cons_self ..)).1; clear hf hb)
          | (refine step_append_flags (by rfl) (.tmp 46) (.tmp 49) (by rfl) _ _ _ _ _ _ (by simp [Act.eval]) (by simp [Act.eval]) HD.out.flags HN.out HA1.out HD.out.size HPT.out ?_; intro g3 cap3 ng3 w7 hf hg; (try have HNA := hide (HNA.out.other HD.out.flags HLt.out hg)); have HD := hide (HD.out.grow hg hf); clear c0 c1 c2 c3 c4 a0 a1 a2 a3; obtain ⟨c0, c1, c2, c3, c4⟩ := cell_of_five (HD.out.boxes _ (List.mem_cons_of_mem _ (List.mem_cons_self ..))).1; obtain ⟨a0, a1, a2, a3⟩ := cell_of_four4 (HD.out.boxes _ (List.mem_cons_self ..)).1; clear hf hg)
          | (refine step_append_flags (by rfl) (.tmp 50) (.tmp 55) (by rfl) _ _ _ _ _ _ (by simp [Act.eval]) (by simp [Act.eval]) HD.out.flags HNA.out HA2.out HD.out.size HP2.out ?_; intro g4 cap4 ng4 w8 hf hg; have HD := hide (HD.out.grow hg hf); clear c0 c1 c2 c3 c4 a0 a1 a2 a3; obtain ⟨c0, c1, c2, c3, c4⟩ := cell_of_five (HD.out.boxes _ (List.mem_cons_of_mem _ (List.mem_cons_self ..))).1; obtain ⟨a0, a1, a2, a3⟩ := cell_of_four4 (HD.out.boxes _ (List.mem_cons_self ..)).1; clear hf hg))
      clear eK
      rcases HKK.out with rfl | rfl
      · have CV : ∀ w, Calls Try.prog 102 #[.int .i64 xn] w fun e w' => ∃ v, e = .returned v ∧ Flags w' w.heap.size v (valBitsA ⟨nm, (1 : Nat), xn, xs⟩) ∧ Below w.heap.size w w' := fun w => rNum_any xn w hxw
        have HCV := hide CV
        have HPV := hide (show 0 < (valBitsA ⟨nm, (1 : Nat), xn, xs⟩).length by show 0 < (natBits (zigN xn)).length; rw [natBits_length]; omega)
        clear CV hxw
        go_wp2_with (first
            | (go_at_call 102; (with_reducible refine (HCV.out _).mono ?_); rintro e w9 ⟨v1, rfl, hf, hb⟩; obtain ⟨g1, cap1, rfl⟩ := flags_pos hf HPV.out; have HN := hide hf; have HD := hide (HD.out.call hb); clear c0 c1 c2 c3 c4 a0 a1 a2 a3; obtain ⟨c0, c1, c2, c3, c4⟩ := cell_of_five (HD.out.boxes _ (List.mem_cons_of_mem _ (List.mem_cons_self ..))).1; obtain ⟨a0, a1, a2, a3⟩ := cell_of_four4 (HD.out.boxes _ (List.mem_cons_self ..)).1; clear hf hb)
            | (at_builtin; refine wpList_append_flags rfl (.tmp 61) (.tmp 65) rfl _ _ _ _ _ _ (by simp [Act.eval]) (by simp [Act.eval]) HD.out.flags HN.out HA3.out HD.out.size HPV.out ?_; intro g3 cap3 ng3 w10 hf hg; have HD := hide (HD.out.grow hg hf); clear c0 c1 c2 c3 c4 a0 a1 a2 a3; obtain ⟨c0, c1, c2, c3, c4⟩ := cell_of_five (HD.out.boxes _ (List.mem_cons_of_mem _ (List.mem_cons_self ..))).1; obtain ⟨a0, a1, a2, a3⟩ := cell_of_four4 (HD.out.boxes _ (List.mem_cons_self ..)).1; clear hf hg))
        go_roundw
        case rel => exact ⟨k + 1, _, _, _, by omega, by go_num, rfl, by rw [HBITS.out]; exact HD.out.unbox⟩
        case measure => simp [intOf]; omega
      · have CV : ∀ w, Calls Try.prog 72 #[.string xs] w fun e w' => ∃ v, e = .returned v ∧ Flags w' w.heap.size v (valBitsA ⟨nm, (2 : Nat), xn, xs⟩) ∧ Below w.heap.size w w' := fun w => rText_any xs w (by have := HX2.out; omega)
        have HCV := hide CV
        have HPV := hide (show 0 < (valBitsA ⟨nm, (2 : Nat), xn, xs⟩).length by show 0 < (textBits xs.data.toList).length; rw [textBits_len]; omega)
        clear CV hxw
        go_wp2_with (first
            | (go_at_call 72; (with_reducible refine (HCV.out _).mono ?_); rintro e w9 ⟨v1, rfl, hf, hb⟩; obtain ⟨g1, cap1, rfl⟩ := flags_pos hf HPV.out; have HN := hide hf; have HD := hide (HD.out.call hb); clear c0 c1 c2 c3 c4 a0 a1 a2 a3; obtain ⟨c0, c1, c2, c3, c4⟩ := cell_of_five (HD.out.boxes _ (List.mem_cons_of_mem _ (List.mem_cons_self ..))).1; obtain ⟨a0, a1, a2, a3⟩ := cell_of_four4 (HD.out.boxes _ (List.mem_cons_self ..)).1; clear hf hb)
            | (at_builtin; refine wpList_append_flags rfl (.tmp 67) (.tmp 71) rfl _ _ _ _ _ _ (by simp [Act.eval]) (by simp [Act.eval]) HD.out.flags HN.out HA3.out HD.out.size HPV.out ?_; intro g3 cap3 ng3 w10 hf hg; have HD := hide (HD.out.grow hg hf); clear c0 c1 c2 c3 c4 a0 a1 a2 a3; obtain ⟨c0, c1, c2, c3, c4⟩ := cell_of_five (HD.out.boxes _ (List.mem_cons_of_mem _ (List.mem_cons_self ..))).1; obtain ⟨a0, a1, a2, a3⟩ := cell_of_four4 (HD.out.boxes _ (List.mem_cons_self ..)).1; clear hf hg))
        go_roundw
        case rel => exact ⟨k + 1, _, _, _, by omega, by go_num, rfl, by rw [HBITS.out]; exact HD.out.unbox⟩
        case measure => simp [intOf]; omega
    · go_wp2
      go_ret
      obtain rfl : k = n := by omega
      have h2 := HD.out
      rw [List.take_of_length_le (by rw [HNX.out]; exact Nat.le_refl _), HHDV.out] at h2
      exact ⟨_, rfl, h2.flags, h2.below⟩
end Go.Proofs.Ytppacelaeaaodaa

/- Contract: Bytes of the document. -/
namespace Go.Proofs.Ytppacelaeaaodaa
open Go Go.RowKit

theorem r4Form_any (ev : Ev) (B : Nat) (ao : Option Addr) (n cap : Nat) (w : World) (hB : B ≤ w.heap.size) (hv : Av w B (.slice ao n cap) ev.ats) (hok : EvOk ev) (hn : Wf ev.ats) :
    Calls Try.prog 73 #[evV ev (.slice ao n cap)] w fun e w' => ∃ v, e = .returned v ∧ Flags w' w.heap.size v (evBits ev) ∧ Below w.heap.size w w' := by
  obtain ⟨s, sq, t, ty, ats⟩ := ev
  have h1 := hok.src0; have h2 := hok.seq0; have h3 := hok.time0
  simp only at h1 h2 h3
  obtain ⟨S, rfl⟩ := Int.eq_ofNat_of_zero_le h1
  obtain ⟨Q, rfl⟩ := Int.eq_ofNat_of_zero_le h2
  obtain ⟨T, rfl⟩ := Int.eq_ofNat_of_zero_le h3
  exact r4Form_nat S Q T ty ats B ao n cap w hB hv hok hn (evBits_le _ hok (fun x hx => zig_ok (hn x hx)))

end Go.Proofs.Ytppacelaeaaodaa

/- Contract: the document's Form of a partial match. -/
namespace Go.Proofs.Ytppacelaeaaodaa
open Go Go.RowKit

/-- How things stand while a partial match is written: its box, the flags so far. -/
structure Hf (W0 : World) (P : Nat) (va : Value) (w : World) (v : Value) (l : List Bool) : Prop where
  below : Below P W0 w
  size : P ≤ w.heap.size
  bx : w.heap[P]? = some (.cells #[va] 24 (0, 0))
  flags : Flags w P v l
theorem Hf.call {W0 : World} {P : Nat} {va : Value} {w w' : World} {v : Value} {l : List Bool} (h : Hf W0 P va w v l) (hb : Below w.heap.size w w') : Hf W0 P va w' v l :=
  ⟨h.below.trans (hb.mono h.size), Nat.le_trans h.size hb.size, (hb.block P (lt_of_block h.bx)).trans h.bx, h.flags.below hb (Nat.le_refl _)⟩
theorem Hf.drew {W0 : World} {P : Nat} {va : Value} {w : World} {v : Value} {l : List Bool} (h : Hf W0 P va w v l) : Hf W0 P va w.drew v l := h.call ((Below.refl _ _).drew)
theorem Hf.fresh {W0 : World} {P : Nat} {va : Value} {w w' : World} {v v' : Value} {l l' : List Bool} (h : Hf W0 P va w v l) (hb : Below w.heap.size w w') (hf : Flags w' w.heap.size v' l') : Hf W0 P va w' v' l' :=
  ⟨(h.call hb).below, (h.call hb).size, (h.call hb).bx, hf.lower h.size⟩
theorem Hf.grow {W0 : World} {P : Nat} {va : Value} {w w' : World} {v v' : Value} {l l' : List Bool} (h : Hf W0 P va w v l) (hg : w.grownBy w' v.ownBlock) (hf : Flags w' P v' l') : Hf W0 P va w' v' l' := by
  have hlt : ∀ k, v.ownBlock = some k → P ≤ k := fun k hk => (World.ownsRow.lt h.flags k hk).1
  exact ⟨h.below.grown hg h.size hlt, Nat.le_trans h.size hg.size, grow_keeps h.bx h.flags (by decide) hg rfl, hf⟩

set_option maxRecDepth 100000 in
set_option maxHeartbeats 6400000 in
theorem r10Form_any (ps : List Bd) (B : Nat) (ao : Option Addr) (n cap : Nat) (w : World) (hB : B ≤ w.heap.size) (hv : BsV w B (.slice ao n cap) ps) (hok : Okl ps) (hwf : WfB ps) :
    Calls Try.prog 35 #[.agg #[.slice ao n cap]] w fun e w' => ∃ v, e = .returned v ∧ Flags w' w.heap.size v (pmBits ps) ∧ Below w.heap.size w w' := by
  obtain ⟨P, hP⟩ : ∃ P, P = w.heap.size := ⟨_, rfl⟩
  obtain ⟨W, hW⟩ : ∃ W, W = w.alloc (.cells #[.slice ao n cap] 24) := ⟨_, rfl⟩
  have hbel : Below P w W := by rw [hW, hP]; exact (Below.refl _ _).alloc (Nat.le_refl _) _
  have h0 : Hf W P (.slice ao n cap) W (.slice none 0 0) [] := ⟨Below.refl _ _, by rw [hW, hP]; simp, by rw [hW, hP]; exact heap_alloc_new w _, World.ownsRow_nil _ _ _ _⟩
  have HD := hide h0
  have HBel := hide hbel; have HW := hide hW; have HP := hide hP
  have hBP : B ≤ P := by omega
  obtain ⟨hn, hn63, hnc, hc63, _, hn80⟩ := hv.num
  have hlen := hok.len
  have hn16 : n ≤ 12 := by omega
  have eN : IntKind.u64.wrap (n : Int) = n := by rw [IntKind.wrap_u64]; omega
  have CN : ∀ w, Calls Try.prog 34 #[.int .u64 (n : Int), .int .i64 4] w fun e w' => ∃ v, e = .returned v ∧ Flags w' w.heap.size v (bitsOf n 4) ∧ Below w.heap.size w w' := fun w => rLow_any n 4 w (by omega) (by omega)
  have hpm := pm_le ps hok hwf
  have hel : (pmBits ps).length = 4 + (ps.flatMap bdBits).length := by unfold pmBits; rw [List.length_append, bitsOf_length]
  obtain ⟨hd, hhd⟩ : ∃ hd, hd = bitsOf n 4 := ⟨_, rfl⟩
  have HEV : Hid (hd ++ ps.flatMap bdBits = pmBits ps) := by rw [hhd, hn]; rfl
  have hhl : hd.length + (ps.flatMap bdBits).length ≤ 1048576 := by rw [hhd, bitsOf_length]; omega
  have hp4 : 0 < hd.length := by rw [hhd, bitsOf_length]; decide
  rw [← hhd] at CN
  have HCN := hide CN; have HP4 := hide hp4; have HHL := hide hhl
  have HAV := hide (hv.below hbel (by omega)); have HN := hide hn
  have HOK := hide hok; have HWF := hide hwf
  rw [← hP]
  have c0 := cells_one0 HD.out.bx
  clear hbel hW hP h0 hn80 hlen CN hpm hel hhd hhl hp4 hv hok hwf hB hn
  go_enter Try.func35, Try.ntmps35
  go_wp2_with fail
  rw [← HW.out, ← HP.out]
  (with_reducible refine (HCN.out _).mono ?_)
  rintro e w1 ⟨v1, rfl, hf, hb⟩
  obtain ⟨g1, k1, rfl⟩ := flags_pos hf HP4.out
  have HD := hide (HD.out.fresh hb hf)
  clear hf hb c0 eN
  go_wp2_with fail
  go_loopw [3, 4] (fun v i wr => ∃ (k : Nat) (g c m : Nat), k ≤ n ∧ i = .int .i64 k ∧ v = .slice (some ⟨g, 0, none⟩) m c ∧ Hid (Hf W P (.slice ao n cap) wr (.slice (some ⟨g, 0, none⟩) m c) (hd ++ (ps.take k).flatMap bdBits))) (fun _ i _ => n - (intOf i).toNat)
  case atStart => exact ⟨0, _, _, _, Nat.zero_le _, rfl, rfl, by simpa using HD⟩
  case round =>
    obtain ⟨k, g, c, m, hk, rfl, rfl, HD⟩ := hrel
    have c0 := cells_one0 HD.out.bx
    by_cases hlt : k < n
    · obtain ⟨b, o, aa, ac, rfl, hb, hkl, hvs, hts, hnil, hav, hc⟩ := HAV.out.at hlt
      have hm : ps[k]! ∈ ps := by rw [getElem!_pos ps k hkl]; exact List.getElem_mem _
      have hx1 := nmB_len (HOK.out.nm _ hm)
      have hx2 := EvOk.of (HOK.out.ev _ hm)
      have hx3 := HWF.out _ hm
      have hfl := take_bd_le ps k hkl
      have hft := take_bd ps k hkl
      have HCL := hide (fun (u : World) (v : Value) (l : List Bool) (hu : Hf W P (.slice (some ⟨b, o, none⟩) n cap) u v l) => And.intro (cells_one0 hu.bx) (six_cells (hc u (hu.below.mono hBP))))
      have hkz : (0 : Int) ≤ (k : Int) := by omega
      have HHL2 := HHL.out
      have HEA := hide (fun (u : World) (v : Value) (l : List Bool) (hu : Hf W P (.slice (some ⟨b, o, none⟩) n cap) u v l) => r4Form_any ps[k]!.ev B aa ps[k]!.ev.ats.length ac u (Nat.le_trans hBP hu.size) (hav.below (hu.below.mono hBP) (Nat.le_refl _)) hx2 hx3)
      unfold evV at HEA
      generalize ps[k]! = x at *
      have HCX := hide (fun (w : World) => rText_any x.var w (by omega))
      obtain ⟨tn, htn⟩ : ∃ tn, tn = textBits x.var.data.toList := ⟨_, rfl⟩
      obtain ⟨te, hte⟩ : ∃ te, te = evBits x.ev := ⟨_, rfl⟩
      obtain ⟨l0, hl0⟩ : ∃ l0, l0 = hd ++ (ps.take k).flatMap bdBits := ⟨_, rfl⟩
      have hbd : bdBits x = tn ++ te := by rw [htn, hte]; rfl
      have hbl : (bdBits x).length = tn.length + te.length := by rw [hbd, List.length_append]
      have hll : l0.length = hd.length + ((ps.take k).flatMap bdBits).length := by rw [hl0, List.length_append]
      have HPT := hide (show 0 < tn.length by rw [htn, textBits_len]; omega)
      have HP2 := hide (show 0 < te.length by rw [hte]; unfold evBits; rw [List.length_append, headE_len]; omega)
      have HA1 := hide (show l0.length + tn.length ≤ 1048576 by omega)
      have HA2 := hide (show (l0 ++ tn).length + te.length ≤ 1048576 by rw [List.length_append]; omega)
      have HBITS := hide (show hd ++ (ps.take (k + 1)).flatMap bdBits = l0 ++ tn ++ te by rw [hft, hl0, hbd]; simp only [List.append_assoc])
      rw [← hl0] at HD
      rw [← htn] at HCX
      rw [← hte] at HEA
      clear hc hm hkl hb hav hx1 hx2 hx3 hfl hft hbd hbl hll htn hte hl0 HHL2 hvs hnil hts c0
      obtain ⟨c0, a0, a1, a2, a3, a4, a5⟩ := HCL.out _ _ _ HD.out
      go_wp2_with fail
      go_region_held3 (fun w' => w'.cell? ⟨P, 0, none⟩ = some (.slice (some ⟨b, o, none⟩) n cap) ∧ w'.cell? ⟨b, o + k * 6, none⟩ = some (.string x.var) ∧ w'.cell? ⟨b, o + k * 6 + 1, none⟩ = some (.int .i64 x.ev.src) ∧ w'.cell? ⟨b, o + k * 6 + 2, none⟩ = some (.int .i64 x.ev.seq) ∧ w'.cell? ⟨b, o + k * 6 + 3, none⟩ = some (.int .i64 x.ev.time) ∧ w'.cell? ⟨b, o + k * 6 + 4, none⟩ = some (.string x.ev.ty) ∧ w'.cell? ⟨b, o + k * 6 + 5, none⟩ = some (.slice aa x.ev.ats.length ac)) (first | (with_reducible exact ⟨c0, a0, a1, a2, a3, a4, a5⟩) | exact ⟨c0, a0, a1, a2, a3, a4, a5⟩)
        (first
          | (go_at_call 72; (with_reducible refine (HCX.out _).mono ?_); rintro e w2 ⟨v1, rfl, hf, hb⟩; obtain ⟨g1, cap1, rfl⟩ := flags_pos hf HPT.out; have HN1 := hide hf; have HD := hide (HD.out.drew.call hb); clear c0 a0 a1 a2 a3 a4 a5; obtain ⟨c0, a0, a1, a2, a3, a4, a5⟩ := HCL.out _ _ _ HD.out; clear hf hb)
          | (go_at_call 73; (with_reducible refine (HEA.out _ _ _ HD.out).mono ?_); rintro e w3 ⟨v2, rfl, hf, hb⟩; obtain ⟨g2, cap2, rfl⟩ := flags_pos hf HP2.out; have HNA := hide hf; have HLt := hide (own_lt_new HD.out.flags); (try have HN1 := hide (HN1.out.below hb (Nat.le_refl _))); have HD := hide (HD.out.call hb); clear c0 a0 a1 a2 a3 a4 a5; obtain ⟨c0, a0, a1, a2, a3, a4, a5⟩ := HCL.out _ _ _ HD.out; clear hf hb)
          | (refine step_append_flags (by rfl) (.tmp 17) (.tmp 24) (by rfl) _ _ _ _ _ _ (by simp [Act.eval]) (by simp [Act.eval]) HD.out.flags HN1.out HA1.out HD.out.size HPT.out ?_; intro g3 cap3 ng3 w7 hf hg; (try have HNA := hide (HNA.out.other HD.out.flags HLt.out hg)); have HD := hide (HD.out.grow hg hf); clear c0 a0 a1 a2 a3 a4 a5; obtain ⟨c0, a0, a1, a2, a3, a4, a5⟩ := HCL.out _ _ _ HD.out; clear hf hg)
          | (refine step_append_flags (by rfl) (.tmp 25) (.tmp 32) (by rfl) _ _ _ _ _ _ (by simp [Act.eval]) (by simp [Act.eval]) HD.out.flags HNA.out HA2.out HD.out.size HP2.out ?_; intro g4 cap4 ng4 w8 hf hg; have HD := hide (HD.out.grow hg hf); clear c0 a0 a1 a2 a3 a4 a5; obtain ⟨c0, a0, a1, a2, a3, a4, a5⟩ := HCL.out _ _ _ HD.out; clear hf hg))
      all_goals go_wp2_with fail
      all_goals go_roundw
      all_goals first
        | exact ⟨k + 1, _, _, _, by omega, by go_num, rfl, by rw [HBITS.out]; exact HD⟩
        | (simp [intOf]; omega)
    · go_wp2
      go_ret
      obtain rfl : k = n := by omega
      have h2 := HD.out
      rw [List.take_of_length_le (by rw [← HN.out]; exact Nat.le_refl _), HEV.out] at h2
      exact ⟨_, rfl, h2.flags, HBel.out.trans h2.below⟩
end Go.Proofs.Ytppacelaeaaodaa

/- Contract: the document's Bytes of a partial match. -/
namespace Go.Proofs.Ytppacelaeaaodaa
open Go Go.RowKit

set_option maxRecDepth 100000 in
set_option maxHeartbeats 1600000 in
theorem r10Bytes_any (ps : List Bd) (B : Nat) (ao : Option Addr) (n cap : Nat) (w : World) (hB : B ≤ w.heap.size)
    (hv : BsV w B (.slice ao n cap) ps) (hn : WfB ps) :
    Calls Try.prog 30 #[.agg #[.slice ao n cap]] w
      fun e w' => ∃ v, e = .returned (.tuple #[v, .int .i64 (ckP ps)]) ∧ w'.ownsRow w.heap.size 5 1 v (pmBytes ps).length (byteVs (pmBytes ps)) ∧ Below w.heap.size w w' := by
  obtain ⟨P, hP⟩ : ∃ P, P = w.heap.size := ⟨_, rfl⟩
  obtain ⟨W, hW⟩ : ∃ W, W = w.alloc (.cells #[.slice ao n cap] 24) := ⟨_, rfl⟩
  have hbel : Below P w W := by rw [hW, hP]; exact (Below.refl _ _).alloc (Nat.le_refl _) _
  have hsz : P < W.heap.size := by rw [hW, hP]; simp
  have HPW := hide (by rw [hW, hP]; exact heap_alloc_new w _ : W.heap[P]? = some (.cells #[.slice ao n cap] 24 (0, 0)))
  have HBel := hide hbel; have HW := hide hW; have HP := hide hP
  have HBP := hide (show B ≤ P by omega)
  have HSZ := hide hsz
  have hav := hv.below hbel (show B ≤ P by omega)
  have CC := r10Check_any B ao n cap ps W hav (by omega)
  have HAV := hide hav
  rw [← hP]
  by_cases hck : ckP ps = 0
  · have hok := (ckP_iff ps).1 hck
    have hle : (pmBits ps).length ≤ 1048576 := pm_le ps hok hn
    have CF := fun (w : World) (h : BsV w B (.slice ao n cap) ps) (hB : B ≤ w.heap.size) => r10Form_any ps B ao n cap w hB h hok hn
    rw [pmBytes_ok hck]
    rw [hck] at CC ⊢
    have hpos : 0 < (pmBits ps).length := by unfold pmBits; rw [List.length_append, bitsOf_length]; omega
    obtain ⟨l, hl⟩ : ∃ l, l = pmBits ps := ⟨_, rfl⟩
    rw [← hl] at CF hle hpos ⊢
    have HCF := hide CF; have HCC := hide CC; have HLE := hide (show l.length ≤ 1048576 by omega); have HPOS := hide hpos
    clear hbel hW hP CF CC hn hv hB hsz hck hok hle hl hav hpos
    have c0 := cells_one0 HPW.out
    go_enter Try.func30, Try.ntmps30
    go_wp2_with fail
    rw [← HW.out, ← HP.out]
    refine HCC.out.mono ?_
    rintro e w1 ⟨rfl, hb1⟩
    have HP1 := hide ((hb1.block P HSZ.out).trans HPW.out)
    have HA1 := hide (HAV.out.below hb1 (by have := HBP.out; have := HSZ.out; omega))
    have HB1 := hide (HBel.out.trans (hb1.mono (Nat.le_of_lt HSZ.out)))
    have HZ1 := hide (show P ≤ w1.heap.size from Nat.le_of_lt (lt_of_block HP1.out))
    clear hb1 c0
    have c0 := cells_one0 HP1.out
    go_wp2_with fail
    refine (HCF.out w1 HA1.out (Nat.le_trans HBP.out HZ1.out)).mono ?_
    rintro e w2 ⟨v2, rfl, hf2, hb2⟩
    obtain ⟨g2, k2, rfl⟩ := flags_pos hf2 HPOS.out
    have HF2 := hide hf2
    have HB2 := hide (HB1.out.trans (hb2.mono HZ1.out))
    have HZ2 := hide (Nat.le_trans HZ1.out hb2.size)
    clear hf2 hb2 c0
    go_wp2_with fail
    refine (rPack_any _ _ _ _ HLE.out HF2.out).mono ?_
    rintro e w3 ⟨v3, rfl, ho3, hb3⟩
    have HO3 := hide ho3
    have HB3 := hide (HB2.out.trans (hb3.mono HZ2.out))
    clear ho3 hb3
    go_wp2
    go_ret2
    exact ⟨_, rfl, ownsRow_lower HO3.out HZ2.out, HB3.out⟩
  · rw [pmBytes_no hck]
    obtain ⟨c, hc⟩ : ∃ c, c = ckP ps := ⟨_, rfl⟩
    rw [← hc] at CC hck ⊢
    have b1 : (c == 0) = false := by simp [hck]
    have b2 : (c != 0) = true := by simp [hck]
    have HCC := hide CC
    clear hbel hW hP CC hn hv hB hsz hck hc hav
    have c0 := cells_one0 HPW.out
    go_enter Try.func30, Try.ntmps30
    go_wp2_with fail
    rw [← HW.out, ← HP.out]
    refine HCC.out.mono ?_
    rintro e w1 ⟨rfl, hb1⟩
    have HB1 := hide (HBel.out.trans (hb1.mono (Nat.le_of_lt HSZ.out)))
    clear hb1 c0
    go_wp2
    go_ret2
    exact ⟨_, rfl, World.ownsRow_nil _ _ _ _, HB1.out⟩
end Go.Proofs.Ytppacelaeaaodaa

/- The walk of MatchWrites. -/
namespace Go.Proofs.Ytppacelaeaaodaa
open Go Go.RowKit

theorem pm_le' (ps : List Bd) (h : Okl ps) (hw : WfB ps) : (pmBits ps).length ≤ 1000000 := by
  obtain ⟨h1, h2⟩ := pmBits_le ps h hw
  omega
theorem pmBytes_small (ps : List Bd) : ∀ c ∈ pmBytes ps, c < 256 := by
  unfold pmBytes; split
  · exact packed_small _
  · intro c hc; cases hc
theorem pmBytes_len (ps : List Bd) (hn : WfB ps) : (pmBytes ps).length ≤ 1048584 := by
  unfold pmBytes; split
  · rename_i h
    have := pm_le ps ((ckP_iff ps).1 h) hn
    have := packed_length_le (pmBits ps)
    omega
  · simp

/-- How things stand within EventWrites: the event's box, its attributes, what was written. -/
structure Wx0 (w0 : World) (P : Nat) (cs : Array Value) (va : Value) (x : List Bd) (rows : List (Value × List Nat)) (w : World) : Prop where
  below : Below P w0 w
  sz : P < w.heap.size
  bx : w.heap[P]? = some (.cells cs 24 (0, 0))
  hx : BsV w P va x
  rows : ∀ r ∈ rows, Bv w w.heap.size r.1 r.2
theorem Wx0.call {w0 : World} {P : Nat} {cs : Array Value} {va : Value} {x : List Bd} {rows : List (Value × List Nat)} {w w' : World} (h : Wx0 w0 P cs va x rows w) (hb : Below w.heap.size w w') : Wx0 w0 P cs va x rows w' :=
  ⟨h.below.trans (hb.mono (Nat.le_of_lt h.sz)), Nat.lt_of_lt_of_le h.sz hb.size, (hb.block P h.sz).trans h.bx, h.hx.below hb (Nat.le_of_lt h.sz), fun r hr => ((h.rows r hr).below hb (Nat.le_refl _)).mono hb.size⟩
/-- A call that changes only what lies behind the rows. -/
theorem Wx0.from_ {w0 : World} {P : Nat} {cs : Array Value} {va : Value} {x : List Bd} {rows : List (Value × List Nat)} {w1 w w' : World} (h1 : Wx0 w0 P cs va x rows w1) (h : Below w1.heap.size w1 w) (hb : Below w1.heap.size w w') : Wx0 w0 P cs va x rows w' := h1.call (h.trans hb)
theorem Wx0.row {w0 : World} {P : Nat} {cs : Array Value} {va : Value} {x : List Bd} {rows : List (Value × List Nat)} {w w' : World} (h : Wx0 w0 P cs va x rows w) (hb : Below w.heap.size w w') {v : Value} {l : List Nat} (hv : Bv w' w'.heap.size v l) : Wx0 w0 P cs va x ((v, l) :: rows) w' := by
  have hc := h.call hb
  exact ⟨hc.below, hc.sz, hc.bx, hc.hx, fun r hr => (List.mem_cons.1 hr).elim (fun e => by rw [e]; exact hv) (hc.rows r)⟩
theorem and7 (h : Nat) (hh : h < 256) : bits BinOp.and IntKind.u8 (h : Int) 7 = ((h % 8 : Nat) : Int) := by
  have k : ∀ h : Fin 256, bits BinOp.and IntKind.u8 (((h.val : Nat)) : Int) 7 = ((h.val % 8 : Nat) : Int) := by decide +kernel
  exact k ⟨h, hh⟩
set_option maxRecDepth 100000 in
set_option maxHeartbeats 1600000 in
theorem mwrites_walk (ps : List Bd) (h : Nat) (ao : Option Addr) (n cap : Nat) (w : World) (hx : BsV w w.heap.size (.slice ao n cap) ps) (hn : WfB ps) (hh : h < 256) :
    Calls Try.prog 5 #[.agg #[.slice ao n cap], .int .u8 (h : Int)] w fun e w' => e = .returned (.bool true) ∧ Below w.heap.size w w' := by
  obtain ⟨P, hP⟩ : ∃ P, P = w.heap.size := ⟨_, rfl⟩
  obtain ⟨W, hW⟩ : ∃ W, W = w.alloc (.cells #[.slice ao n cap] 24) := ⟨_, rfl⟩
  have hbel : Below P w W := by rw [hW, hP]; exact (Below.refl _ _).alloc (Nat.le_refl _) _
  have HB0 : Hid (Wx0 w P #[.slice ao n cap] (.slice ao n cap) ps [] W) :=
    hide ⟨hbel, by rw [hW, hP]; simp, by rw [hW, hP]; exact heap_alloc_new w _, (hx.mono (Nat.le_of_eq hP.symm)).below hbel (Nat.le_refl _), (fun r hr => by cases hr)⟩
  have HW := hide hW; have HP := hide hP
  have CA := fun (w : World) (h1 : BsV w P (.slice ao n cap) ps) (h3 : P ≤ w.heap.size) => mBytes_any ps P ao n cap w h3 h1 hn
  have CB := fun (w : World) (h1 : BsV w P (.slice ao n cap) ps) (h3 : P ≤ w.heap.size) => r10Bytes_any ps P ao n cap w h3 h1 hn
  have CP := fun (w : World) (q : Nat) (bs : List Bool) (hs : SinkIs w q q bs) (hB : q ≤ w.heap.size) (h1 : BsV w q (.slice ao n cap) ps) => mPut_any ps q q bs ao n cap w hs hB h1 hn
  obtain ⟨H, hH⟩ : ∃ H : Nat, H = h % 8 := ⟨_, rfl⟩
  have hH8 : H < 8 := by omega
  have eH := and7 h hh
  rw [← hH] at eH
  have hsm := pmBytes_small ps
  have hel := pmBytes_len ps hn
  obtain ⟨eb, heb⟩ : ∃ eb, eb = pmBytes ps := ⟨_, rfl⟩
  rw [← heb] at CA CB hsm hel
  have HSM := hide hsm; have HEL := hide hel
  have CL : ∀ w, Calls Try.prog 34 #[.int .u64 (H : Int), .int .i64 3] w fun e w' => ∃ v, e = .returned v ∧ Flags w' w.heap.size v (bitsOf H 3) ∧ Below w.heap.size w w' := fun w => rLow_any H 3 w (by omega) (by omega)
  have CK := fun (w : World) (q : Nat) (hs : SinkIs w q q []) => kBits_fits q q H 3 [] w hs (by decide) (by omega) (by simp)
  have HCL := hide CL; have HCK := hide CK
  have hH0 : (0 : Int) ≤ (H : Int) := by omega
  have hH7 : (H : Int) ≤ 7 := by omega
  rw [← hP]
  by_cases hck : ckP ps = 0
  · have hok := (ckP_iff ps).1 hck
    have hle := pm_le' ps hok hn
    have CF := fun (w : World) (h : BsV w P (.slice ao n cap) ps) (hB : P ≤ w.heap.size) => r10Form_any ps P ao n cap w hB h hok hn
    have hpe : putErrP (bitsOf H 3).length ps = 0 := putErrP_ok hck (by rw [bitsOf_length]; omega)
    have hpb : putBitsP (bitsOf H 3) ps = bitsOf H 3 ++ pmBits ps := by unfold putBitsP; rw [hpe, if_pos rfl]
    have CP := fun (w : World) (q : Nat) (hs : SinkIs w q q (bitsOf H 3)) (hB : q ≤ w.heap.size) (h1 : BsV w q (.slice ao n cap) ps) => CP w q (bitsOf H 3) hs hB h1
    simp only [hpe, hpb] at CP
    rw [hck] at CA CB
    have hpos : 0 < (pmBits ps).length := by unfold pmBits; rw [List.length_append, bitsOf_length]; omega
    obtain ⟨l, hl⟩ : ∃ l, l = pmBits ps := ⟨_, rfl⟩
    rw [← hl] at CF CP hle hpos
    have HPOS := hide hpos
    have HL3 := hide (show (bitsOf H 3).length + l.length ≤ 1048576 by rw [bitsOf_length]; omega)
    have HL4 := hide (show (bitsOf H 3 ++ l).length ≤ 1048576 by rw [List.length_append, bitsOf_length]; omega)
    have HCA := hide CA; have HCB := hide CB; have HCF := hide CF; have HCP := hide CP
    have c0 := cells_one0 HB0.out.bx
    clear hbel hW hP CA CB CF CP CL CK hn hx hh hck hok hle hpe hpb hl heb hpos hsm hel hH hH8
    go_enter Try.func5, Try.ntmps5
    go_wp2_with fail
    rw [← HW.out, ← HP.out]
    refine (HCA.out W HB0.out.hx (Nat.le_of_lt HB0.out.sz)).mono ?_
    rintro e w1 ⟨va, rfl, ho, hb⟩
    obtain ⟨aa, ka, rfl⟩ := own_slice ho
    have HB1 := hide (HB0.out.row hb (Bv.of_own ho HSM.out (by have := HEL.out; omega)))
    clear ho hb c0
    have c0 := cells_one0 HB1.out.bx
    go_wp2_with fail
    refine (HCB.out w1 HB1.out.hx (Nat.le_of_lt HB1.out.sz)).mono ?_
    rintro e w2 ⟨vb, rfl, ho, hb⟩
    obtain ⟨ab, kb, rfl⟩ := own_slice ho
    have HB2 := hide (HB1.out.row hb (Bv.of_own ho HSM.out (by have := HEL.out; omega)))
    clear ho hb c0
    go_wp2_with fail
    refine (newSink_any w2).mono ?_
    obtain ⟨q, hq⟩ : ∃ q, q = w2.heap.size := ⟨_, rfl⟩
    rw [← hq]
    have HQ := hide hq
    rintro e w3 ⟨rfl, hs, k3⟩
    have HS3 := hide hs
    have HB3 := hide (HB2.out.call (by rw [← hq]; exact k3.below))
    have HK3 := hide (show Below w2.heap.size w2 w3 by rw [← hq]; exact k3.below)
    clear hs k3 hq
    go_wp2_with fail
    refine (begun10_any w3).mono ?_
    rintro e w4 ⟨rfl, hb⟩
    have HS4 := hide (HS3.out.below hb (Nat.le_refl _))
    have HB4 := hide (HB3.out.call hb)
    have HK4 := hide (HK3.out.trans (hb.mono HK3.out.size))
    clear hb
    go_wp2_with fail
    refine (HCK.out w4 q HS4.out).mono ?_
    rintro e w5 ⟨rfl, hs, k5⟩
    rw [List.nil_append] at hs
    have HS5 := hide hs
    have HK5 := hide (HK4.out.trans (by rw [← HQ.out]; exact k5.below))
    have HB5 := hide (HB2.out.call HK5.out)
    clear hs k5
    have c0 := cells_one0 HB5.out.bx
    have hqP : P ≤ q := by rw [HQ.out]; exact Nat.le_of_lt HB2.out.sz
    have HQP := hide hqP
    go_wp2_with fail
    refine (HCP.out w5 q HS5.out (by rw [HQ.out]; exact HK5.out.size) (HB5.out.hx.mono HQP.out)).mono ?_
    rintro e w6 ⟨rfl, hs, hb⟩
    have HS6 := hide hs
    have HK6 := hide (HK5.out.trans (by rw [← HQ.out]; exact hb))
    have HB6 := hide (HB2.out.call HK6.out)
    clear hs hb c0 hqP
    have c0 := cells_one0 HB6.out.bx
    go_wp2_with fail
    refine (HCL.out w6).mono ?_
    rintro e w7 ⟨v7, rfl, hf, hb⟩
    obtain ⟨g7, k7, rfl⟩ := flags_pos hf (by rw [bitsOf_length]; decide)
    have HF7 := hide hf
    have HS7 := hide (HS6.out.below hb (Nat.le_refl _))
    have HK7 := hide (HK6.out.trans (hb.mono HK6.out.size))
    have HB7 := hide (HB6.out.call hb)
    have H67 := hide (hb.size)
    clear hf hb c0
    have c0 := cells_one0 HB7.out.bx
    go_wp2_with fail
    refine (HCF.out w7 HB7.out.hx (Nat.le_of_lt HB7.out.sz)).mono ?_
    rintro e w8 ⟨v8, rfl, hf, hb⟩
    obtain ⟨g8, k8, rfl⟩ := flags_pos hf HPOS.out
    have HF8 := hide hf
    have HF7b := hide (HF7.out.below hb (Nat.le_refl _))
    have HS8 := hide (HS7.out.below hb (Nat.le_refl _))
    have HK8 := hide (HK7.out.trans (hb.mono HK7.out.size))
    have HB8 := hide (HB7.out.call hb)
    have H68 := hide (Nat.le_trans H67.out hb.size)
    clear hf hb c0
    go_wp2_with (at_builtin; refine wpList_append_flags rfl (.tmp 46) (.tmp 48) rfl _ _ _ _ _ _ (by simp [Act.eval]) (by simp [Act.eval]) HF7b.out HF8.out HL3.out H68.out HPOS.out ?_; intro g9 k9 n9 w9 hf hg; have HF9 := hide hf; have HG9 := hide hg; clear hf hg)
    have hn9 : n9 = (bitsOf H 3 ++ l).length := by
      obtain ⟨ao, cap, h9⟩ := own_slice HF9.out
      simp only [Value.slice.injEq] at h9; exact h9.2.1
    have hk9 : Below w2.heap.size w2 w9 := HK8.out.grown HG9.out HK8.out.size (fun k hk => Nat.le_trans HK6.out.size (HF7b.out.lt k hk).1)
    have HS9 := hide (HS8.out.kept (((Kept.refl 0 (fun e => e == 4) w8).grown HF7b.out rfl HG9.out (Nat.zero_le _) (Nat.zero_le _))) (by decide) (by decide))
    have HB9 := hide (HB2.out.call hk9)
    have HK9 := hide hk9
    have HN9 := hide hn9
    obtain ⟨L, hL⟩ : ∃ L, L = (bitsOf H 3 ++ l).length := ⟨_, rfl⟩
    rw [← hL] at hn9
    subst hn9
    have HLL := hide hL
    clear hk9 hL
    have he1 := (HB9.out.rows _ (List.mem_cons_of_mem _ (List.mem_cons_self ..))).equal (HB9.out.rows _ (List.mem_cons_self ..))
    rw [decide_eq_true rfl] at he1
    refine he1.mono ?_
    clear he1
    rintro e w9' ⟨rfl, rfl⟩
    go_wp2_with fail
    have cl := kLen_any q _ w9 HS9.out.made HS9.out.count
    rw [← HLL.out] at cl
    refine cl.mono ?_
    clear cl
    rintro e w9' ⟨rfl, rfl⟩
    go_wp2_with fail
    refine (kOut_any q q _ w9 HS9.out).mono ?_
    rintro e w10 ⟨v10, rfl, ho, hb⟩
    obtain ⟨a10, k10, rfl⟩ := own_slice ho
    have hpk : (packed (bitsOf H 3 ++ l)).length ≤ 140737488355328 := by have := packed_length_le (bitsOf H 3 ++ l); have := HL4.out; omega
    have HV10 := hide (Bv.of_own ho (packed_small _) hpk)
    have HF10 := hide (HF9.out.below hb (Nat.le_refl _))
    have HK10 := hide (HK9.out.trans (hb.mono HK9.out.size))
    have HPK := hide hpk
    clear ho hb hpk
    go_wp2_with fail
    refine (rPack_any _ _ _ w10 HL4.out HF10.out).mono ?_
    rintro e w11 ⟨v11, rfl, ho, hb⟩
    obtain ⟨a11, k11, rfl⟩ := own_slice ho
    have he2 := (HV10.out.below hb (Nat.le_refl _)).equal (Bv.of_own ho (packed_small _) HPK.out)
    rw [decide_eq_true rfl] at he2
    have HB11 := hide (HB2.out.call (HK10.out.trans (hb.mono HK10.out.size)))
    have HE2 := hide he2
    clear ho hb he2
    go_wp2_with fail
    refine HE2.out.mono ?_
    rintro e w11' ⟨rfl, rfl⟩
    go_wp2
    go_ret
    exact ⟨rfl, HB11.out.below⟩
  · have CP := fun (w : World) (q : Nat) (hs : SinkIs w q q (bitsOf H 3)) (hB : q ≤ w.heap.size) (h1 : BsV w q (.slice ao n cap) ps) => CP w q (bitsOf H 3) hs hB h1
    have hpe : putErrP (bitsOf H 3).length ps = ckP ps := putErrP_ck hck
    have hpb : putBitsP (bitsOf H 3) ps = bitsOf H 3 := by unfold putBitsP; rw [hpe, if_neg hck]
    simp only [hpe, hpb] at CP
    obtain ⟨c, hc⟩ : ∃ c, c = ckP ps := ⟨_, rfl⟩
    rw [← hc] at CA CB CP hck
    have b1 : (c == 0) = false := by simp [hck]
    have b2 : (c != 0) = true := by simp [hck]
    have HL4 := hide (show (bitsOf H 3).length ≤ 1048576 by rw [bitsOf_length]; omega)
    have HCA := hide CA; have HCB := hide CB; have HCP := hide CP
    have c0 := cells_one0 HB0.out.bx
    clear hbel hW hP CA CB CP CL CK hn hx hh hck hpe hpb hc heb hsm hel hH hH8
    go_enter Try.func5, Try.ntmps5
    go_wp2_with fail
    rw [← HW.out, ← HP.out]
    refine (HCA.out W HB0.out.hx (Nat.le_of_lt HB0.out.sz)).mono ?_
    rintro e w1 ⟨va, rfl, ho, hb⟩
    obtain ⟨aa, ka, rfl⟩ := own_slice ho
    have HB1 := hide (HB0.out.row hb (Bv.of_own ho HSM.out (by have := HEL.out; omega)))
    clear ho hb c0
    have c0 := cells_one0 HB1.out.bx
    go_wp2_with fail
    refine (HCB.out w1 HB1.out.hx (Nat.le_of_lt HB1.out.sz)).mono ?_
    rintro e w2 ⟨vb, rfl, ho, hb⟩
    obtain ⟨ab, kb, rfl⟩ := own_slice ho
    have HB2 := hide (HB1.out.row hb (Bv.of_own ho HSM.out (by have := HEL.out; omega)))
    clear ho hb c0
    go_wp2_with fail
    refine (newSink_any w2).mono ?_
    obtain ⟨q, hq⟩ : ∃ q, q = w2.heap.size := ⟨_, rfl⟩
    rw [← hq]
    have HQ := hide hq
    rintro e w3 ⟨rfl, hs, k3⟩
    have HS3 := hide hs
    have HB3 := hide (HB2.out.call (by rw [← hq]; exact k3.below))
    have HK3 := hide (show Below w2.heap.size w2 w3 by rw [← hq]; exact k3.below)
    clear hs k3 hq
    go_wp2_with fail
    refine (begun10_any w3).mono ?_
    rintro e w4 ⟨rfl, hb⟩
    have HS4 := hide (HS3.out.below hb (Nat.le_refl _))
    have HB4 := hide (HB3.out.call hb)
    have HK4 := hide (HK3.out.trans (hb.mono HK3.out.size))
    clear hb
    go_wp2_with fail
    refine (HCK.out w4 q HS4.out).mono ?_
    rintro e w5 ⟨rfl, hs, k5⟩
    rw [List.nil_append] at hs
    have HS5 := hide hs
    have HK5 := hide (HK4.out.trans (by rw [← HQ.out]; exact k5.below))
    have HB5 := hide (HB2.out.call HK5.out)
    clear hs k5
    have c0 := cells_one0 HB5.out.bx
    have hqP : P ≤ q := by rw [HQ.out]; exact Nat.le_of_lt HB2.out.sz
    have HQP := hide hqP
    go_wp2_with fail
    refine (HCP.out w5 q HS5.out (by rw [HQ.out]; exact HK5.out.size) (HB5.out.hx.mono HQP.out)).mono ?_
    rintro e w6 ⟨rfl, hs, hb⟩
    have HS6 := hide hs
    have HK6 := hide (HK5.out.trans (by rw [← HQ.out]; exact hb))
    have HB6 := hide (HB2.out.call HK6.out)
    clear hs hb c0 hqP
    have c0 := cells_one0 HB6.out.bx
    go_wp2_with fail
    refine (HCL.out w6).mono ?_
    rintro e w7 ⟨v7, rfl, hf, hb⟩
    obtain ⟨g7, k7, rfl⟩ := flags_pos hf (by rw [bitsOf_length]; decide)
    have HF7 := hide hf
    have HS7 := hide (HS6.out.below hb (Nat.le_refl _))
    have HK7 := hide (HK6.out.trans (hb.mono HK6.out.size))
    have HB7 := hide (HB6.out.call hb)
    have H67 := hide (hb.size)
    clear hf hb c0
    have c0 := cells_one0 HB7.out.bx
    go_wp2_with fail
    obtain ⟨w9, hw9⟩ : ∃ w9, w9 = w7 := ⟨_, rfl⟩
    rw [← hw9]
    have HS9 := hide (show SinkIs w9 q q (bitsOf H 3) by rw [hw9]; exact HS7.out)
    have HB9 := hide (show Wx0 w P _ _ _ _ w9 by rw [hw9]; exact HB7.out)
    have HK9 := hide (show Below w2.heap.size w2 w9 by rw [hw9]; exact HK7.out)
    have hf9 := HF7.out
    rw [← hw9] at hf9
    obtain ⟨L, hL⟩ : ∃ L, L = (bitsOf H 3).length := ⟨_, rfl⟩
    have HLL := hide hL
    rw [← hL]
    rw [← hL] at hf9
    have HF9 := hide hf9
    clear hw9 hL hf9
    have he1 := (HB9.out.rows _ (List.mem_cons_of_mem _ (List.mem_cons_self ..))).equal (HB9.out.rows _ (List.mem_cons_self ..))
    rw [decide_eq_true rfl] at he1
    refine he1.mono ?_
    clear he1
    rintro e w9' ⟨rfl, rfl⟩
    go_wp2_with fail
    have cl := kLen_any q _ w9 HS9.out.made HS9.out.count
    rw [← HLL.out] at cl
    refine cl.mono ?_
    clear cl
    rintro e w9' ⟨rfl, rfl⟩
    go_wp2_with fail
    refine (kOut_any q q _ w9 HS9.out).mono ?_
    rintro e w10 ⟨v10, rfl, ho, hb⟩
    obtain ⟨a10, k10, rfl⟩ := own_slice ho
    have hpk : (packed (bitsOf H 3)).length ≤ 140737488355328 := by have := packed_length_le (bitsOf H 3); have := HL4.out; omega
    have HV10 := hide (Bv.of_own ho (packed_small _) hpk)
    have HF10 := hide (HF9.out.below hb (Nat.le_refl _))
    have HK10 := hide (HK9.out.trans (hb.mono HK9.out.size))
    have HPK := hide hpk
    clear ho hb hpk
    go_wp2_with fail
    refine (rPack_any _ _ _ w10 HL4.out HF10.out).mono ?_
    rintro e w11 ⟨v11, rfl, ho, hb⟩
    obtain ⟨a11, k11, rfl⟩ := own_slice ho
    have he2 := (HV10.out.below hb (Nat.le_refl _)).equal (Bv.of_own ho (packed_small _) HPK.out)
    rw [decide_eq_true rfl] at he2
    have HB11 := hide (HB2.out.call (HK10.out.trans (hb.mono HK10.out.size)))
    have HE2 := hide he2
    clear ho hb he2
    go_wp2_with fail
    refine HE2.out.mono ?_
    rintro e w11' ⟨rfl, rfl⟩
    go_wp2
    go_ret
    exact ⟨rfl, HB11.out.below⟩
theorem mwrites_u8 (ps : List Bd) (h : Int) (ao : Option Addr) (n cap : Nat) (w : World) (hx : BsV w w.heap.size (.slice ao n cap) ps) (hn : WfB ps) (hh : (Lit.int .u8 h).wf = true) :
    Calls Try.prog 5 #[.agg #[.slice ao n cap], .int .u8 h] w fun e w' => e = .returned (.bool true) ∧ Below w.heap.size w w' := by
  have hb : 0 ≤ h ∧ h ≤ 255 := by simpa [Lit.wf, IntKind.min, IntKind.max, IntKind.signed, IntKind.bits] using hh
  obtain ⟨H, rfl⟩ := Int.eq_ofNat_of_zero_le hb.1
  exact mwrites_walk ps H ao n cap w hx hn (by omega)
end Go.Proofs.Ytppacelaeaaodaa
