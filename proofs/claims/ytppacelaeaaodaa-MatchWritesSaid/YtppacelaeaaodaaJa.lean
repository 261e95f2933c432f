/- Joined: Natm, Srcm, Put, Nat, Out, Src, Snat, Refm, Snew, Ref, Make, Rnat. -/
import Derived.Test.YtppacelaeaaodaaMath
import Derived.Lib.BitFns
import Derived.Test.YtppacelaeaaodaaLaw
import Derived.Test.YtppacelaeaaodaaSmall
import Derived.BigRegion
import Derived.Test.YtppacelaeaaodaaShelf
import Derived.Laws.AppendOwnNone
import Derived.Deep.QuietTactic
import Derived.BigQuiet
import Derived.Shelf.Bytes.SlSmallAll
import Derived.Deep.OwnRows
/- Plain facts on the code of a natural number: so many bits 0, then the number and one more, the highest bit first. No program here. -/
namespace Go.Proofs.Ytppacelaeaaodaa
open Go

/-- How many bits 0 stand ahead. -/
def ahd (u : Nat) : Nat := (u + 1).log2
theorem ahd_le (u : Nat) (h : u < 2 ^ 64) : ahd u ≤ 64 := by
  unfold ahd
  have : (u + 1).log2 < 65 := (Nat.log2_lt (by omega)).2 (by omega)
  omega
theorem ahd_pow (u : Nat) : 2 ^ ahd u ≤ u + 1 := Nat.log2_self_le (by omega)
theorem ahd_lt (u : Nat) : u + 1 < 2 ^ (ahd u + 1) := Nat.lt_log2_self
theorem ahd_max : ahd 18446744073709551615 = 64 := by decide +kernel
theorem bitLenAux_log2 (f x : Nat) (hx : x ≠ 0) (h : x < 2 ^ f) : Lib.bitLenAux f x = x.log2 + 1 := by
  induction f generalizing x with
  | zero => simp at h; omega
  | succ f ih =>
    rw [Lib.bitLenAux, if_neg hx, Nat.log2_def]
    by_cases h2 : 2 ≤ x
    · rw [ih (x / 2) (by omega) (by rw [Nat.pow_succ] at h; omega), if_pos h2]; omega
    · rw [if_neg h2]
      have : x / 2 = 0 := by omega
      rw [this]
      cases f <;> simp [Lib.bitLenAux]
theorem bitLen_log2 (x : Nat) (hx : x ≠ 0) (h : x < 2 ^ 64) : Lib.bitLen x = x.log2 + 1 := bitLenAux_log2 64 x hx h

/-- The code of a natural number. -/
def natBits (u : Nat) : List Bool := List.replicate (ahd u) false ++ bitsOf (u + 1) (ahd u + 1)
theorem natBits_length (u : Nat) : (natBits u).length = 2 * ahd u + 1 := by simp [natBits, bitsOf_length]; omega
theorem bitsOf_zero_num (k : Nat) : bitsOf 0 k = List.replicate k false := by
  apply List.ext_getElem
  · simp [bitsOf]
  · intro i h1 h2; simp [bitsOf]
theorem bitsOf_mod (x k : Nat) (hk : k ≤ 64) : bitsOf (x % 2 ^ 64) k = bitsOf x k := by
  apply List.ext_getElem
  · simp [bitsOf]
  · intro i h1 h2
    simp [bitsOf] at h1
    rw [bitsOf_getElem, bitsOf_getElem, Nat.testBit_mod_two_pow]
    simp; omega
theorem testBit_top (x k : Nat) (h1 : 2 ^ k ≤ x) (h2 : x < 2 ^ (k + 1)) : x.testBit k = true := by
  rw [Nat.testBit_eq_decide_div_mod_eq]
  have : x / 2 ^ k = 1 := by
    rw [Nat.div_eq_iff (Nat.two_pow_pos k)]
    rw [Nat.pow_succ] at h2
    omega
  simp [this]
theorem natBits_parts (u : Nat) (h : u < 2 ^ 64) : natBits u = bitsOf 0 (ahd u) ++ (bitsOf 1 1 ++ bitsOf ((u + 1) % 2 ^ 64) (ahd u)) := by
  rw [natBits, bitsOf_zero_num, bitsOf_mod _ _ (ahd_le u h), bitsOf_succ, testBit_top _ _ (ahd_pow u) (ahd_lt u)]
  rfl

/-- The natural number that stands for a number. -/
def zigN (n : Int) : Nat := if 0 ≤ n then (2 * n).toNat else (2 * (-(n + 1)) + 1).toNat

/-- The code of a text. -/
def textBits (l : List UInt8) : List Bool := natBits l.length ++ l.flatMap fun c => bitsOf c.toNat 8
end Go.Proofs.Ytppacelaeaaodaa
namespace Go.Proofs.Ytppacelaeaaodaa
open Go

theorem ahd_mono (a b : Nat) (h : a ≤ b) : ahd a ≤ ahd b := by
  rcases Nat.lt_or_ge (ahd b) (ahd a) with hlt | hge
  · have h1 := ahd_pow a
    have h2 := ahd_lt b
    have h3 : 2 ^ (ahd b + 1) ≤ 2 ^ ahd a := Nat.pow_le_pow_right (by omega) hlt
    omega
  · exact hge
theorem natBits_low (u i : Nat) (h : i < ahd u) : (natBits u)[i]? = some false := by
  rw [natBits, List.getElem?_append_left (by simpa using h)]
  simp [h]
theorem natBits_high (u j : Nat) (h : j ≤ ahd u) : (natBits u)[ahd u + j]? = some ((u + 1).testBit (ahd u - j)) := by
  rw [natBits, List.getElem?_append_right (by simp)]
  simp only [List.length_replicate, Nat.add_sub_cancel_left]
  rw [List.getElem?_eq_getElem (by rw [bitsOf_length]; omega), bitsOf_getElem]
  congr 2
theorem apart_lt (a b : Nat) (h : ahd a < ahd b) : (natBits a)[ahd a]? ≠ (natBits b)[ahd a]? := by
  rw [natBits_low b _ h]
  have := natBits_high a 0 (Nat.zero_le _)
  rw [Nat.add_zero] at this
  rw [this, Nat.sub_zero, testBit_top _ _ (ahd_pow a) (ahd_lt a)]
  simp
theorem take_ne_of {l m : List Bool} {i k : Nat} (hi : i < k) (h : l[i]? ≠ m[i]?) : l.take k ≠ m.take k := by
  intro e
  apply h
  have h1 := congrArg (fun x => x[i]?) e
  simpa [List.getElem?_take, hi] using h1
theorem apart_any (a b k : Nat) (h : a ≠ b) (hk : k = min (2 * ahd a + 1) (2 * ahd b + 1)) : (natBits a).take k ≠ (natBits b).take k := by
  rcases Nat.lt_trichotomy (ahd a) (ahd b) with hlt | heq | hgt
  · exact take_ne_of (i := ahd a) (by omega) (apart_lt a b hlt)
  · intro e
    apply h
    have hsucc : a + 1 = b + 1 := by
      apply Nat.eq_of_testBit_eq
      intro j
      by_cases hj : j ≤ ahd a
      · have h1 := natBits_high a (ahd a - j) (by omega)
        have h2 := natBits_high b (ahd a - j) (by omega)
        have h3 := congrArg (fun x => x[ahd a + (ahd a - j)]?) e
        simp only [List.getElem?_take] at h3
        rw [if_pos (by omega), if_pos (by omega), h1, heq] at h3
        rw [heq] at h2
        rw [h2] at h3
        simp only [Option.some.injEq] at h3
        rw [heq] at hj
        rwa [show ahd b - (ahd b - j) = j by omega] at h3
      · have p1 := ahd_lt a
        have p2 := ahd_lt b
        have p3 : 2 ^ (ahd a + 1) ≤ 2 ^ j := Nat.pow_le_pow_right (by omega) (by omega)
        have p4 : 2 ^ (ahd b + 1) ≤ 2 ^ j := Nat.pow_le_pow_right (by omega) (by omega)
        rw [Nat.testBit_lt_two_pow (by omega), Nat.testBit_lt_two_pow (by omega)]
    omega
  · have := take_ne_of (k := k) (i := ahd b) (by omega) (apart_lt b a hgt)
    exact fun e => this e.symm
end Go.Proofs.Ytppacelaeaaodaa

/- Plain facts on the bits of bytes. No program here. -/
namespace Go.Proofs.Ytppacelaeaaodaa
open Go

/-- Bit p of bytes, the highest bit of each byte first. -/
def bitAt (bytes : List Nat) (p : Nat) : Bool := (bytes.getD (p / 8) 0).testBit (7 - p % 8)
def bitsAll (bytes : List Nat) : List Bool := (List.range (8 * bytes.length)).map (bitAt bytes)
theorem bitsAll_length (bytes : List Nat) : (bitsAll bytes).length = 8 * bytes.length := by simp [bitsAll]
theorem bitsAll_getElem (bytes : List Nat) (p : Nat) (h : p < (bitsAll bytes).length) : (bitsAll bytes)[p] = bitAt bytes p := by simp [bitsAll]

/-- The number of the n bits from a on. -/
def valAt (bytes : List Nat) (a n : Nat) : Nat := valBits (((bitsAll bytes).drop a).take n)
theorem valAt_zero (bytes : List Nat) (a : Nat) : valAt bytes a 0 = 0 := by simp [valAt, valBits]
theorem valAt_succ (bytes : List Nat) (a k : Nat) (h : a + k < 8 * bytes.length) : valAt bytes a (k + 1) = 2 * valAt bytes a k + (bitAt bytes (a + k)).toNat := by
  unfold valAt
  rw [List.take_succ_eq_append_getElem (by rw [List.length_drop, bitsAll_length]; omega), List.getElem_drop, bitsAll_getElem, valBits_snoc]
theorem valAt_lt (bytes : List Nat) (a n : Nat) : valAt bytes a n < 2 ^ n := by
  unfold valAt
  have h := valBits_lt (((bitsAll bytes).drop a).take n)
  have hl : (((bitsAll bytes).drop a).take n).length ≤ n := by simp; omega
  have := Nat.pow_le_pow_right (n := 2) (by omega) hl
  omega

theorem and_bit8 (c k : Nat) (hc : c < 256) (hk : k < 8) : bits BinOp.and IntKind.u8 ((c : Int) / 2 ^ k) 1 = ((c.testBit k).toNat : Int) := by
  have h : ∀ c : Fin 256, ∀ k : Fin 8, bits BinOp.and IntKind.u8 (((c.val : Nat) : Int) / 2 ^ k.val) 1 = ((c.val.testBit k.val).toNat : Int) := by decide +kernel
  exact h ⟨c, hc⟩ ⟨k, hk⟩
theorem or_bit64 (v : Nat) (b : Bool) (hv : v < 2 ^ 63) : bits BinOp.or IntKind.u64 ((v : Int) * 2) (b.toNat : Int) = ((2 * v + b.toNat : Nat) : Int) := by
  have hb : b.toNat < 2 ^ 1 := by cases b <;> simp
  have hb2 : b.toNat ≤ 1 := by omega
  have h := bits_or_u64_nat (v * 2) b.toNat (by omega) (by omega)
  have e := Nat.shiftLeft_add_eq_or_of_lt hb v
  rw [Nat.shiftLeft_eq, Nat.pow_one] at e
  rw [← e] at h
  rw [show ((v : Int) * 2) = ((v * 2 : Nat) : Int) by push_cast; rfl, h]
  congr 1
  omega

/-- How many bits 0 come next from bit p on, 65 at most, of those that are there. -/
def zerosAt (bytes : List Nat) (p : Nat) : Nat := ((((bitsAll bytes).drop p).take 65).takeWhile (fun b => !b)).length
theorem tw_len (l : List Bool) (k : Nat) (hk : k ≤ l.length) (h : ∀ i (hi : i < k), l[i]'(by omega) = false) (h2 : ∀ (hl : k < l.length), l[k] = true) : (l.takeWhile (fun b => !b)).length = k := by
  induction l generalizing k with
  | nil => simp at hk ⊢; omega
  | cons a l ih =>
    cases k with
    | zero =>
      have := h2 (by simp)
      simp at this
      simp [this]
    | succ k =>
      have h0 := h 0 (by omega)
      simp at h0
      simp only [h0, List.takeWhile_cons, Bool.not_false, if_true, List.length_cons]
      rw [ih k (by simpa using hk) (fun i hi => by have := h (i + 1) (by omega); simpa using this) (fun hl => by have := h2 (by simpa using hl); simpa using this)]
theorem zerosAt_eq (bytes : List Nat) (p k : Nat) (hp : p ≤ 8 * bytes.length) (hk : k ≤ min (8 * bytes.length - p) 65) (h : ∀ i, i < k → bitAt bytes (p + i) = false) (h2 : k < min (8 * bytes.length - p) 65 → bitAt bytes (p + k) = true) : zerosAt bytes p = k := by
  unfold zerosAt
  have hl : (((bitsAll bytes).drop p).take 65).length = min (8 * bytes.length - p) 65 := by simp [bitsAll_length]; omega
  refine tw_len _ k (by rw [hl]; exact hk) (fun i hi => ?_) (fun hlt => ?_)
  · rw [List.getElem_take, List.getElem_drop, bitsAll_getElem]; exact h i hi
  · rw [List.getElem_take, List.getElem_drop, bitsAll_getElem]; exact h2 (by rw [← hl]; exact hlt)
theorem valAt_one (bytes : List Nat) (a : Nat) (h : a < 8 * bytes.length) : valAt bytes a 1 = (bitAt bytes a).toNat := by
  rw [valAt_succ bytes a 0 (by omega), valAt_zero]; simp
end Go.Proofs.Ytppacelaeaaodaa

/- What a sink is in memory, and the contract of put: it lays the low n bits of a number behind the bits that are there. -/
namespace Go.Proofs.Ytppacelaeaaodaa
open Go Go.RowKit

theorem Try.info5 : (Try.prog.info? 5).map (fun i => (i.zero, i.size, i.bytes)) = some (some (.int .u8 0), 1, 1) := by kernel_rfl

/-- The types that a sink's memory is of: its struct, bytes. -/
def sinkT (e : Nat) : Bool := e == 5 || e == 94

/-- In w the block q is a sink that holds the bits bs; its row of bytes is owned, from block B on. -/
structure SinkIs (w : World) (B q : Nat) (bs : List Bool) : Prop where
  from_ : B ≤ q
  len : bs.length ≤ 1048576
  row : ∃ v, w.heap[q]? = some (.cells #[.bool true, v, .int .u8 ((restOf bs : Nat) : Int), .int .i64 ((bs.length : Nat) : Int)] 94 (0, 0)) ∧
    w.ownsRow B 5 1 v (bs.length / 8) ((fullOf bs).map fun x : Nat => Value.int .u8 (x : Int))

theorem SinkIs.lt {w : World} {B q : Nat} {bs : List Bool} (h : SinkIs w B q bs) : q < w.heap.size := by
  obtain ⟨v, h1, _⟩ := h.row
  exact lt_of_block h1
theorem SinkIs.made {w : World} {B q : Nat} {bs : List Bool} (h : SinkIs w B q bs) : w.cell? ⟨q, 0, none⟩ = some (.bool true) := by
  obtain ⟨v, h1, _⟩ := h.row
  exact (cell_of_four h1).1
theorem SinkIs.count {w : World} {B q : Nat} {bs : List Bool} (h : SinkIs w B q bs) : w.cell? ⟨q, 3, none⟩ = some (.int .i64 ((bs.length : Nat) : Int)) := by
  obtain ⟨v, h1, _⟩ := h.row
  exact (cell_of_four h1).2.2.2
/-- What keeps all blocks of a sink's types keeps the sink. -/
theorem SinkIs.kept {w w' : World} {B B' q : Nat} {bs : List Bool} {T : Nat → Bool} (h : SinkIs w B q bs) (hk : Kept B' T w w') (h1 : T 5 = false) (h2 : T 94 = false) : SinkIs w' B q bs := by
  obtain ⟨v, hq, ho⟩ := h.row
  exact ⟨h.from_, h.len, v, hk.typed _ _ _ _ hq h2, hk.ownsRow ho h1⟩
theorem SinkIs.below {w w' : World} {B B' q : Nat} {bs : List Bool} (h : SinkIs w B q bs) (hk : Below B' w w') (hB : w.heap.size ≤ B') : SinkIs w' B q bs := by
  obtain ⟨v, hq, ho⟩ := h.row
  refine ⟨h.from_, h.len, v, ?_, ho.1, ?_⟩
  · rw [hk.block q (by have := lt_of_block hq; omega)]; exact hq
  · rcases ho.2 with hn | ⟨g, cap, cur, rfl, hb, hgg, rest⟩
    · exact .inl hn
    · exact .inr ⟨g, cap, cur, rfl, hb, by rw [hk.block g (by have := lt_of_block hgg; omega)]; exact hgg, rest⟩

theorem SinkIs.drew {w : World} {B q : Nat} {bs : List Bool} (h : SinkIs w B q bs) : SinkIs w.drew B q bs := ⟨h.from_, h.len, h.row⟩
theorem SinkIs.drewN {w : World} {B q : Nat} {bs : List Bool} (h : SinkIs w B q bs) (n : Nat) : SinkIs (w.drewN n) B q bs := ⟨h.from_, h.len, h.row⟩
/-- One bit more, the byte not full by it. -/
theorem SinkIs.bit_ne {w : World} {B q : Nat} {bs : List Bool} (h : SinkIs w B q bs) (b : Bool) (hl : bs.length + 1 ≤ 1048576) (hm : (bs.length + 1) % 8 ≠ 0) :
    SinkIs ((w.setCell ⟨q, 2, none⟩ (.int .u8 ((2 * restOf bs + b.toNat : Nat) : Int))).setCell ⟨q, 3, none⟩ (.int .i64 ((bs.length + 1 : Nat) : Int))) B q (bs ++ [b]) := by
  obtain ⟨v, hq, ho⟩ := h.row
  have q1 := heap_setCell_same (k := 2) hq (.int .u8 ((2 * restOf bs + b.toNat : Nat) : Int))
  have q2 := heap_setCell_same (k := 3) q1 (.int .i64 ((bs.length + 1 : Nat) : Int))
  refine ⟨h.from_, by simpa using hl, v, ?_, ?_⟩
  · rw [q2, restOf_snoc_ne bs b hm]; simp
  · rw [fullOf_snoc_ne bs b hm, show (bs ++ [b]).length / 8 = bs.length / 8 by simp; omega]
    exact ownsRow_setCell_typed (ownsRow_setCell_typed ho hq (by decide) _) q1 (by decide) _

/-- One bit more, the byte full by it: its byte is laid into the row. -/
theorem SinkIs.bit_eq {w2 : World} {B q : Nat} {bs : List Bool} {v : Value} (b : Bool) (hB : B ≤ q) (hl : bs.length + 1 ≤ 1048576) (hm : (bs.length + 1) % 8 = 0) {x1 x2 : Value}
    (hq : w2.heap[q]? = some (.cells #[.bool true, x1, x2, .int .i64 ((bs.length + 1 : Nat) : Int)] 94 (0, 0)))
    (ho : w2.ownsRow B 5 1 v (bs.length / 8 + 1) ((fullOf bs).map (fun x : Nat => Value.int .u8 (x : Int)) ++ [.int .u8 ((2 * restOf bs + b.toNat : Nat) : Int)])) :
    SinkIs ((w2.setCell ⟨q, 1, none⟩ v).setCell ⟨q, 2, none⟩ (.int .u8 0)) B q (bs ++ [b]) := by
  have q1 := heap_setCell_same (k := 1) hq v
  have q2 := heap_setCell_same (k := 2) q1 (.int .u8 0)
  refine ⟨hB, by simpa using hl, v, ?_, ?_⟩
  · rw [q2, restOf_snoc_eq bs b hm]; simp
  · rw [fullOf_snoc_eq bs b hm, show (bs ++ [b]).length / 8 = bs.length / 8 + 1 by simp; omega, List.map_append]
    exact ownsRow_setCell_typed (ownsRow_setCell_typed ho hq (by decide) _) q1 (by decide) _

set_option maxRecDepth 100000 in
set_option maxHeartbeats 1000000 in
theorem kPut_any (B q : Nat) (x n : Nat) (bs : List Bool) (w : World) (hx : x < 2 ^ 64) (hn : n ≤ 64) (hs : SinkIs w B q bs) (hl : bs.length + n ≤ 1048576) :
    Calls Try.prog 69 #[.pointer (some ⟨q, 0, none⟩), .int .u64 (x : Int), .int .i64 (n : Int)] w fun e w' => e = .returned (.tuple #[]) ∧ SinkIs w' B q (bs ++ bitsOf x n) ∧ Kept B sinkT w w' := by
  obtain ⟨i0, hi, hz0, hz1, hz2⟩ := info_parts Try.info5
  have hx' : (x : Int) ≤ 18446744073709551615 := by omega
  go_enter Try.func69, Try.ntmps69
  go_wp2
  go_loopw [8] (fun i wr => ∃ k : Nat, k ≤ n ∧ i = .int .i64 k ∧ SinkIs wr B q (bs ++ (bitsOf x n).take k) ∧ Kept B sinkT w wr) (fun i _ => n - (intOf i).toNat)
  case atStart => exact ⟨0, Nat.zero_le _, rfl, by simpa using hs, Kept.refl _ _ _⟩
  case round =>
    obtain ⟨k, hk, rfl, hsr, hkr⟩ := hrel
    by_cases hlt : k < n
    · have HT := hide (bitsOf_take_succ x n k hlt)
      obtain ⟨cs, hcs⟩ : ∃ cs, cs = bs ++ (bitsOf x n).take k := ⟨_, rfl⟩
      rw [← hcs] at hsr
      have hcl : cs.length = bs.length + k := by rw [hcs]; simp [bitsOf_length]; omega
      have HC := hide hcs; clear hcs
      obtain ⟨v, hq, ho⟩ := hsr.row
      obtain ⟨h0, h1, h2, h3⟩ := cell_of_four hq
      obtain ⟨f0, f1, f2, f3⟩ := free_of_four hq
      have hr0 := restOf_lt cs
      obtain ⟨r, hr⟩ : ∃ r, r = restOf cs := ⟨_, rfl⟩
      obtain ⟨L, hL⟩ : ∃ L, L = cs.length := ⟨_, rfl⟩
      rw [← hr] at h2 hr0
      rw [← hL] at h3
      have HR := hide hr; clear hr
      have HL := hide hL
      have hL1 : L + 1 ≤ 1048576 := by omega
      clear hL hcl
      have HQ := hide hq; clear hq
      have HO := hide ho; clear ho
      obtain ⟨b, hb⟩ : ∃ b, b = x.testBit (n - 1 - k) := ⟨_, rfl⟩
      obtain ⟨R, hR⟩ : ∃ R : Int, R = ((2 * r + b.toNat : Nat) : Int) := ⟨_, rfl⟩
      have e : bits BinOp.or IntKind.u8 ((r : Int) * 2) (bits BinOp.and IntKind.u64 ((x : Int) / 2 ^ (n - 1 - k)) 1 % 256) = R := by rw [hR, bit_of _ _ hx, ← hb, or_bit _ _ hr0]
      have HB := hide hb; clear hb
      have HRR := hide hR; clear hR
      by_cases hm : (L + 1) % 8 = 0
      · have hm2 : (L + 1) % 8 ≤ 0 := by omega
        have HM := hide hm; clear hm
        have hown1 : ((wr.setCell ⟨q, 2, none⟩ (.int .u8 R)).setCell ⟨q, 3, none⟩ (.int .i64 ((L : Int) + 1))).ownsRow B 5 1 v (cs.length / 8) ((fullOf cs).map fun x : Nat => Value.int .u8 (x : Int)) :=
          ownsRow_setCell_typed (ownsRow_setCell_typed HO.out HQ.out (by decide) _) (heap_setCell_same (k := 2) HQ.out _) (by decide) _
        have HO1 := hide hown1; clear hown1
        have hq1 : ((wr.setCell ⟨q, 2, none⟩ (.int .u8 R)).setCell ⟨q, 3, none⟩ (.int .i64 ((L : Int) + 1))).heap[q]? = some (.cells #[.bool true, v, .int .u8 R, .int .i64 ((L : Int) + 1)] 94 (0, 0)) := by
          rw [heap_setCell_same (heap_setCell_same HQ.out _) _]; simp
        have hA : (((wr.setCell ⟨q, 2, none⟩ (.int .u8 R)).setCell ⟨q, 3, none⟩ (.int .i64 ((L : Int) + 1))).alloc (.cells #[.int .u8 R] 5)).cell? ⟨q, 1, none⟩ = some v := (cell_of_four (heap_alloc_keeps hq1 _)).2.1
        have HQ1 := hide hq1; clear hq1
        have hBq : B ≤ wr.heap.size := by have := hsr.lt; have := hsr.from_; omega
        go_wp2
        go_region
        go_wp2
        go_region_law (refine step_append_own rfl (.tmp 45) (.tmp 50) 47 rfl B 5 i0 (.int .u8 0) 1 1 Try.underlying47 hi hz0 hz1 hz2 rfl (by decide) v (cs.length / 8) _ (by simp [Act.eval]) (HO1.out.alloc _) ⟨wr.heap.size, 0, none⟩ 1 1 [.int .u8 R] (by simp [Act.eval]) rfl (by intro j u hj; match j, hj with | 0, hj => simp at hj; subst hj; simp only [Addr.add]; exact cell_alloc_one _ _ (by simp) _ _) (by intro u hu; simp at hu; subst hu; rfl) (by have := HL.out; unfold maxLen; omega) (by have := HL.out; omega) (by simp; omega) ?_; intro v' w' hown' hgrow'; obtain ⟨g, cap', rfl⟩ := own_shape hown'; have HQ2 := hide (grow_keeps (heap_alloc_keeps HQ1.out _) (HO1.out.alloc _) (by decide) hgrow' rfl); obtain ⟨c0, c1, c2, c3⟩ := cell_of_four HQ2.out; obtain ⟨g0, g1, g2, g3⟩ := free_of_four HQ2.out; have HO2 := hide hown'; have HG2 := hide hgrow'; clear hown' hgrow')
        all_goals go_wp2
        all_goals go_roundw
        all_goals try (case' measure => simp [intOf]; omega)
        all_goals
          have hb1 := SinkIs.bit_eq (bs := cs) (w2 := w') (v := .slice (some ⟨g, 0, none⟩) (cs.length / 8 + 1) cap') (x1 := v) (x2 := .int .u8 R) b hsr.from_ (by have := HL.out; omega) (by rw [← HL.out]; exact HM.out)
            (by rw [← HL.out, Int.natCast_add]; exact HQ2.out) (by rw [← HR.out, ← HRR.out]; exact HO2.out)
          have K1 := ((hkr.setCell (p := ⟨q, 2, none⟩) hsr.from_ HQ.out rfl (.int .u8 R)).setCell (p := ⟨q, 3, none⟩) hsr.from_ (heap_setCell_same HQ.out _) rfl (.int .i64 ((L : Int) + 1))).alloc (by simp; omega) (.cells #[.int .u8 R] 5)
          have K3 := (K1.drewN 2).grown (ownsRow_drewN (HO1.out.alloc _) 2) rfl HG2.out (by simp; omega) (Nat.le_refl _)
          have K4 := (K3.setCell (p := ⟨q, 1, none⟩) hsr.from_ HQ2.out rfl (.slice (some ⟨g, 0, none⟩) (cs.length / 8 + 1) cap')).setCell (p := ⟨q, 2, none⟩) hsr.from_ (heap_setCell_same HQ2.out _) rfl (.int .u8 0)
          refine ⟨k + 1, by omega, by go_num, ?_, K4⟩
          rw [HT.out, ← HB.out, ← List.append_assoc, ← HC.out]
          exact hb1
      · have hm2 : 1 ≤ (L + 1) % 8 := by omega
        have HM := hide hm; clear hm
        go_wp2
        go_region
        go_wp2
        go_roundw
        case rel =>
          have hb1 := hsr.bit_ne b (by have := HL.out; omega) (by rw [← HL.out]; exact HM.out)
          rw [← HR.out, ← HRR.out, ← HL.out] at hb1
          have K1 := (hkr.setCell (p := ⟨q, 2, none⟩) hsr.from_ HQ.out rfl (.int .u8 R)).setCell (p := ⟨q, 3, none⟩) hsr.from_ (heap_setCell_same HQ.out _) rfl (.int .i64 ((L : Int) + 1))
          refine ⟨k + 1, by omega, by go_num, ?_, K1.drew⟩
          rw [HT.out, ← HB.out, ← List.append_assoc, ← HC.out]
          exact hb1.drew
        case measure => simp [intOf]; omega
    · go_wp2
      go_end0
      obtain rfl : k = n := by omega
      rw [List.take_of_length_le (by simp [bitsOf_length])] at hsr
      exact ⟨rfl, hsr, hkr⟩
end Go.Proofs.Ytppacelaeaaodaa

/- Contracts: how many bits a natural number has; a sink takes its code. -/
namespace Go.Proofs.Ytppacelaeaaodaa
open Go Go.RowKit

set_option maxRecDepth 100000 in
theorem ahead_any (u : Nat) (hu : u < 2 ^ 64) (w : World) :
    Calls Try.prog 146 #[.int .u64 (u : Int)] w fun e w' => e = .returned (.int .i64 ((ahd u : Nat) : Int)) ∧ w = w' := by
  by_cases hm : u = 18446744073709551615
  · subst hm
    go_enter Try.func146, Try.ntmps146
    go_wp2
    go_ret
    exact ⟨by rw [ahd_max]; rfl, rfl⟩
  · have hl := bitLen_log2 (u + 1) (by omega) (by omega)
    have hlt : (u : Int) + 1 ≤ 18446744073709551615 := by omega
    have hle : (Lib.bitLen (u + 1)) ≤ 64 := by rw [hl]; have := (Nat.log2_lt (n := u + 1) (k := 64) (by omega)).2 (by omega); omega
    have h1 : 1 ≤ Lib.bitLen (u + 1) := by rw [hl]; omega
    have hm' : ((u : Int) == 18446744073709551615) = false := by simp; omega
    obtain ⟨L, hL⟩ : ∃ L, L = Lib.bitLen (u + 1) := ⟨_, rfl⟩
    have C : ∀ w : World, Calls Try.prog 125 #[.int .u64 ((u : Int) + 1)] w fun e w' => e = .returned (.int .i64 (L : Int)) ∧ w = w' := by
      intro w
      refine (Try.bits_Len64 _ w (by omega) (by omega)).mono fun e w' ⟨he, hw⟩ => ?_
      rw [he, hw, hL]
      exact ⟨rfl, rfl⟩
    have HE : Hid (L = (u + 1).log2 + 1) := by rw [hL, hl]; rfl
    rw [← hL] at hle h1
    clear hL hl hm
    have hu' := hide hu; clear hu
    have hw : IntKind.u64.wrap ((u : Int) + 1) = (u : Int) + 1 := by rw [IntKind.wrap_u64]; omega
    have hlt' := hide hlt; clear hlt
    go_enter Try.func146, Try.ntmps146
    go_wp2_with fail
    refine (C _).mono ?_
    rintro e w' ⟨rfl, rfl⟩
    go_wp2
    go_ret
    refine ⟨?_, rfl⟩
    have := HE.out
    rw [show ((ahd u : Nat) : Int) = (L : Int) - 1 by unfold ahd; omega]
    rfl

theorem Size_any (u : Nat) (hu : u < 2 ^ 64) (w : World) :
    Calls Try.prog 127 #[.int .u64 (u : Int)] w fun e w' => e = .returned (.int .i64 (2 * (ahd u : Int) + 1)) ∧ w = w' := by
  have h := ahd_le u hu
  go_enter Try.func127, Try.ntmps127
  go_wp2_with (go_at_call 146; refine (ahead_any _ hu _).mono ?_; rintro e w' ⟨rfl, rfl⟩)
  go_ret
  exact ⟨rfl, rfl⟩

set_option maxRecDepth 100000 in
theorem kPutNat_any (B q : Nat) (u : Nat) (bs : List Bool) (w : World) (hu : u < 2 ^ 64) (hs : SinkIs w B q bs) (hl : bs.length + (2 * ahd u + 1) ≤ 1048576) :
    Calls Try.prog 128 #[.pointer (some ⟨q, 0, none⟩), .int .u64 (u : Int)] w fun e w' => e = .returned (.tuple #[]) ∧ SinkIs w' B q (bs ++ natBits u) ∧ Kept B sinkT w w' := by
  have h := ahd_le u hu
  have hw64 : IntKind.u64.wrap ((u : Int) + 1) = (((u + 1) % 2 ^ 64 : Nat) : Int) := by
    rw [IntKind.wrap_u64]; omega
  have HP := hide (natBits_parts u hu)
  have h0 : (0 : Nat) < 2 ^ 64 := by decide
  have h1 : (1 : Nat) < 2 ^ 64 := by decide
  have h2 : (u + 1) % 2 ^ 64 < 2 ^ 64 := Nat.mod_lt _ (by decide)
  go_enter Try.func128, Try.ntmps128
  go_wp2_with (go_at_call 146; refine (ahead_any _ hu _).mono ?_; rintro e w' ⟨rfl, rfl⟩)
  refine (kPut_any B q 0 (ahd u) bs _ h0 h hs (by omega)).mono ?_
  rintro e w1 ⟨rfl, hs1, hk1⟩
  go_wp2_with fail
  refine (kPut_any B q 1 1 _ _ h1 (by decide) hs1 (by simp [bitsOf_length]; omega)).mono ?_
  rintro e w2 ⟨rfl, hs2, hk2⟩
  go_wp2_with fail
  rw [show ((u : Int) + 1) % 18446744073709551616 = (((u + 1) % 2 ^ 64 : Nat) : Int) by omega]
  refine (kPut_any B q ((u + 1) % 2 ^ 64) (ahd u) _ _ h2 h hs2 (by simp [bitsOf_length]; omega)).mono ?_
  rintro e w3 ⟨rfl, hs3, hk3⟩
  go_wp2
  go_end0
  refine ⟨rfl, ?_, (hk1.trans hk2).trans hk3⟩
  rw [HP.out, ← List.append_assoc, ← List.append_assoc]
  exact hs3
set_option maxRecDepth 100000 in
theorem kNat_fits (B q : Nat) (u : Nat) (bs : List Bool) (w : World) (hu : u < 2 ^ 64) (hs : SinkIs w B q bs) (hl : bs.length + (2 * ahd u + 1) ≤ 1048576) :
    Calls Try.prog 147 #[.pointer (some ⟨q, 0, none⟩), .int .u64 (u : Int)] w fun e w' => e = .returned (.int .i64 0) ∧ SinkIs w' B q (bs ++ natBits u) ∧ Kept B sinkT w w' := by
  have h := ahd_le u hu
  have hd : decide (2 * (ahd u : Int) + 1 ≤ 1048576 - ((bs.length : Nat) : Int)) = true := by simp; omega
  have hsl := hs.len
  go_enter Try.func147, Try.ntmps147
  go_wp2_with fail
  refine (isMade_any q _ hs.made).mono ?_
  rintro e w' ⟨rfl, rfl⟩
  go_wp2_with fail
  refine (Size_any u hu _).mono ?_
  rintro e w' ⟨rfl, rfl⟩
  go_wp2_with fail
  refine (hasRoom_any q _ _ _ (by omega) (by omega) hs.count).mono ?_
  rw [hd]
  rintro e w' ⟨rfl, rfl⟩
  go_wp2_with fail
  refine (kPutNat_any B q u bs _ hu hs hl).mono ?_
  rintro e w' ⟨rfl, hs', hk'⟩
  go_wp2
  go_ret
  exact ⟨rfl, hs', hk'⟩

set_option maxRecDepth 100000 in
theorem kNat_long (B q : Nat) (u : Nat) (bs : List Bool) (w : World) (hu : u < 2 ^ 64) (hs : SinkIs w B q bs) (hl : 1048576 < bs.length + (2 * ahd u + 1)) :
    Calls Try.prog 147 #[.pointer (some ⟨q, 0, none⟩), .int .u64 (u : Int)] w fun e w' => e = .returned (.int .i64 3) ∧ w = w' := by
  have h := ahd_le u hu
  have hd : decide (2 * (ahd u : Int) + 1 ≤ 1048576 - ((bs.length : Nat) : Int)) = false := by simp; omega
  have hsl := hs.len
  go_enter Try.func147, Try.ntmps147
  go_wp2_with fail
  refine (isMade_any q _ hs.made).mono ?_
  rintro e w' ⟨rfl, rfl⟩
  go_wp2_with fail
  refine (Size_any u hu _).mono ?_
  rintro e w' ⟨rfl, rfl⟩
  go_wp2_with fail
  refine (hasRoom_any q _ _ _ (by omega) (by omega) hs.count).mono ?_
  rw [hd]
  rintro e w' ⟨rfl, rfl⟩
  go_wp2
  go_ret
  exact ⟨rfl, rfl⟩

/-- A new sink: no bits. -/
theorem newSink_any (w : World) :
    Calls Try.prog 31 #[] w fun e w' => e = .returned (.pointer (some ⟨w.heap.size, 0, none⟩)) ∧ SinkIs w' w.heap.size w.heap.size [] ∧ Kept w.heap.size sinkT w w' := by
  go_enter Try.func31, Try.ntmps31
  go_wp2
  go_ret
  refine ⟨rfl, ⟨Nat.le_refl _, by simp, .slice none 0 0, heap_alloc_new _ _, World.ownsRow_nil _ _ _ _⟩, (Kept.refl _ _ _).alloc (Nat.le_refl _) _⟩
end Go.Proofs.Ytppacelaeaaodaa

/- Contract: what a sink hands out: its bits, eight a byte, in memory of the call's own. -/
namespace Go.Proofs.Ytppacelaeaaodaa
open Go Go.RowKit

/-- The bits, eight a byte, the last byte filled up with bits 0. -/
def packed (bs : List Bool) : List Nat := fullOf bs ++ if bs.length % 8 = 0 then [] else [restOf bs * 2 ^ (8 - bs.length % 8)]

def byteVs (l : List Nat) : List Value := l.map fun x : Nat => Value.int .u8 (x : Int)
theorem byteVs_length (l : List Nat) : (byteVs l).length = l.length := by simp [byteVs]
theorem byteVs_one (l : List Nat) : ∀ u ∈ byteVs l, u.oneCell' = true := by
  intro u hu; simp [byteVs] at hu; obtain ⟨x, _, rfl⟩ := hu; rfl
theorem byteVs_append (l m : List Nat) : byteVs (l ++ m) = byteVs l ++ byteVs m := by simp [byteVs]

theorem packed_length_le (bs : List Bool) : (packed bs).length ≤ bs.length / 8 + 1 := by
  unfold packed; rw [List.length_append, fullOf_length]; split <;> simp

theorem shl_rest (r k : Nat) (hr : r < 2 ^ k) (hk : 0 < k) (hk8 : k < 8) : IntKind.u8.wrap ((r : Int) * 2 ^ (8 - k)) = ((r * 2 ^ (8 - k) : Nat) : Int) := by
  have h : r * 2 ^ (8 - k) < 2 ^ k * 2 ^ (8 - k) := Nat.mul_lt_mul_of_pos_right hr (Nat.two_pow_pos _)
  rw [← Nat.pow_add, show k + (8 - k) = 8 by omega] at h
  rw [IntKind.wrap_u8]
  have e : ((r : Int) * 2 ^ (8 - k)) = ((r * 2 ^ (8 - k) : Nat) : Int) := by push_cast; rfl
  rw [e]; omega
theorem restOf_lt2 (bs : List Bool) : restOf bs < 2 ^ (bs.length % 8) := by
  unfold restOf
  have h := valBits_lt (bs.drop (8 * (bs.length / 8)))
  have hl : (bs.drop (8 * (bs.length / 8))).length = bs.length % 8 := by rw [List.length_drop]; omega
  rwa [hl] at h

/-- The cells of an owned row, read in a world that has grown by another one. -/
theorem own_cells_in {w w1 : World} {B n e g cap : Nat} {xs : List Value} (hg : w.grownBy w1 none) (ho : w.ownsRow B e 1 (.slice (some ⟨g, 0, none⟩) n cap) n xs) :
    ∀ j u, xs[j]? = some u → w1.cell? ((⟨g, 0, none⟩ : Addr).add j) = some u := fun j u hj => hg.cell (ho.cells (g := g) rfl j u hj) (by simp)

set_option maxRecDepth 100000 in
set_option maxHeartbeats 1000000 in
theorem kOut_any (B q : Nat) (bs : List Bool) (w : World) (hs : SinkIs w B q bs) :
    Calls Try.prog 38 #[.pointer (some ⟨q, 0, none⟩)] w fun e w' => ∃ v, e = .returned v ∧ w'.ownsRow w.heap.size 5 1 v (packed bs).length (byteVs (packed bs)) ∧ Below w.heap.size w w' := by
  obtain ⟨i0, hi, hz0, hz1, hz2⟩ := info_parts Try.info5
  have hlen := hs.len
  have hmade := hs.made
  have hqs := hs.lt
  obtain ⟨v, hq, ho⟩ := hs.row
  obtain ⟨h0, h1, h2, h3⟩ := cell_of_four hq
  obtain ⟨r, hr⟩ : ∃ r, r = restOf bs := ⟨_, rfl⟩
  obtain ⟨L, hL⟩ : ∃ L, L = bs.length := ⟨_, rfl⟩
  rw [← hr] at h2
  rw [← hL] at h3 hlen
  have hr2 : r < 2 ^ (L % 8) := by rw [hr, hL]; exact restOf_lt2 bs
  have HR := hide hr; clear hr
  have HL := hide hL; clear hL
  have HQ := hide hq; clear hq
  have HO := hide ho; clear ho
  have hr128 : r < 128 := by rw [HR.out]; exact restOf_lt bs
  go_enter Try.func38, Try.ntmps38
  go_wp2_with fail
  refine (isMade_any q _ hmade).mono ?_
  rintro e w' ⟨rfl, rfl⟩
  -- the row that the sink owns: nil, or at the head of a block
  rcases HO.out.2 with ⟨hv, hn0⟩ | ⟨g, cap, cur, hv, hg, hgg, hgn, hcapm, hcsz, htake⟩
  · subst hv
    have hf0 : fullOf bs = [] := List.length_eq_zero_iff.1 (by rw [fullOf_length]; exact hn0)
    have HF := hide hf0; clear hf0
    have HN := hide hn0; clear hn0
    by_cases hk : L % 8 = 0
    · have hk1 : L % 8 ≤ 0 := by omega
      have HK := hide hk; clear hk
      go_wp2_with (at_make; refine wpList_make_own _ rfl _ _ 47 rfl w.heap.size 5 i0 (.int .u8 0) 1 Try.underlying47 hi hz0 hz1 .i64 .i64 _ 1 rfl rfl (by first | rfl | omega) (by rw [hz2]; omega) (by unfold maxLen; omega) (Nat.le_refl _) ?_; intro w1 hown1 hgrow1; have HG1 := hide hgrow1; have HO1 := hide hown1; clear hgrow1 hown1; have HQ1 := hide ((HG1.out.block q hqs (by simp)).trans HQ.out); obtain ⟨d0, d1, d2, d3⟩ := cell_of_four HQ1.out;  rw [← HR.out] at d2; rw [← HL.out] at d3; have HB1 := hide ((Below.refl w.heap.size w).grown HG1.out (Nat.le_refl _) (fun k h => by cases h)))
      go_ret
      refine ⟨_, rfl, ?_, HB1.out⟩
      have hp : packed bs = [] := by unfold packed; rw [← HL.out, if_pos HK.out, HF.out]; rfl
      rw [hp]; exact HO1.out
    · have hk1 : 1 ≤ L % 8 := by omega
      have HK := hide hk; clear hk
      have hkb : L % 8 < 8 := Nat.mod_lt _ (by decide)
      obtain ⟨R, hR⟩ : ∃ R : Int, R = ((r * 2 ^ (8 - L % 8) : Nat) : Int) := ⟨_, rfl⟩
      have es : (r : Int) * 2 ^ (8 - L % 8) % 256 = R := by
        have := shl_rest r (L % 8) hr2 (by omega) hkb
        rw [IntKind.wrap_u8] at this
        rw [hR]; exact this
      have HRR := hide hR; clear hR
      have HR2 := hide hr2; clear hr2
      go_wp2_with (first | (at_make; refine wpList_make_own _ rfl _ _ 47 rfl w.heap.size 5 i0 (.int .u8 0) 1 Try.underlying47 hi hz0 hz1 .i64 .i64 _ 1 rfl rfl (by first | rfl | omega) (by rw [hz2]; omega) (by unfold maxLen; omega) (Nat.le_refl _) ?_; intro w1 hown1 hgrow1; have HG1 := hide hgrow1; have HO1 := hide hown1; clear hgrow1 hown1; have HQ1 := hide ((HG1.out.block q hqs (by simp)).trans HQ.out); obtain ⟨d0, d1, d2, d3⟩ := cell_of_four HQ1.out;  rw [← HR.out] at d2; rw [← HL.out] at d3; have HB1 := hide ((Below.refl w.heap.size w).grown HG1.out (Nat.le_refl _) (fun k h => by cases h))) | (at_builtin; refine wpList_append_own _ rfl (.tmp 28) (.tmp 36) 47 rfl w.heap.size 5 i0 (.int .u8 0) 1 1 Try.underlying47 hi hz0 hz1 hz2 rfl (by decide) _ 0 [] rfl (HO1.out.alloc _) ⟨w1.heap.size, 0, none⟩ 1 1 [.int .u8 R] rfl rfl (by intro j u hj; match j, hj with | 0, hj => simp at hj; subst hj; simp only [Addr.add]; exact cell_alloc_one _ _ rfl _ _) (by intro u hu; simp at hu; subst hu; rfl) (by unfold maxLen; omega) (by omega) (by have := HB1.out.size; simp; omega) ?_; intro v3 w3 hown3 hgrow3 hnil3; clear hnil3; have HO3 := hide hown3; have HG3 := hide hgrow3; clear hown3 hgrow3; have HB3 := hide ((HB1.out.alloc HB1.out.size _).grown HG3.out (by have := HB1.out.size; simp; omega) (fun k h => (HO1.out.lt k h).1))))
      go_ret
      refine ⟨_, rfl, ?_, HB3.out⟩
      have hp : packed bs = fullOf bs ++ [r * 2 ^ (8 - L % 8)] := by unfold packed; rw [← HL.out, if_neg HK.out, HR.out]
      have hh := HO3.out
      rw [HRR.out] at hh
      rw [hp, byteVs_append]
      rw [HF.out]; exact hh

  · subst hv
    have hL8 : bs.length / 8 = L / 8 := by rw [HL.out]
    rw [hL8] at h1
    have HX := hide hL8
    clear hL8 hgn hcapm hcsz htake hgg hg
    by_cases hk : L % 8 = 0
    · have hk1 : L % 8 ≤ 0 := by omega
      have HK := hide hk; clear hk
      go_wp2_with (first | (at_make; refine wpList_make_own _ rfl _ _ 47 rfl w.heap.size 5 i0 (.int .u8 0) 1 Try.underlying47 hi hz0 hz1 .i64 .i64 _ (L / 8 + 1) rfl rfl (by first | rfl | omega) (by rw [hz2]; omega) (by unfold maxLen; omega) (Nat.le_refl _) ?_; intro w1 hown1 hgrow1; have HG1 := hide hgrow1; have HO1 := hide hown1; clear hgrow1 hown1; have HQ1 := hide ((HG1.out.block q hqs (by simp)).trans HQ.out); obtain ⟨d0, d1, d2, d3⟩ := cell_of_four HQ1.out; rw [HX.out] at d1; rw [← HR.out] at d2; rw [← HL.out] at d3; have HB1 := hide ((Below.refl w.heap.size w).grown HG1.out (Nat.le_refl _) (fun k h => by cases h))) | (at_builtin; refine wpList_append_own _ rfl (.tmp 15) (.tmp 19) 47 rfl w.heap.size 5 i0 (.int .u8 0) 1 1 Try.underlying47 hi hz0 hz1 hz2 rfl (by decide) _ 0 [] rfl HO1.out ⟨g, 0, none⟩ (L / 8) cap (byteVs (fullOf bs)) rfl (by rw [byteVs_length, fullOf_length, Nat.mul_one, HX.out]) (own_cells_in HG1.out HO.out) (byteVs_one _) (by unfold maxLen; omega) (by omega) (by have := HB1.out.size; omega) ?_; intro v2 w2 hown2 hgrow2 hnil2; clear hnil2; have HO2 := hide hown2; have HG2 := hide hgrow2; clear hown2 hgrow2; have HQ2 := hide (grow_keeps HQ1.out HO1.out (by decide) HG2.out rfl); obtain ⟨e0, e1, e2, e3⟩ := cell_of_four HQ2.out; rw [HX.out] at e1; rw [← HR.out] at e2; rw [← HL.out] at e3; have HB2 := hide (HB1.out.grown HG2.out HB1.out.size (fun k h => (HO1.out.lt k h).1))))
      go_ret
      refine ⟨_, rfl, ?_, HB2.out⟩
      have hp : packed bs = fullOf bs := by unfold packed; rw [← HL.out, if_pos HK.out, List.append_nil]
      have hh := HO2.out
      rw [hp, fullOf_length, HX.out]
      simpa using hh
    · have hk1 : 1 ≤ L % 8 := by omega
      have HK := hide hk; clear hk
      have hkb : L % 8 < 8 := Nat.mod_lt _ (by decide)
      obtain ⟨R, hR⟩ : ∃ R : Int, R = ((r * 2 ^ (8 - L % 8) : Nat) : Int) := ⟨_, rfl⟩
      have es : (r : Int) * 2 ^ (8 - L % 8) % 256 = R := by
        have := shl_rest r (L % 8) hr2 (by omega) hkb
        rw [IntKind.wrap_u8] at this
        rw [hR]; exact this
      have HRR := hide hR; clear hR
      have HR2 := hide hr2; clear hr2
      go_wp2_with (first | (at_make; refine wpList_make_own _ rfl _ _ 47 rfl w.heap.size 5 i0 (.int .u8 0) 1 Try.underlying47 hi hz0 hz1 .i64 .i64 _ (L / 8 + 1) rfl rfl (by first | rfl | omega) (by rw [hz2]; omega) (by unfold maxLen; omega) (Nat.le_refl _) ?_; intro w1 hown1 hgrow1; have HG1 := hide hgrow1; have HO1 := hide hown1; clear hgrow1 hown1; have HQ1 := hide ((HG1.out.block q hqs (by simp)).trans HQ.out); obtain ⟨d0, d1, d2, d3⟩ := cell_of_four HQ1.out; rw [HX.out] at d1; rw [← HR.out] at d2; rw [← HL.out] at d3; have HB1 := hide ((Below.refl w.heap.size w).grown HG1.out (Nat.le_refl _) (fun k h => by cases h))) | (at_builtin; refine wpList_append_own _ rfl (.tmp 15) (.tmp 19) 47 rfl w.heap.size 5 i0 (.int .u8 0) 1 1 Try.underlying47 hi hz0 hz1 hz2 rfl (by decide) _ 0 [] rfl HO1.out ⟨g, 0, none⟩ (L / 8) cap (byteVs (fullOf bs)) rfl (by rw [byteVs_length, fullOf_length, Nat.mul_one, HX.out]) (own_cells_in HG1.out HO.out) (byteVs_one _) (by unfold maxLen; omega) (by omega) (by have := HB1.out.size; omega) ?_; intro v2 w2 hown2 hgrow2 hnil2; clear hnil2; have HO2 := hide hown2; have HG2 := hide hgrow2; clear hown2 hgrow2; have HQ2 := hide (grow_keeps HQ1.out HO1.out (by decide) HG2.out rfl); obtain ⟨e0, e1, e2, e3⟩ := cell_of_four HQ2.out; rw [HX.out] at e1; rw [← HR.out] at e2; rw [← HL.out] at e3; have HB2 := hide (HB1.out.grown HG2.out HB1.out.size (fun k h => (HO1.out.lt k h).1))) | (at_builtin; refine wpList_append_own _ rfl (.tmp 28) (.tmp 36) 47 rfl w.heap.size 5 i0 (.int .u8 0) 1 1 Try.underlying47 hi hz0 hz1 hz2 rfl (by decide) _ (0 + L / 8) ([] ++ byteVs (fullOf bs)) rfl (HO2.out.alloc _) ⟨w2.heap.size, 0, none⟩ 1 1 [.int .u8 R] rfl rfl (by intro j u hj; match j, hj with | 0, hj => simp at hj; subst hj; simp only [Addr.add]; exact cell_alloc_one _ _ rfl _ _) (by intro u hu; simp at hu; subst hu; rfl) (by unfold maxLen; omega) (by omega) (by have := HB2.out.size; simp; omega) ?_; intro v3 w3 hown3 hgrow3 hnil3; clear hnil3; have HO3 := hide hown3; have HG3 := hide hgrow3; clear hown3 hgrow3; have HB3 := hide ((HB2.out.alloc HB2.out.size _).grown HG3.out (by have := HB2.out.size; simp; omega) (fun k h => (HO2.out.lt k h).1))))
      go_ret
      refine ⟨_, rfl, ?_, HB3.out⟩
      have hp : packed bs = fullOf bs ++ [r * 2 ^ (8 - L % 8)] := by unfold packed; rw [← HL.out, if_neg HK.out, HR.out]
      have hh := HO3.out
      rw [HRR.out] at hh
      rw [hp, byteVs_append]
      rw [List.length_append, fullOf_length, HX.out]; simpa [byteVs] using hh
end Go.Proofs.Ytppacelaeaaodaa

/- What a source is in memory, and the contracts of peek, Left, zeros, End. -/
namespace Go.Proofs.Ytppacelaeaaodaa
open Go Go.RowKit

def srcT (e : Nat) : Bool := e == 104

/-- In w the block q is a source of the bytes, which stands at bit p; its copy of the bytes is a row from block B on. -/
structure SrcIs (w : World) (B q : Nat) (bytes : List Nat) (p : Nat) : Prop where
  from_ : B ≤ q
  len : bytes.length ≤ 140737488355328
  at_ : p ≤ 8 * bytes.length
  small : ∀ c ∈ bytes, c < 256
  row : ∃ v, w.heap[q]? = some (.cells #[.bool true, v, .int .i64 (p : Int)] 104 (0, 0)) ∧ w.ownsRow B 5 1 v bytes.length (byteVs bytes)

theorem cell_of_three {w : World} {q : Nat} {c0 c1 c2 : Value} {t : Nat} (h : w.heap[q]? = some (.cells #[c0, c1, c2] t (0, 0))) :
    w.cell? ⟨q, 0, none⟩ = some c0 ∧ w.cell? ⟨q, 1, none⟩ = some c1 ∧ w.cell? ⟨q, 2, none⟩ = some c2 := by
  refine ⟨?_, ?_, ?_⟩ <;> simp [World.cell?, h]
theorem free_of_three {w : World} {q : Nat} {c0 c1 c2 : Value} {t : Nat} (h : w.heap[q]? = some (.cells #[c0, c1, c2] t (0, 0))) :
    w.frozen? ⟨q, 0, none⟩ = false ∧ w.frozen? ⟨q, 1, none⟩ = false ∧ w.frozen? ⟨q, 2, none⟩ = false := by
  refine ⟨?_, ?_, ?_⟩ <;> simp [World.frozen?, h]

theorem add_off (g j : Nat) : (⟨g, 0, none⟩ : Addr).add j = ⟨g, j, none⟩ := by unfold Addr.add; split <;> simp_all

theorem SrcIs.made {w : World} {B q : Nat} {bytes : List Nat} {p : Nat} (h : SrcIs w B q bytes p) : w.cell? ⟨q, 0, none⟩ = some (.bool true) := by
  obtain ⟨v, h1, _⟩ := h.row
  exact (cell_of_three h1).1
theorem SrcIs.pos {w : World} {B q : Nat} {bytes : List Nat} {p : Nat} (h : SrcIs w B q bytes p) : w.cell? ⟨q, 2, none⟩ = some (.int .i64 (p : Int)) := by
  obtain ⟨v, h1, _⟩ := h.row
  exact (cell_of_three h1).2.2
theorem SrcIs.lt {w : World} {B q : Nat} {bytes : List Nat} {p : Nat} (h : SrcIs w B q bytes p) : q < w.heap.size := by
  obtain ⟨v, h1, _⟩ := h.row
  exact lt_of_block h1
theorem SrcIs.drew {w : World} {B q : Nat} {bytes : List Nat} {p : Nat} (h : SrcIs w B q bytes p) : SrcIs w.drew B q bytes p := ⟨h.from_, h.len, h.at_, h.small, h.row⟩
theorem SrcIs.drewN {w : World} {B q : Nat} {bytes : List Nat} {p : Nat} (h : SrcIs w B q bytes p) (n : Nat) : SrcIs (w.drewN n) B q bytes p := ⟨h.from_, h.len, h.at_, h.small, h.row⟩
/-- The value of the field b, the bytes' own cells. -/
theorem SrcIs.slice {w : World} {B q : Nat} {bytes : List Nat} {p : Nat} (h : SrcIs w B q bytes p) :
    ∃ ao cap, w.cell? ⟨q, 1, none⟩ = some (.slice ao bytes.length cap) ∧ (∀ g, ao = some g → ∀ j, j < bytes.length → w.cell? (g.add j) = some (.int .u8 ((bytes.getD j 0 : Nat) : Int))) ∧ (ao = none → bytes.length = 0) ∧ (∀ g, ao = some g → g.off = 0 ∧ g.spot = none) := by
  obtain ⟨v, h1, ho⟩ := h.row
  rcases ho.2 with ⟨hv, hn0⟩ | ⟨g, cap, cur, hv, hg, hgg, hgn, hcapm, hcsz, htake⟩
  · refine ⟨none, 0, ?_, ?_, fun _ => hn0, ?_⟩
    · rw [(cell_of_three h1).2.1, hv, hn0]
    · intro g hg; cases hg
    · intro g hg; cases hg
  · refine ⟨some ⟨g, 0, none⟩, cap, ?_, ?_, ?_, ?_⟩
    · rw [(cell_of_three h1).2.1, hv]
    · intro g' hg' j hj
      simp only [Option.some.injEq] at hg'
      subst hg'
      subst hv
      refine ho.cells (g := g) rfl j _ ?_
      simp [byteVs, hj]
    · intro h; cases h
    · intro g' hg'; simp only [Option.some.injEq] at hg'; subst hg'; exact ⟨rfl, rfl⟩

theorem sIsMade_any (q : Nat) (w : World) (h : w.cell? ⟨q, 0, none⟩ = some (.bool true)) :
    Calls Try.prog 77 #[.pointer (some ⟨q, 0, none⟩)] w fun e w' => e = .returned (.bool true) ∧ w = w' := by
  go_enter Try.func77, Try.ntmps77
  go_wp2
  go_ret
  exact ⟨rfl, rfl⟩

theorem sLeft_any (B q : Nat) (bytes : List Nat) (p : Nat) (w : World) (hs : SrcIs w B q bytes p) :
    Calls Try.prog 47 #[.pointer (some ⟨q, 0, none⟩)] w fun e w' => e = .returned (.int .i64 ((8 * bytes.length - p : Nat) : Int)) ∧ ∃ n, w' = w.drewN n := by
  obtain ⟨ao, cap, h1, _, _, _⟩ := hs.slice
  have h0 := hs.made
  have h2 := hs.pos
  have hp := hs.at_
  have hl := hs.len
  obtain ⟨N, hN⟩ : ∃ N, N = bytes.length := ⟨_, rfl⟩
  rw [← hN] at h1 hp hl
  have HN := hide hN; clear hN
  go_enter Try.func47, Try.ntmps47
  go_wp2_with fail
  refine (sIsMade_any q _ h0).mono ?_
  rintro e w' ⟨rfl, rfl⟩
  go_wp2_with fail
  go_quiet (fail)
  go_wp2
  go_ret
  refine ⟨?_, _, rfl⟩
  rw [← HN.out]
  show Ending.returned (.int .i64 (8 * (N : Int) - p)) = _
  rw [show 8 * (N : Int) - p = ((8 * N - p : Nat) : Int) by omega]

set_option maxRecDepth 100000 in
set_option maxHeartbeats 400000 in
theorem sPeek_any (B q : Nat) (bytes : List Nat) (p a n : Nat) (w : World) (hs : SrcIs w B q bytes p) (hn : n ≤ 64) (ha : a + n ≤ 8 * bytes.length) :
    Calls Try.prog 103 #[.pointer (some ⟨q, 0, none⟩), .int .i64 (a : Int), .int .i64 (n : Int)] w fun e w' => e = .returned (.int .u64 ((valAt bytes a n : Nat) : Int)) ∧ w = w' := by
  obtain ⟨ao, cap, h1, hc, hnone, hoff⟩ := hs.slice
  have hl := hs.len
  obtain ⟨N, hN⟩ : ∃ N, N = bytes.length := ⟨_, rfl⟩
  rw [← hN] at h1 ha hl
  have HC := hide hc; clear hc
  have HNone := hide hnone; clear hnone
  have HOff := hide hoff; clear hoff
  have HN := hide hN; clear hN
  have HS := hide hs.small
  clear hs
  go_enter Try.func103, Try.ntmps103
  go_wp2
  go_loop [7, 11] (fun u i => ∃ k : Nat, k ≤ n ∧ i = .int .i64 k ∧ u = .int .u64 ((valAt bytes a k : Nat) : Int)) (fun _ i => n - (intOf i).toNat)
  case atStart => exact ⟨0, Nat.zero_le _, rfl, by rw [valAt_zero]; rfl⟩
  case round =>
    obtain ⟨k, hk, rfl, rfl⟩ := hrel
    by_cases hlt : k < n
    · have hgo : ∃ g : Nat, ao = some ⟨g, 0, none⟩ := by
        cases ao with
        | none => have h1 := HNone.out rfl; have h2 := HN.out; omega
        | some g => obtain ⟨h1, h2⟩ := HOff.out g rfl; obtain ⟨g1, g2, g3⟩ := g; simp at h1 h2; subst h1; subst h2; exact ⟨g1, rfl⟩
      obtain ⟨g, rfl⟩ := hgo
      have hidx : (a + k) / 8 < N := by omega
      obtain ⟨c, hcc⟩ : ∃ c, c = bytes.getD ((a + k) / 8) 0 := ⟨_, rfl⟩
      have hcell : w.cell? ⟨g, (a + k) / 8, none⟩ = some (.int .u8 (c : Int)) := by
        have := HC.out _ rfl ((a + k) / 8) (by rw [← HN.out]; exact hidx)
        rw [hcc]
        rw [add_off] at this
        exact this
      have hc256 : c < 256 := by
        have hidx' : (a + k) / 8 < bytes.length := by rw [← HN.out]; exact hidx
        rw [hcc, List.getD, List.getElem?_eq_getElem hidx']
        exact HS.out _ (List.getElem_mem _)
      obtain ⟨V, hV⟩ : ∃ V, V = valAt bytes a k := ⟨_, rfl⟩
      have hVlt : V < 2 ^ 63 := by
        have := valAt_lt bytes a k
        have := Nat.pow_le_pow_right (n := 2) (by omega) (show k ≤ 63 by omega)
        omega
      have hsucc := valAt_succ bytes a k (by rw [← HN.out]; omega)
      rw [← hV] at hsucc
      obtain ⟨b, hb⟩ : ∃ b, b = bitAt bytes (a + k) := ⟨_, rfl⟩
      rw [← hb] at hsucc
      have e1 : bits BinOp.and IntKind.u8 ((c : Int) / 2 ^ (7 - (a + k) % 8)) 1 = (b.toNat : Int) := by
        rw [and_bit8 c _ hc256 (by omega), hb, hcc]; rfl
      rw [← hV]
      have hV' : (V : Int) ≤ 9223372036854775807 := by omega
      have HV := hide hV; clear hV
      have HB := hide hb; clear hb
      have HCC := hide hcc; clear hcc
      have HSu := hide hsucc; clear hsucc
      obtain ⟨b', hb'⟩ : ∃ b' : Nat, b' = b.toNat := ⟨_, rfl⟩
      have e2 := or_bit64 V b hVlt
      obtain ⟨V2, hV2⟩ : ∃ V2 : Nat, V2 = 2 * V + b.toNat := ⟨_, rfl⟩
      rw [← hV2, ← hb'] at e2
      rw [← hb'] at e1
      have hb2 : b' ≤ 1 := by rw [hb']; cases b <;> simp
      have HV2 := hide hV2; clear hV2 hb' hVlt
      go_wp2
      go_round
      case rel => exact ⟨k + 1, by omega, by go_num, by rw [HSu.out, HV2.out]⟩
      case measure => simp [intOf]; omega
    · go_wp2
      go_ret
      obtain rfl : k = n := by omega
      exact ⟨rfl, rfl⟩


set_option maxRecDepth 100000 in
set_option maxHeartbeats 400000 in
theorem sZeros_any (B q : Nat) (bytes : List Nat) (p : Nat) (w : World) (hs : SrcIs w B q bytes p) :
    Calls Try.prog 154 #[.pointer (some ⟨q, 0, none⟩)] w fun e w' => e = .returned (.int .i64 ((zerosAt bytes p : Nat) : Int)) ∧ ∃ n, w' = w.drewN n := by
  have hp := hs.at_
  have hl := hs.len
  have h2 := hs.pos
  obtain ⟨M, hM⟩ : ∃ M, M = min (8 * bytes.length - p) 65 := ⟨_, rfl⟩
  have eM : min ((8 * bytes.length - p : Nat) : Int) 65 = (M : Int) := by omega
  have hM65 : M ≤ 65 := by omega
  have hMp : p + M ≤ 8 * bytes.length := by omega
  have HM := hide hM; clear hM
  go_enter Try.func154, Try.ntmps154
  go_wp2_with fail
  refine (sLeft_any B q bytes p _ hs).mono ?_
  rintro e w' ⟨rfl, nn, rfl⟩
  go_wp2_with fail
  go_loop [9] (fun i => ∃ k : Nat, k ≤ M ∧ i = .int .i64 k ∧ ∀ i, i < k → bitAt bytes (p + i) = false) (fun i => M - (intOf i).toNat)
  case atStart => exact ⟨0, Nat.zero_le _, rfl, by intro i hi; omega⟩
  case round =>
    obtain ⟨k, hk, rfl, hz⟩ := hrel
    have HZ := hide hz; clear hz
    by_cases hlt : k < M
    · have hv := valAt_one bytes (p + k) (by omega)
      have C : ∀ w0, SrcIs w0 B q bytes p → Calls Try.prog 103 #[.pointer (some ⟨q, 0, none⟩), .int .i64 ((p : Int) + (k : Int)), .int .i64 1] w0 fun e w' => e = .returned (.int .u64 (((bitAt bytes (p + k)).toNat : Nat) : Int)) ∧ w0 = w' := by
        intro w0 hs0
        have := sPeek_any B q bytes p (p + k) 1 w0 hs0 (by omega) (by omega)
        rw [hv] at this
        exact this
      have hsN := hs.drewN nn
      cases hb : bitAt bytes (p + k) with
      | true =>
        rw [hb] at C
        have HB := hide hb; clear hb
        go_wp2_with fail
        refine (C _ hsN).mono ?_
        rintro e w' ⟨rfl, rfl⟩
        go_wp2
        go_ret
        have hz := HM.out
        refine ⟨?_, _, rfl⟩
        rw [zerosAt_eq bytes p k hp (by omega) HZ.out (fun _ => HB.out)]
        rfl
      | false =>
        rw [hb] at C
        have HB := hide hb; clear hb
        go_wp2_with fail
        refine (C _ hsN).mono ?_
        rintro e w' ⟨rfl, rfl⟩
        go_wp2
        go_round
        case rel =>
          refine ⟨k + 1, by omega, by go_num, fun i hi => ?_⟩
          by_cases hik : i = k
          · rw [hik]; exact HB.out
          · exact HZ.out i (by omega)
        case measure => simp [intOf]; omega
    · go_wp2
      go_ret
      have hz := HM.out
      refine ⟨?_, _, rfl⟩
      obtain rfl : k = M := by omega
      rw [zerosAt_eq bytes p k hp (by omega) HZ.out (fun h => by omega)]
      rfl

/-- The same, the world behind the call left a variable. -/
theorem sLeft_k (B q : Nat) (bytes : List Nat) (p : Nat) (w : World) (hs : SrcIs w B q bytes p) :
    Calls Try.prog 47 #[.pointer (some ⟨q, 0, none⟩)] w fun e w' => e = .returned (.int .i64 ((8 * bytes.length - p : Nat) : Int)) ∧ SrcIs w' B q bytes p ∧ Kept B srcT w w' :=
  (sLeft_any B q bytes p w hs).mono fun e w' ⟨he, n, hw⟩ => by rw [hw]; exact ⟨he, hs.drewN n, (Kept.refl _ _ _).drewN n⟩
theorem sZeros_k (B q : Nat) (bytes : List Nat) (p : Nat) (w : World) (hs : SrcIs w B q bytes p) :
    Calls Try.prog 154 #[.pointer (some ⟨q, 0, none⟩)] w fun e w' => e = .returned (.int .i64 ((zerosAt bytes p : Nat) : Int)) ∧ SrcIs w' B q bytes p ∧ Kept B srcT w w' :=
  (sZeros_any B q bytes p w hs).mono fun e w' ⟨he, n, hw⟩ => by rw [hw]; exact ⟨he, hs.drewN n, (Kept.refl _ _ _).drewN n⟩
end Go.Proofs.Ytppacelaeaaodaa

/- Contract: a source tells the next natural number, or what is wrong first. -/
namespace Go.Proofs.Ytppacelaeaaodaa
open Go Go.RowKit

def natErr (bytes : List Nat) (p : Nat) : Nat :=
  if 64 < zerosAt bytes p then 11
  else if 8 * bytes.length - p < 2 * zerosAt bytes p + 1 then 10
  else if zerosAt bytes p = 64 ∧ valAt bytes (p + zerosAt bytes p + 1) (zerosAt bytes p) ≠ 0 then 11
  else 0
def natVal (bytes : List Nat) (p : Nat) : Nat := if natErr bytes p = 0 then 2 ^ zerosAt bytes p + valAt bytes (p + zerosAt bytes p + 1) (zerosAt bytes p) - 1 else 0
def natNext (bytes : List Nat) (p : Nat) : Nat := if natErr bytes p = 0 then p + 2 * zerosAt bytes p + 1 else p

/-- The block of a source behind a store into its place. -/
theorem SrcIs.moved {w : World} {B q : Nat} {bytes : List Nat} {p : Nat} (h : SrcIs w B q bytes p) (p' : Nat) (hp : p' ≤ 8 * bytes.length) : SrcIs (w.setCell ⟨q, 2, none⟩ (.int .i64 (p' : Int))) B q bytes p' := by
  obtain ⟨v, h1, ho⟩ := h.row
  refine ⟨h.from_, h.len, hp, h.small, v, ?_, ownsRow_setCell_typed ho h1 (by decide) _⟩
  rw [heap_setCell_same h1]; simp
theorem SrcIs.keeps {w : World} {B q : Nat} {bytes : List Nat} {p : Nat} (h : SrcIs w B q bytes p) (u : Value) : Kept B srcT w (w.setCell ⟨q, 2, none⟩ u) := by
  obtain ⟨v, h1, ho⟩ := h.row
  exact (Kept.refl _ _ _).setCell h.from_ h1 rfl u
theorem SrcIs.free {w : World} {B q : Nat} {bytes : List Nat} {p : Nat} (h : SrcIs w B q bytes p) : w.frozen? ⟨q, 2, none⟩ = false := by
  obtain ⟨v, h1, _⟩ := h.row
  exact (free_of_three h1).2.2

theorem natErr_num (bytes : List Nat) (p : Nat) : natErr bytes p = 0 ∨ natErr bytes p = 10 ∨ natErr bytes p = 11 := by
  unfold natErr
  by_cases h1 : 64 < zerosAt bytes p
  · rw [if_pos h1]; omega
  rw [if_neg h1]
  by_cases h2 : 8 * bytes.length - p < 2 * zerosAt bytes p + 1
  · rw [if_pos h2]; omega
  rw [if_neg h2]
  by_cases h3 : zerosAt bytes p = 64 ∧ valAt bytes (p + zerosAt bytes p + 1) (zerosAt bytes p) ≠ 0
  · rw [if_pos h3]; omega
  · rw [if_neg h3]; omega

set_option maxRecDepth 100000 in
set_option maxHeartbeats 400000 in
theorem sNat_any (B q : Nat) (bytes : List Nat) (p : Nat) (w : World) (hs : SrcIs w B q bytes p) :
    Calls Try.prog 149 #[.pointer (some ⟨q, 0, none⟩)] w fun e w' => e = .returned (.tuple #[.int .u64 ((natVal bytes p : Nat) : Int), .int .i64 ((natErr bytes p : Nat) : Int)]) ∧ SrcIs w' B q bytes (natNext bytes p) ∧ Kept B srcT w w' := by
  have hp := hs.at_
  have hl := hs.len
  obtain ⟨k, hk⟩ : ∃ k, k = zerosAt bytes p := ⟨_, rfl⟩
  have C := sZeros_k B q bytes p w hs
  rw [← hk] at C
  have HK := hide hk; clear hk
  go_enter Try.func149, Try.ntmps149
  go_wp2_with fail
  refine (sIsMade_any q _ hs.made).mono ?_
  rintro e w' ⟨rfl, rfl⟩
  go_wp2_with fail
  refine C.mono ?_
  rintro e w1 ⟨rfl, hs1, k1⟩
  by_cases h64 : 64 < k
  · go_wp2_with fail
    go_ret2
    have he : natErr bytes p = 11 := by unfold natErr; rw [← HK.out, if_pos h64]
    rw [natVal, natNext, he]
    exact ⟨rfl, hs1, k1⟩
  obtain ⟨Lf, hLf⟩ : ∃ Lf, Lf = 8 * bytes.length - p := ⟨_, rfl⟩
  have C2 := sLeft_k B q bytes p w1 hs1
  rw [← hLf] at C2
  have HL := hide hLf; clear hLf
  have hLb : Lf ≤ 1125899906842624000 := by have := HL.out; omega
  go_wp2_with fail
  refine C2.mono ?_
  rintro e w2 ⟨rfl, hs2, k2⟩
  have hpos := hs2.pos
  have hfree := hs2.free
  by_cases hfew : Lf < 2 * k + 1
  · go_wp2_with fail
    go_ret2
    have he : natErr bytes p = 10 := by unfold natErr; rw [← HK.out, if_neg h64, if_pos (by have := HL.out; omega)]
    rw [natVal, natNext, he]
    exact ⟨rfl, hs2, k1.trans k2⟩
  obtain ⟨V, hV⟩ : ∃ V, V = valAt bytes (p + k + 1) k := ⟨_, rfl⟩
  have hVlt : V < 2 ^ k := by rw [hV]; exact valAt_lt _ _ _
  have C3 := sPeek_any B q bytes p (p + k + 1) k w2 hs2 (by omega) (by have := HL.out; omega)
  rw [← hV] at C3
  have C4 : Calls Try.prog 103 #[.pointer (some ⟨q, 0, none⟩), .int .i64 ((p : Int) + (k : Int) + 1), .int .i64 (k : Int)] w2 fun e w' => e = .returned (.int .u64 ((V : Nat) : Int)) ∧ w2 = w' := C3
  have HV := hide hV; clear hV
  clear C C2 C3
  have hp2 : p ≤ 1125899906842624000 := by omega
  have HP := hide hp; clear hp
  have he0 : natErr bytes p = if k = 64 ∧ V ≠ 0 then 11 else 0 := by unfold natErr; rw [← HK.out, ← HV.out, if_neg h64, if_neg (by have := HL.out; omega)]
  have HE := hide he0; clear he0
  by_cases hk64 : k = 64
  · subst hk64
    by_cases hV0 : V = 0
    · have hVb : ((V : Int) != 0) = false := by simp; omega
      have hV0' := hide hV0; clear hV0
      go_wp2_with fail
      refine C4.mono ?_
      rintro e w' ⟨rfl, rfl⟩
      clear C4
      go_wp2
      go_ret2
      have he : natErr bytes p = 0 := HE.out.trans (if_neg (fun h => h.2 hV0'.out))
      have hm := hs2.moved (p + (2 * 64 + 1)) (by have := HL.out; have := HP.out; omega)
      rw [natVal, natNext, he, if_pos rfl, if_pos rfl, ← HK.out, ← HV.out, hV0'.out]
      refine ⟨?_, ?_, ?_⟩
      · show Ending.returned (.tuple #[.int .u64 (IntKind.u64.wrap (IntKind.u64.wrap (IntKind.u64.wrap 18446744073709551616 + ((0 : Nat) : Int)) - 1)), .int .i64 0]) = _
        have e : IntKind.u64.wrap (IntKind.u64.wrap (IntKind.u64.wrap 18446744073709551616 + ((0 : Nat) : Int)) - 1) = ((2 ^ 64 + 0 - 1 : Nat) : Int) := by decide +kernel
        rw [e]; rfl
      · exact hm
      · exact (k1.trans k2).trans (hs2.keeps _)
    · have hVb : ((V : Int) != 0) = true := by simp; omega
      have hV0' := hide hV0; clear hV0
      go_wp2_with fail
      refine C4.mono ?_
      rintro e w' ⟨rfl, rfl⟩
      clear C4
      go_wp2
      go_ret2
      have he : natErr bytes p = 11 := HE.out.trans (if_pos ⟨by trivial, hV0'.out⟩)
      rw [natVal, natNext, he]
      exact ⟨rfl, hs2, k1.trans k2⟩
  · have hk63 : k ≤ 63 := by omega
    have hkb : ((k : Int) == 64) = false := by simp; omega
    have hk64' := hide hk64; clear hk64
    go_wp2_with fail
    refine C4.mono ?_
    rintro e w' ⟨rfl, rfl⟩
    clear C4
    go_wp2
    go_ret2
    have he := HE.out
    rw [if_neg (by rintro ⟨h, _⟩; exact hk64'.out h)] at he
    have hm := hs2.moved (p + (2 * k + 1)) (by have := HL.out; have := HP.out; omega)
    rw [natVal, natNext, he, if_pos rfl, if_pos rfl, ← HK.out, ← HV.out]
    refine ⟨?_, ?_, ?_⟩
    · show Ending.returned (.tuple #[.int .u64 (IntKind.u64.wrap (IntKind.u64.wrap (IntKind.u64.wrap (2 ^ k) + (V : Int)) - 1)), .int .i64 0]) = _
      have h2k : (2 : Nat) ^ k ≤ 2 ^ 63 := Nat.pow_le_pow_right (by omega) hk63
      have h1k : 0 < (2 : Nat) ^ k := Nat.two_pow_pos k
      have hck : ((2 : Int) ^ k) = ((2 ^ k : Nat) : Int) := by push_cast; rfl
      have e : IntKind.u64.wrap (IntKind.u64.wrap (IntKind.u64.wrap (2 ^ k) + (V : Int)) - 1) = ((2 ^ k + V - 1 : Nat) : Int) := by
        rw [hck]; simp only [IntKind.wrap_u64]; omega
      rw [e]; rfl
    · exact hm
    · exact (k1.trans k2).trans (hs2.keeps _)
end Go.Proofs.Ytppacelaeaaodaa

/- Plain facts: what bits that are left say, as functions of the list of these bits. No program here. -/
namespace Go.Proofs.Ytppacelaeaaodaa
open Go

def zerosL (l : List Bool) : Nat := ((l.take 65).takeWhile (fun b => !b)).length
def natErrL (l : List Bool) : Nat :=
  if 64 < zerosL l then 11
  else if l.length < 2 * zerosL l + 1 then 10
  else if zerosL l = 64 ∧ valBits ((l.drop (zerosL l + 1)).take (zerosL l)) ≠ 0 then 11
  else 0
def natValL (l : List Bool) : Nat := if natErrL l = 0 then 2 ^ zerosL l + valBits ((l.drop (zerosL l + 1)).take (zerosL l)) - 1 else 0
def natRestL (l : List Bool) : List Bool := if natErrL l = 0 then l.drop (2 * zerosL l + 1) else l

/-- The bits that are left behind bit p. -/
def leftL (bytes : List Nat) (p : Nat) : List Bool := (bitsAll bytes).drop p
theorem leftL_length (bytes : List Nat) (p : Nat) : (leftL bytes p).length = 8 * bytes.length - p := by simp [leftL, bitsAll_length]
theorem valAt_left (bytes : List Nat) (p a n : Nat) : valAt bytes (p + a) n = valBits (((leftL bytes p).drop a).take n) := by
  simp [valAt, leftL, List.drop_drop]
theorem zerosAt_left (bytes : List Nat) (p : Nat) : zerosAt bytes p = zerosL (leftL bytes p) := rfl
theorem natErr_left (bytes : List Nat) (p : Nat) : natErr bytes p = natErrL (leftL bytes p) := by
  unfold natErr natErrL
  rw [zerosAt_left, leftL_length, Nat.add_assoc, valAt_left]
theorem natVal_left (bytes : List Nat) (p : Nat) : natVal bytes p = natValL (leftL bytes p) := by
  unfold natVal natValL
  rw [natErr_left, zerosAt_left, Nat.add_assoc, valAt_left]
theorem natRest_left (bytes : List Nat) (p : Nat) : leftL bytes (natNext bytes p) = natRestL (leftL bytes p) := by
  unfold natNext natRestL
  rw [natErr_left, zerosAt_left]
  split
  · simp [leftL, List.drop_drop, Nat.add_assoc]
  · rfl
theorem natVal_lt (bytes : List Nat) (p : Nat) : natVal bytes p < 2 ^ 64 := by
  unfold natVal
  by_cases h : natErr bytes p = 0
  · rw [if_pos h]
    unfold natErr at h
    have hv := valAt_lt bytes (p + zerosAt bytes p + 1) (zerosAt bytes p)
    by_cases h1 : 64 < zerosAt bytes p
    · rw [if_pos h1] at h; cases h
    rw [if_neg h1] at h
    by_cases h2 : 8 * bytes.length - p < 2 * zerosAt bytes p + 1
    · rw [if_pos h2] at h; cases h
    rw [if_neg h2] at h
    by_cases h3 : zerosAt bytes p = 64 ∧ valAt bytes (p + zerosAt bytes p + 1) (zerosAt bytes p) ≠ 0
    · rw [if_pos h3] at h; cases h
    by_cases h4 : zerosAt bytes p = 64
    · have h5 : valAt bytes (p + zerosAt bytes p + 1) (zerosAt bytes p) = 0 := by
        by_cases h6 : valAt bytes (p + zerosAt bytes p + 1) (zerosAt bytes p) = 0
        · exact h6
        · exact absurd ⟨h4, h6⟩ h3
      rw [h5, h4]; decide
    · have h7 : 2 ^ zerosAt bytes p ≤ 2 ^ 63 := Nat.pow_le_pow_right (by omega) (by omega)
      omega
  · rw [if_neg h]; decide

/-- What a text says: how many bytes, then these; what is wrong; what is left. -/
def chunk (l : List Bool) (i : Nat) : Nat := valBits ((l.drop (8 * i)).take 8)
theorem chunk_lt (l : List Bool) (i : Nat) : chunk l i < 256 := by
  unfold chunk
  have h := valBits_lt ((l.drop (8 * i)).take 8)
  have hl : ((l.drop (8 * i)).take 8).length ≤ 8 := by simp; omega
  have := Nat.pow_le_pow_right (n := 2) (by omega) hl
  omega
def textErrL (l : List Bool) : Nat := if natErrL l ≠ 0 then natErrL l else if (natRestL l).length / 8 < natValL l then 10 else 0
def textBytesL (l : List Bool) : List Nat := if textErrL l = 0 then (List.range (natValL l)).map (chunk (natRestL l)) else []
def textRestL (l : List Bool) : List Bool := if textErrL l = 0 then (natRestL l).drop (8 * natValL l) else l

def endErrL (l : List Bool) : Nat := if 8 ≤ l.length then 12 else if l.any id then 12 else 0
theorem valBits_zero (l : List Bool) : valBits l = 0 ↔ l.any id = false := by
  refine snocInd (P := fun l => valBits l = 0 ↔ l.any id = false) (by simp [valBits]) (fun l b ih => ?_) l
  rw [valBits_snoc, List.any_append, Bool.or_eq_false_iff, ← ih]
  cases b <;> simp <;> omega
theorem endErr_left (bytes : List Nat) (p : Nat) (_hp : p ≤ 8 * bytes.length) : (if 8 ≤ 8 * bytes.length - p then 12 else if valAt bytes p (8 * bytes.length - p) ≠ 0 then 12 else 0) = endErrL (leftL bytes p) := by
  unfold endErrL
  rw [leftL_length]
  have h : valAt bytes p (8 * bytes.length - p) = valBits (leftL bytes p) := by
    have := valAt_left bytes p 0 (8 * bytes.length - p)
    rw [Nat.add_zero, List.drop_zero, List.take_of_length_le (by rw [leftL_length]; omega)] at this
    exact this
  rw [h]
  by_cases h8 : 8 ≤ 8 * bytes.length - p
  · rw [if_pos h8, if_pos h8]
  · rw [if_neg h8, if_neg h8]
    cases hv : (leftL bytes p).any id with
    | true =>
      have h2 : valBits (leftL bytes p) ≠ 0 := by
        intro h3
        rw [valBits_zero] at h3
        rw [h3] at hv
        cases hv
      rw [if_pos h2, if_pos rfl]
    | false =>
      have h2 := (valBits_zero _).2 hv
      rw [if_neg (by omega), if_neg (by simp)]

/-- The bits of bytes, byte by byte. -/
theorem bitsAll_snoc (bytes : List Nat) (c : Nat) : bitsAll (bytes ++ [c]) = bitsAll bytes ++ bitsOf c 8 := by
  apply List.ext_getElem
  · simp [bitsAll_length, bitsOf_length]; omega
  · intro i h1 h2
    rw [bitsAll_getElem]
    rw [bitsAll_length] at h1
    simp at h1
    by_cases hi : i < 8 * bytes.length
    · rw [List.getElem_append_left (by rw [bitsAll_length]; exact hi), bitsAll_getElem]
      unfold bitAt
      have : i / 8 < bytes.length := by omega
      simp [List.getD, List.getElem?_append_left this, this]
    · rw [List.getElem_append_right (by rw [bitsAll_length]; omega), bitsOf_getElem]
      unfold bitAt
      have : i / 8 = bytes.length := by omega
      rw [bitsAll_length, this]
      simp only [List.getD, List.getElem?_append_right (Nat.le_refl _), Nat.sub_self, List.getElem?_cons_zero, Option.getD_some]
      congr 1
      omega
end Go.Proofs.Ytppacelaeaaodaa

/- Contracts: a new source; what End says. -/
namespace Go.Proofs.Ytppacelaeaaodaa
open Go Go.RowKit

theorem SrcIs.size {w : World} {B q : Nat} {bytes : List Nat} {p : Nat} (h : SrcIs w B q bytes p) : B ≤ q := h.from_

theorem byteVs_ints (bytes : List Nat) : (bytes.map fun x : Nat => (x : Int)).map (Value.int .u8) = byteVs bytes := by simp [byteVs]

set_option maxRecDepth 100000 in
theorem newSource_some (a : Addr) (cap : Nat) (bytes : List Nat) (w : World) (hbig : bytes.length ≤ 140737488355328) (hsm : ∀ c ∈ bytes, c < 256)
    (hc : ∀ j, j < bytes.length → w.cell? (a.add j) = some (.int .u8 ((bytes.getD j 0 : Nat) : Int))) :
    Calls Try.prog 42 #[.slice (some a) bytes.length cap] w fun e w' => ∃ q, e = .returned (.pointer (some ⟨q, 0, none⟩)) ∧ SrcIs w' w.heap.size q bytes 0 ∧ Below w.heap.size w w' := by
  have C := Try.bytes_Clone_at a bytes.length cap (bytes.map fun x : Nat => (x : Int)) w (by simp) hbig (fun i hi => by rw [hc i hi]; simp [List.getD, hi])
  rw [byteVs_ints] at C
  have HB := hide hbig
  have HS := hide hsm
  clear hc hbig hsm
  go_enter Try.func42, Try.ntmps42
  go_wp2_with fail
  refine C.mono ?_
  clear C
  rintro e w1 ⟨v, rfl, hown, hnil, hbel⟩
  obtain ⟨g, cp, rfl⟩ : ∃ g cp, v = .slice (some ⟨g, 0, none⟩) bytes.length cp := by
    rcases hown.2 with ⟨h, _⟩ | ⟨g, cp, cur, hv, _⟩
    · exact absurd h hnil
    · exact ⟨g, cp, hv⟩
  have HO := hide hown; have HBl := hide hbel; clear hown hbel hnil
  go_wp2
  go_ret
  refine ⟨_, rfl, ⟨HBl.out.size, HB.out, Nat.zero_le _, HS.out, _, heap_alloc_new _ _, HO.out.alloc _⟩, HBl.out.alloc HBl.out.size _⟩

set_option maxRecDepth 100000 in
theorem newSource_none (cap : Nat) (w : World) :
    Calls Try.prog 42 #[.slice none 0 cap] w fun e w' => ∃ q, e = .returned (.pointer (some ⟨q, 0, none⟩)) ∧ SrcIs w' w.heap.size q [] 0 ∧ Below w.heap.size w w' := by
  have C := Try.bytes_Clone_nil 0 cap w
  go_enter Try.func42, Try.ntmps42
  go_wp2_with fail
  refine C.mono ?_
  clear C
  rintro e w1 ⟨rfl, rfl⟩
  go_wp2
  go_ret
  exact ⟨_, rfl, ⟨Nat.le_refl _, by simp, Nat.zero_le _, by simp, _, heap_alloc_new _ _, World.ownsRow_nil _ _ _ _⟩, (Below.refl _ _).alloc (Nat.le_refl _) _⟩

/-- A slice of bytes, nil or not, whose cells are the bytes. -/
def BytesAt (w : World) (ao : Option Addr) (bytes : List Nat) : Prop := (ao = none → bytes.length = 0) ∧ ∀ a, ao = some a → ∀ j, j < bytes.length → w.cell? (a.add j) = some (.int .u8 ((bytes.getD j 0 : Nat) : Int))

theorem newSource_any (ao : Option Addr) (cap : Nat) (bytes : List Nat) (w : World) (hbig : bytes.length ≤ 140737488355328) (hsm : ∀ c ∈ bytes, c < 256) (h : BytesAt w ao bytes) :
    Calls Try.prog 42 #[.slice ao bytes.length cap] w fun e w' => ∃ q, e = .returned (.pointer (some ⟨q, 0, none⟩)) ∧ SrcIs w' w.heap.size q bytes 0 ∧ Below w.heap.size w w' := by
  cases ao with
  | none =>
    obtain rfl : bytes = [] := List.length_eq_zero_iff.1 (h.1 rfl)
    exact newSource_none cap w
  | some a => exact newSource_some a cap bytes w hbig hsm (h.2 a rfl)

def endErr (bytes : List Nat) (p : Nat) : Nat := if 8 ≤ 8 * bytes.length - p then 12 else if valAt bytes p (8 * bytes.length - p) ≠ 0 then 12 else 0

set_option maxRecDepth 100000 in
theorem sEnd_any (B q : Nat) (bytes : List Nat) (p : Nat) (w : World) (hs : SrcIs w B q bytes p) :
    Calls Try.prog 74 #[.pointer (some ⟨q, 0, none⟩)] w fun e w' => e = .returned (.int .i64 ((endErr bytes p : Nat) : Int)) ∧ SrcIs w' B q bytes p ∧ Kept B srcT w w' := by
  have hp := hs.at_
  obtain ⟨Lf, hLf⟩ : ∃ Lf, Lf = 8 * bytes.length - p := ⟨_, rfl⟩
  have C2 := sLeft_k B q bytes p w hs
  rw [← hLf] at C2
  have HL := hide hLf; clear hLf
  go_enter Try.func74, Try.ntmps74
  go_wp2_with fail
  refine (sIsMade_any q _ hs.made).mono ?_
  rintro e w' ⟨rfl, rfl⟩
  go_wp2_with fail
  refine C2.mono ?_
  rintro e w2 ⟨rfl, hs2, k2⟩
  have hpos := hs2.pos
  by_cases h8 : 8 ≤ Lf
  · go_wp2_with fail
    go_ret
    have he : endErr bytes p = 12 := by unfold endErr; rw [← HL.out, if_pos h8]
    rw [he]
    exact ⟨rfl, hs2, k2⟩
  · obtain ⟨V, hV⟩ : ∃ V, V = valAt bytes p Lf := ⟨_, rfl⟩
    have C3 := sPeek_any B q bytes p p Lf w2 hs2 (by omega) (by have := HL.out; omega)
    rw [← hV] at C3
    have he : endErr bytes p = if V ≠ 0 then 12 else 0 := by unfold endErr; rw [← HL.out, if_neg h8, ← hV]
    have HV := hide hV; clear hV
    have HE := hide he; clear he
    by_cases hV0 : V = 0
    · have hVb : ((V : Int) != 0) = false := by simp; omega
      have hV0' := hide hV0; clear hV0
      go_wp2_with fail
      refine C3.mono ?_
      rintro e w' ⟨rfl, rfl⟩
      go_wp2
      go_ret
      have he : endErr bytes p = 0 := HE.out.trans (if_neg (fun h => h hV0'.out))
      rw [he]
      exact ⟨rfl, hs2, k2⟩
    · have hVb : ((V : Int) != 0) = true := by simp; omega
      have hV0' := hide hV0; clear hV0
      go_wp2_with fail
      refine C3.mono ?_
      rintro e w' ⟨rfl, rfl⟩
      go_wp2
      go_ret
      have he : endErr bytes p = 12 := HE.out.trans (if_pos hV0'.out)
      rw [he]
      exact ⟨rfl, hs2, k2⟩
end Go.Proofs.Ytppacelaeaaodaa

/- Contracts of the document's own answers on bits: Low, long, Nat. -/
namespace Go.Proofs.Ytppacelaeaaodaa
open Go Go.RowKit

theorem bytesIn_own {w : World} {B : Nat} {v : Value} {bytes : List Nat} (h : w.ownsRow B 5 1 v bytes.length (byteVs bytes)) :
    ∃ ao cap, v = .slice ao bytes.length cap ∧ Lib.BytesIn w ao bytes.length (bytes.map fun x : Nat => (x : Int)) := by
  rcases h.2 with ⟨hv, hn0⟩ | ⟨g, cap, cur, hv, hg, hgg, hgn, hcapm, hcsz, htake⟩
  · refine ⟨none, 0, by rw [hv, hn0], ?_⟩
    intro h; omega
  · refine ⟨some ⟨g, 0, none⟩, cap, hv, ?_⟩
    subst hv
    refine fun _ => ⟨g, 0, rfl, fun i hi => ?_⟩
    have := h.cells (g := g) rfl i (.int .u8 ((bytes.getD i 0 : Nat) : Int)) (by simp [byteVs, hi])
    rw [add_off] at this
    rw [Nat.zero_add, this]
    simp [List.getD, hi]
theorem bytesIn_lit (w : World) (c : Nat) (t : Nat) : Lib.BytesIn (w.alloc (.cells #[.int .u8 (c : Int)] t)) (some ⟨w.heap.size, 0, none⟩) 1 [(c : Int)] :=
  fun _ => ⟨w.heap.size, 0, rfl, fun i hi => by
    obtain rfl : i = 0 := by omega
    exact cell_alloc_one _ _ rfl _ _⟩
theorem bytesAt_lit (w : World) (c : Nat) (t : Nat) : BytesAt (w.alloc (.cells #[.int .u8 (c : Int)] t)) (some ⟨w.heap.size, 0, none⟩) [c] := by
  refine ⟨fun h => (by cases h), fun a ha j hj => ?_⟩
  simp only [Option.some.injEq] at ha
  subst ha
  obtain rfl : j = 0 := by simpa using hj
  rw [add_off]
  exact cell_alloc_one _ _ rfl _ _

theorem natBits4 : natBits 4 = [false, false, true, false, true] := by decide +kernel
theorem packed4 : packed (natBits 4) = [40] := by decide +kernel
theorem ahd4 : ahd 4 = 2 := by decide +kernel
theorem ahd1 : ahd 1 = 1 := by decide +kernel
theorem natErr40 : natErr [40] 0 = 0 := by decide +kernel
theorem natVal40 : natVal [40] 0 = 4 := by decide +kernel
theorem natNext40 : natNext [40] 0 = 5 := by decide +kernel
theorem endErr40 : endErr [40] 5 = 0 := by decide +kernel

end Go.Proofs.Ytppacelaeaaodaa
namespace Go.Proofs.Ytppacelaeaaodaa
open Go Go.RowKit

theorem Try.info4 : (Try.prog.info? 4).map (fun i => (i.zero, i.size, i.bytes)) = some (some (.bool false), 1, 1) := by kernel_rfl

def boolVs (l : List Bool) : List Value := l.map Value.bool
theorem boolVs_length (l : List Bool) : (boolVs l).length = l.length := by simp [boolVs]
theorem boolVs_one (l : List Bool) : ∀ u ∈ boolVs l, u.oneCell' = true := by
  intro u hu; simp [boolVs] at hu; rcases hu with ⟨_, rfl⟩ | ⟨_, rfl⟩ <;> rfl
theorem boolVs_append (l m : List Bool) : boolVs (l ++ m) = boolVs l ++ boolVs m := by simp [boolVs]

/-- The value v is a slice of just these flags, in a row from block B on. -/
def Flags (w : World) (B : Nat) (v : Value) (bs : List Bool) : Prop := w.ownsRow B 4 1 v bs.length (boolVs bs)

set_option maxRecDepth 100000 in
set_option maxHeartbeats 400000 in
theorem rLow_any (u n : Nat) (w : World) (hu : u < 2 ^ 64) (hn : n ≤ 64) :
    Calls Try.prog 34 #[.int .u64 (u : Int), .int .i64 (n : Int)] w fun e w' => ∃ v, e = .returned v ∧ Flags w' w.heap.size v (bitsOf u n) ∧ Below w.heap.size w w' := by
  obtain ⟨i0, hi, hz0, hz1, hz2⟩ := info_parts Try.info4
  have hu' : (u : Int) ≤ 18446744073709551615 := by omega
  have HU := hide hu; clear hu
  go_enter Try.func34, Try.ntmps34
  go_wp2
  go_loopw [5, 6] (fun v i wr => ∃ k : Nat, k ≤ n ∧ i = .int .i64 ((n : Int) - 1 - k) ∧ wr.ownsRow w.heap.size 4 1 v k (boolVs ((bitsOf u n).take k)) ∧ Below w.heap.size w wr) (fun _ i _ => (intOf i + 1).toNat)
  case atStart => exact ⟨0, Nat.zero_le _, by simp, World.ownsRow_nil _ _ _ _, Below.refl _ _⟩
  case round =>
    obtain ⟨k, hk, rfl, hown, hbel⟩ := hrel
    have HO := hide hown; have HB := hide hbel; clear hown hbel
    by_cases hlt : k < n
    · have HT := hide (bitsOf_take_succ u n k hlt)
      obtain ⟨j, hj⟩ : ∃ j, j = n - 1 - k := ⟨_, rfl⟩
      have hji : (n : Int) - 1 - k = (j : Int) := by omega
      obtain ⟨b, hb⟩ : ∃ b, b = u.testBit j := ⟨_, rfl⟩
      have hj64 : j ≤ 63 := by omega
      have hbt : (((u : Int) / 2 ^ j).tmod 2 == 1) = b := by
        rw [Int.tmod_eq_emod_of_nonneg (Int.ediv_nonneg (by omega) (by exact_mod_cast Nat.zero_le _)), hb, Nat.testBit_eq_decide_div_mod_eq]
        have e : ((u : Int) / 2 ^ j) % 2 = ((u / 2 ^ j % 2 : Nat) : Int) := by push_cast; rfl
        rw [e]
        rcases Nat.mod_two_eq_zero_or_one (u / 2 ^ j) with h | h <;> simp [h]
      rw [hji]
      have HJ := hide hj; have HBt := hide hb; clear hj hb hji
      go_wp2_with (at_builtin; refine wpList_append_own _ rfl (.tmp 13) (.tmp 23) 55 rfl w.heap.size 4 i0 (.bool false) 1 1 Try.underlying55 hi hz0 hz1 hz2 rfl (by decide) _ k _ rfl (HO.out.alloc _) ⟨wr.heap.size, 0, none⟩ 1 1 [.bool b] rfl rfl (by intro j' u hj; match j', hj with | 0, hj => simp at hj; subst hj; simp only [Addr.add]; exact cell_alloc_one _ _ rfl _ _) (by intro u hu; simp at hu; subst hu; rfl) (by unfold maxLen; omega) (by omega) (by have := HB.out.size; simp; omega) ?_; intro v3 w3 hown3 hgrow3 hnil3; clear hnil3; have HO3 := hide hown3; have HG3 := hide hgrow3; clear hown3 hgrow3)
      go_roundw
      case rel =>
        refine ⟨k + 1, by omega, ?_, ?_, (HB.out.alloc HB.out.size _).grown HG3.out (by have := HB.out.size; simp; omega) (fun k h => (HO.out.lt k h).1)⟩
        · have := HJ.out
          rw [show (n : Int) - 1 - ((k + 1 : Nat) : Int) = (j : Int) - 1 by omega]
        · rw [HT.out, boolVs_append, ← HJ.out, ← HBt.out]; exact HO3.out
      case measure => simp [intOf]
    · go_wp2
      go_ret
      obtain rfl : k = n := by omega
      refine ⟨_, rfl, ?_, HB.out⟩
      have := HO.out
      rw [List.take_of_length_le (by simp [bitsOf_length])] at this
      unfold Flags
      rw [bitsOf_length]; exact this

set_option maxRecDepth 100000 in
theorem rLong_any (u : Nat) (w : World) (hu : u < 2 ^ 64) (h0 : u ≠ 0) :
    Calls Try.prog 131 #[.int .u64 (u : Int)] w fun e w' => e = .returned (.int .i64 ((u.log2 + 1 : Nat) : Int)) ∧ w = w' := by
  have hl : Lib.bitLen u = u.log2 + 1 := bitLen_log2 u h0 hu
  rw [← hl]
  have HU := hide hu
  have hle : Lib.bitLen u ≤ 64 := by rw [hl]; have := (Nat.log2_lt (n := u) (k := 64) h0).2 hu; omega
  have hu' : (u : Int) ≤ 18446744073709551615 := by omega
  clear hl hu h0
  go_enter Try.func131, Try.ntmps131
  go_wp2
  go_loop [0, 3] (fun x i => ∃ a k : Nat, a < 2 ^ 64 ∧ x = .int .u64 a ∧ i = .int .i64 k ∧ k + Lib.bitLen a = Lib.bitLen u) (fun x _ => (intOf x).toNat)
  case atStart => exact ⟨u, 0, HU.out, rfl, rfl, by omega⟩
  case round =>
    obtain ⟨a, k, ha, rfl, rfl, hsum⟩ := hrel
    have hk64 : k ≤ 64 := by omega
    have ha' : (a : Int) ≤ 18446744073709551615 := by omega
    have HS := hide hsum; have HA := hide ha; clear hsum ha
    by_cases h0 : 0 < a
    · go_wp2
      go_round
      case rel =>
        refine ⟨a / 2, k + 1, by have := HA.out; omega, by go_num, by go_num, ?_⟩
        have := Lib.bitLen_half a (by omega) HA.out
        have := HS.out
        omega
      case measure => simp [intOf]; omega
    · go_wp2
      go_ret
      obtain rfl : a = 0 := by omega
      have := HS.out
      rw [show Lib.bitLen 0 = 0 by decide] at this
      refine ⟨?_, rfl⟩
      rw [← this]; rfl
end Go.Proofs.Ytppacelaeaaodaa

/- A law on 'append(l, make([]T, m)...)', which is one operation of the translation: it lays m zero values behind l. -/
namespace Go.Proofs.Ytppacelaeaaodaa
open Go Go.RowKit

theorem zero_cells_list (z : Value) (h : z.cells = #[z]) (m : Nat) : (Builtin.zeroCells z.cells m) = (List.replicate m z).toArray := by
  rw [h]
  apply Array.ext'
  simp [Builtin.zeroCells, Nat.mod_one, List.map_const']

theorem run_append_make_own {P : Program} (w : World) (base : Nat) (t ti ty e : TypeId) (i : TypeInfo) (z : Value) (ht : P.underlying t = some (.slice e)) (hti : P.underlying ti = some (.int .i64)) (hi : P.info? e = some i) (hz : i.zero = some z)
    (hsize : i.size = 1) (hby : i.bytes = 1) (hzc : z.cells = #[z]) (hz1 : z.oneCell' = true)
    (v : Value) (n : Nat) (xs : List Value) (hown : w.ownsRow base e 1 v n xs) (hn : v ≠ .slice none 0 0) (m : Nat) (hm : 0 < m) (h63 : n + m ≤ 70368744177664) (hbase : base ≤ w.heap.size) :
    ∃ v' w', (Builtin.append_ #[t, ti] ty #[v, .int .i64 (m : Int)]).run P w = .ok v' w' ∧ w'.ownsRow base e 1 v' (n + m) (xs ++ List.replicate m z) ∧ w.grownBy w' v.ownBlock := by
  rcases hown.2 with ⟨hv, _⟩ | ⟨g, cap, cur, rfl, hbg, hg, hnc, hcm, hcs, htake⟩
  · exact absurd hv hn
  have hlen : (xs ++ List.replicate m z).length = (n + m) * 1 := by simp [hown.1]
  have hw : IntKind.i64.wrap (m : Int) = (m : Int) := by rw [IntKind.wrap_i64]; omega
  have hneg : ¬ ((m : Int) < 0) := by omega
  have h48 : ¬ (281474976710656 < (m : Int)) := by omega
  have hm0 : ¬ m = 0 := by omega
  have hm1 : ¬ ((m : Int) ≤ 0) := by omega
  have ha : ∀ w, (asInt (.int .i64 (m : Int))).run P w = .ok (m : Int) w := fun _ => rfl
  have hone : ∀ u ∈ List.replicate m z, u.oneCell' = true := by intro u hu; rw [List.eq_of_mem_replicate hu]; exact hz1
  by_cases hroom : n + m ≤ cap
  · have hst := run_storeCells_at P g n e (List.replicate m z) 0 cur w hg (by simp; omega) hone
    simp only [Nat.add_zero] at hst
    refine ⟨.slice (some ⟨g, 0, none⟩) (n + m) cap, w.setRow g (cur.toList.take n ++ List.replicate m z ++ cur.toList.drop (n + (List.replicate m z).length)).toArray, ?_, ⟨hlen, .inr ⟨g, cap, _, rfl, hbg, setRow_heap w g cur _ e _ hg, hroom, hcm, ?_, ?_⟩⟩, ⟨rfl, rfl, rfl, by simp, fun k _ hk => setRow_other w g k _ (fun e => hk (by simp [Value.ownBlock, e]))⟩⟩
    · simp [Builtin.append_, run_underlying ht, run_underlying hti, sizeOf, typeInfo, zeroValue, hi, hz, hsize, hby, hw, hneg, h48, hm0, hroom, ha, zero_cells_list z hzc, Addr.add_lit, hst]
    · simp only [List.size_toArray, List.length_append, List.length_take, List.length_drop, Array.length_toList, List.length_replicate]
      omega
    · rw [Nat.mul_one] at htake
      rw [htake, ← hlen]
      exact List.take_left
  · have hneed : ¬ (9223372036854775807 < ((n : Int) + (m : Int))) := by omega
    have hfit : ¬ (281474976710656 < Builtin.nextslicecap (n + m) cap) := by
      have := growslice_fits (need := n + m) (old := cap) (bytes := 1) (by omega) (by omega)
      omega
    have hfo := run_firstCells_some (P := P) w.drew 1 n ⟨g, 0, none⟩ n cap xs hown.1 (by simpa using hown.cells (g := g) rfl)
    have hge := grownCap_ge w (n + m) cap e
    have hcm2 : grownCap w (n + m) cap e ≤ maxLen := grownCap_le_maxLen w (n + m) cap e (by unfold maxLen; omega)
    refine ⟨.slice (some ⟨w.heap.size, 0, none⟩) (n + m) (grownCap w (n + m) cap e), w.drew.alloc (.cells (xs.toArray ++ (List.replicate m z).toArray ++ Builtin.zeroCells z.cells (grownCap w (n + m) cap e - (n + m))) e), ?_, ⟨hlen, .inr ⟨w.heap.size, _, _, rfl, hbase, heap_alloc_new w.drew _, hge, hcm2, ?_, ?_⟩⟩, ⟨rfl, rfl, rfl, by simp, fun k hk _ => Below.heap_alloc w.drew _ k hk⟩⟩
    · simp [Builtin.append_, run_underlying ht, run_underlying hti, sizeOf, typeInfo, zeroValue, hi, hz, hsize, hby, hw, hneg, h48, hm0, hroom, ha, zero_cells_list z hzc, hneed, hfit, Question.forced, hfo, newRow, grownCap]
    · have := hown.1
      simp [size_zeroCells, hzc]
      omega
    · simp only [Array.toList_append, List.append_assoc]
      rw [← List.append_assoc, ← hlen]
      exact List.take_left

theorem wpList_append_make {P : Program} (w : World) {ops : Array Oper} {rest : List Oper} {o : Oper} {a : Act} {Q : Exit → Act → World → Prop} (hgd : o.guard = none) (s x : Operand) (t ti : TypeId)
    (ho : o.op = .call { callee := .builtin .append, args := #[s, x], argTypes := #[t, ti] })
    (base : Nat) (e : TypeId) (i : TypeInfo) (z : Value) (ht : P.underlying t = some (.slice e)) (hti : P.underlying ti = some (.int .i64)) (hi : P.info? e = some i) (hz : i.zero = some z)
    (hsize : i.size = 1) (hby : i.bytes = 1) (hzc : z.cells = #[z]) (hz1 : z.oneCell' = true)
    (v : Value) (n : Nat) (xs : List Value) (hs : a.eval s = v) (hown : w.ownsRow base e 1 v n xs) (hn : v ≠ .slice none 0 0) (m : Nat) (hx : a.eval x = .int .i64 (m : Int)) (hm : 0 < m) (h63 : n + m ≤ 70368744177664) (hbase : base ≤ w.heap.size)
    (h : ∀ v' w', w'.ownsRow base e 1 v' (n + m) (xs ++ List.replicate m z) → w.grownBy w' v.ownBlock → wpList P ops Q rest (a.put o.dst v') w') : wpList P ops Q (o :: rest) a w := by
  refine wpList_plain hgd fun K hK => ?_
  obtain ⟨v', w', hrun, r1, r2⟩ := run_append_make_own (P := P) w base t ti o.type e i z ht hti hi hz hsize hby hzc hz1 v n xs hown hn m hm h63 hbase
  unfold Oper.wp
  simp [execOp, ho, resolve, invoke, builtin, hs, hx, hrun, Result.andThen]
  exact hK _ _ (h v' w' r1 r2)
end Go.Proofs.Ytppacelaeaaodaa

/- Contract: the document's own code of a natural number. -/
namespace Go.Proofs.Ytppacelaeaaodaa
open Go Go.RowKit

theorem boolVs_rep (k : Nat) : List.replicate k (Value.bool false) = boolVs (List.replicate k false) := by simp [boolVs]
theorem natBits_max : natBits 18446744073709551615 = List.replicate 64 false ++ [true] ++ List.replicate 64 false := by decide +kernel

theorem Flags.below {w w' : World} {B B' : Nat} {v : Value} {bs : List Bool} (h : Flags w B v bs) (hb : Below B' w w') (hB : w.heap.size ≤ B') : Flags w' B v bs := by
  refine ⟨h.1, ?_⟩
  rcases h.2 with hn | ⟨g, cap, cur, rfl, hg, hgg, rest⟩
  · exact .inl hn
  · exact .inr ⟨g, cap, cur, rfl, hg, by rw [hb.block g (by have := lt_of_block hgg; omega)]; exact hgg, rest⟩
theorem Flags.lower {w : World} {B B' : Nat} {v : Value} {bs : List Bool} (h : Flags w B v bs) (hB : B' ≤ B) : Flags w B' v bs := by
  refine ⟨h.1, ?_⟩
  rcases h.2 with hn | ⟨g, cap, cur, rfl, hg, rest⟩
  · exact .inl hn
  · exact .inr ⟨g, cap, cur, rfl, by omega, rest⟩

set_option maxRecDepth 100000 in
set_option maxHeartbeats 400000 in
theorem rNat_max (w : World) :
    Calls Try.prog 101 #[.int .u64 18446744073709551615] w fun e w' => ∃ v, e = .returned v ∧ Flags w' w.heap.size v (natBits 18446744073709551615) ∧ Below w.heap.size w w' := by
  obtain ⟨i0, hi, hz0, hz1, hz2⟩ := info_parts Try.info4
  go_enter Try.func101, Try.ntmps101
  go_wp2_with (first | (at_make; refine wpList_make_full _ rfl _ _ 55 rfl w.heap.size 4 i0 (.bool false) 1 Try.underlying55 hi hz0 hz1 .i64 .i64 _ _ 64 rfl rfl rfl rfl (by rw [hz2]; omega) (by unfold maxLen; omega) (Nat.le_refl _) ?_; intro w1 hown1 hgrow1; have HO1 := hide hown1; have HG1 := hide hgrow1; clear hown1 hgrow1; have HB1 := hide ((Below.refl w.heap.size w).grown HG1.out (Nat.le_refl _) (fun k h => by cases h))) | (at_builtin; refine wpList_append_own _ rfl (.tmp 8) (.tmp 9) 55 rfl w.heap.size 4 i0 (.bool false) 1 1 Try.underlying55 hi hz0 hz1 hz2 rfl (by decide) _ 64 _ rfl (HO1.out.alloc _) ⟨w1.heap.size, 0, none⟩ 1 1 [.bool true] rfl rfl (by intro j' u hj; match j', hj with | 0, hj => simp at hj; subst hj; simp only [Addr.add]; exact cell_alloc_one _ _ rfl _ _) (by intro u hu; simp at hu; subst hu; rfl) (by unfold maxLen; omega) (by omega) (by have := HB1.out.size; simp; omega) ?_; intro v2 w2 hown2 hgrow2 hnil2; clear hnil2; have HO2 := hide hown2; have HG2 := hide hgrow2; clear hown2 hgrow2; have HB2 := hide ((HB1.out.alloc HB1.out.size _).grown HG2.out (by have := HB1.out.size; simp; omega) (fun k h => (HO1.out.lt k h).1)); obtain ⟨g2, cp2, rfl⟩ := own_shape HO2.out) | (at_builtin; refine wpList_append_make _ rfl (.tmp 11) (.const (.int .i64 64)) 55 3 rfl w.heap.size 4 i0 (.bool false) Try.underlying55 Try.underlying3 hi hz0 hz1 hz2 rfl rfl (.slice (some ⟨g2, 0, none⟩) 65 cp2) 65 _ rfl HO2.out (by intro h; cases h) 64 rfl (by omega) (by omega) (by have := HB2.out.size; omega) ?_; intro v3 w3 hown3 hgrow3; have HO3 := hide hown3; have HG3 := hide hgrow3; clear hown3 hgrow3; have HB3 := hide (HB2.out.grown HG3.out (by have := HB2.out.size; omega) (fun k h => (HO2.out.lt k h).1))))
  go_ret
  refine ⟨_, rfl, ?_, HB3.out⟩
  have h := HO3.out
  have e : (madeCells (Value.cells (.bool false)) (64 * 1)).toList = boolVs (List.replicate 64 false) := by rw [show Value.cells (.bool false) = #[.bool false] from rfl, toList_madeCells_one, boolVs_rep]
  unfold Flags
  rw [natBits_max, boolVs_append, boolVs_append]
  rw [e, boolVs_rep] at h
  exact h

theorem ownsRow_below {w w' : World} {B B' e size n : Nat} {v : Value} {xs : List Value} (h : w.ownsRow B e size v n xs) (hb : Below B' w w') (hB : w.heap.size ≤ B') : w'.ownsRow B e size v n xs := by
  refine ⟨h.1, ?_⟩
  rcases h.2 with hn | ⟨g, cap, cur, rfl, hg, hgg, rest⟩
  · exact .inl hn
  · exact .inr ⟨g, cap, cur, rfl, hg, by rw [hb.block g (by have := lt_of_block hgg; omega)]; exact hgg, rest⟩
theorem ownsRow_lower {w : World} {B B' e size n : Nat} {v : Value} {xs : List Value} (h : w.ownsRow B e size v n xs) (hB : B' ≤ B) : w.ownsRow B' e size v n xs := by
  refine ⟨h.1, ?_⟩
  rcases h.2 with hn | ⟨g, cap, cur, rfl, hg, rest⟩
  · exact .inl hn
  · exact .inr ⟨g, cap, cur, rfl, by omega, rest⟩
theorem flags_shape {w : World} {B x n : Nat} {v : Value} (h : Flags w B v (bitsOf x (n + 1))) : ∃ g cap, v = .slice (some ⟨g, 0, none⟩) (n + 1) cap := by
  unfold Flags at h
  rw [bitsOf_length] at h
  exact own_shape h

theorem made_flags (w : World) (k : Nat) (hk : k ≤ 64) : (w.alloc (.cells (madeCells #[.bool false] k) 4)).ownsRow w.heap.size 4 1 (.slice (some ⟨w.heap.size, 0, none⟩) k k) k (boolVs (List.replicate k false)) := by
  have e' : (madeCells #[.bool false] k).toList = boolVs (List.replicate k false) := by rw [toList_madeCells_one, boolVs_rep]
  have hs : (madeCells #[Value.bool false] k).size = k := by
    have := congrArg List.length e'
    simpa [boolVs_length] using this
  refine ⟨by simp [boolVs_length], .inr ⟨w.heap.size, k, _, rfl, Nat.le_refl _, heap_alloc_new _ _, Nat.le_refl _, by unfold maxLen; omega, by rw [hs]; omega, ?_⟩⟩
  rw [Nat.mul_one, List.take_of_length_le (by rw [Array.length_toList, hs]; omega)]
  exact e'

set_option maxRecDepth 100000 in
set_option maxHeartbeats 400000 in
theorem rNat_less (u : Nat) (w : World) (hu : u < 18446744073709551615) :
    Calls Try.prog 101 #[.int .u64 (u : Int)] w fun e w' => ∃ v, e = .returned v ∧ Flags w' w.heap.size v (natBits u) ∧ Below w.heap.size w w' := by
  obtain ⟨i0, hi, hz0, hz1, hz2⟩ := info_parts Try.info4
  have CL := fun w => rLong_any (u + 1) w (by omega) (by omega)
  obtain ⟨k, hk⟩ : ∃ k, k = ahd u := ⟨_, rfl⟩
  have hk64 : k ≤ 63 := by
    rw [hk]; unfold ahd
    have := (Nat.log2_lt (n := u + 1) (k := 64) (by omega)).2 (by omega)
    omega
  have CL2 : ∀ w, Calls Try.prog 131 #[.int .u64 ((u : Int) + 1)] w fun e w' => e = .returned (.int .i64 ((k : Int) + 1)) ∧ w = w' := by
    intro w
    rw [hk]
    exact CL w
  have CW : ∀ w, Calls Try.prog 34 #[.int .u64 ((u : Int) + 1), .int .i64 ((k : Int) + 1)] w fun e w' => ∃ v, e = .returned v ∧ Flags w' w.heap.size v (bitsOf (u + 1) (k + 1)) ∧ Below w.heap.size w w' := fun w => rLow_any (u + 1) (k + 1) w (by omega) (by omega)
  have hm' : ((u : Int) == 18446744073709551615) = false := by simp; omega
  have hw : IntKind.u64.wrap ((u : Int) + 1) = (u : Int) + 1 := by rw [IntKind.wrap_u64]; omega
  have HN : Hid (natBits u = List.replicate k false ++ bitsOf (u + 1) (k + 1)) := by rw [hk]; rfl
  clear hk CL hu
  go_enter Try.func101, Try.ntmps101
  go_wp2_with fail
  refine (CL2 w).mono ?_
  rintro e w' ⟨rfl, rfl⟩
  clear CL2
  have hmk := run_make_row' (P := Try.prog) 55 4 (.bool false) 1 Try.underlying55 Try.info4 rfl .i64 .i64 k (by omega) (by omega)
  go_wp2_with fail
  have hk65 : k ≤ 64 := by omega
  have hwk : IntKind.i64.wrap ((k : Int) + 1) = (k : Int) + 1 := by rw [IntKind.wrap_i64]; omega
  go_region_law (first | (refine step_append_own rfl (.tmp 18) (.tmp 23) 55 rfl w.heap.size 4 i0 (.bool false) 1 1 Try.underlying55 hi hz0 hz1 hz2 rfl (by decide) (.slice (some ⟨w.heap.size, 0, none⟩) k k) k (boolVs (List.replicate k false)) (by simp [Act.eval]) HM1.out ⟨g, 0, none⟩ (k + 1) cp (boolVs (bitsOf (u + 1) (k + 1))) (by simp [Act.eval]) (by simp [boolVs_length, bitsOf_length]) (HF.out.cells (g := g) rfl) (boolVs_one _) (by unfold maxLen; omega) (by omega) (by have := HB.out.size; simp at this; omega) ?_; intro v' w' hown' hgrow'; have HO' := hide hown'; have HG' := hide hgrow'; clear hown' hgrow') | (refine step_append_own rfl (.tmp 18) (.tmp 23) 55 rfl w.heap.size 4 i0 (.bool false) 1 1 Try.underlying55 hi hz0 hz1 hz2 rfl (by decide) (.slice (some ⟨w2.heap.size, 0, none⟩) k k) k (boolVs (List.replicate k false)) (by simp [Act.eval]) (ownsRow_lower (made_flags w2 k hk65) (by have := HB.out.size; simpa using this)) ⟨g, 0, none⟩ (k + 1) cp (boolVs (bitsOf (u + 1) (k + 1))) (by simp [Act.eval]) (by simp [boolVs_length, bitsOf_length]) ((World.ownsRow.alloc HF.out _).cells (g := g) rfl) (boolVs_one _) (by unfold maxLen; omega) (by omega) (by have := HB.out.size; simp at this; simp; omega) ?_; intro v' w' hown' hgrow'; have HO' := hide hown'; have HG' := hide hgrow'; clear hown' hgrow') | (go_simp; go_at_call 34; refine (CW _).mono ?_; rintro e w2 ⟨v, rfl, hf, hb⟩; obtain ⟨g, cp, rfl⟩ := flags_shape hf; have HF := hide hf; have HB := hide hb; try (have HM1 := hide (ownsRow_below (ownsRow_drew (made_flags w k hk65)) hb (Nat.le_refl _))); clear hf hb))
  all_goals go_wp2
  all_goals go_ret
  all_goals
    refine ⟨_, rfl, ?_, ?_⟩
    · unfold Flags
      rw [HN.out, boolVs_append, List.length_append, List.length_replicate, bitsOf_length]
      exact HO'.out
  · have b1 := (((Below.refl w.heap.size w).alloc (Nat.le_refl _) (.cells (madeCells #[.bool false] k) 4)).drew).trans (HB.out.mono (by simp))
    exact b1.grown HG'.out b1.size (fun j hj => by simp [Value.ownBlock] at hj; omega)
  · have b1 := ((Below.refl w.heap.size w).drew).trans (HB.out.mono (Nat.le_refl _))
    have b2 := b1.alloc b1.size (.cells (madeCells #[.bool false] k) 4)
    exact b2.grown HG'.out b2.size (fun j hj => by simp [Value.ownBlock] at hj; have := b1.size; omega)

theorem rNat_any (u : Nat) (w : World) (hu : u < 2 ^ 64) :
    Calls Try.prog 101 #[.int .u64 (u : Int)] w fun e w' => ∃ v, e = .returned v ∧ Flags w' w.heap.size v (natBits u) ∧ Below w.heap.size w w' := by
  by_cases h : u = 18446744073709551615
  · subst h; exact rNat_max w
  · exact rNat_less u w (by omega)
end Go.Proofs.Ytppacelaeaaodaa
