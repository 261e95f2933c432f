/- What a source of the document's own answers is in memory; the contracts of value, Bits, Nat of it. -/
import Derived.Test.YtiljekpfkkocnaaRefm
import Derived.Test.YtiljekpfkkocnaaRnat
namespace Go.Proofs.Ytiljekpfkkocnaa
open Go Go.RowKit

def refT (e : Nat) : Bool := e == 60

/-- In w the block q is a source of the document's answers, to which the bits l are left. -/
structure RefIs (w : World) (B q : Nat) (l : List Bool) : Prop where
  from_ : B ≤ q
  len : l.length ≤ 1125899906842624
  row : ∃ ao cap, w.heap[q]? = some (.cells #[.slice ao l.length cap] 60 (0, 0)) ∧ l.length ≤ cap ∧ (ao = none → cap = 0) ∧
    ∀ a, ao = some a → a.spot = none ∧ ∃ cur, w.heap[a.block]? = some (.cells cur 4 (0, 0)) ∧ ∀ j, j < l.length → cur[a.off + j]? = some (.bool (l.getD j false))

/-- What a call of the document's source keeps: all but its own block. -/
structure KeptR (B q : Nat) (w w' : World) : Prop where
  kept : Kept B refT w w'
  only : ∀ k, k < w.heap.size → k ≠ q → w'.heap[k]? = w.heap[k]?
theorem KeptR.refl (B q : Nat) (w : World) : KeptR B q w w := ⟨Kept.refl _ _ _, fun _ _ _ => rfl⟩
theorem KeptR.trans {B q : Nat} {a b c : World} (h : KeptR B q a b) (k : KeptR B q b c) : KeptR B q a c :=
  ⟨h.kept.trans k.kept, fun i hi hq => (k.only i (Nat.lt_of_lt_of_le hi h.kept.below.size) hq).trans (h.only i hi hq)⟩
theorem KeptR.mono {B q B' : Nat} {T' : Nat → Bool} {w w' : World} (h : KeptR B q w w') (hB : B' ≤ B) (hT : ∀ e, T' e = false → refT e = false) : Kept B' T' w w' := h.kept.mono hB hT
theorem KeptR.below {B q : Nat} {w w' : World} (h : KeptR B q w w') : Below B w w' := h.kept.below
theorem KeptR.typed {B q : Nat} {w w' : World} (h : KeptR B q w w') (k : Nat) (cs : Array Value) (e : Nat) (fr : Nat × Nat) (h1 : w.heap[k]? = some (.cells cs e fr)) (h2 : refT e = false) : w'.heap[k]? = some (.cells cs e fr) := h.kept.typed k cs e fr h1 h2
theorem KeptR.ownsRow {B q : Nat} {w w' : World} (h : KeptR B q w w') {B0 e size n : Nat} {v : Value} {xs : List Value} (hown : w.ownsRow B0 e size v n xs) (ht : refT e = false) : w'.ownsRow B0 e size v n xs := h.kept.ownsRow hown ht
theorem KeptR.drew {B q : Nat} {a w : World} (h : KeptR B q a w) : KeptR B q a w.drew := ⟨h.kept.drew, fun k h1 h2 => h.only k h1 h2⟩
theorem KeptR.drewN {B q : Nat} {a w : World} (h : KeptR B q a w) (n : Nat) : KeptR B q a (w.drewN n) := ⟨h.kept.drewN n, fun k h1 h2 => h.only k h1 h2⟩
theorem KeptR.alloc {B q : Nat} {a w : World} (h : KeptR B q a w) (hB : B ≤ w.heap.size) (o : Obj) : KeptR B q a (w.alloc o) :=
  ⟨h.kept.alloc hB o, fun k h1 h2 => by rw [Below.heap_alloc _ _ _ (Nat.lt_of_lt_of_le h1 h.kept.below.size)]; exact h.only k h1 h2⟩
theorem RefIs.kept {w w' : World} {B B' q : Nat} {l : List Bool} {T : Nat → Bool} (h : RefIs w B q l) (hk : Kept B' T w w') (h1 : T 60 = false) (h2 : T 4 = false) : RefIs w' B q l := by
  obtain ⟨ao, cap, hq, hc, hn, hr⟩ := h.row
  refine ⟨h.from_, h.len, ao, cap, hk.typed _ _ _ _ hq h1, hc, hn, fun a ha => ?_⟩
  obtain ⟨hs, cur, hg, hj⟩ := hr a ha
  exact ⟨hs, cur, hk.typed _ _ _ _ hg h2, hj⟩
theorem RefIs.below {w w' : World} {B B' q : Nat} {l : List Bool} (h : RefIs w B q l) (hb : Below B' w w') (hB : w.heap.size ≤ B') : RefIs w' B q l := by
  obtain ⟨ao, cap, hq, hc, hn, hr⟩ := h.row
  refine ⟨h.from_, h.len, ao, cap, ?_, hc, hn, fun a ha => ?_⟩
  · rw [hb.block q (by have := lt_of_block hq; omega)]; exact hq
  · obtain ⟨hs, cur, hg, hj⟩ := hr a ha
    exact ⟨hs, cur, by rw [hb.block a.block (by have := lt_of_block hg; omega)]; exact hg, hj⟩
theorem RefIs.lt {w : World} {B q : Nat} {l : List Bool} (h : RefIs w B q l) : q < w.heap.size := by
  obtain ⟨ao, cap, hq, _⟩ := h.row
  exact lt_of_block hq
/-- As the walk wants it: no bit, or an address with its cells. -/
theorem RefIs.open {w : World} {B q : Nat} {l : List Bool} (h : RefIs w B q l) :
    (l = [] ∧ ∃ ao cap, w.cell? ⟨q, 0, none⟩ = some (.slice ao 0 cap) ∧ (ao = none → cap = 0) ∧ (∀ a, ao = some a → a.spot = none)) ∨
    (∃ b o cap, w.cell? ⟨q, 0, none⟩ = some (.slice (some ⟨b, o, none⟩) l.length cap) ∧ l.length ≤ cap ∧ 0 < l.length ∧ ∀ j, j < l.length → w.cell? ⟨b, o + j, none⟩ = some (.bool (l.getD j false))) := by
  obtain ⟨ao, cap, hq, hc, hn, hr⟩ := h.row
  have h0 := cell_of_one hq
  rcases Nat.eq_zero_or_pos l.length with hl | hl
  · refine .inl ⟨List.length_eq_zero_iff.1 hl, ao, cap, by rw [h0, hl], hn, fun a ha => (hr a ha).1⟩
  · cases ao with
    | none => have := hn rfl; omega
    | some a =>
      obtain ⟨hs, cur, hg, hj⟩ := hr a rfl
      obtain ⟨b, o, sp⟩ := a
      simp only at hs hg hj
      subst hs
      refine .inr ⟨b, o, cap, h0, hc, hl, fun j hj' => ?_⟩
      rw [cell_of_row w b (o + j) cur 4 (0, 0) hg]
      exact hj j hj'
/-- A store of what is left behind the first k bits. -/
theorem RefIs.moved {w : World} {B q : Nat} {l : List Bool} (h : RefIs w B q l) (k : Nat) (hk : k ≤ l.length) {b o cap : Nat} (h0 : w.cell? ⟨q, 0, none⟩ = some (.slice (some ⟨b, o, none⟩) l.length cap)) (v : Value)
    (hv : (cap = k ∧ v = .slice (some ⟨b, o, none⟩) (l.length - k) (cap - k)) ∨ v = .slice (some ⟨b, o + k, none⟩) (l.length - k) (cap - k)) : RefIs (w.setCell ⟨q, 0, none⟩ v) B q (l.drop k) := by
  obtain ⟨ao, cap', hq, hc, hn, hr⟩ := h.row
  have h1 := cell_of_one hq
  rw [h0] at h1
  simp only [Option.some.injEq, Value.slice.injEq, true_and] at h1
  obtain ⟨rfl, rfl⟩ := h1
  obtain ⟨hs, cur, hg, hj⟩ := hr _ rfl
  have hne : b ≠ q := by
    rintro rfl
    rw [hq] at hg
    simp only [Option.some.injEq, Obj.cells.injEq] at hg
    exact absurd hg.2.1 (by decide)
  have hg' : (w.setCell ⟨q, 0, none⟩ v).heap[b]? = some (.cells cur 4 (0, 0)) := by
    rw [Below.heap_setCell _ _ _ _ hne]; exact hg
  rcases hv with ⟨hck, rfl⟩ | rfl
  · refine ⟨h.from_, by have := h.len; simp; omega, some ⟨b, o, none⟩, cap - k, ?_, by simp; omega, (fun h => by cases h), fun a ha => ?_⟩
    · rw [one_setCell hq]; simp
    · simp only [Option.some.injEq] at ha; subst ha
      exact ⟨rfl, cur, hg', fun j hj' => by simp at hj'; omega⟩
  · refine ⟨h.from_, by have := h.len; simp; omega, some ⟨b, o + k, none⟩, cap - k, ?_, by simp; omega, (fun h => by cases h), fun a ha => ?_⟩
    · rw [one_setCell hq]; simp
    · simp only [Option.some.injEq] at ha; subst ha
      refine ⟨rfl, cur, hg', fun j hj' => ?_⟩
      simp at hj'
      have := hj (k + j) (by omega)
      rw [show o + k + j = o + (k + j) by omega]
      simp only at this
      rw [this]
      simp [List.getD, List.getElem?_drop]
theorem RefIs.keeps {w : World} {B q : Nat} {l : List Bool} (h : RefIs w B q l) (u : Value) : KeptR B q w (w.setCell ⟨q, 0, none⟩ u) := by
  obtain ⟨ao, cap, hq, _⟩ := h.row
  exact ⟨(Kept.refl _ _ _).setCell h.from_ hq rfl u, fun k _ hk => Below.heap_setCell _ _ _ _ hk⟩
theorem RefIs.free {w : World} {B q : Nat} {l : List Bool} (h : RefIs w B q l) : w.frozen? ⟨q, 0, none⟩ = false := by
  obtain ⟨ao, cap, hq, _⟩ := h.row
  exact free_of_one hq

theorem valBits_take_succ (l : List Bool) (k : Nat) (h : k < l.length) : valBits (l.take (k + 1)) = 2 * valBits (l.take k) + (l.getD k false).toNat := by
  rw [List.take_succ_eq_append_getElem h, valBits_snoc]
  simp [List.getD, h]

set_option maxRecDepth 100000 in
theorem rValue_any (b o cap : Nat) (l : List Bool) (w : World) (hl : l.length ≤ 64) (hc : ∀ j, j < l.length → w.cell? ⟨b, o + j, none⟩ = some (.bool (l.getD j false))) :
    Calls Try.prog 125 #[.slice (some ⟨b, o, none⟩) l.length cap] w fun e w' => e = .returned (.int .u64 ((valBits l : Nat) : Int)) ∧ w = w' := by
  obtain ⟨N, hN⟩ : ∃ N, N = l.length := ⟨_, rfl⟩
  rw [← hN] at hl ⊢
  have HC := hide hc; clear hc
  have HN := hide hN; clear hN
  go_enter Try.func125, Try.ntmps125
  go_wp2
  go_loop [3, 4] (fun u i => ∃ k : Nat, k ≤ N ∧ i = .int .i64 k ∧ u = .int .u64 ((valBits (l.take k) : Nat) : Int)) (fun _ i => N - (intOf i).toNat)
  case atStart => exact ⟨0, Nat.zero_le _, rfl, rfl⟩
  case round =>
    obtain ⟨k, hk, rfl, rfl⟩ := hrel
    by_cases hlt : k < N
    · have hcell := HC.out k (by rw [← HN.out]; exact hlt)
      have HS := hide (valBits_take_succ l k (by rw [← HN.out]; exact hlt))
      have hV := valBits_lt (l.take k)
      have hV2 : (l.take k).length ≤ 63 := by simp; omega
      have hV3 := Nat.pow_le_pow_right (n := 2) (by omega) hV2
      obtain ⟨V, hVV⟩ : ∃ V, V = valBits (l.take k) := ⟨_, rfl⟩
      rw [← hVV] at hV ⊢
      have hV4 : (V : Int) ≤ 9223372036854775807 := by omega
      have HV := hide hVV; clear hVV hV hV2 hV3
      cases hb : l.getD k false with
      | true =>
        rw [hb] at hcell
        have HB := hide hb; clear hb
        go_wp2
        go_round
        case rel => exact ⟨k + 1, by omega, by go_num, by rw [HS.out, HB.out, ← HV.out]; simp only [Bool.toNat_true]; go_num⟩
        case measure => simp [intOf]; omega
      | false =>
        rw [hb] at hcell
        have HB := hide hb; clear hb
        go_wp2
        go_round
        case rel => exact ⟨k + 1, by omega, by go_num, by rw [HS.out, HB.out, ← HV.out]; simp only [Bool.toNat_false]; go_num⟩
        case measure => simp [intOf]; omega
    · go_wp2
      go_ret
      obtain rfl : k = N := by omega
      rw [List.take_of_length_le (by rw [← HN.out]; omega)]
      exact ⟨rfl, rfl⟩

theorem rValue_nil (ao : Option Addr) (cap : Nat) (w : World) :
    Calls Try.prog 125 #[.slice ao 0 cap] w fun e w' => e = .returned (.int .u64 0) ∧ w = w' := by
  go_enter Try.func125, Try.ntmps125
  go_wp2
  refine wp_loop_rounds 1 ?_
  rw [rounds_succ]
  go_wp2
  go_ret
  exact ⟨rfl, rfl⟩
end Go.Proofs.Ytiljekpfkkocnaa
