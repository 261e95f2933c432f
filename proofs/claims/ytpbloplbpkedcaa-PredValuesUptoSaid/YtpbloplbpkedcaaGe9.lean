/- Contracts of Get: the value of a name: the program's call and the document's. -/
import Derived.Test.YtpbloplbpkedcaaAv
import Derived.Test.YtpbloplbpkedcaaLaw
namespace Go.Proofs.Ytpbloplbpkedcaa
open Go Go.RowKit

theorem cell_of_three {w : World} {q : Nat} {c0 c1 c2 : Value} {t : Nat} (h : w.heap[q]? = some (.cells #[c0, c1, c2] t (0, 0))) :
    w.cell? ⟨q, 0, none⟩ = some c0 ∧ w.cell? ⟨q, 1, none⟩ = some c1 ∧ w.cell? ⟨q, 2, none⟩ = some c2 := by
  refine ⟨?_, ?_, ?_⟩ <;> simp [World.cell?, h]
theorem free_of_three {w : World} {q : Nat} {c0 c1 c2 : Value} {t : Nat} (h : w.heap[q]? = some (.cells #[c0, c1, c2] t (0, 0))) :
    w.frozen? ⟨q, 0, none⟩ = false ∧ w.frozen? ⟨q, 1, none⟩ = false ∧ w.frozen? ⟨q, 2, none⟩ = false := by
  refine ⟨?_, ?_, ?_⟩ <;> simp [World.frozen?, h]

def isNm (nm : ByteArray) (x : At) : Bool := x.name.toList == nm.toList
def getV (xs : List At) (nm : ByteArray) : Value := match xs.find? (isNm nm) with | some x => .agg #[.int .i64 x.k, .int .i64 x.n, .string x.s] | none => .agg #[.int .i64 0, .int .i64 0, .string ⟨#[]⟩]
def getB (xs : List At) (nm : ByteArray) : Bool := (xs.find? (isNm nm)).isSome
theorem find_at {xs : List At} {nm : ByteArray} {k : Nat} (hk : k < xs.length) (h : ∀ j, j < k → isNm nm xs[j]! = false) (h2 : isNm nm xs[k]! = true) : xs.find? (isNm nm) = some xs[k]! := by
  rw [getElem!_pos xs k hk] at h2 ⊢
  rw [List.find?_eq_some_iff_getElem]
  refine ⟨h2, k, hk, rfl, fun j hj => ?_⟩
  have := h j hj
  rw [getElem!_pos xs j (by omega)] at this
  simp [this]
theorem find_no {xs : List At} {nm : ByteArray} (h : ∀ j, j < xs.length → isNm nm xs[j]! = false) : xs.find? (isNm nm) = none := by
  rw [List.find?_eq_none]
  intro x hx
  obtain ⟨i, hi, rfl⟩ := List.mem_iff_getElem.1 hx
  have := h i hi
  rw [getElem!_pos xs i hi] at this
  simp [this]

set_option maxRecDepth 100000 in
set_option maxHeartbeats 1600000 in
theorem vGet_any (B : Nat) (ao : Option Addr) (n cap : Nat) (xs : List At) (nm : ByteArray) (w : World) (h : Av w B (.slice ao n cap) xs) (hB : B ≤ w.heap.size) :
    Calls Try.prog 75 #[.slice ao n cap, .string nm] w fun e w' => e = .returned (.tuple #[getV xs nm, .bool (getB xs nm)]) ∧ Below w.heap.size w w' := by
  obtain ⟨hn, hn63⟩ := h.num
  have HH := Lib.hid h; have HN := Lib.hid hn
  obtain ⟨Q, hQ⟩ : ∃ Q, Q = w.heap.size := ⟨_, rfl⟩
  obtain ⟨W, hW⟩ : ∃ W, W = w.alloc (.cells #[.int .i64 0, .int .i64 0, .string ⟨#[]⟩] 23) := ⟨_, rfl⟩
  have hWQ : W.heap[Q]? = some (.cells #[.int .i64 0, .int .i64 0, .string ⟨#[]⟩] 23 (0, 0)) := by rw [hW, hQ]; exact heap_alloc_new _ _
  have hWs : W.heap.size = Q + 1 := by rw [hW, hQ]; simp
  have hWb : Below Q w W := by rw [hW, hQ]; exact (Below.refl _ _).alloc (Nat.le_refl _) _
  have hBQ : B ≤ Q := by omega
  have HQ := Lib.hid hQ; have HW := Lib.hid hW; have HWQ := Lib.hid hWQ; have HWS := Lib.hid hWs; have HWB := Lib.hid hWb
  rw [← hQ]
  clear h hn hQ hW hWQ hWs hWb hB
  go_enter Try.func75, Try.ntmps75
  go_wp2_with fail
  rw [← HW.out, ← HQ.out]
  go_loopw [10] (fun i wr => ∃ k : Nat, k ≤ n ∧ i = .int .i64 k ∧ Hid (∀ j, j < k → isNm nm xs[j]! = false) ∧ Below (Q + 1) W wr) (fun i _ => n - (intOf i).toNat)
  case atStart => exact ⟨0, Nat.zero_le _, rfl, fun j hj => absurd hj (Nat.not_lt_zero _), Below.refl _ _⟩
  case round =>
    obtain ⟨k, hk, rfl, HK, hb⟩ := hrel
    have HB := Lib.hid hb
    have hqb : wr.heap[Q]? = some (.cells #[.int .i64 0, .int .i64 0, .string ⟨#[]⟩] 23 (0, 0)) := (hb.block Q (by omega)).trans HWQ.out
    obtain ⟨q0, q1, q2⟩ := cell_of_three hqb
    obtain ⟨f0, f1, f2⟩ := free_of_three hqb
    have hqs : Q + 1 ≤ wr.heap.size := by have := hb.size; have := HWS.out; omega
    have HBB : Hid (Below Q w wr) := HWB.out.trans (hb.mono (by omega))
    clear hb hqb
    by_cases hlt : k < n
    · obtain ⟨b, o, rfl, hbB, hnx, hnc, hcap, hc⟩ := HH.out.at (by omega)
      have hkz : (0 : Int) ≤ (k : Int) := by omega
      obtain ⟨x, hx⟩ : ∃ x, x = xs[k]! := ⟨_, rfl⟩
      obtain ⟨a0, a1, a2, a3⟩ := four_cells (w := wr) (b := b) (a := o + k * 4) (x := x) (fun i u hu => (HBB.out.cell (p := ⟨b, _, none⟩) (by show b < Q; omega)).trans (hc k (by have := HN.out; omega) i u (by rw [← hx]; exact hu)))
      have HX := Lib.hid hx
      have hbw : b < wr.heap.size := by omega
      have hQw : Q < wr.heap.size := by omega
      clear hc hx hnx
      have hne : b ≠ wr.heap.size := by omega
      have hne2 : Q ≠ wr.heap.size := by omega
      cases hq : x.name.toList == nm.toList with
      | true =>
        have HF : Hid (xs.find? (isNm nm) = some x) := by have h2 := find_at (by have := HN.out; omega) HK.out (show isNm nm xs[k]! = true by rw [← HX.out]; exact hq); rw [← HX.out] at h2; exact h2
        have HG : Hid (getV xs nm = .agg #[.int .i64 x.k, .int .i64 x.n, .string x.s] ∧ getB xs nm = true) := by unfold getV getB; rw [HF.out]; exact ⟨rfl, rfl⟩
        go_wp2
        refine bodyPost_ret (v := .tuple #[.agg #[.int .i64 x.k, .int .i64 x.n, .string x.s], .bool true]) (by simp [results, Try.results75, go_sem, q0, q1, q2, hQw]) rfl ⟨by rw [HG.out.1, HG.out.2], ?_⟩
        repeat (first | exact HBB.out | exact HBB.out.alloc (by omega) _ | refine Below.alloc ?_ (by simp; omega) _ | refine Below.setCell ?_ (by first | exact Nat.le_refl _ | (simp; done) | (simp; omega)) _)
      | false =>
        have HK2 : Hid (∀ j, j < k + 1 → isNm nm xs[j]! = false) := fun j hj => (Nat.lt_succ_iff_lt_or_eq.1 hj).elim (fun h => HK.out j h) (fun h => by rw [h, ← HX.out]; exact hq)
        go_wp2
        go_roundw
        case rel => exact ⟨k + 1, by omega, by go_num, HK2, HB.out.alloc hqs _⟩
        case measure => simp [intOf]; omega
    · have HF : Hid (xs.find? (isNm nm) = none) := find_no (fun j hj => HK.out j (by have := HN.out; omega))
      have HG : Hid (getV xs nm = .agg #[.int .i64 0, .int .i64 0, .string ⟨#[]⟩] ∧ getB xs nm = false) := by unfold getV getB; rw [HF.out]; exact ⟨rfl, rfl⟩
      have hQw : Q < wr.heap.size := by omega
      go_wp2
      refine bodyPost_ret (v := .tuple #[.agg #[.int .i64 0, .int .i64 0, .string ⟨#[]⟩], .bool false]) (by simp [results, Try.results75, go_sem, q0, q1, q2]) rfl ⟨by rw [HG.out.1, HG.out.2], ?_⟩
      repeat (first | exact HBB.out | exact HBB.out.alloc (by omega) _ | refine Below.alloc ?_ (by simp; omega) _ | refine Below.setCell ?_ (by first | exact Nat.le_refl _ | (simp; done) | (simp; omega)) _)

set_option maxRecDepth 100000 in
set_option maxHeartbeats 1600000 in
theorem r3Get_any (B : Nat) (ao : Option Addr) (n cap : Nat) (xs : List At) (nm : ByteArray) (w : World) (h : Av w B (.slice ao n cap) xs) (hB : B ≤ w.heap.size) :
    Calls Try.prog 78 #[.slice ao n cap, .string nm] w fun e w' => e = .returned (.tuple #[getV xs nm, .bool (getB xs nm)]) ∧ Below w.heap.size w w' := by
  obtain ⟨hn, hn63⟩ := h.num
  have HH := Lib.hid h; have HN := Lib.hid hn
  obtain ⟨Q, hQ⟩ : ∃ Q, Q = w.heap.size := ⟨_, rfl⟩
  obtain ⟨W, hW⟩ : ∃ W, W = w.alloc (.cells #[.int .i64 0, .int .i64 0, .string ⟨#[]⟩] 23) := ⟨_, rfl⟩
  have hWQ : W.heap[Q]? = some (.cells #[.int .i64 0, .int .i64 0, .string ⟨#[]⟩] 23 (0, 0)) := by rw [hW, hQ]; exact heap_alloc_new _ _
  have hWs : W.heap.size = Q + 1 := by rw [hW, hQ]; simp
  have hWb : Below Q w W := by rw [hW, hQ]; exact (Below.refl _ _).alloc (Nat.le_refl _) _
  have hBQ : B ≤ Q := by omega
  have HQ := Lib.hid hQ; have HW := Lib.hid hW; have HWQ := Lib.hid hWQ; have HWS := Lib.hid hWs; have HWB := Lib.hid hWb
  rw [← hQ]
  clear h hn hQ hW hWQ hWs hWb hB
  go_enter Try.func78, Try.ntmps78
  go_wp2_with fail
  rw [← HW.out, ← HQ.out]
  go_loopw [6] (fun i wr => ∃ k : Nat, k ≤ n ∧ i = .int .i64 k ∧ Hid (∀ j, j < k → isNm nm xs[j]! = false) ∧ Below (Q + 1) W wr) (fun i _ => n - (intOf i).toNat)
  case atStart => exact ⟨0, Nat.zero_le _, rfl, fun j hj => absurd hj (Nat.not_lt_zero _), Below.refl _ _⟩
  case round =>
    obtain ⟨k, hk, rfl, HK, hb⟩ := hrel
    have HB := Lib.hid hb
    have hqb : wr.heap[Q]? = some (.cells #[.int .i64 0, .int .i64 0, .string ⟨#[]⟩] 23 (0, 0)) := (hb.block Q (by omega)).trans HWQ.out
    obtain ⟨q0, q1, q2⟩ := cell_of_three hqb
    obtain ⟨f0, f1, f2⟩ := free_of_three hqb
    have hqs : Q + 1 ≤ wr.heap.size := by have := hb.size; have := HWS.out; omega
    have HBB : Hid (Below Q w wr) := HWB.out.trans (hb.mono (by omega))
    clear hb hqb
    by_cases hlt : k < n
    · obtain ⟨b, o, rfl, hbB, hnx, hnc, hcap, hc⟩ := HH.out.at (by omega)
      have hkz : (0 : Int) ≤ (k : Int) := by omega
      obtain ⟨x, hx⟩ : ∃ x, x = xs[k]! := ⟨_, rfl⟩
      obtain ⟨a0, a1, a2, a3⟩ := four_cells (w := wr) (b := b) (a := o + k * 4) (x := x) (fun i u hu => (HBB.out.cell (p := ⟨b, _, none⟩) (by show b < Q; omega)).trans (hc k (by have := HN.out; omega) i u (by rw [← hx]; exact hu)))
      have HX := Lib.hid hx
      have hbw : b < wr.heap.size := by omega
      have hQw : Q < wr.heap.size := by omega
      clear hc hx hnx
      cases hq : x.name.toList == nm.toList with
      | true =>
        have HF : Hid (xs.find? (isNm nm) = some x) := by have h2 := find_at (by have := HN.out; omega) HK.out (show isNm nm xs[k]! = true by rw [← HX.out]; exact hq); rw [← HX.out] at h2; exact h2
        have HG : Hid (getV xs nm = .agg #[.int .i64 x.k, .int .i64 x.n, .string x.s] ∧ getB xs nm = true) := by unfold getV getB; rw [HF.out]; exact ⟨rfl, rfl⟩
        go_wp2
        refine bodyPost_ret (v := .tuple #[.agg #[.int .i64 x.k, .int .i64 x.n, .string x.s], .bool true]) (by simp [results, Try.results78, go_sem, q0, q1, q2]) rfl ⟨by rw [HG.out.1, HG.out.2], ?_⟩
        repeat (first | exact HBB.out | exact HBB.out.alloc (by omega) _ | refine Below.alloc ?_ (by simp; omega) _ | refine Below.setCell ?_ (by first | exact Nat.le_refl _ | (simp; done) | (simp; omega)) _)
      | false =>
        have HK2 : Hid (∀ j, j < k + 1 → isNm nm xs[j]! = false) := fun j hj => (Nat.lt_succ_iff_lt_or_eq.1 hj).elim (fun h => HK.out j h) (fun h => by rw [h, ← HX.out]; exact hq)
        go_wp2
        go_roundw
        case rel => exact ⟨k + 1, by omega, by go_num, HK2, HB.out⟩
        case measure => simp [intOf]; omega
    · have HF : Hid (xs.find? (isNm nm) = none) := find_no (fun j hj => HK.out j (by have := HN.out; omega))
      have HG : Hid (getV xs nm = .agg #[.int .i64 0, .int .i64 0, .string ⟨#[]⟩] ∧ getB xs nm = false) := by unfold getV getB; rw [HF.out]; exact ⟨rfl, rfl⟩
      have hQw : Q < wr.heap.size := by omega
      go_wp2
      refine bodyPost_ret (v := .tuple #[.agg #[.int .i64 0, .int .i64 0, .string ⟨#[]⟩], .bool false]) (by simp [results, Try.results78, go_sem, q0, q1, q2]) rfl ⟨by rw [HG.out.1, HG.out.2], ?_⟩
      repeat (first | exact HBB.out | exact HBB.out.alloc (by omega) _ | refine Below.alloc ?_ (by simp; omega) _ | refine Below.setCell ?_ (by first | exact Nat.le_refl _ | (simp; done) | (simp; omega)) _)

end Go.Proofs.Ytpbloplbpkedcaa
