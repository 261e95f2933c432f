/- Contract of Text of the document's own source. -/
import Derived.Test.YtebojmjbolphfaaSnum2
import Derived.Laws.BytesArg
namespace Go.Proofs.Ytebojmjbolphfaa
open Go Go.RowKit

def textStr (l : List Bool) : ByteArray := strOfNums ((textBytesL l).map fun x : Nat => (x : Int))

/-- An append onto a row that was made since: of the older blocks nothing turns. -/
theorem Kept.grown_fresh {B : Nat} {T : Nat → Bool} {a w w' : World} (h : Kept B T a w) {B0 e size n : Nat} {v : Value} {xs : List Value} (hown : w.ownsRow B0 e size v n xs) (hg : w.grownBy w' v.ownBlock) (hB : B ≤ w.heap.size) (hB0 : B ≤ B0) (hB1 : a.heap.size ≤ B0) : Kept B T a w' :=
  ⟨h.below.grown hg hB (fun k hk => Nat.le_trans hB0 (hown.lt k hk).1), fun k cs e1 fr hk ht => by
    have hh := h.typed k cs e1 fr hk ht
    rw [hg.block k (lt_of_block hh) ?_]; · exact hh
    intro hk2
    have h1 := hown.lt k hk2.symm
    have h2 := lt_of_block hk
    omega⟩
theorem Kept.setCell_fresh {B : Nat} {T : Nat → Bool} {a w : World} (h : Kept B T a w) {p : Addr} (hp : B ≤ p.block) (h1 : a.heap.size ≤ p.block) (u : Value) : Kept B T a (w.setCell p u) :=
  ⟨h.below.setCell hp u, fun k cs e fr hk ht => by
    have hh := h.typed k cs e fr hk ht
    have hne : k ≠ p.block := by have := lt_of_block hk; omega
    rw [Below.heap_setCell _ _ _ _ hne]; exact hh⟩
theorem RefIs.grown {w w' : World} {B q : Nat} {l : List Bool} (h : RefIs w B q l) {B0 e size n : Nat} {v : Value} {xs : List Value} (hown : w.ownsRow B0 e size v n xs) (he1 : 77 ≠ e) (he2 : 4 ≠ e) (hg : w.grownBy w' v.ownBlock) : RefIs w' B q l := by
  obtain ⟨ao, cap, hq, hc, hn, hr⟩ := h.row
  refine ⟨h.from_, h.len, ao, cap, grow_keeps hq hown he1 hg rfl, hc, hn, fun a ha => ?_⟩
  obtain ⟨hs, cur, hg2, hj⟩ := hr a ha
  exact ⟨hs, cur, grow_keeps hg2 hown he2 hg rfl, hj⟩
theorem RefIs.alloc {w : World} {B q : Nat} {l : List Bool} (h : RefIs w B q l) (o : Obj) : RefIs (w.alloc o) B q l :=
  h.below ((Below.refl w.heap.size w).alloc (Nat.le_refl _) o) (Nat.le_refl _)
/-- What was loaded before is stored back: it stands where it stood. -/
theorem RefIs.restored {w w1 : World} {B B' q : Nat} {l l1 : List Bool} (h : RefIs w B q l) (hk : Kept B' refT w w1) (h1 : RefIs w1 B q l1) {v : Value} (h0 : w.cell? ⟨q, 0, none⟩ = some v) : RefIs (w1.setCell ⟨q, 0, none⟩ v) B q l := by
  obtain ⟨ao, cap, hq, hc, hn, hr⟩ := h.row
  obtain ⟨ao1, cap1, hq1, _⟩ := h1.row
  have h2 := cell_of_one hq
  rw [h0] at h2
  simp only [Option.some.injEq] at h2
  subst h2
  refine ⟨h.from_, h.len, ao, cap, one_setCell hq1, hc, hn, fun a ha => ?_⟩
  obtain ⟨hs, cur, hg, hj⟩ := hr a ha
  refine ⟨hs, cur, ?_, hj⟩
  have hg1 := hk.typed _ _ _ _ hg (by decide)
  have hne : a.block ≠ q := by
    rintro rfl
    rw [hq1] at hg1
    simp only [Option.some.injEq, Obj.cells.injEq] at hg1
    exact absurd hg1.2.1 (by decide)
  rw [Below.heap_setCell _ _ _ _ hne]; exact hg1

theorem conv_own {w : World} {B n : Nat} {v : Value} {bytes : List Nat} (h : w.ownsRow B 5 1 v n (byteVs bytes)) (hn : bytes.length = n) :
    (convert 22 9 v).run Try.prog w = .ok (.string (strOfNums (bytes.map fun x : Nat => (x : Int)))) w := by
  subst hn
  rcases h.2 with ⟨hv, hn0⟩ | ⟨g, cap, cur, hv, hg, hgg, hgn, hcapm, hcsz, htake⟩
  · subst hv
    obtain rfl : bytes = [] := List.length_eq_zero_iff.1 hn0
    exact run_convert_bytes_nil w 22 5 Try.underlying22 Try.underlying5 0 0 9 Try.underlying9
  · subst hv
    refine run_convert_bytes_arg w 22 5 Try.underlying22 Try.underlying5 g 0 bytes.length cap _ (by simp) (fun i hi => ?_) 9 Try.underlying9
    have := h.cells (g := g) rfl i (.int .u8 ((bytes.getD i 0 : Nat) : Int)) (by simp [byteVs, hi])
    rw [add_off] at this
    rw [Nat.zero_add, this]
    simp [List.getD, hi]

theorem chunk_eq (l : List Bool) (i : Nat) : bitsVal (l.drop (8 * i)) 8 = if 8 * i + 8 ≤ l.length then chunk l i else 0 := by
  unfold bitsVal chunk
  by_cases h : 8 * i + 8 ≤ l.length
  · rw [if_pos h, if_pos]; · rfl
    exact bitsErr_ok (n := 8) (by omega) (by simp; omega)
  · rw [if_neg h, if_neg]
    rw [bitsErr_ends (n := 8) (by omega) (by simp; omega)]
    decide

end Go.Proofs.Ytebojmjbolphfaa
