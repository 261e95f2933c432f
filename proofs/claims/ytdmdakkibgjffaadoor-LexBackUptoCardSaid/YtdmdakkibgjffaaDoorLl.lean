/- Contract of live: words that the document fixes. -/
import Derived.Test.YtdmdakkibgjffaaDoorLs
import Derived.Deep.AppendLies
namespace Go.Proofs.YtdmdakkibgjffaaDoor
open Go Go.RowKit

def liveA : ByteArray := ⟨#[97, 60, 61, 45, 53, 32, 35, 32, 99]⟩
def liveB : ByteArray := ⟨#[97, 33]⟩
def tkA : Tok := ⟨1, ⟨#[97]⟩, 0, 0, ⟨#[]⟩, 0⟩
def tkB : Tok := ⟨4, ⟨#[60, 61]⟩, 0, 0, ⟨#[]⟩, 1⟩
def tkC : Tok := ⟨2, ⟨#[45, 53]⟩, 1, -5, ⟨#[]⟩, 3⟩
theorem itoa_m5 : ([45, 53] : List UInt8) = textL 1 (-5) [] := by
  first | decide +kernel | rfl
theorem wdsA : Wds liveA.data.toList (nx liveA.data.toList 0) [tkA, tkB, tkC] 9 := by
  have h1 : Wd ((0 : Nat) : Int) (liveA.data.toList.drop 0) (some tkA) := Wd.name (p := ((0 : Nat) : Int)) (l := liveA.data.toList.drop 0) (by decide +kernel) (by decide +kernel)
  have h2 : Wd ((1 : Nat) : Int) (liveA.data.toList.drop 1) (some tkB) := Wd.sym (p := ((1 : Nat) : Int)) (l := liveA.data.toList.drop 1) (by decide +kernel) (by decide +kernel)
  have h3 : Wd ((3 : Nat) : Int) (liveA.data.toList.drop 3) (some tkC) := Wd.val (p := ((3 : Nat) : Int)) (l := liveA.data.toList.drop 3) (k := 1) (n := -5) (t := ⟨#[]⟩) (.inl (by decide +kernel)) ⟨rfl, by unfold inW; omega, itoa_m5⟩
  refine Wds.go (p := 0) (by decide) h1 (Wds.go (p := 1) (by decide) h2 (Wds.go (p := 3) (by decide) h3 ?_))
  exact Wds.fin
theorem wdsB : Wds liveB.data.toList (nx liveB.data.toList 0) [tkA] 1 := by
  have h1 : Wd ((0 : Nat) : Int) (liveB.data.toList.drop 0) (some tkA) := Wd.name (p := ((0 : Nat) : Int)) (l := liveB.data.toList.drop 0) (by decide +kernel) (by decide +kernel)
  exact Wds.go (p := 0) (by decide) h1 (Wds.stuck (p := 1) (by decide) (Wd.nosym (by decide +kernel) (by decide +kernel)))

theorem row_cell {w : World} {base : Nat} {e : TypeId} {g n cap : Nat} {xs : List Value} (h : w.ownsRow base e 6 (.slice (some ⟨g, 0, none⟩) n cap) n xs) (j : Nat) (u : Value) (hu : xs[j]? = some u) : w.cell? ⟨g, j, none⟩ = some u := by
  have hx := h.1
  have hj : j < n * 6 := by rw [← hx]; exact (List.getElem?_eq_some_iff.1 hu).1
  rw [h.cellAt j hj]; exact hu

theorem scanA (w : World) (hE : ErrV w) : Calls Tryd.prog 7 #[.string ⟨#[97, 60, 61, 45, 53, 32, 35, 32, 99]⟩] w fun e w' => ∃ g cap, e = .returned (.tuple #[.slice (some ⟨g, 0, none⟩) 3 cap, .int .i64 0, .int .i64 0]) ∧ g < w'.heap.size ∧
    w'.cell? ⟨g, 7, none⟩ = some (.string ⟨#[60, 61]⟩) ∧ w'.cell? ⟨g, 15, none⟩ = some (.int .i64 (-5)) ∧ w'.cell? ⟨g, 17, none⟩ = some (.int .i64 3) ∧ Below w.heap.size w w' :=
  (lScan_any liveA (by decide) _ _ wdsA w hE).mono fun e w' h => by
    obtain ⟨v, he, hrow⟩ := h.2.2.1 (by decide) (by decide)
    obtain ⟨g, cap, rfl, _, hgl⟩ := hrow.form (by decide)
    exact ⟨g, cap, he, hgl, row_cell hrow 7 _ rfl, row_cell hrow 15 _ rfl, row_cell hrow 17 _ rfl, h.2.2.2⟩
theorem scanB (w : World) (hE : ErrV w) : Calls Tryd.prog 7 #[.string ⟨#[97, 33]⟩] w fun e w' => e = .returned (.tuple #[.slice none 0 0, .int .i64 1, .int .i64 50]) ∧ Below w.heap.size w w' :=
  (lScan_any liveB (by decide) _ _ wdsB w hE).mono fun e w' h => ⟨h.2.1 (by decide) (by decide), h.2.2.2⟩
set_option maxRecDepth 100000 in
set_option maxHeartbeats 2000000 in
theorem live5_any (w : World) (hE : ErrV w) : Calls Tryd.prog 9 #[] w fun e w' => e = .returned (.bool true) ∧ Below w.heap.size w w' := by
  have hsB : symB (⟨#[62, 61]⟩ : ByteArray).data.toList = true := by decide
  have hS := fun w => lSymbol_any ⟨#[62, 61]⟩ w
  rw [hsB] at hS
  go_enter Tryd.func9, Tryd.ntmps9
  go_wp2_with (first
    | (go_at_call 7; with_reducible refine (scanA _ hE).mono ?_; rintro e w1 ⟨g, cap, rfl, hgl, e1, e2, e3, hb1⟩; have hE1 := hE.keep hb1)
    | (go_at_call 7; with_reducible refine (scanB _ hE1).mono ?_; rintro e w2 ⟨rfl, hb2⟩; have hbw := hb1.trans (hb2.mono hb1.size); have c1 := (hb2.cell (p := ⟨g, 7, none⟩) hgl).trans e1; have c2 := (hb2.cell (p := ⟨g, 15, none⟩) hgl).trans e2; have c3 := (hb2.cell (p := ⟨g, 17, none⟩) hgl).trans e3; clear e1 e2 e3 hb1 hb2 hE1)
    | (go_at_call 16; (with_reducible refine (hS _).mono ?_); rintro e w3 ⟨rfl, rfl⟩))
  go_ret
  exact ⟨rfl, hbw⟩
end Go.Proofs.YtdmdakkibgjffaaDoor
