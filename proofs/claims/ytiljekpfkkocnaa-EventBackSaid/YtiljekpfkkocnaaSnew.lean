/- Contracts: a new source; what End says. -/
import Derived.Test.YtiljekpfkkocnaaSnat
namespace Go.Proofs.Ytiljekpfkkocnaa
open Go Go.RowKit

theorem SrcIs.size {w : World} {B q : Nat} {bytes : List Nat} {p : Nat} (h : SrcIs w B q bytes p) : B ≤ q := h.from_

theorem byteVs_ints (bytes : List Nat) : (bytes.map fun x : Nat => (x : Int)).map (Value.int .u8) = byteVs bytes := by simp [byteVs]

set_option maxRecDepth 100000 in
theorem newSource_some (a : Addr) (cap : Nat) (bytes : List Nat) (w : World) (hbig : bytes.length ≤ 140737488355328) (hsm : ∀ c ∈ bytes, c < 256)
    (hc : ∀ j, j < bytes.length → w.cell? (a.add j) = some (.int .u8 ((bytes.getD j 0 : Nat) : Int))) :
    Calls Try.prog 32 #[.slice (some a) bytes.length cap] w fun e w' => ∃ q, e = .returned (.pointer (some ⟨q, 0, none⟩)) ∧ SrcIs w' w.heap.size q bytes 0 ∧ Below w.heap.size w w' := by
  have C := Try.bytes_Clone_at a bytes.length cap (bytes.map fun x : Nat => (x : Int)) w (by simp) hbig (fun i hi => by rw [hc i hi]; simp [List.getD, hi])
  rw [byteVs_ints] at C
  have HB := hide hbig
  have HS := hide hsm
  clear hc hbig hsm
  go_enter Try.func32, Try.ntmps32
  go_wp2_with fail
  refine C.mono ?_
  clear C
  rintro e w1 ⟨v, rfl, hown, hnil, hbel⟩
  obtain ⟨g, cp, rfl⟩ : ∃ g cp, v = .slice (some ⟨g, 0, none⟩) bytes.length cp := by
    rcases hown.2 with ⟨h, _⟩ | ⟨g, cp, cur, hv, _⟩
    · exact absurd h hnil
    · exact ⟨g, cp, hv⟩
  have HO := hide hown; have HBl := hide hbel; clear hown hbel hnil
  go_wp2
  go_ret
  refine ⟨_, rfl, ⟨HBl.out.size, HB.out, Nat.zero_le _, HS.out, _, heap_alloc_new _ _, HO.out.alloc _⟩, HBl.out.alloc HBl.out.size _⟩

set_option maxRecDepth 100000 in
theorem newSource_none (cap : Nat) (w : World) :
    Calls Try.prog 32 #[.slice none 0 cap] w fun e w' => ∃ q, e = .returned (.pointer (some ⟨q, 0, none⟩)) ∧ SrcIs w' w.heap.size q [] 0 ∧ Below w.heap.size w w' := by
  have C := Try.bytes_Clone_nil 0 cap w
  go_enter Try.func32, Try.ntmps32
  go_wp2_with fail
  refine C.mono ?_
  clear C
  rintro e w1 ⟨rfl, rfl⟩
  go_wp2
  go_ret
  exact ⟨_, rfl, ⟨Nat.le_refl _, by simp, Nat.zero_le _, by simp, _, heap_alloc_new _ _, World.ownsRow_nil _ _ _ _⟩, (Below.refl _ _).alloc (Nat.le_refl _) _⟩

/-- A slice of bytes, nil or not, whose cells are the bytes. -/
def BytesAt (w : World) (ao : Option Addr) (bytes : List Nat) : Prop := (ao = none → bytes.length = 0) ∧ ∀ a, ao = some a → ∀ j, j < bytes.length → w.cell? (a.add j) = some (.int .u8 ((bytes.getD j 0 : Nat) : Int))

theorem newSource_any (ao : Option Addr) (cap : Nat) (bytes : List Nat) (w : World) (hbig : bytes.length ≤ 140737488355328) (hsm : ∀ c ∈ bytes, c < 256) (h : BytesAt w ao bytes) :
    Calls Try.prog 32 #[.slice ao bytes.length cap] w fun e w' => ∃ q, e = .returned (.pointer (some ⟨q, 0, none⟩)) ∧ SrcIs w' w.heap.size q bytes 0 ∧ Below w.heap.size w w' := by
  cases ao with
  | none =>
    obtain rfl : bytes = [] := List.length_eq_zero_iff.1 (h.1 rfl)
    exact newSource_none cap w
  | some a => exact newSource_some a cap bytes w hbig hsm (h.2 a rfl)

def endErr (bytes : List Nat) (p : Nat) : Nat := if 8 ≤ 8 * bytes.length - p then 12 else if valAt bytes p (8 * bytes.length - p) ≠ 0 then 12 else 0

set_option maxRecDepth 100000 in
theorem sEnd_any (B q : Nat) (bytes : List Nat) (p : Nat) (w : World) (hs : SrcIs w B q bytes p) :
    Calls Try.prog 78 #[.pointer (some ⟨q, 0, none⟩)] w fun e w' => e = .returned (.int .i64 ((endErr bytes p : Nat) : Int)) ∧ SrcIs w' B q bytes p ∧ Kept B srcT w w' := by
  have hp := hs.at_
  obtain ⟨Lf, hLf⟩ : ∃ Lf, Lf = 8 * bytes.length - p := ⟨_, rfl⟩
  have C2 := sLeft_k B q bytes p w hs
  rw [← hLf] at C2
  have HL := hide hLf; clear hLf
  go_enter Try.func78, Try.ntmps78
  go_wp2_with fail
  refine (sIsMade_any q _ hs.made).mono ?_
  rintro e w' ⟨rfl, rfl⟩
  go_wp2_with fail
  refine C2.mono ?_
  rintro e w2 ⟨rfl, hs2, k2⟩
  have hpos := hs2.pos
  by_cases h8 : 8 ≤ Lf
  · go_wp2_with fail
    go_ret
    have he : endErr bytes p = 12 := by unfold endErr; rw [← HL.out, if_pos h8]
    rw [he]
    exact ⟨rfl, hs2, k2⟩
  · obtain ⟨V, hV⟩ : ∃ V, V = valAt bytes p Lf := ⟨_, rfl⟩
    have C3 := sPeek_any B q bytes p p Lf w2 hs2 (by omega) (by have := HL.out; omega)
    rw [← hV] at C3
    have he : endErr bytes p = if V ≠ 0 then 12 else 0 := by unfold endErr; rw [← HL.out, if_neg h8, ← hV]
    have HV := hide hV; clear hV
    have HE := hide he; clear he
    by_cases hV0 : V = 0
    · have hVb : ((V : Int) != 0) = false := by simp; omega
      have hV0' := hide hV0; clear hV0
      go_wp2_with fail
      refine C3.mono ?_
      rintro e w' ⟨rfl, rfl⟩
      go_wp2
      go_ret
      have he : endErr bytes p = 0 := HE.out.trans (if_neg (fun h => h hV0'.out))
      rw [he]
      exact ⟨rfl, hs2, k2⟩
    · have hVb : ((V : Int) != 0) = true := by simp; omega
      have hV0' := hide hV0; clear hV0
      go_wp2_with fail
      refine C3.mono ?_
      rintro e w' ⟨rfl, rfl⟩
      go_wp2
      go_ret
      have he : endErr bytes p = 12 := HE.out.trans (if_pos hV0'.out)
      rw [he]
      exact ⟨rfl, hs2, k2⟩
end Go.Proofs.Ytiljekpfkkocnaa
