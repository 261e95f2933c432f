/- Contracts: the public ParseUint of two bytes at base 16; the byte that is written first in a text. -/
import Derived.Test.YthmdnlcinlmjkaaDoorHx
import Derived.Lib.AtoiErrMem
import Derived.Lib.SmallJoins
namespace Go.Proofs.YthmdnlcinlmjkaaDoor
open Go Go.RowKit

/-- What the reading of texts asks of the world: the errors that it names. -/
structure ErrV (w : World) : Prop where
  syn : ∃ ev, w.cell? ⟨2, 0, none⟩ = some ev ∧ (ev = .nilIface ∨ ∃ te pe, ev = .iface te pe)
  ran : ∃ ev, w.cell? ⟨3, 0, none⟩ = some ev ∧ (ev = .nilIface ∨ ∃ te pe, ev = .iface te pe)
  tab : Lib.TabIs Tryd.prog w "internal/strconv.uint64pow10" .u64 Lib.pow10Tab
theorem ErrV.keep {w w' : World} (h : ErrV w) (hb : Below w.heap.size w w') : ErrV w' := by
  obtain ⟨e1, h1, k1⟩ := h.syn
  obtain ⟨e2, h2, k2⟩ := h.ran
  refine ⟨⟨e1, (hb.cell (Lib.lt_of_cell h1)).trans h1, k1⟩, ⟨e2, (hb.cell (Lib.lt_of_cell h2)).trans h2, k2⟩, ?_⟩
  exact Go.Joins.tab_stays (g := 1) (by kernel_rfl) h.tab hb (Nat.le_refl _)

/-- The error of a text that is no number, or none. -/
def hexE (o : Option Nat) (e : Ending) : Prop := match o with | some u => e = .returned (.tuple #[.int .u64 (u : Int), .nilIface]) | none => ∃ N, e = .returned (.tuple #[.int .u64 0, .iface 68 (.pointer (some ⟨N, 0, none⟩))])

set_option maxHeartbeats 4000000 in
set_option maxRecDepth 100000 in
theorem ParseUint_hex (t : ByteArray) (h2 : t.size = 2) (w : World) (hE : ErrV w) :
    Calls Tryd.prog 42 #[.string t, .int .i64 16, .int .i64 8] w fun e w' => hexE (hexF 0 t.data.toList) e ∧ Below w.heap.size w w' := by
  have hI := iParseUint_hex t h2 w
  have hb1 := Lib.bytesWorld_below w 5 t
  have hE1 := hE.keep hb1
  generalize Lib.bytesWorld w 5 t = W1 at hI hb1 hE1
  generalize hexF 0 t.data.toList = o at hI ⊢
  obtain ⟨ev, hv, hev⟩ := hE1.syn
  have HV := Lib.hid hv; have HEV := Lib.hid hev
  clear hv hev hE1 hE
  cases o with
  | some u =>
    unfold hexT at hI
    simp only at hI
    go_enter Tryd.func42, Tryd.ntmps42
    go_wp2_with (go_at_call 43; (with_reducible refine hI.mono ?_); rintro e w' ⟨rfl, rfl⟩)
    go_ret2
    exact ⟨rfl, hb1⟩
  | none =>
    unfold hexT at hI
    simp only at hI
    have hT : Calls Tryd.prog 34 #[.string ⟨#[80, 97, 114, 115, 101, 85, 105, 110, 116]⟩, .string t, .int .i64 16, .int .i64 8, .iface 67 (.int .i64 2)] W1 fun e w' => ∃ N, e = .returned (.iface 68 (.pointer (some ⟨N, 0, none⟩))) ∧ Below W1.heap.size W1 w' :=
      (Tryd.strconv_toError_syntax _ t 16 8 ev W1 (by omega) HV.out HEV.out).mono (fun e w' ⟨N, h1, _, _, h4⟩ => ⟨N, h1, h4⟩)
    go_enter Tryd.func42, Tryd.ntmps42
    go_wp2_with (go_at_call 43; (with_reducible refine hI.mono ?_); rintro e w' ⟨rfl, rfl⟩)
    go_wp2_with (go_at_call 34; (with_reducible refine hT.mono ?_); rintro e w' ⟨N, rfl, hb2⟩)
    go_ret2
    exact ⟨⟨N, rfl⟩, hb1.trans (hb2.mono hb1.size)⟩

/-- What is written first in a text: the byte, and how many bytes write it; none: 0 of them. -/
def firstL : List UInt8 → UInt8 × Nat
  | [] => (0, 0)
  | c :: r => if c.toNat = 92 then (match r with | [] => (0, 0) | d :: r2 => if d.toNat = 120 then (match r2 with | x :: y :: _ => (match hexF 0 [x, y] with | some u => (UInt8.ofNat u, 4) | none => (0, 0)) | _ => (0, 0)) else (d, 2)) else (c, 1)
theorem firstL_esc (c : UInt8) (rest : List UInt8) : firstL (escL c ++ rest) = (c, (escL c).length) := by
  have hx : hexF 0 [hxD (c.toNat / 16), hxD (c.toNat % 16)] = some c.toNat := by
    rw [hexF_two _ _ (by have := c.toNat_lt; omega) (by omega)]
    congr 1; omega
  have hu : UInt8.ofNat c.toNat = c := by simp
  have e92 : (92 : UInt8).toNat = 92 := rfl
  have e120 : (120 : UInt8).toNat = 120 := rfl
  rcases byte_ways c with ⟨hc, he⟩ | ⟨hc, he⟩ | ⟨h1, h2, h3, he⟩ | ⟨h1, h2, h3, h4, he⟩ | ⟨h1, h2, h3, h4, he⟩
  · have : c = 34 := UInt8.toNat_inj.1 hc
    rw [he, this]; rfl
  · have : c = 92 := UInt8.toNat_inj.1 hc
    rw [he, this]; rfl
  · rw [he]; simp only [List.cons_append, firstL, e92, e120, if_true, hx, hu, List.length_cons, List.length_nil]
  · rw [he]; simp only [List.cons_append, firstL, e92, e120, if_true, hx, hu, List.length_cons, List.length_nil]
  · rw [he]
    have : ¬ c.toNat = 92 := by have h := of_decide_eq_false h2; omega
    simp only [List.cons_append, firstL, if_neg this, List.length_cons, List.length_nil]
theorem firstL_len (l : List UInt8) : (firstL l).2 ≤ l.length ∧ (firstL l).2 ≤ 4 := by
  unfold firstL
  repeat' split
  all_goals simp
  all_goals omega
end Go.Proofs.YthmdnlcinlmjkaaDoor
