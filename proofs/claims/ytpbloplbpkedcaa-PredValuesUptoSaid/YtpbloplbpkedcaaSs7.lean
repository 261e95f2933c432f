/- A slice of texts in memory; whether it holds one; whether two are the same: the library's calls. -/
import Derived.Test.YtpbloplbpkedcaaFm7
import Derived.Test.YtpbloplbpkedcaaVe
import Derived.Test.YtpbloplbpkedcaaShelf
import Derived.Shelf.SlicesE.Index
import Derived.Sort.EncStr
namespace Go.Proofs.Ytpbloplbpkedcaa
open Go Go.RowKit Go.Sort

def ba (l : Nm) : ByteArray := ⟨l.toArray⟩
theorem ba_nb (s : ByteArray) : ba (nb s) = s := by cases s; simp [ba, nb]
theorem nb_ba (l : Nm) : nb (ba l) = l := by simp [ba, nb]
theorem encStr_ba (l : Nm) : encStr l = .string (ba l) := rfl
/-- A slice of texts, in a block of G. -/
def SsV (w : World) (G : Nat → Prop) (v : Value) (l : List Nm) : Prop :=
  ∃ ao cap, v = .slice ao l.length cap ∧ (l ≠ [] → ∃ b o, ao = some ⟨b, o, none⟩ ∧ G b ∧ ∀ j x, l[j]? = some x → w.cell? ⟨b, o + j, none⟩ = some (.string (ba x)))
theorem SsV.keep {w w' : World} {G : Nat → Prop} {v : Value} {l : List Nm} (h : SsV w G v l) (hk : Keep G w w') : SsV w' G v l := by
  obtain ⟨ao, cap, rfl, hh⟩ := h
  refine ⟨ao, cap, rfl, fun hl => ?_⟩
  obtain ⟨b, o, e, hb, hc⟩ := hh hl
  exact ⟨b, o, e, hb, fun j x hj => (hk.cell hb).trans (hc j x hj)⟩
theorem SsV.shape {w : World} {G : Nat → Prop} {v : Value} {l : List Nm} (h : SsV w G v l) : ∃ ao cap, v = .slice ao l.length cap := by
  obtain ⟨ao, cap, rfl, _⟩ := h; exact ⟨ao, cap, rfl⟩
theorem SsV.mono {w : World} {G H : Nat → Prop} {v : Value} {l : List Nm} (h : SsV w G v l) (hk : ∀ b, G b → H b) : SsV w H v l := by
  obtain ⟨ao, cap, rfl, hh⟩ := h
  refine ⟨ao, cap, rfl, fun hl => ?_⟩
  obtain ⟨b, o, e, hb, hc⟩ := hh hl
  exact ⟨b, o, e, hk b hb, hc⟩
theorem SsV.nil (w : World) (G : Nat → Prop) : SsV w G (.slice none 0 0) [] := ⟨none, 0, rfl, fun h => absurd rfl h⟩
/-- A row of texts of the call's own. -/
theorem SsV.of_own {w : World} {base : Nat} {e : TypeId} {v : Value} {l : List Nm} (h : w.ownsRow base e 1 v l.length (l.map encStr)) : SsV w (fun b => base ≤ b) v l := by
  rcases h.2 with ⟨rfl, h0⟩ | ⟨g, cap, cur, rfl, hb, hg, _, _, _, ht⟩
  · obtain rfl : l = [] := List.eq_nil_of_length_eq_zero h0
    exact SsV.nil _ _
  · refine ⟨some ⟨g, 0, none⟩, cap, rfl, fun _ => ⟨g, 0, rfl, hb, fun j x hj => ?_⟩⟩
    have := h.cells (g := g) rfl j (encStr x) (by rw [List.getElem?_map, hj]; rfl)
    have e : (⟨g, 0, none⟩ : Addr).add j = ⟨g, 0 + j, none⟩ := by unfold Addr.add; split <;> simp_all
    rwa [e] at this
theorem any_eq_mem (x : ByteArray) : ∀ l : List Nm, (((l.map ba).take l.length).any fun y => x.toList == y.toList) = decide (nb x ∈ l)
  | [] => by simp
  | y :: r => by
    have ih := any_eq_mem x r
    rw [List.map_cons, List.length_cons, List.take_succ_cons, List.any_cons, ih]
    have e : (x.toList == (ba y).toList) = decide (nb x = y) := by
      rw [Lib.toList_data, Lib.toList_data]
      show (nb x == nb (ba y)) = _
      rw [nb_ba]
      by_cases h : nb x = y <;> simp [h]
    rw [e]
    by_cases h : nb x = y <;> simp [h]
theorem ContainsStr_any (w : World) (G : Nat → Prop) (ao : Option Addr) (cap : Nat) (l : List Nm) (x : ByteArray) (h : SsV w G (.slice ao l.length cap) l) (hn : l.length ≤ 9223372036854775807) :
    Calls Try.prog 83 #[.slice ao l.length cap, .string x] w fun e w' => e = .returned (.bool (decide (nb x ∈ l))) ∧ w' = w := by
  by_cases hl : l = []
  · subst hl
    exact Try.slices_Contains_empty (α := ByteArray) ao cap (.string x) w
  · obtain ⟨ao', cap', he, hh⟩ := h
    obtain ⟨b, o, rfl, _, hc⟩ := hh hl
    simp only [Value.slice.injEq] at he
    obtain ⟨rfl, _, rfl⟩ := he
    have := Try.slices_Contains (α := ByteArray) Value.string (fun x y => x.toList == y.toList) (EqlAt.string _ _) b o l.length cap (l.map ba) x w (by simp) hn (fun j hj => by
      have hj' : j < l.length := by simpa using hj
      rw [getElem!_pos (l.map ba) j hj, List.getElem_map]
      exact hc j _ (List.getElem?_eq_getElem hj'))
    rw [any_eq_mem] at this
    exact this
theorem allEq_eq : ∀ a b : List Nm, Lib.allEq (fun x y : ByteArray => x.toList == y.toList) ((a.map ba).take a.length) ((b.map ba).take b.length) = decide (a = b) := by
  intro a b
  rw [List.take_of_length_le (by simp), List.take_of_length_le (by simp)]
  induction a generalizing b with
  | nil => cases b <;> simp [Lib.allEq]
  | cons x r ih =>
    cases b with
    | nil => simp [Lib.allEq]
    | cons y t =>
      have e : ((ba x).toList == (ba y).toList) = decide (x = y) := by
        rw [Lib.toList_data, Lib.toList_data]
        show (nb (ba x) == nb (ba y)) = _
        rw [nb_ba, nb_ba]
        by_cases h : x = y <;> simp [h]
      simp only [List.map_cons, Lib.allEq, e, ih]
      by_cases h : x = y <;> by_cases h2 : r = t <;> simp [h, h2]
end Go.Proofs.Ytpbloplbpkedcaa
