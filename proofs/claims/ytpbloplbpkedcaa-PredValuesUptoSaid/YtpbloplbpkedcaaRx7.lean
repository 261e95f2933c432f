/- Contract: the document's put. -/
import Derived.Test.YtpbloplbpkedcaaRo7
import Derived.Test.YtpbloplbpkedcaaRt7
import Derived.Laws.AppendOwn
import Derived.Laws.AppendOwnNone
import Derived.OwnWalk
import Derived.Deep.AppendLies
namespace Go.Proofs.Ytpbloplbpkedcaa
open Go Go.RowKit Go.Sort

theorem add_none7' (b o i : Nat) : (⟨b, o, none⟩ : Addr).add i = ⟨b, o + i, none⟩ := by unfold Addr.add; split <;> simp_all
theorem SsV.lt0 {w : World} {G : Nat → Prop} {v : Value} {l : List Nm} (h : SsV w G v l) : SsV w (fun b => b < w.heap.size) v l := by
  obtain ⟨ao, cap, rfl, hh⟩ := h
  refine ⟨ao, cap, rfl, fun hl => ?_⟩
  obtain ⟨b, o, e, _, hc⟩ := hh hl
  refine ⟨b, o, e, ?_, hc⟩
  cases l with
  | nil => exact absurd rfl hl
  | cons x r => simpa using World.block_lt_of_cell? _ _ (hc 0 x rfl)
theorem own7_block {w w' : World} {base : Nat} {e : TypeId} {size n : Nat} {v : Value} {xs : List Value} (h : w.ownsRow base e size v n xs) (hk : ∀ g, g < w.heap.size → base ≤ g → w'.heap[g]? = w.heap[g]?) : w'.ownsRow base e size v n xs := by
  refine ⟨h.1, ?_⟩
  rcases h.2 with hn | ⟨g, cap, cur, rfl, hb, hgg, rest⟩
  · exact .inl hn
  · exact .inr ⟨g, cap, cur, rfl, hb, (hk g (Array.getElem?_eq_some_iff.1 hgg).1 hb).trans hgg, rest⟩
theorem own7_below {w w' : World} {base : Nat} {e : TypeId} {size n : Nat} {v : Value} {xs : List Value} (h : w.ownsRow base e size v n xs) (hk : Below w.heap.size w w') : w'.ownsRow base e size v n xs :=
  own7_block h (fun g hg _ => hk.block g hg)
theorem own7_mono {w : World} {base base' : Nat} {e : TypeId} {size n : Nat} {v : Value} {xs : List Value} (h : w.ownsRow base e size v n xs) (hb' : base' ≤ base) : w.ownsRow base' e size v n xs := by
  refine ⟨h.1, ?_⟩
  rcases h.2 with hn | ⟨g, cap, cur, rfl, hb, rest⟩
  · exact .inl hn
  · exact .inr ⟨g, cap, cur, rfl, Nat.le_trans hb' hb, rest⟩
theorem tw_of {α : Type} {p : α → Bool} : ∀ (l : List α) (i : Nat), (∀ x ∈ l.take i, p x = true) → (∀ y, l[i]? = some y → p y = false) → l.takeWhile p = l.take i ∧ l.dropWhile p = l.drop i
  | [], i, _, _ => by simp
  | x :: r, 0, _, h => by
    have := h x rfl
    simp [List.takeWhile_cons, List.dropWhile_cons, this]
  | x :: r, i + 1, h1, h2 => by
    have hx := h1 x (by simp)
    obtain ⟨a, b⟩ := tw_of r i (fun y hy => h1 y (by simp [hy])) (fun y hy => h2 y (by simpa using hy))
    simp [List.takeWhile_cons, List.dropWhile_cons, hx, a, b]
theorem infoS7 : (Try.prog.info? 9).map (fun i => (i.zero, i.size, i.bytes)) = some (some (.string ⟨#[]⟩), 1, 16) := by kernel_rfl
/-- A row of texts of the call's own. -/
def SOwn (w : World) (base : Nat) (v : Value) (l : List Nm) : Prop := w.ownsRow base 9 1 v l.length (l.map encStr)
theorem SOwn.below {w w' : World} {base : Nat} {v : Value} {l : List Nm} (h : SOwn w base v l) (hk : Below w.heap.size w w') : SOwn w' base v l := own7_below h hk
theorem SOwn.ss {w : World} {base : Nat} {v : Value} {l : List Nm} (h : SOwn w base v l) : SsV w (fun b => b < w.heap.size) v l := (SsV.of_own h).lt0
end Go.Proofs.Ytpbloplbpkedcaa
