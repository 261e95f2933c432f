/- What a row's laid variables give (layer 5: two tables of package utf8 beside those of layer 3); the witness that holds them. -/
import Derived.Test.YtdmdakkibgjffaaDoorArgv
import Derived.Test.YtdmdakkibgjffaaDoorPu
import Derived.Stop.LaidErr
import Derived.LaidLaws
import Derived.Lib.LaidTab
import Derived.Deep.DeepWitnessRowRef
namespace Go.Proofs.YtdmdakkibgjffaaDoor
open Go Go.ChangeShapes Go.WideShapes Go.ChangeAt Go.RowKit Go.Deep

theorem err_star : "*" ++ "errors.errorString" = "*errors.errorString" := by decide
theorem err_row (u : TypeId) (h : Tryd.prog.typeName? 3 u = some "*errors.errorString") : u = 133 :=
  typeName_ptr_named (nm := "errors.errorString") (by rw [err_star]; kernel_rfl) (by kernel_rfl) (by decide) u (by rw [err_star]; exact h)
theorem err_var {W : World} {n : String} {text : List UInt8} {r : List (String × DataW Unit)} {g : Nat}
    (h : laidMet Tryd.prog ((n, .iface "*errors.errorString" (.ptr (.agg [.lit (.string text)]))) :: r) W)
    (hg : Tryd.prog.globalNamed n = some g) (ht : (Tryd.prog.globals[g]?).map (·.type) = some 67) :
    ∃ ev, W.cell? ⟨g, 0, none⟩ = some ev ∧ (ev = .nilIface ∨ ∃ te pe, ev = .iface te pe) := by
  obtain ⟨a, s, hv, _⟩ := laid_sentinel h hg ht Tryd.underlying67 err_row Tryd.underlying133 Tryd.underlying135 rfl rfl Tryd.underlying9 (by kernel_rfl) (by kernel_rfl)
  exact ⟨_, World.var?_cell hg hv 0, .inr ⟨_, _, rfl⟩⟩
def laid5 : List (String × DataW Unit) := [("math/bits.deBruijn32tab", Rows.laid_math_bits_deBruijn32tab), ("math/bits.deBruijn64tab", Rows.laid_math_bits_deBruijn64tab), ("internal/strconv.uint64pow10", Rows.laid_internal_strconv_uint64pow10), ("unicode/utf8.acceptRanges", Rows.laid_unicode_utf8_acceptRanges), ("strconv.ErrRange", Rows.laid_strconv_ErrRange), ("strconv.ErrSyntax", Rows.laid_strconv_ErrSyntax), ("unicode/utf8.first", Rows.laid_unicode_utf8_first)]
theorem err_of_laid5 {W : World} (hL : laidMetH Tryd.prog laid5 W) : ErrV W := by
  have h0 : laidMet Tryd.prog laid5 W := hL
  unfold laid5 at h0
  have h1 := h0.tail.tail
  have h2 := h1.tail.tail
  have h3 := h2.tail
  refine ⟨err_var h3 (by kernel_rfl) (by kernel_rfl), err_var h2 (by kernel_rfl) (by kernel_rfl), ?_⟩
  have e : (Rows.laid_internal_strconv_uint64pow10 : DataW Unit) = Lib.tabData .u64 Lib.pow10Tab := by
    unfold Lib.tabData Lib.pow10Tab; rfl
  rw [e] at h1
  exact Lib.tabIs_of_head (g := 3) (t := 123) (e := 89) (n := 20) (by kernel_rfl) (by kernel_rfl) Tryd.underlying123 Tryd.underlying89 (by kernel_rfl) (by kernel_rfl) h1

def leafCell : DataW Unit → Value
  | .lit (.int k z) => .int k z
  | _ => .nilIface
def flatCells : DataW Unit → List Value
  | .agg xs => xs.flatMap fun d => match d with | .agg ys => ys.map leafCell | x => [leafCell x]
  | _ => []
/-- The settled world with the two errors' blocks more, the tables and the errors holding what their initialisers lay. -/
noncomputable def laidWorld5 (os : Os) : World :=
  let N := (World.settled Tryd.prog os).heap.size
  let w0 := World.holding Tryd.prog os ⟨#[.cells #[.string ⟨#[105, 110, 118, 97, 108, 105, 100, 32, 115, 121, 110, 116, 97, 120]⟩] 135, .cells #[.string ⟨#[118, 97, 108, 117, 101, 32, 111, 117, 116, 32, 111, 102, 32, 114, 97, 110, 103, 101]⟩] 135], #[], []⟩
  { w0 with heap := ((((((w0.heap.modify 3 (setBlock (tabCells .u64 tab10))).modify 6 (setBlock (tabCells .u8 tab32))).modify 7 (setBlock (tabCells .u8 tab64))).modify 5 (setBlock (flatCells Rows.laid_unicode_utf8_acceptRanges).toArray)).modify 4 (setBlock (flatCells Rows.laid_unicode_utf8_first).toArray)).modify 1 (setBlock #[.iface 133 (.pointer (some ⟨N, 0, none⟩))])).modify 2 (setBlock #[.iface 133 (.pointer (some ⟨N + 1, 0, none⟩))]) }
theorem str_size {H : Type} {d : DataW H} {s : ByteArray} {ts : List TypeId} {ds : List (DataW H)} (j : Nat) (hd : d = .lit (.string s.data.toList)) (hall : ∀ x ∈ DataW.weightsEach Tryd.prog ts ds, decide (x ≤ reachBytes) = true)
    (ht : ts[j]? = some 9) (hds : ds[j]? = some d) : s.size ≤ 140737488355328 := by
  have h1 : s.data.toList.length ∈ d.weights Tryd.prog 9 := by rw [hd]; simp [DataW.weights]
  have := hall _ (DataW.weights_mem_each (j := j) (t := 9) ht hds _ h1)
  have h2 : s.data.toList.length ≤ reachBytes := by simpa using this
  rw [Lib.size_eq]; unfold reachBytes at h2; omega
end Go.Proofs.YtdmdakkibgjffaaDoor
