/- What a row's laid variables give, the errors of strconv among them; the witness that holds them. -/
import Derived.Test.YthmdnlcinlmjkaaDoorArgv
import Derived.Test.YthmdnlcinlmjkaaDoorPu
import Derived.Stop.LaidErr
import Derived.LaidLaws
import Derived.Lib.LaidTab
import Derived.Deep.DeepWitnessRowRef
namespace Go.Proofs.YthmdnlcinlmjkaaDoor
open Go Go.ChangeShapes Go.WideShapes Go.ChangeAt Go.RowKit Go.Deep

theorem err_star : "*" ++ "errors.errorString" = "*errors.errorString" := by decide
theorem err_row (u : TypeId) (h : Tryd.prog.typeName? 3 u = some "*errors.errorString") : u = 82 :=
  typeName_ptr_named (nm := "errors.errorString") (by rw [err_star]; kernel_rfl) (by kernel_rfl) (by decide) u (by rw [err_star]; exact h)
theorem err_var {W : World} {n : String} {text : List UInt8} {r : List (String × DataW Unit)} {g : Nat}
    (h : laidMet Tryd.prog ((n, .iface "*errors.errorString" (.ptr (.agg [.lit (.string text)]))) :: r) W)
    (hg : Tryd.prog.globalNamed n = some g) (ht : (Tryd.prog.globals[g]?).map (·.type) = some 45) :
    ∃ ev, W.cell? ⟨g, 0, none⟩ = some ev ∧ (ev = .nilIface ∨ ∃ te pe, ev = .iface te pe) := by
  obtain ⟨a, s, hv, _⟩ := laid_sentinel h hg ht Tryd.underlying45 err_row Tryd.underlying82 Tryd.underlying84 rfl rfl Tryd.underlying9 (by kernel_rfl) (by kernel_rfl)
  exact ⟨_, World.var?_cell hg hv 0, .inr ⟨_, _, rfl⟩⟩
theorem err_of_laid {W : World} (hL : laidMetH Tryd.prog Rows.valueTextsUptoRow.laid W) : ErrV W := by
  have h0 : laidMet Tryd.prog [("math/bits.deBruijn32tab", Rows.laid_math_bits_deBruijn32tab), ("math/bits.deBruijn64tab", Rows.laid_math_bits_deBruijn64tab), ("internal/strconv.uint64pow10", Rows.laid_internal_strconv_uint64pow10), ("strconv.ErrRange", Rows.laid_strconv_ErrRange), ("strconv.ErrSyntax", Rows.laid_strconv_ErrSyntax)] W := hL
  have h1 := h0.tail.tail
  have h2 := h1.tail
  have h3 := h2.tail
  refine ⟨err_var h3 (by kernel_rfl) (by kernel_rfl), err_var h2 (by kernel_rfl) (by kernel_rfl), ?_⟩
  have e : (Rows.laid_internal_strconv_uint64pow10 : DataW Unit) = Lib.tabData .u64 Lib.pow10Tab := by
    unfold Lib.tabData Lib.pow10Tab; rfl
  rw [e] at h1
  exact Lib.tabIs_of_head (g := 1) (t := 72) (e := 53) (n := 20) (by kernel_rfl) (by kernel_rfl) Tryd.underlying72 Tryd.underlying53 (by kernel_rfl) (by kernel_rfl) h1

/-- The settled world with the two errors' blocks more, the tables and the errors holding what their initialisers lay. -/
noncomputable def laidWorldR (os : Os) : World :=
  let N := (World.settled Tryd.prog os).heap.size
  let w0 := World.holding Tryd.prog os ⟨#[.cells #[.string ⟨#[105, 110, 118, 97, 108, 105, 100, 32, 115, 121, 110, 116, 97, 120]⟩] 84, .cells #[.string ⟨#[118, 97, 108, 117, 101, 32, 111, 117, 116, 32, 111, 102, 32, 114, 97, 110, 103, 101]⟩] 84], #[], []⟩
  { w0 with heap := ((((w0.heap.modify 1 (setBlock (tabCells .u64 tab10))).modify 4 (setBlock (tabCells .u8 tab32))).modify 5 (setBlock (tabCells .u8 tab64))).modify 2 (setBlock #[.iface 82 (.pointer (some ⟨N, 0, none⟩))])).modify 3 (setBlock #[.iface 82 (.pointer (some ⟨N + 1, 0, none⟩))]) }
end Go.Proofs.YthmdnlcinlmjkaaDoor
