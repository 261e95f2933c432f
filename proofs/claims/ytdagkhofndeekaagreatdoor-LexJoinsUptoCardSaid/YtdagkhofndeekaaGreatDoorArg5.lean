/- What a row's laid variables give (layer 5: two tables of package utf8 beside those of layer 3); the witness that holds them. -/
import Derived.Test.YtdagkhofndeekaaGreatDoorArgv
import Derived.Test.YtdagkhofndeekaaGreatDoorPu
import Derived.Stop.LaidErr
import Derived.LaidLaws
import Derived.Lib.LaidTab
import Derived.Deep.DeepWitnessRowRef
namespace Go.Proofs.YtdagkhofndeekaaGreatDoor
open Go Go.ChangeShapes Go.WideShapes Go.ChangeAt Go.RowKit Go.Deep

theorem err_star : "*" ++ "errors.errorString" = "*errors.errorString" := by decide
theorem err_row (u : TypeId) (h : Tryz.prog.typeName? 3 u = some "*errors.errorString") : u = 131 :=
  typeName_ptr_named (nm := "errors.errorString") (by rw [err_star]; kernel_rfl) (by kernel_rfl) (by decide) u (by rw [err_star]; exact h)
theorem err_var {W : World} {n : String} {text : List UInt8} {r : List (String × DataW Unit)} {g : Nat}
    (h : laidMet Tryz.prog ((n, .iface "*errors.errorString" (.ptr (.agg [.lit (.string text)]))) :: r) W)
    (hg : Tryz.prog.globalNamed n = some g) (ht : (Tryz.prog.globals[g]?).map (·.type) = some 45) :
    ∃ ev, W.cell? ⟨g, 0, none⟩ = some ev ∧ (ev = .nilIface ∨ ∃ te pe, ev = .iface te pe) := by
  obtain ⟨a, s, hv, _⟩ := laid_sentinel h hg ht Tryz.underlying45 err_row Tryz.underlying131 Tryz.underlying133 rfl rfl Tryz.underlying9 (by kernel_rfl) (by kernel_rfl)
  exact ⟨_, World.var?_cell hg hv 0, .inr ⟨_, _, rfl⟩⟩
def laid5 : List (String × DataW Unit) := [("math/bits.deBruijn32tab", Rows.laid_math_bits_deBruijn32tab), ("math/bits.deBruijn64tab", Rows.laid_math_bits_deBruijn64tab), ("internal/strconv.uint64pow10", Rows.laid_internal_strconv_uint64pow10), ("unicode/utf8.acceptRanges", Rows.laid_unicode_utf8_acceptRanges), ("strconv.ErrRange", Rows.laid_strconv_ErrRange), ("strconv.ErrSyntax", Rows.laid_strconv_ErrSyntax), ("unicode/utf8.first", Rows.laid_unicode_utf8_first)]
theorem err_of_laid5 {W : World} (hL : laidMetH Tryz.prog laid5 W) : ErrV W := by
  have h0 : laidMet Tryz.prog laid5 W := hL
  unfold laid5 at h0
  have h1 := h0.tail.tail
  have h2 := h1.tail.tail
  have h3 := h2.tail
  refine ⟨err_var h3 (by kernel_rfl) (by kernel_rfl), err_var h2 (by kernel_rfl) (by kernel_rfl), ?_⟩
  have e : (Rows.laid_internal_strconv_uint64pow10 : DataW Unit) = Lib.tabData .u64 Lib.pow10Tab := by
    unfold Lib.tabData Lib.pow10Tab; rfl
  rw [e] at h1
  exact Lib.tabIs_of_head (g := 3) (t := 121) (e := 99) (n := 20) (by kernel_rfl) (by kernel_rfl) Tryz.underlying121 Tryz.underlying99 (by kernel_rfl) (by kernel_rfl) h1

def leafCell : DataW Unit → Value
  | .lit (.int k z) => .int k z
  | _ => .nilIface
def flatCells : DataW Unit → List Value
  | .agg xs => xs.flatMap fun d => match d with | .agg ys => ys.map leafCell | x => [leafCell x]
  | _ => []
/-- The settled world with the two errors' blocks more, the tables and the errors holding what their initialisers lay. -/
noncomputable def laidWorld5 (os : Os) : World :=
  let N := (World.settled Tryz.prog os).heap.size
  let w0 := World.holding Tryz.prog os ⟨#[.cells #[.string ⟨#[105, 110, 118, 97, 108, 105, 100, 32, 115, 121, 110, 116, 97, 120]⟩] 133, .cells #[.string ⟨#[118, 97, 108, 117, 101, 32, 111, 117, 116, 32, 111, 102, 32, 114, 97, 110, 103, 101]⟩] 133], #[], []⟩
  { w0 with heap := ((((((w0.heap.modify 3 (setBlock (tabCells .u64 tab10))).modify 6 (setBlock (tabCells .u8 tab32))).modify 7 (setBlock (tabCells .u8 tab64))).modify 5 (setBlock (flatCells Rows.laid_unicode_utf8_acceptRanges).toArray)).modify 4 (setBlock (flatCells Rows.laid_unicode_utf8_first).toArray)).modify 1 (setBlock #[.iface 131 (.pointer (some ⟨N, 0, none⟩))])).modify 2 (setBlock #[.iface 131 (.pointer (some ⟨N + 1, 0, none⟩))]) }
theorem str_size {H : Type} {d : DataW H} {s : ByteArray} {ts : List TypeId} {ds : List (DataW H)} (j : Nat) (hd : d = .lit (.string s.data.toList)) (hall : ∀ x ∈ DataW.weightsEach Tryz.prog ts ds, decide (x ≤ reachBytes) = true)
    (ht : ts[j]? = some 9) (hds : ds[j]? = some d) : s.size ≤ 140737488355328 := by
  have h1 : s.data.toList.length ∈ d.weights Tryz.prog 9 := by rw [hd]; simp [DataW.weights]
  have := hall _ (DataW.weights_mem_each (j := j) (t := 9) ht hds _ h1)
  have h2 : s.data.toList.length ≤ reachBytes := by simpa using this
  rw [Lib.size_eq]; unfold reachBytes at h2; omega
end Go.Proofs.YtdagkhofndeekaaGreatDoor
