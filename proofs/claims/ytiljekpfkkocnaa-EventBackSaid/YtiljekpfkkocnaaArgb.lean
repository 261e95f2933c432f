/- What the arguments are in memory, as the statements hand them over: bytes. -/
import Derived.Test.YtiljekpfkkocnaaBv
import Derived.Test.YtiljekpfkkocnaaArg4
namespace Go.Proofs.Ytiljekpfkkocnaa
open Go Go.ChangeShapes Go.WideShapes Go.ChangeAt Go.RowKit Go.Deep
set_option linter.unusedVariables false

theorem bulk_pos {H : Type} (d : DataW H) : 1 ≤ Rows.uptoBulk d := by
  cases d with
  | lit l => cases l <;> simp [Rows.uptoBulk]
  | _ => simp [Rows.uptoBulk]
theorem bulk_count {H : Type} : ∀ l : List (DataW H), l.length ≤ Rows.uptoBulkAll l
  | [] => by simp [Rows.uptoBulkAll]
  | d :: r => by
    have h1 := bulk_pos d
    have h2 := bulk_count r
    simp only [Rows.uptoBulkAll, List.length_cons]
    omega

/-- A slice of bytes: what it reads as, where its length is bounded. -/
theorem open_bv {H : Type} {enc : TypeId × Value → H} {W : World} {v : Value} {d : DataW H} {p : List MemPlace} {fuel : Nat}
    (hf : DataW.trod enc Try.prog W 0 (fun _ => true) true fuel 33 [v] = some (d, p)) (hsz : ∀ es sp, d = .slice es sp → es.length ≤ 140737488355328) :
    ∃ x : List Nat, Bv W W.heap.size v x ∧ (d = .nil ∧ x = [] ∨ ∃ es sp, d = .slice es sp ∧ x.length = es.length) := by
  rcases open_ints Try.underlying33 Try.underlying5 (by kernel_rfl) hf with ⟨hcs, hx⟩ | ⟨a, len, cap, zs, hcs, _, hl, hm, hz, hx, hcell, hwz⟩
  · simp only [List.cons.injEq, and_true] at hcs
    subst hcs
    simp only [Prod.mk.injEq] at hx
    exact ⟨[], Bv.nil _ _, .inl ⟨hx.1, rfl⟩⟩
  · simp only [List.cons.injEq, and_true] at hcs
    subst hcs
    simp only [if_true] at hz
    simp only [Prod.mk.injEq] at hx
    have hlen : ((zs.take len).map Int.toNat).length = len := by simp; omega
    have hb : ∀ z ∈ zs, 0 ≤ z ∧ z ≤ 255 := fun z hzz => by
      have := hwz z hzz
      simpa [Lit.wf, IntKind.min, IntKind.max, IntKind.signed, IntKind.bits] using this
    have hn := hsz _ _ hx.1
    have hes : (lits (H := H) .u8 (zs.take len)).length = len := by simp [lits]; omega
    rw [hes] at hn
    unfold maxLen at hm
    refine ⟨(zs.take len).map Int.toNat, ⟨?_, by rw [hlen]; exact hn, some a, cap, by rw [hlen], by rw [hlen]; exact hl, by omega, (fun h => by cases h), fun h0 => ?_⟩, .inr ⟨_, _, hx.1, by rw [hlen, hes]⟩⟩
    · intro c hc
      simp only [List.mem_map] at hc
      obtain ⟨z, hz1, rfl⟩ := hc
      have := hb z (List.mem_of_mem_take hz1)
      omega
    · rw [hlen] at h0 ⊢
      have h00 := hcell 0 (by omega)
      obtain ⟨b, o, sp⟩ := a
      obtain rfl : sp = none := by simpa [Addr.add] using World.cell?_spot h00
      have hblk : b < W.heap.size := by simpa [Addr.add] using World.block_lt_of_cell? _ _ h00
      refine ⟨b, o, rfl, hblk, fun j hj => ?_⟩
      have hjz : j < zs.length := by omega
      have hj2 := hcell j hjz
      rw [add_spot] at hj2
      rw [hj2]
      have h1 := hb zs[j] (List.getElem_mem _)
      simp [List.getD, hj, hjz]
      omega
end Go.Proofs.Ytiljekpfkkocnaa
