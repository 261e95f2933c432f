/- What the arguments are in memory, as the statements hand them over: bytes, datagrams. -/
import Derived.Test.YtebojmjbolphfaaBv
import Derived.Test.YtebojmjbolphfaaFcl
import Derived.ProofKit
import Derived.Deep.Slices
import Derived.Deep.Fields
import Derived.ChangeSame
import Derived.JoinedCond
import Derived.SizedLaws
namespace Go.Proofs.Ytebojmjbolphfaa
open Go Go.ChangeShapes Go.WideShapes Go.ChangeAt Go.RowKit Go.Deep
set_option linter.unusedVariables false

theorem bulk_pos {H : Type} (d : DataW H) : 1 ≤ Rows.uptoBulk d := by
  cases d with
  | lit l => cases l <;> simp [Rows.uptoBulk]
  | _ => simp [Rows.uptoBulk]
theorem bulk_count {H : Type} : ∀ l : List (DataW H), l.length ≤ Rows.uptoBulkAll l
  | [] => by simp [Rows.uptoBulkAll]
  | d :: r => by
    have h1 := bulk_pos d
    have h2 := bulk_count r
    simp only [Rows.uptoBulkAll, List.length_cons]
    omega

/-- A slice of bytes: what it reads as, where its length is bounded. -/
theorem open_bv {H : Type} {enc : TypeId × Value → H} {W : World} {v : Value} {d : DataW H} {p : List MemPlace} {fuel : Nat}
    (hf : DataW.trod enc Try.prog W 0 (fun _ => true) true fuel 22 [v] = some (d, p)) (hsz : ∀ es sp, d = .slice es sp → es.length ≤ 140737488355328) :
    ∃ x : List Nat, Bv W W.heap.size v x ∧ (d = .nil ∧ x = [] ∨ ∃ es sp, d = .slice es sp ∧ x.length = es.length) := by
  rcases open_ints Try.underlying22 Try.underlying5 (by kernel_rfl) hf with ⟨hcs, hx⟩ | ⟨a, len, cap, zs, hcs, _, hl, hm, hz, hx, hcell, hwz⟩
  · simp only [List.cons.injEq, and_true] at hcs
    subst hcs
    simp only [Prod.mk.injEq] at hx
    exact ⟨[], Bv.nil _ _, .inl ⟨hx.1, rfl⟩⟩
  · simp only [List.cons.injEq, and_true] at hcs
    subst hcs
    simp only [if_true] at hz
    simp only [Prod.mk.injEq] at hx
    have hlen : ((zs.take len).map Int.toNat).length = len := by simp; omega
    have hb : ∀ z ∈ zs, 0 ≤ z ∧ z ≤ 255 := fun z hzz => by
      have := hwz z hzz
      simpa [Lit.wf, IntKind.min, IntKind.max, IntKind.signed, IntKind.bits] using this
    have hn := hsz _ _ hx.1
    have hes : (lits (H := H) .u8 (zs.take len)).length = len := by simp [lits]; omega
    rw [hes] at hn
    unfold maxLen at hm
    refine ⟨(zs.take len).map Int.toNat, ⟨?_, by rw [hlen]; exact hn, some a, cap, by rw [hlen], by rw [hlen]; exact hl, by omega, (fun h => by cases h), fun h0 => ?_⟩, .inr ⟨_, _, hx.1, by rw [hlen, hes]⟩⟩
    · intro c hc
      simp only [List.mem_map] at hc
      obtain ⟨z, hz1, rfl⟩ := hc
      have := hb z (List.mem_of_mem_take hz1)
      omega
    · rw [hlen] at h0 ⊢
      have h00 := hcell 0 (by omega)
      obtain ⟨b, o, sp⟩ := a
      obtain rfl : sp = none := by simpa [Addr.add] using World.cell?_spot h00
      have hblk : b < W.heap.size := by simpa [Addr.add] using World.block_lt_of_cell? _ _ h00
      refine ⟨b, o, rfl, hblk, fun j hj => ?_⟩
      have hjz : j < zs.length := by omega
      have hj2 := hcell j hjz
      rw [add_spot] at hj2
      rw [hj2]
      have h1 := hb zs[j] (List.getElem_mem _)
      simp [List.getD, hj, hjz]
      omega

/-- A datagram, field by field. -/
theorem open_dg {H : Type} {enc : TypeId × Value → H} {W : World} {base : Nat} {v : Value} {d : DataW H} {p : List MemPlace} (hv : Value.okWide Try.prog W .any base 24 v)
    (h : DataW.Trod enc Try.prog W 0 (fun _ => true) true 24 v d p) (hz : ∀ n ∈ d.weights Try.prog 24, n ≤ reachBytes) :
    ∃ (f t k s a : Int) (ao : Option Addr) (n cap : Nat) (x : List Nat), v = .agg #[.int .i64 f, .int .i64 t, .int .i64 k, .int .i64 s, .int .i64 a, .slice ao n cap] ∧ Bv W W.heap.size (.slice ao n cap) x := by
  obtain ⟨cs, rfl, hsz⟩ := okWide_struct Try.underlying24 hv
  have hC : Try.prog.cellsOf 24 = 6 := by kernel_rfl
  obtain ⟨l⟩ := cs
  match l, hsz.trans hC with
  | [c0, c1, c2, c3, c4, c5], _ =>
    obtain ⟨fuel, hf⟩ := h
    obtain ⟨xs, n, _, hx, _, hlen, hg⟩ := DataW.trod_struct Try.underlying24 hf
    match xs, hlen with
    | [y0, y1, y2, y3, y4, y5], _ =>
      have e3 : Try.prog.cellsOf 3 = 1 := by kernel_rfl
      have e2 : Try.prog.cellsOf 2 = 1 := by kernel_rfl
      have e22 : Try.prog.cellsOf 22 = 1 := by kernel_rfl
      have g0 : DataW.trod enc Try.prog W 0 (fun _ => true) true n 3 [c0] = some y0 := by have := hg 0 _ rfl; simpa [Value.cells, e3, e2, e22] using this
      have g1 : DataW.trod enc Try.prog W 0 (fun _ => true) true n 3 [c1] = some y1 := by have := hg 1 _ rfl; simpa [Value.cells, e3, e2, e22] using this
      have g2 : DataW.trod enc Try.prog W 0 (fun _ => true) true n 3 [c2] = some y2 := by have := hg 2 _ rfl; simpa [Value.cells, e3, e2, e22] using this
      have g3 : DataW.trod enc Try.prog W 0 (fun _ => true) true n 2 [c3] = some y3 := by have := hg 3 _ rfl; simpa [Value.cells, e3, e2, e22] using this
      have g4 : DataW.trod enc Try.prog W 0 (fun _ => true) true n 2 [c4] = some y4 := by have := hg 4 _ rfl; simpa [Value.cells, e3, e2, e22] using this
      have g5 : DataW.trod enc Try.prog W 0 (fun _ => true) true n 22 [c5] = some y5 := by have := hg 5 _ rfl; simpa [Value.cells, e3, e2, e22] using this
      obtain ⟨f, k0, _, _⟩ := DataW.trod_int Try.underlying3 g0
      obtain ⟨t, k1, _, _⟩ := DataW.trod_int Try.underlying3 g1
      obtain ⟨k, k2, _, _⟩ := DataW.trod_int Try.underlying3 g2
      obtain ⟨s, k3, _, _⟩ := DataW.trod_int Try.underlying2 g3
      obtain ⟨a, k4, _, _⟩ := DataW.trod_int Try.underlying2 g4
      simp only [List.cons.injEq, and_true] at k0 k1 k2 k3 k4
      subst k0 k1 k2 k3 k4
      simp only [Prod.mk.injEq] at hx
      obtain ⟨d5, p5⟩ := y5
      have hw : ∀ es sp, d5 = .slice es sp → es.length ≤ 140737488355328 := by
        intro es sp he
        have hb : Try.prog.bytesOf 5 = 1 := by kernel_rfl
        have h1 : (es.length + sp.length) * Try.prog.bytesOf 5 ∈ d.weights Try.prog 24 := by
          rw [hx.1]
          simp [DataW.weights, DataW.weightsEach, Try.underlying24, Try.underlying22, he]
        have h2 := hz _ h1
        have := reachBytes_lt
        rw [hb] at h2
        omega
      obtain ⟨x, hbv, _⟩ := open_bv g5 hw
      obtain ⟨ao, cap, rfl⟩ := hbv.shape
      exact ⟨f, t, k, s, a, ao, x.length, cap, x, rfl, hbv⟩
end Go.Proofs.Ytebojmjbolphfaa
