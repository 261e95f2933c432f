/- Contracts: the document's Same; slices.Equal of numbers; the statements' own equal. -/
import Derived.Test.YtclbfmjmamcjjaaWg12
namespace Go.Proofs.Ytclbfmjmamcjjaa
open Go Go.RowKit

set_option maxRecDepth 100000 in
set_option maxHeartbeats 3200000 in
theorem EqI64_any (g o c g' o' c' : Nat) (ms : List Int) (w : World) (h12 : ms.length ≤ 140737488355328) (h1 : ∀ j, j < ms.length → w.cell? ⟨g, o + j, none⟩ = some (.int .i64 ms[j]!)) (h2 : ∀ j, j < ms.length → w.cell? ⟨g', o' + j, none⟩ = some (.int .i64 ms[j]!)) :
    QC 24 #[.slice (some ⟨g, o, none⟩) ms.length c, .slice (some ⟨g', o', none⟩) ms.length c'] (.bool true) w := by
  refine QC.gen (fun W => (∀ j, j < ms.length → W.cell? ⟨g, o + j, none⟩ = some (.int .i64 ms[j]!)) ∧ (∀ j, j < ms.length → W.cell? ⟨g', o' + j, none⟩ = some (.int .i64 ms[j]!))) (fun n => ⟨h1, h2⟩) fun W ⟨h1, h2⟩ => ?_
  have H1 := Lib.hid h1; have H2 := Lib.hid h2
  obtain ⟨n, hn⟩ : ∃ n, n = ms.length := ⟨_, rfl⟩
  have HN := Lib.hid hn
  rw [← hn] at h12 ⊢
  have H12 := Lib.hid h12
  clear h1 h2 hn h12
  go_enter Try.func24, Try.ntmps24
  go_wp2_with fail
  go_loopw [13] (fun iv wr => ∃ k m : Nat, k ≤ n ∧ iv = .int .i64 (k : Int) ∧ Hid (wr = W.drewN m)) (fun iv _ => n - (intOf iv).toNat)
  case atStart => exact ⟨0, 0, Nat.zero_le _, rfl, Lib.hid rfl⟩
  case round =>
    obtain ⟨k, m, hk, rfl, HM⟩ := hrel
    by_cases hlt : k < n
    · have c1 : wr.cell? ⟨g, o + k, none⟩ = some (.int .i64 ms[k]!) := by rw [HM.out]; exact H1.out k (by have := HN.out; omega)
      have c2 : wr.cell? ⟨g', o' + k, none⟩ = some (.int .i64 ms[k]!) := by rw [HM.out]; exact H2.out k (by have := HN.out; omega)
      generalize ms[k]! = x at c1 c2
      have hk0 : (0 : Int) ≤ (k : Int) := by omega
      have e1 : IntKind.i64.wrap ((k : Int) + 1) = (k : Int) + 1 := IntWalk.i64_in _ (by have := H12.out; omega)
      go_wp2_with fail
      go_quiet (fail)
      go_wp2
      go_roundw
      case rel => exact ⟨k + 1, m + nq, by omega, by go_num, by rw [HM.out, World.drewN_drewN]; exact Lib.hid rfl⟩
      case measure => simp [intOf]; omega
    · go_wp2
      go_ret
      exact ⟨rfl, m, HM.out⟩

set_option maxRecDepth 100000 in
set_option maxHeartbeats 3200000 in
theorem r12Same_any (q p q' p' : Nat) (ms ns : List Int) (w : World) (h : RwIs w q p ms) (h' : RwIs w q' p' ns) : QC 23 #[.pointer (some ⟨q, 0, none⟩), .pointer (some ⟨q', 0, none⟩)] (.bool (decide (ms = ns))) w := by
  refine QC.gen (fun W => RwIs W q p ms ∧ RwIs W q' p' ns) (fun n => ⟨h.drewN n, h'.drewN n⟩) fun W ⟨h, h'⟩ => ?_
  obtain ⟨g, c, c0, hc, _⟩ := h.cell
  obtain ⟨g', c', c0', hc', _⟩ := h'.cell
  by_cases hl : ms.length = ns.length
  · obtain ⟨n, hn⟩ : ∃ n, n = ms.length := ⟨_, rfl⟩
    rw [← hn] at c0
    rw [← hl, ← hn] at c0'
    have H1 := Lib.hid hc; have H2 := Lib.hid hc'
    have HN := Lib.hid hn; have HL := Lib.hid hl
    have H12 : Hid (n ≤ 12) := by rw [hn]; exact h.k12
    have C0 := Lib.hid c0; have C0' := Lib.hid c0'
    clear hc hc' hn hl h h'
    go_enter Try.func23, Try.ntmps23
    go_wp2_with fail
    go_quiet (fail)
    go_wp2_with fail
    go_loopw [5] (fun iv wr => ∃ k m : Nat, k ≤ n ∧ iv = .int .i64 (k : Int) ∧ Hid (wr = W.drewN m) ∧ Hid (∀ j, j < k → ms[j]! = ns[j]!)) (fun iv _ => n - (intOf iv).toNat)
    case atStart => exact ⟨0, _, Nat.zero_le _, rfl, Lib.hid rfl, Lib.hid (fun j hj => by omega)⟩
    case round =>
      obtain ⟨k, m, hk, rfl, HM, HE⟩ := hrel
      have d0 : wr.cell? ⟨q, 0, none⟩ = some (.slice (some ⟨g, 0, none⟩) n c) := by rw [HM.out]; exact C0.out
      have d0' : wr.cell? ⟨q', 0, none⟩ = some (.slice (some ⟨g', 0, none⟩) n c') := by rw [HM.out]; exact C0'.out
      by_cases hlt : k < n
      · have c1 : wr.cell? ⟨g, k, none⟩ = some (.int .i64 ms[k]!) := by rw [HM.out]; exact H1.out k (by have := HN.out; omega)
        have c2 : wr.cell? ⟨g', k, none⟩ = some (.int .i64 ns[k]!) := by rw [HM.out]; exact H2.out k (by have := HN.out; have := HL.out; omega)
        have HK : Hid (ms[k]! = ns[k]! → ∀ j, j < k + 1 → ms[j]! = ns[j]!) := fun he j hj => by
          by_cases hjk : j < k
          · exact HE.out j hjk
          · obtain rfl : j = k := by omega
            exact he
        have HD : Hid (ms[k]! ≠ ns[k]! → ms ≠ ns) := fun hne he => hne (by rw [he])
        generalize ms[k]! = x at c1 HK HD
        generalize ns[k]! = y at c2 HK HD
        have hk0 : (0 : Int) ≤ (k : Int) := by omega
        have e1 : IntKind.i64.wrap ((k : Int) + 1) = (k : Int) + 1 := IntWalk.i64_in _ (by have := H12.out; omega)
        by_cases hxy : x = y
        · have hne : (x != y) = false := by simp [hxy]
          have HKK := Lib.hid (HK.out hxy)
          subst hxy
          clear HK HD
          go_wp2_with fail
          go_quiet (fail)
          go_wp2
          go_roundw
          case rel => exact ⟨k + 1, m + nq, by omega, by go_num, by rw [HM.out, World.drewN_drewN]; exact Lib.hid rfl, HKK⟩
          case measure => simp [intOf]; omega
        · have hne : (x != y) = true := by simp [hxy]
          have hne2 : (x == y) = false := by simp [hxy]
          have HDD := Lib.hid (HD.out hxy)
          clear HK HD hxy
          go_wp2_with fail
          go_quiet (fail)
          go_wp2
          go_ret
          exact ⟨by rw [decide_eq_false HDD.out]; rfl, m + nq, by rw [HM.out, World.drewN_drewN]⟩
      · have HEQ : Hid (ms = ns) := List.ext_getElem HL.out fun j h1 h2 => by
          have := HE.out j (by have := HN.out; omega)
          rwa [getElem!_pos ms j h1, getElem!_pos ns j h2] at this
        go_wp2
        go_ret
        exact ⟨by rw [decide_eq_true HEQ.out]; rfl, m, HM.out⟩
  · have HD := Lib.hid (fun he : ms = ns => hl (by rw [he]))
    generalize ms.length = n at c0 hl
    generalize ns.length = n' at c0' hl
    have hne : ((n : Int) != (n' : Int)) = true := by simp; omega
    have hne2 : ((n : Int) == (n' : Int)) = false := by simp; omega
    clear hc hc' h h' hl
    go_enter Try.func23, Try.ntmps23
    go_wp2_with fail
    go_quiet (fail)
    go_wp2
    go_ret
    exact ⟨by rw [decide_eq_false HD.out]; rfl, _, rfl⟩
end Go.Proofs.Ytclbfmjmamcjjaa
