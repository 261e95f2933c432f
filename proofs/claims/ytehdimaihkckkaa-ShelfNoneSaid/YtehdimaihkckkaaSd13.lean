/- The document's shelf: Oldest, Clone. -/
import Derived.Test.YtehdimaihkckkaaSc13
namespace Go.Proofs.Ytehdimaihkckkaa
open Go Go.RowKit

/-- The least beginning; 0 where there is none. -/
def oldI : List Tg → Int
  | [] => 0
  | x :: r => r.foldl (fun m t => min m t.beg) x.beg
theorem oldI_take {ts : List Tg} {k : Nat} (hk : k < ts.length) : oldI (ts.take (k + 1)) = if k = 0 then ts[k]!.beg else min (oldI (ts.take k)) ts[k]!.beg := by
  rw [take_one hk]
  cases ts with
  | nil => simp at hk
  | cons x r =>
    cases k with
    | zero => simp [oldI]
    | succ k => simp only [List.take_succ_cons, List.cons_append, oldI, List.foldl_append, List.foldl_cons, List.foldl_nil]; simp

set_option maxRecDepth 100000 in
set_option maxHeartbeats 1600000 in
theorem r13Oldest_any (F : Nat → Prop) (q most : Nat) (ts : List Tg) (w : World) (hr : RsIs w F q most ts) :
    Calls Try.prog 34 #[.pointer (some ⟨q, 0, none⟩)] w fun r w' => r = .returned (.tuple #[.int .i64 (oldI ts), .bool (decide (0 < ts.length))]) ∧ ∃ m, w' = w.drewN m := by
  obtain ⟨v, hv⟩ := hr
  obtain ⟨va, vc, rfl⟩ := hv.slice
  obtain ⟨n, hn⟩ : ∃ n, n = ts.length := ⟨_, rfl⟩
  have HN := Lib.hid hn
  have hm := hv.m2
  have hlen : n ≤ 16384 := by rw [hn]; exact Nat.le_trans hv.len hm
  have hq := hv.blk
  have HX : Hid (∀ k, k < n → ∃ g, va = some ⟨g, 0, none⟩ ∧ w.cell? ⟨g, k * 3, none⟩ = some (.int .i64 ts[k]!.beg)) := Lib.hid (fun k hk => by
    obtain ⟨g, cap, e, _, hc⟩ := hv.at (by omega)
    simp only [Value.slice.injEq] at e
    exact ⟨g, e.1, (hc k (by omega)).1⟩)
  rw [← hn] at hq ⊢
  obtain ⟨c0, -, -⟩ := cells_two hq
  have HT : Hid (∀ k, k < n → oldI (ts.take (k + 1)) = if k = 0 then ts[k]!.beg else min (oldI (ts.take k)) ts[k]!.beg) := Lib.hid (fun k hk => oldI_take (by omega))
  have HTN : Hid (ts.take n = ts) := List.take_of_length_le (by omega)
  have hz : oldI (ts.take 0) = 0 := rfl
  have HZ := Lib.hid hz
  clear hv hn hq hm hz
  go_enter Try.func34, Try.ntmps34
  go_wp2
  go_loop [4, 5] (fun tv iv => ∃ k : Nat, k ≤ n ∧ iv = .int .i64 (k : Int) ∧ tv = .int .i64 (oldI (ts.take k))) (fun _ iv => n - (intOf iv).toNat)
  case atStart => exact ⟨0, Nat.zero_le _, rfl, rfl⟩
  case round =>
    obtain ⟨k, hk, rfl, rfl⟩ := hrel
    have e1 : IntKind.i64.wrap ((k : Int) + 1) = (k : Int) + 1 := IntWalk.i64_in _ (by omega)
    by_cases hlt : k < n
    · obtain ⟨g, rfl, x0⟩ := HX.out k hlt
      have hT := HT.out k hlt
      generalize ts[k]! = x at x0 hT
      have hki : (k : Int) < (n : Int) := by omega
      have hk0 : (0 : Int) ≤ (k : Int) := by omega
      by_cases h0 : k = 0
      · rw [if_pos h0] at hT
        subst h0
        have HTT := Lib.hid hT
        have x00 : w.cell? ⟨g, 0, none⟩ = some (.int .i64 x.beg) := by simpa using x0
        clear hT
        go_wp2
        go_round
        case rel => exact ⟨1, by omega, by go_num, by rw [HTT.out]⟩
        case measure => simp [intOf]; omega
      · rw [if_neg h0] at hT
        have HTT := Lib.hid hT
        have d0 : ((k : Int) == 0) = false := by simp; omega
        generalize oldI (ts.take k) = t at HTT ⊢
        clear hT h0
        by_cases hc : x.beg < t
        · have HE : Hid (min t x.beg = x.beg) := by unfold Hid; omega
          have d1 : decide (x.beg < t) = true := by simpa using hc
          clear hc
          go_wp2
          go_round
          case rel => exact ⟨k + 1, by omega, by go_num, by rw [HTT.out, HE.out]⟩
          case measure => simp [intOf]; omega
        · have HE : Hid (min t x.beg = t) := by unfold Hid; omega
          have d1 : decide (x.beg < t) = false := by simpa using hc
          clear hc
          go_wp2
          go_round
          case rel => exact ⟨k + 1, by omega, by go_num, by rw [HTT.out, HE.out]⟩
          case measure => simp [intOf]; omega
    · obtain rfl : k = n := by omega
      rw [HTN.out]
      go_wp2
      go_quiet (fail)
      go_wp2
      go_ret2
      exact ⟨by simp, _, rfl⟩

theorem below_of_grown13 {w w' : World} (h : w.grownBy w' (Value.slice none 0 0).ownBlock) : Below w.heap.size w w' := ⟨h.os, h.tape, h.output, h.size, fun k hk => h.block k hk (by simp [Value.ownBlock])⟩
theorem run_append_first {P : Program} (w : World) (t ty e : TypeId) (i : TypeInfo) (ht : P.underlying t = some (.slice e)) (hi : P.info? e = some i) (c : Nat) : (Builtin.append_ #[t, t] ty #[.slice none 0 0, .slice none 0 c]).run P w = .ok (.slice none 0 0) w := by
  simp [Builtin.append_, run_underlying ht, sizeOf, typeInfo, hi, Builtin.lenOf, Builtin.firstCells]
/-- append onto nil, whatever the source, as a step of a region that draws its order. -/
theorem step_append_first {P : Program} {w : World} {ops : Array Oper} {o : Oper} {a : Act} {K : Act → World → Prop} {Q : Exit → Act → World → Prop} {E : Prop} (hgd : o.guard = none) (s x : Operand) (t : TypeId)
    (ho : o.op = .call { callee := .builtin .append, args := #[s, x], argTypes := #[t, t] })
    (e : TypeId) (i : TypeInfo) (z : Value) (size bytes : Nat) (ht : P.underlying t = some (.slice e)) (hi : P.info? e = some i) (hz : i.zero = some z)
    (hsize : i.size = size) (hby : i.bytes = bytes) (hzs : z.cells.size = size) (hsz : 0 < size)
    (hs : a.eval s = .slice none 0 0) (A : Option Addr) (n c : Nat) (xs : List Value) (hx : a.eval x = .slice A n c) (hl : xs.length = n * size)
    (hr : 0 < n → ∃ ad, A = some ad ∧ ∀ j u, xs[j]? = some u → w.cell? (ad.add j) = some u) (h1 : ∀ u ∈ xs, u.oneCell' = true)
    (h63 : n ≤ maxLen) (hbytes : n * bytes ≤ 140737488355328)
    (h : ∀ v' w', w'.ownsRow w.heap.size e size v' n xs → Below w.heap.size w w' → K (a.put o.dst v') w') : if Region.wanted o (yielded ops a.tmps) = true then Oper.wp P o a w K Q else E := by
  cases A with
  | none =>
    have hn : n = 0 := by
      rcases Nat.eq_zero_or_pos n with h0 | h0
      · exact h0
      · obtain ⟨ad, e, _⟩ := hr h0; cases e
    subst hn
    have hxs : xs = [] := List.eq_nil_of_length_eq_zero (by simpa using hl)
    subst hxs
    have hw : Region.wanted o (yielded ops a.tmps) = true := by simp [Region.wanted, hgd]
    rw [if_pos hw]
    have hrun := run_append_first (P := P) w t o.type e i ht hi c
    unfold Oper.wp
    simp [execOp, ho, resolve, invoke, builtin, hs, hx, hrun, Result.andThen]
    exact h _ _ (World.ownsRow_nil _ _ _ _) (Below.refl _ _)
  | some ad =>
    refine step_append_own hgd s x t ho w.heap.size e i z size bytes ht hi hz hsize hby hzs hsz (.slice none 0 0) 0 [] hs (World.ownsRow_nil _ _ _ _) ad n c xs hx hl (fun j u hj => ?_) h1 (by omega) (by rw [Nat.zero_add]; exact hbytes) (Nat.le_refl _) ?_
    · have hn : 0 < n := by
        rcases Nat.eq_zero_or_pos n with h0 | h0
        · rw [h0, Nat.zero_mul] at hl
          rw [List.eq_nil_of_length_eq_zero hl] at hj
          simp at hj
        · exact h0
      obtain ⟨ad', e, hc⟩ := hr hn
      cases e
      exact hc j u hj
    · intro v' w' hown hgrow
      rw [Nat.zero_add, List.nil_append] at hown
      exact h v' w' hown (below_of_grown13 hgrow)
/-- The cells of a row, whatever its address. -/
theorem own_news {w : World} {B e size n c : Nat} {a : Option Addr} {xs : List Value} (h : w.ownsRow B e size (.slice a n c) n xs) (hs : 0 < size) : 0 < n → ∃ ad, a = some ad ∧ ∀ j u, xs[j]? = some u → w.cell? (ad.add j) = some u := fun hn => by
  rcases h.2 with ⟨_, h0⟩ | ⟨g, cap, cur, e, _, hg, _⟩
  · omega
  · simp only [Value.slice.injEq] at e
    obtain ⟨rfl, -, rfl⟩ := e
    exact ⟨_, rfl, fun j u hj => h.cells (g := g) rfl j u hj⟩

set_option maxRecDepth 100000 in
set_option maxHeartbeats 1600000 in
theorem r13Clone_any (F : Nat → Prop) (q most : Nat) (ts : List Tg) (w : World) (hr : RsIs w F q most ts) :
    Calls Try.prog 24 #[.pointer (some ⟨q, 0, none⟩)] w fun r w' => ∃ q', r = .returned (.pointer (some ⟨q', 0, none⟩)) ∧ RsIs w' (fun b => w.heap.size ≤ b ∧ b < w'.heap.size) q' most ts ∧ Below w.heap.size w w' := by
  obtain ⟨i0, hi, hz0, hz1, hz2⟩ := info_parts13 infoRThg
  obtain ⟨v, hv⟩ := hr
  obtain ⟨va, vc, rfl⟩ := hv.slice
  have hm := hv.m2
  have HLN := Lib.hid hv.len; have HM := Lib.hid hm
  have hwd : Below w.heap.size w w.drew := (Below.refl _ _).drew
  have HN := Lib.hid (own_news (hv.below hwd).own (by decide))
  have HL := Lib.hid (dgRow_len ts); have H1 := Lib.hid (dgRow_one ts)
  have HNU : Hid (ts.length ≤ maxLen ∧ ts.length * 32 ≤ 140737488355328) := by have := hv.len; unfold Hid maxLen; omega
  have HB : Hid (∀ u, Below w.heap.size w u → u.heap[q]? = some (.cells #[.slice va ts.length vc, .int .i64 (most : Int)] 74 (0, 0))) := Lib.hid (fun u hu => (hv.below hu).blk)
  obtain ⟨c0, c1, -⟩ := cells_two hv.blk
  have HF : Hid (∀ v' w1, w1.ownsRow w.drew.heap.size 47 3 v' ts.length (dgRow ts) → Below w.drew.heap.size w.drew w1 → RsIs (w1.alloc (.cells #[v', .int .i64 (most : Int)] 74)) (fun b => w.heap.size ≤ b ∧ b < (w1.alloc (.cells #[v', .int .i64 (most : Int)] 74)).heap.size) w1.heap.size most ts ∧ Below w.heap.size w (w1.alloc (.cells #[v', .int .i64 (most : Int)] 74))) := Lib.hid (fun v' w1 ho hb => by
    have hb1 : Below w.heap.size w w1 := hwd.trans hb
    have hs := hb1.size
    have hba : Below w1.heap.size w1 (w1.alloc (.cells #[v', .int .i64 (most : Int)] 74)) := (Below.refl _ _).alloc (Nat.le_refl _) _
    refine ⟨⟨v', ⟨hs, by simp⟩, fun b hb => hb.2, HM.out, HLN.out, heap_alloc_new w1 _, own_lower0 (own_call0 ho hba) (Nat.zero_le _), fun g hg => ?_⟩, hb1.trans (hba.mono hs)⟩
    have h1 := ho.lt g hg
    exact ⟨⟨h1.1, by simp; omega⟩, by omega⟩)
  clear hv hm hwd
  go_enter Try.func24, Try.ntmps24
  go_wp2
  go_region_held3 (fun w' => w'.cell? ⟨q, 0, none⟩ = some (.slice va ts.length vc) ∧ w'.cell? ⟨q, 1, none⟩ = some (.int .i64 (most : Int)))
    (first | (with_reducible exact ⟨c0, c1⟩) | (with_reducible exact ⟨t0, t1⟩) | go_keep)
    ((refine step_append_first (w := w.drew) (by rfl) (.tmp 4) (.tmp 8) 42 (by rfl) 47 i0 (.agg #[.int .i64 0, .int .i64 0, .string ⟨#[]⟩]) 3 32 Try.underlying42 hi hz0 hz1 hz2 rfl (by decide) (by rfl) va ts.length vc (dgRow ts) (by rfl) HL.out HN.out H1.out HNU.out.1 HNU.out.2 ?_; intro v1 w1 hown hb1; obtain ⟨a1, k1, rfl⟩ := own_slice hown; have hq1 := HB.out w1 (((Below.refl w.heap.size w).drew).trans hb1); obtain ⟨t0, t1, -⟩ := cells_two hq1; have HF1 := Lib.hid (HF.out _ w1 hown hb1); clear hown hb1 hq1))
  all_goals go_wp2
  all_goals go_ret
  all_goals exact ⟨_, rfl, HF1.out.1, HF1.out.2⟩
end Go.Proofs.Ytehdimaihkckkaa
