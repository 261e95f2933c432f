/- The walk of ShelfDoes. -/
import Derived.Test.YtehdimaihkckkaaAr13
namespace Go.Proofs.Ytehdimaihkckkaa
open Go Go.RowKit

def noB (_ : Nat) : Prop := False
theorem T2.bel {w : World} {q r most nx : Nat} {ts us : List Tg} {F G : Nat → Prop} {u : World} (h : T2 w noB noB q r most nx ts us F G u) : Below w.heap.size w u := h.chg.below (Nat.le_refl _) (fun k hk => hk.elim (fun h => h.elim) (fun h => h.elim))
theorem T2.rebase {w0 : World} {F0 G0 : Nat → Prop} {q r most nx : Nat} {ts us : List Tg} {F G : Nat → Prop} {u : World} (h : T2 w0 F0 G0 q r most nx ts us F G u) : T2 u F G q r most nx ts us F G u :=
  ⟨h.sh, h.rs, h.fg, fun b hb => .inl hb, fun b hb => .inl hb, Chg.refl _ _⟩
theorem T2.comp {w0 : World} {F0 G0 : Nat → Prop} {q r most nx nx' : Nat} {ts us ts' us' : List Tg} {F G F' G' : Nat → Prop} {u u' : World} (h : T2 w0 F0 G0 q r most nx ts us F G u) (k : T2 u F G q r most nx' ts' us' F' G' u') : T2 w0 F0 G0 q r most nx' ts' us' F' G' u' := by
  have hs := h.chg.size
  refine ⟨k.sh, k.rs, k.fg, fun b hb => ?_, fun b hb => ?_, h.chg.trans k.chg (fun j hj => ?_)⟩
  · rcases k.f0 b hb with h1 | h1
    · exact h.f0 b h1
    · exact .inr (by omega)
  · rcases k.g0 b hb with h1 | h1
    · exact h.g0 b h1
    · exact .inr (by omega)
  · rcases hj with hj | hj
    · rcases h.f0 j hj with h1 | h1
      · exact .inl (.inl h1)
      · exact .inr h1
    · rcases h.g0 j hj with h1 | h1
      · exact .inl (.inr h1)
      · exact .inr h1
/-- Both, behind New. -/
theorem T2.new {w u1 u2 : World} {q r most : Nat} (hq : q = w.heap.size) (hr : r = u1.heap.size) (h1 : ShIs u1 (fun b => b = q) q most 0 []) (hb1 : Below w.heap.size w u1) (h2 : RsIs u2 (fun b => b = r) r most []) (hb2 : Below u1.heap.size u1 u2) :
    T2 w noB noB q r most 0 [] [] (fun b => b = q) (fun b => b = r) u2 := by
  have hql := h1.flt q rfl
  have hs := hb1.size
  refine ⟨h1.below hb2, h2, fun b hb hg => by subst hb; omega, fun b hb => .inr (by subst hb; omega), fun b hb => .inr (by subst hb; omega), Chg.of_below (hb1.trans (hb2.mono hs))⟩
/-- The k-th operation of a row. -/
theorem Ov.at {w : World} {B : Nat} {ao : Option Addr} {cap : Nat} {xs : List Op13} (h : Ov w B (.slice ao xs.length cap) xs) : ∀ u : World, (∀ b, b < B → ∀ o, u.cell? ⟨b, o, none⟩ = w.cell? ⟨b, o, none⟩) → ∀ k, k < xs.length → ∃ b o, ao = some ⟨b, o, none⟩ ∧ b < B ∧
    u.cell? ⟨b, o + k * 5, none⟩ = some (.int .i64 xs[k]!.d) ∧ u.cell? ⟨b, o + k * 5 + 1, none⟩ = some (.int .i64 xs[k]!.b) ∧ u.cell? ⟨b, o + k * 5 + 2, none⟩ = some (.int .i64 xs[k]!.e) ∧ u.cell? ⟨b, o + k * 5 + 3, none⟩ = some (.string xs[k]!.x) ∧ u.cell? ⟨b, o + k * 5 + 4, none⟩ = some (.int .i64 xs[k]!.t) := by
  intro u hu k hk
  obtain ⟨ao', cap', e, _, _, hr⟩ := h.row
  simp only [Value.slice.injEq] at e
  obtain ⟨rfl, -, rfl⟩ := e
  obtain ⟨b, o, rfl, hb, hc⟩ := hr (by omega)
  exact ⟨b, o, rfl, hb, (hu b hb _).trans (hc k hk 0 _ rfl), (hu b hb _).trans (hc k hk 1 _ rfl), (hu b hb _).trans (hc k hk 2 _ rfl), (hu b hb _).trans (hc k hk 3 _ rfl), (hu b hb _).trans (hc k hk 4 _ rfl)⟩

set_option maxRecDepth 100000 in
set_option maxHeartbeats 3200000 in
theorem shelfDoes_no (m : Int) (hm : m < 1 ∨ 16384 < m) (v : Value) (hv : ∃ a n c, v = .slice a n c) (w : World) : Calls Try.prog 3 #[.int .i64 m, v] w fun e w' => e = .returned (.bool true) ∧ Below w.heap.size w w' := by
  obtain ⟨a, n, c, rfl⟩ := hv
  have H1 := Lib.hid (hNew_no m hm w); have H2 := Lib.hid (r13New_no m hm w); have H3 := Lib.hid (live13_any w)
  clear hm
  go_enter Try.func3, Try.ntmps3
  go_wp2_with (first
    | (go_at_call 6; (with_reducible refine (H1.out).mono ?_); rintro e u1 ⟨rfl, rfl⟩)
    | (go_at_call 7; (with_reducible refine (H2.out).mono ?_); rintro e u2 ⟨rfl, rfl⟩)
    | (go_at_call 8; (with_reducible refine (H3.out).mono ?_); rintro e u3 ⟨rfl, hb⟩; have HB := Lib.hid hb; clear hb))
  go_ret
  exact ⟨rfl, HB.out⟩

set_option maxRecDepth 100000 in
set_option maxHeartbeats 3200000 in
theorem shelfDoes_ok (m : Nat) (h1 : 1 ≤ m) (h2 : m ≤ 16384) (ao : Option Addr) (cap : Nat) (xs : List Op13) (w : World) (hl : Ov w w.heap.size (.slice ao xs.length cap) xs) : Calls Try.prog 3 #[.int .i64 (m : Int), .slice ao xs.length cap] w fun e w' => e = .returned (.bool true) ∧ Below w.heap.size w w' := by
  obtain ⟨q, hq⟩ : ∃ q, q = w.heap.size := ⟨_, rfl⟩
  have H1 := Lib.hid (hNew_ok m h1 h2 w)
  rw [← hq] at H1
  have H2 := Lib.hid (fun u => r13New_ok m h1 h2 u)
  have H3 := Lib.hid (fun u => live13_any u)
  have hlen := hl.len
  obtain ⟨n, hn⟩ : ∃ n, n = xs.length := ⟨_, rfl⟩
  have HROW : Hid (∀ u, Below w.heap.size w u → ∀ k, k < n → ∃ b o, ao = some ⟨b, o, none⟩ ∧ b < w.heap.size ∧ u.cell? ⟨b, o + k * 5, none⟩ = some (.int .i64 xs[k]!.d) ∧ u.cell? ⟨b, o + k * 5 + 1, none⟩ = some (.int .i64 xs[k]!.b) ∧ u.cell? ⟨b, o + k * 5 + 2, none⟩ = some (.int .i64 xs[k]!.e) ∧ u.cell? ⟨b, o + k * 5 + 3, none⟩ = some (.string xs[k]!.x) ∧ u.cell? ⟨b, o + k * 5 + 4, none⟩ = some (.int .i64 xs[k]!.t)) := Lib.hid (fun u hu k hk => hl.at u (fun b hb o => hu.cell (p := ⟨b, o, none⟩) hb) k (by omega))
  have HQ := Lib.hid hq
  rw [← hn]
  rw [← hn] at hlen
  have HT : Hid (∀ u1 u2, ShIs u1 (fun b => b = q) q m 0 [] → Below q w u1 → RsIs u2 (fun b => b = u1.heap.size) u1.heap.size m [] → Below u1.heap.size u1 u2 → T2 w noB noB q u1.heap.size m 0 [] [] (fun b => b = q) (fun b => b = u1.heap.size) u2) := Lib.hid (fun u1 u2 a b c d => T2.new hq rfl a (by rw [← hq]; exact b) c d)
  have HCAP : Hid (n ≤ 140737488355328) := hlen
  clear hl hn h1 h2 hq
  go_enter Try.func3, Try.ntmps3
  go_wp2_with (first
    | (go_at_call 6; (with_reducible refine (H1.out).mono ?_); rintro e u1 ⟨rfl, ha, hb⟩; have HA1 := Lib.hid ha; have HB1 := Lib.hid hb; clear ha hb)
    | (go_at_call 7; (with_reducible refine (H2.out _).mono ?_); rintro e u2 ⟨rfl, hc, hd⟩; have HK0 := Lib.hid (HT.out _ _ HA1.out HB1.out hc hd); clear hc hd)
    | (go_at_call 8; (with_reducible refine (H3.out _).mono ?_); rintro e u3 ⟨rfl, hb⟩; have HK := Lib.hid (HK0.out.call hb); clear hb))
  generalize u1.heap.size = r at HK HK0 HT ⊢
  clear HK0 HT HA1 HB1 H1 H2 H3
  go_loopw [39] (fun iv wr => ∃ (k nx : Nat) (ts : List Tg) (F G : Nat → Prop), k ≤ n ∧ iv = .int .i64 (k : Int) ∧ Hid (nx ≤ k) ∧ Hid (T2 w noB noB q r m nx ts ts F G wr)) (fun iv _ => n - (intOf iv).toNat)
  case atStart => exact ⟨0, 0, [], _, _, Nat.zero_le _, rfl, Nat.le_refl _, HK⟩
  case round =>
    obtain ⟨k, nx, ts, F, G, hk, rfl, HNX, HT⟩ := hrel
    clear HK
    have e1 : IntKind.i64.wrap ((k : Int) + 1) = (k : Int) + 1 := IntWalk.i64_in _ (by omega)
    by_cases hlt : k < n
    · obtain ⟨b, o, rfl, hb, x0, x1, x2, x3, x4⟩ := HROW.out wr HT.out.bel k hlt
      have hki : (k : Int) < (n : Int) := by omega
      have hk0 : (0 : Int) ≤ (k : Int) := by omega
      generalize xs[k]! = x at x0 x1 x2 x3 x4
      obtain ⟨X, hX⟩ : ∃ X, X = wr.alloc (.cells #[.int .i64 x.d, .int .i64 x.b, .int .i64 x.e, .string x.x, .int .i64 x.t] 34) := ⟨_, rfl⟩
      have hbX : Below wr.heap.size wr X := by rw [hX]; exact (Below.refl _ _).alloc (Nat.le_refl _) _
      have hXn : X.heap[wr.heap.size]? = some (.cells #[.int .i64 x.d, .int .i64 x.b, .int .i64 x.e, .string x.x, .int .i64 x.t] 34 (0, 0)) := by rw [hX]; exact heap_alloc_new wr _
      have hTX := HT.out.call hbX
      have hsl := lt_of_block hXn
      have HD := Lib.hid (does13_any nx ts F G x.d x.b x.e x.x x.t X hTX.rebase (by have := HNX.out; have := HCAP.out; omega))
      have HSM := Lib.hid (fun (nx' : Nat) (ts' : List Tg) (F' G' : Nat → Prop) (st : Int) (u : World) (hu : T2 w noB noB q r m nx' ts' ts' F' G' u) => same13_any nx' ts' F' G' x.t st u hu)
      have hFX : ∀ b, F b → b ≠ wr.heap.size := fun b hb e => by have := HT.out.sh.flt b hb; omega
      have hGX : ∀ b, G b → b ≠ wr.heap.size := fun b hb e => by have := HT.out.rs.flt b hb; omega
      obtain ⟨y0, y1, y2, y3, y4⟩ := cells_op hXn
      have HBK : Hid (∀ nx' ts' F' G' u, T2 X F G q r m nx' ts' ts' F' G' u → T2 w noB noB q r m nx' ts' ts' F' G' u ∧ u.heap[wr.heap.size]? = some (.cells #[.int .i64 x.d, .int .i64 x.b, .int .i64 x.e, .string x.x, .int .i64 x.t] 34 (0, 0))) := Lib.hid (fun nx' ts' F' G' u hu => ⟨hTX.comp hu, (hu.chg.block _ hsl (fun h => h.elim (fun h => hFX _ h rfl) (fun h => hGX _ h rfl))).trans hXn⟩)
      have HX := Lib.hid hX
      clear hX hbX hTX hFX hGX hb hXn hsl
      go_wp2_with fail
      rw [← HX.out]
      refine HD.out.mono ?_
      rintro e w1 ⟨rfl, nx1, ts1, F1, G1, hn1, hk1⟩
      obtain ⟨hT1, hbx⟩ := HBK.out _ _ _ _ _ hk1
      have z4 := (cells_op hbx).2.2.2.2
      have HT1 := Lib.hid hT1; have HBX := Lib.hid hbx; have HN1 := Lib.hid hn1
      clear y0 y1 y2 y3 y4 x0 x1 x2 x3 x4 hk1 hT1 hbx hn1
      go_wp2_with (first
        | (go_at_call 10; (with_reducible refine (HSM.out _ _ _ _ _ _ HT1.out).mono ?_); rintro e u1 ⟨rfl, hb1⟩; have HT1 := Lib.hid (HT1.out.call hb1); have HBX := Lib.hid ((hb1.block _ (lt_of_block HBX.out)).trans HBX.out); have z4 := (cells_op HBX.out).2.2.2.2; clear hb1))
      go_roundw
      case rel => exact ⟨k + 1, nx1, ts1, F1, G1, by omega, by go_num, by have := HN1.out; have := HNX.out; unfold Hid; omega, HT1⟩
      case measure => simp [intOf]; omega
    · obtain rfl : k = n := by omega
      have HTK := Lib.hid (fun u => hTake_nil (.pointer (some ⟨q, 0, none⟩)) u)
      have HS0 := Lib.hid (same13_any nx ts F G 0 0 wr HT.out)
      clear hlt hk
      go_wp2_with (first
        | (go_at_call 11; (with_reducible refine (HTK.out _).mono ?_); rintro e u1 ⟨rfl, rfl⟩)
        | (go_at_call 10; (with_reducible refine (HS0.out).mono ?_); rintro e u2 ⟨rfl, hb⟩; have HB := Lib.hid hb; clear hb))
      go_ret
      exact ⟨by simp, HT.out.bel.trans (HB.out.mono HT.out.bel.size)⟩

theorem shelfDoes_any (m : Int) (v : Value) (xs : List Op13) (w : World) (hl : Ov w w.heap.size v xs) : Calls Try.prog 3 #[.int .i64 m, v] w fun e w' => e = .returned (.bool true) ∧ Below w.heap.size w w' := by
  obtain ⟨ao, cap, rfl, _⟩ := id hl.row
  by_cases h : m < 1 ∨ 16384 < m
  · exact shelfDoes_no m h _ ⟨_, _, _, rfl⟩ w
  · obtain ⟨k, rfl⟩ : ∃ k : Nat, m = (k : Int) := ⟨m.toNat, by omega⟩
    exact shelfDoes_ok k (by omega) (by omega) ao cap xs w hl
end Go.Proofs.Ytehdimaihkckkaa
