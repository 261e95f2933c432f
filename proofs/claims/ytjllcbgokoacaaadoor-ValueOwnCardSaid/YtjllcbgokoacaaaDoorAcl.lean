/- Contract of slices.Clone of attributes, wherever they lie. -/
import Derived.Test.YtjllcbgokoacaaaDoorAg
namespace Go.Proofs.YtjllcbgokoacaaaDoor
open Go Go.RowKit

theorem infoAttr : (Tryd.prog.info? 43).map (fun i => (i.zero, i.size, i.bytes)) = some (some (.agg #[.string ⟨#[]⟩, .int .i64 0, .int .i64 0, .string ⟨#[]⟩]), 4, 48) := by kernel_rfl

set_option maxRecDepth 100000 in
set_option maxHeartbeats 1600000 in
/-- What comes back: the same attributes in a row of the call's own; nil of nil. -/
theorem cloneAt_any (B : Nat) (ao : Option Addr) (n cap : Nat) (xs : List At) (w : World) (h : Av w B (.slice ao n cap) xs) :
    Calls Tryd.prog 32 #[.slice ao n cap] w fun e w' => ∃ v', e = .returned v' ∧ w'.ownsRow w.heap.size 43 4 v' xs.length (xs.flatMap enc4) ∧ Below w.heap.size w w' := by
  obtain ⟨i0, hi, hz0, hz1, hz2⟩ := info_parts infoAttr
  obtain ⟨hn, hn63⟩ := h.num
  have q := fun (w : World) (a : Option Addr) (n c n' c' : Nat) => Lib.run_eql_slice_nil w 24 43 a n c n' c' Tryd.underlying24
  cases ao with
  | none =>
    have h0 : n = 0 := by
      rcases Nat.eq_zero_or_pos n with h0 | h0
      · exact h0
      · obtain ⟨b, o, he, _⟩ := h.at h0
        cases he
    obtain rfl : xs = [] := List.length_eq_zero_iff.1 (by omega)
    clear h hn
    go_enter Tryd.func32, Tryd.ntmps32
    go_wp2
    go_ret
    exact ⟨_, rfl, World.ownsRow_nil _ _ _ _, Below.refl _ _⟩
  | some ad =>
    have hc : ∀ j u, (xs.flatMap enc4)[j]? = some u → w.cell? (ad.add j) = some u := fun j u hj => by
      have hjl := (List.getElem?_eq_some_iff.1 hj).1
      rw [flat4_len] at hjl
      obtain ⟨b, o, he, _, _, _, _, hc⟩ := h.at (by omega)
      simp only [Option.some.injEq] at he
      subst he
      have h1 : j / 4 < xs.length := by omega
      have hx : (enc4 xs[j / 4]!)[j % 4]? = some u := by
        have hlt : j % 4 < (enc4 xs[j / 4]!).length := by rw [enc4_len]; omega
        have h2 := flat_at xs (j / 4) (j % 4) h1 _ (List.getElem?_eq_getElem hlt)
        rw [show j / 4 * 4 + j % 4 = j by omega, hj] at h2
        rw [List.getElem?_eq_getElem hlt, ← h2]
      have h3 := hc (j / 4) h1 (j % 4) u hx
      have e : (⟨b, o, none⟩ : Addr).add j = ⟨b, o + j, none⟩ := by unfold Addr.add; split <;> simp_all
      rw [e, show o + j = o + j / 4 * 4 + j % 4 by omega]; exact h3
    have hl48 := h.len
    have HC := Lib.hid hc; have HN := Lib.hid hn
    clear h hn hc
    go_enter Tryd.func32, Tryd.ntmps32
    go_wp2_with (at_builtin; refine wpList_append_own _ rfl _ _ 24 rfl w.heap.size 43 i0 (.agg #[.string ⟨#[]⟩, .int .i64 0, .int .i64 0, .string ⟨#[]⟩]) 4 48 Tryd.underlying24 hi hz0 hz1 hz2 rfl (by decide) _ _ _ rfl (World.ownsRow_made w #[] 0 (Nat.le_refl _) (Nat.zero_le _) (by simp)) ad n cap (xs.flatMap enc4) rfl (by rw [flat4_len, HN.out]) (fun j u hj => Lib.cell?_alloc_some _ (HC.out j u hj)) (flat4_one xs) (by unfold maxLen; omega) (by have := HN.out; omega) (by simp) ?_; intro v' w1 hown hgrow hnil; clear hnil; have HO := Lib.hid hown; have HG := Lib.hid hgrow; clear hown hgrow)
    go_ret
    refine ⟨_, rfl, by have := HO.out; rw [HN.out] at this; simpa using this, ?_⟩
    exact ((Below.refl _ w).alloc (Nat.le_refl _) _).grown HG.out (by simp) (fun k hk => ((World.ownsRow_made (base := w.heap.size) (e := 43) (size := 4) w #[] 0 (Nat.le_refl _) (Nat.zero_le _) (by simp)).lt k hk).1)
end Go.Proofs.YtjllcbgokoacaaaDoor
