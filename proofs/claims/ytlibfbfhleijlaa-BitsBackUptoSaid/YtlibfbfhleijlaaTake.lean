/- Contract of take: both sources tell the same, and stand at the same bit afterwards. -/
import Derived.Test.YtlibfbfhleijlaaRnew
namespace Go.Proofs.Ytlibfbfhleijlaa
open Go Go.RowKit

def takeT (e : Nat) : Bool := srcT e || refT e
theorem takeT_src (e : Nat) (h : takeT e = false) : srcT e = false := by unfold takeT at h; simp at h; exact h.1
theorem takeT_ref (e : Nat) (h : takeT e = false) : refT e = false := by unfold takeT at h; simp at h; exact h.2

theorem SrcIs.kept {w w' : World} {B B' q : Nat} {bytes : List Nat} {p : Nat} {T : Nat → Bool} (h : SrcIs w B q bytes p) (hk : Kept B' T w w') (h1 : T 69 = false) (h2 : T 5 = false) : SrcIs w' B q bytes p := by
  obtain ⟨v, hq, ho⟩ := h.row
  exact ⟨h.from_, h.len, h.at_, h.small, v, hk.typed _ _ _ _ hq h1, hk.ownsRow ho h2⟩
theorem SrcIs.below {w w' : World} {B B' q : Nat} {bytes : List Nat} {p : Nat} (h : SrcIs w B q bytes p) (hb : Below B' w w') (hB : w.heap.size ≤ B') : SrcIs w' B q bytes p := by
  obtain ⟨v, hq, ho⟩ := h.row
  exact ⟨h.from_, h.len, h.at_, h.small, v, by rw [hb.block q (by have := lt_of_block hq; omega)]; exact hq, ownsRow_below ho hb hB⟩
theorem RefIs.lower {w : World} {B B' q : Nat} {l : List Bool} (h : RefIs w B q l) (hB : B' ≤ B) : RefIs w B' q l := ⟨Nat.le_trans hB h.from_, h.len, h.row⟩

/-- Both stand at the same bit. -/
def Both (w : World) (B q q' : Nat) (bytes : List Nat) : Prop := ∃ p, SrcIs w B q bytes p ∧ RefIs w B q' (leftL bytes p)

/-- What the two calls of take leave. -/
theorem both_of {w w1 w2 : World} {B q q' : Nat} {bytes : List Nat} {l l' : List Bool} (h1 : ∃ p', SrcIs w1 B q bytes p' ∧ leftL bytes p' = l') (k1 : Kept B srcT w w1) (h2 : RefIs w2 B q' l') (k2 : Kept B refT w1 w2) : Both w2 B q q' bytes ∧ Kept B takeT w w2 := by
  obtain ⟨p', h3, h4⟩ := h1
  refine ⟨⟨p', h3.kept k2 (by decide) (by decide), by rw [h4]; exact h2⟩, (k1.mono (Nat.le_refl _) takeT_src).trans (k2.mono (Nat.le_refl _) takeT_ref)⟩

set_option maxRecDepth 100000 in
set_option maxHeartbeats 1600000 in
theorem take_any (B q q' : Nat) (bytes : List Nat) (kind n : Int) (u : Int) (s : ByteArray) (w : World) (hs : Both w B q q' bytes) (hB : B ≤ w.heap.size) (hn : (Lit.int .i64 n).wf = true) :
    Calls Try.prog 17 #[.pointer (some ⟨q, 0, none⟩), .pointer (some ⟨q', 0, none⟩), .agg #[.int .i64 kind, .int .u64 u, .int .i64 n, .string s]] w fun e w' => e = .returned (.bool true) ∧ Both w' B q q' bytes ∧ Kept B takeT w w' := by
  obtain ⟨p, hs1, hr1⟩ := hs
  have kA : Kept B takeT w (w.alloc (.cells #[.int .i64 kind, .int .u64 u, .int .i64 n, .string s] 29)) := (Kept.refl _ _ _).alloc hB _
  have hS := hs1.below ((Below.refl w.heap.size w).alloc (Nat.le_refl _) (.cells #[.int .i64 kind, .int .u64 u, .int .i64 n, .string s] 29)) (Nat.le_refl _)
  have hR := hr1.below ((Below.refl w.heap.size w).alloc (Nat.le_refl _) (.cells #[.int .i64 kind, .int .u64 u, .int .i64 n, .string s] 29)) (Nat.le_refl _)
  have hP : (w.alloc (.cells #[.int .i64 kind, .int .u64 u, .int .i64 n, .string s] 29)).heap[w.heap.size]? = some (.cells #[.int .i64 kind, .int .u64 u, .int .i64 n, .string s] 29 (0, 0)) := heap_alloc_new _ _
  have HS := hide hS; have HR := hide hR; have HP := hide hP; have HK := hide kA
  clear hs1 hr1 kA hS hR hP hB
  by_cases h0 : kind = 0
  · subst h0
    go_enter Try.func17, Try.ntmps17
    go_wp2_with fail
    refine (sBits_any B q n bytes p _ HS.out hn).mono ?_
    rintro e w1 ⟨rfl, h1, k1⟩
    have c2 := (cell_of_four (k1.typed _ _ _ _ HP.out (by decide))).2.2.1
    have H1 := hide h1; have K1 := hide k1; clear h1 k1
    go_wp2_with fail
    refine (rsBits_any B q' n _ _ (HR.out.kept K1.out (by decide) (by decide)) hn).mono ?_
    rintro e w2 ⟨rfl, h2, k2⟩
    have H2 := hide (both_of (l := []) H1.out K1.out h2 k2); clear h2 k2
    go_wp2
    go_ret
    exact ⟨rfl, H2.out.1, HK.out.trans H2.out.2⟩
  by_cases h1 : kind = 1
  · subst h1
    clear h0
    go_enter Try.func17, Try.ntmps17
    go_wp2_with fail
    refine (sNat_left B q bytes p _ HS.out).mono ?_
    rintro e w1 ⟨rfl, h1, k1⟩
    have H1 := hide h1; have K1 := hide k1; clear h1 k1
    go_wp2_with fail
    refine (rsNat_any B q' _ _ (HR.out.kept K1.out (by decide) (by decide))).mono ?_
    rintro e w2 ⟨rfl, h2, k2⟩
    have H2 := hide (both_of (l := []) H1.out K1.out h2 k2); clear h2 k2
    go_wp2
    go_ret
    exact ⟨rfl, H2.out.1, HK.out.trans H2.out.2⟩
  by_cases h2 : kind = 2
  · subst h2
    clear h0 h1
    go_enter Try.func17, Try.ntmps17
    go_wp2_with fail
    refine (sNum_any B q bytes p _ HS.out).mono ?_
    rintro e w1 ⟨rfl, h1, k1⟩
    have H1 := hide h1; have K1 := hide k1; clear h1 k1
    go_wp2_with fail
    refine (rsNum_any B q' _ _ (HR.out.kept K1.out (by decide) (by decide))).mono ?_
    rintro e w2 ⟨rfl, h2, k2⟩
    have H2 := hide (both_of (l := []) H1.out K1.out h2 k2); clear h2 k2
    go_wp2
    go_ret
    exact ⟨rfl, H2.out.1, HK.out.trans H2.out.2⟩
  by_cases h3 : kind = 3
  · subst h3
    clear h0 h1 h2
    go_enter Try.func17, Try.ntmps17
    go_wp2_with fail
    refine (sText_any B q bytes p _ HS.out).mono ?_
    rintro e w1 ⟨rfl, h1, k1⟩
    have H1 := hide h1; have K1 := hide k1; clear h1 k1
    go_wp2_with fail
    refine (rsText_any B q' _ _ (HR.out.kept K1.out (by decide) (by decide))).mono ?_
    rintro e w2 ⟨rfl, h2, k2⟩
    have H2 := hide (both_of (l := []) H1.out K1.out h2 k2); clear h2 k2
    go_wp2
    go_ret
    exact ⟨rfl, H2.out.1, HK.out.trans H2.out.2⟩
  · have b0 : (kind == 0) = false := by simp [h0]
    have b1 : (kind == 1) = false := by simp [h1]
    have b2 : (kind == 2) = false := by simp [h2]
    have b3 : (kind == 3) = false := by simp [h3]
    clear h0 h1 h2 h3
    go_enter Try.func17, Try.ntmps17
    go_wp2_with fail
    refine (sFlag_any B q bytes p _ HS.out).mono ?_
    rintro e w1 ⟨rfl, h1, k1⟩
    have H1 := hide h1; have K1 := hide k1; clear h1 k1
    go_wp2_with fail
    refine (rsFlag_any B q' _ _ (HR.out.kept K1.out (by decide) (by decide))).mono ?_
    rintro e w2 ⟨rfl, h2, k2⟩
    have H2 := hide (both_of (l := []) H1.out K1.out h2 k2); clear h2 k2
    go_wp2
    go_ret
    exact ⟨rfl, H2.out.1, HK.out.trans H2.out.2⟩
end Go.Proofs.Ytlibfbfhleijlaa
