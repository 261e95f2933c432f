/- The walk of LexJoins. -/
import Derived.Test.YtdagkhofndeekaaGreatDoorRjo
import Derived.Test.YtdagkhofndeekaaGreatDoorLl
namespace Go.Proofs.YtdagkhofndeekaaGreatDoor
open Go Go.RowKit

theorem JoinP.uni (ts : List Tok) : ∃ (X : ByteArray) (E : Int), ∀ e, JoinP ts e → e = .returned (.tuple #[.string X, .int .i64 E]) := by
  by_cases hall : ∀ x ∈ ts, OkT x
  · by_cases hl : (jn ts).length ≤ 4096
    · exact ⟨_, _, fun e h => h.2.1 hall hl⟩
    · exact ⟨_, _, fun e h => h.2.2 hall (by omega)⟩
  · obtain ⟨x, hx⟩ := Classical.not_forall.1 hall
    obtain ⟨hm, hn⟩ := Classical.not_imp.1 hx
    exact ⟨_, _, fun e h => h.1 ⟨x, hm, hn⟩⟩
theorem Tv.up {w : World} {B B' : Nat} {v : Value} {ts : List Tok} (h : Tv w B v ts) (hB : B ≤ B') : Tv w B' v ts := by
  obtain ⟨ao, cap, h1, h2⟩ := h
  refine ⟨ao, cap, h1, fun h0 => ?_⟩
  obtain ⟨g, a, h3, h4, h5⟩ := h2 h0
  exact ⟨g, a, h3, Nat.lt_of_lt_of_le h4 hB, h5⟩
theorem cells_six_later {w w' : World} {q B : Nat} {c0 c1 c2 c3 c4 c5 : Value} {t : Nat} (h : w.heap[q]? = some (.cells #[c0, c1, c2, c3, c4, c5] t (0, 0))) (hb : Below w.heap.size w w') : w'.heap[q]? = some (.cells #[c0, c1, c2, c3, c4, c5] t (0, 0)) :=
  (hb.block q (Array.getElem?_eq_some_iff.1 h).1).trans h

set_option maxRecDepth 100000 in
set_option maxHeartbeats 4000000 in
theorem joins_walk (ao : Option Addr) (cap : Nat) (ts : List Tok) (w : World) (hE : ErrV w) (hT : Tv w w.heap.size (.slice ao ts.length cap) ts) (hn : 64 * ts.length ≤ 140737488355328) (hsz : ∀ x ∈ ts, x.text.size ≤ 140737488355328) (hj : (jn ts).length ≤ 140737488355328) :
    Calls Tryz.prog 3 #[.slice ao ts.length cap] w fun e w' => e = .returned (.bool true) ∧ Below w.heap.size w w' := by
  obtain ⟨X, E, hX⟩ := JoinP.uni ts
  have H1 := Lib.hid ((lJoin_any ao cap ts w hE hT hn hsz hj).mono (R' := fun e w' => e = .returned (.tuple #[.string X, .int .i64 E]) ∧ Below w.heap.size w w') fun e w' h => ⟨hX e h.1, h.2⟩)
  have H2 := Lib.hid (fun (w2 : World) (hE2 : ErrV w2) (hT2 : Tv w2 w2.heap.size (.slice ao ts.length cap) ts) => (r5Join_any ao cap ts w2 hE2 hT2 hn hsz hj).mono (R' := fun e w' => e = .returned (.tuple #[.string X, .int .i64 E]) ∧ Below w2.heap.size w2 w') fun e w' h => ⟨hX e h.1, h.2⟩)
  have HT := Lib.hid hT; have HE := Lib.hid hE; have HZ := Lib.hid hsz; have HN := Lib.hid hn
  have be : (E == E) = true := by simp
  clear hT hE hsz hj hn hX
  go_enter Tryz.func3, Tryz.ntmps3
  go_wp2_with (first
    | (go_at_call 4; (with_reducible refine H1.out.mono ?_); rintro e w1 ⟨rfl, hb1⟩; have B1 := Lib.hid hb1; clear hb1)
    | (go_at_call 5; (with_reducible refine (H2.out _ (HE.out.keep B1.out) ((HT.out.later B1.out (Nat.le_refl _)).up B1.out.size)).mono ?_); rintro e w2 ⟨rfl, hb2⟩; have B2 := Lib.hid (B1.out.trans (hb2.mono B1.out.size)); clear hb2))
  clear H1 H2
  go_loopw [21] (fun iv wr => ∃ k : Nat, k ≤ ts.length ∧ iv = .int .i64 k ∧ Hid (Below w.heap.size w wr)) (fun iv _ => ts.length - (intOf iv).toNat)
  case atStart => exact ⟨0, Nat.zero_le _, rfl, B2⟩
  case round =>
    obtain ⟨k, hk, rfl, HB⟩ := hrel
    by_cases hlt : k < ts.length
    · have hlti : (k : Int) < (ts.length : Int) := by omega
      have hls := wr_one6 hlt HN.out
      obtain ⟨g, a, rfl, hgl, d0, d1, d2, d3, d4, d5⟩ := (HT.out.later HB.out (Nat.le_refl _)).cells hlt
      obtain ⟨r, hr1, hr2⟩ : ∃ r : Int, Hid (∀ w : World, ErrV w → Calls Tryz.prog 6 #[tokV ts[k]] w fun e w' => e = .returned (.int .i64 r) ∧ Below w.heap.size w w') ∧ Hid (∀ w : World, ErrV w → Calls Tryz.prog 7 #[tokV ts[k]] w fun e w' => e = .returned (.int .i64 r) ∧ Below w.heap.size w w') := by
        by_cases hok : OkT ts[k]
        · exact ⟨0, Lib.hid (fun w hE => lCheck_ok ts[k] hok w hE), Lib.hid (fun w hE => r5Check_ok ts[k] hok w hE)⟩
        · exact ⟨50, Lib.hid (fun w hE => lCheck_no ts[k] (HZ.out _ (List.getElem_mem _)) hok w hE), Lib.hid (fun w hE => r5Check_no ts[k] (HZ.out _ (List.getElem_mem _)) hok w hE)⟩
      have HB0 := Lib.hid (HB.out.alloc HB.out.size (.cells #[.int .i64 ts[k].kind, .string ts[k].text, .int .i64 ts[k].vk, .int .i64 ts[k].vn, .string ts[k].vs, .int .i64 ts[k].pl] 30))
      have HQ := Lib.hid (heap_alloc_new wr (.cells #[.int .i64 ts[k].kind, .string ts[k].text, .int .i64 ts[k].vk, .int .i64 ts[k].vn, .string ts[k].vs, .int .i64 ts[k].pl] 30))
      have hrr : (r == r) = true := by simp
      unfold tokV at hr1 hr2
      generalize ts[k] = x at hr1 hr2 HB0 HQ d0 d1 d2 d3 d4 d5
      clear hk
      go_wp2_with fail
      have HR := Lib.hid (fun (W : World) (h : Below (wr.heap.size + 1) (wr.alloc (.cells #[.int .i64 x.kind, .string x.text, .int .i64 x.vk, .int .i64 x.vn, .string x.vs, .int .i64 x.pl] 30)) W) => HE.out.keep (HB0.out.trans (h.mono (Nat.le_succ_of_le HB.out.size))))
      have HV := Lib.hid (fun (W : World) (h : Below (wr.heap.size + 1) (wr.alloc (.cells #[.int .i64 x.kind, .string x.text, .int .i64 x.vk, .int .i64 x.vn, .string x.vs, .int .i64 x.pl] 30)) W) => cell_of_six ((h.block wr.heap.size (Nat.lt_succ_self _)).trans HQ.out))
      have HF := Lib.hid (fun (W : World) (h : Below (wr.heap.size + 1) (wr.alloc (.cells #[.int .i64 x.kind, .string x.text, .int .i64 x.vk, .int .i64 x.vn, .string x.vs, .int .i64 x.pl] 30)) W) => HB0.out.trans (h.mono (Nat.le_succ_of_le HB.out.size)))
      have HB := Lib.hid (Below.refl (wr.heap.size + 1) (wr.alloc (.cells #[.int .i64 x.kind, .string x.text, .int .i64 x.vk, .int .i64 x.vn, .string x.vs, .int .i64 x.pl] 30)))
      have HS := Lib.hid (show wr.heap.size + 1 ≤ (wr.alloc (.cells #[.int .i64 x.kind, .string x.text, .int .i64 x.vk, .int .i64 x.vn, .string x.vs, .int .i64 x.pl] 30)).heap.size by simp)
      obtain ⟨c0, c1, c2, c3, c4, c5⟩ := HV.out _ HB.out
      clear HB0 HQ d0 d1 d2 d3 d4 d5
      generalize wr.alloc (.cells #[.int .i64 x.kind, .string x.text, .int .i64 x.vk, .int .i64 x.vn, .string x.vs, .int .i64 x.pl] 30) = W1 at HR HV HF HB HS c0 c1 c2 c3 c4 c5 ⊢
      generalize wr.heap.size = P at HR HV HF HB HS c0 c1 c2 c3 c4 c5 ⊢
      go_region_held3 (fun w' => w'.cell? ⟨P, 0, none⟩ = some (.int .i64 x.kind) ∧ w'.cell? ⟨P, 1, none⟩ = some (.string x.text) ∧ w'.cell? ⟨P, 2, none⟩ = some (.int .i64 x.vk) ∧ w'.cell? ⟨P, 3, none⟩ = some (.int .i64 x.vn) ∧ w'.cell? ⟨P, 4, none⟩ = some (.string x.vs) ∧ w'.cell? ⟨P, 5, none⟩ = some (.int .i64 x.pl)) (first | exact ⟨c0, c1, c2, c3, c4, c5⟩ | go_keep)
        (first
          | (go_at_call 6; (with_reducible refine (hr1.out _ (HR.out _ (by first | exact HB.out.drew | exact HB.out))).mono ?_); rintro e w4 ⟨rfl, hb⟩; have HB := Lib.hid ((show Below _ _ _ from (by first | exact HB.out.drew | exact HB.out)).trans (hb.mono HS.out)); have HS := Lib.hid (Nat.le_trans HS.out hb.size); clear hb c0 c1 c2 c3 c4 c5; obtain ⟨c0, c1, c2, c3, c4, c5⟩ := HV.out _ HB.out)
          | (go_at_call 7; (with_reducible refine (hr2.out _ (HR.out _ (by first | exact HB.out.drew | exact HB.out))).mono ?_); rintro e w5 ⟨rfl, hb⟩; have HB := Lib.hid ((show Below _ _ _ from (by first | exact HB.out.drew | exact HB.out)).trans (hb.mono HS.out)); have HS := Lib.hid (Nat.le_trans HS.out hb.size); clear hb c0 c1 c2 c3 c4 c5; obtain ⟨c0, c1, c2, c3, c4, c5⟩ := HV.out _ HB.out))
      all_goals go_wp2
      all_goals go_roundw
      all_goals first
        | exact ⟨k + 1, hlt, by go_num, Lib.hid (HF.out _ HB.out)⟩
        | (rw [hls]; exact meas_step hlt)
    · obtain rfl : k = ts.length := by omega
      have hnl : ¬ ((ts.length : Int) < (ts.length : Int)) := by omega
      clear hlt hk
      go_wp2_with (go_at_call 8; (with_reducible refine (live5_any _ (HE.out.keep HB.out)).mono ?_); rintro e w3 ⟨rfl, hb3⟩; have B3 := Lib.hid (HB.out.trans (hb3.mono HB.out.size)); clear hb3)
      go_ret
      exact ⟨rfl, B3.out⟩
end Go.Proofs.YtdagkhofndeekaaGreatDoor
