/- Contract: whether all of some conditions hold, with whatever function is handed over. -/
import Derived.Test.YtpbloplbpkedcaaTs9
import Derived.Shelf.AbstractIn
import Derived.Shelf.Abstract
namespace Go.Proofs.Ytpbloplbpkedcaa
open Go Go.RowKit Go.Sort

set_option maxRecDepth 100000 in
set_option maxHeartbeats 2000000 in
theorem pEvery_cap (gf : Nat) (cp : Value) (p : Cnd → Bool) (cl : List Cnd) (ta : Option Addr) (tc : Nat) (w : World) (eg : ∀ args w, (callFunc gf args).run Try.prog w = .ok (.enter gf args) w) (hcl : cl.length ≤ 140737488355328)
    (hc : CdV w (fun x => x < w.heap.size) (.slice ta cl.length tc) cl) (HF : ∀ c ∈ cl, ∀ u : World, Below w.heap.size w u → Calls Try.prog gf #[cdV c, cp] u fun e w' => e = .returned (.bool (p c)) ∧ Below u.heap.size u w') :
    Calls Try.prog 39 #[.slice ta cl.length tc, .func (.func gf) #[] #[cp]] w fun e w' => e = .returned (.bool (cl.all p)) ∧ Below w.heap.size w w' := by
  have HC := Lib.hid (fun (u : World) (hu : Below w.heap.size w u) (c : Cnd) (hm : c ∈ cl) => HF c hm u hu)
  have HX := Lib.hid (fun (u : World) (hu : Below w.heap.size w u) => hc.keep (fun b hb => hu.block b hb))
  have HN := Lib.hid hcl
  clear hc hcl HF
  go_enter Try.func39, Try.ntmps39
  go_wp2_with fail
  go_loopw [9] (fun iv wr => ∃ k : Nat, k ≤ cl.length ∧ iv = .int .i64 k ∧ Hid (∀ c ∈ cl.take k, p c = true) ∧ Hid (Below w.heap.size w wr)) (fun iv _ => cl.length - (intOf iv).toNat)
  case atStart => exact ⟨0, Nat.zero_le _, rfl, Lib.hid (by simp), Lib.hid (Below.refl _ _)⟩
  case round =>
    obtain ⟨k, hk, rfl, HA, HB⟩ := hrel
    by_cases hlt : k < cl.length
    · have hlti : (k : Int) < (cl.length : Int) := by omega
      have hls := wr7 hlt HN.out
      have hne : cl ≠ [] := fun h => by rw [h] at hlt; exact absurd hlt (Nat.not_lt_zero _)
      obtain ⟨ta', tc', he, hh⟩ := HX.out _ HB.out
      simp only [Value.slice.injEq, true_and] at he
      obtain ⟨rfl, rfl⟩ := he
      obtain ⟨b, o, rfl, hb, hat⟩ := hh hne
      obtain ⟨d0, d1, d2, d3, d4, d5, d6, d7, d8, d9, d10⟩ := hat.cells hlt
      have hm : cl[k] ∈ cl := List.getElem_mem _
      have HCk := Lib.hid (fun (u : World) (hu : Below w.heap.size w u) => HC.out u hu cl[k] hm)
      have HB0 := Lib.hid (HB.out.alloc HB.out.size (.cells #[.string cl[k].left.var, .string cl[k].left.attr, .int .i64 cl[k].left.vk, .int .i64 cl[k].left.vn, .string cl[k].left.vs, .int .i64 cl[k].rel, .string cl[k].right.var, .string cl[k].right.attr, .int .i64 cl[k].right.vk, .int .i64 cl[k].right.vn, .string cl[k].right.vs] 27))
      have HHM := Lib.hid hm
      have HAK : Hid (p cl[k] = true → ∀ c ∈ cl.take (k + 1), p c = true) := Lib.hid (fun ho c hc => by
        rw [List.take_succ_eq_append_getElem hlt, List.mem_append, List.mem_singleton] at hc
        rcases hc with hc | rfl
        · exact HA.out c hc
        · exact ho)
      unfold cdV at HCk
      clear hh hne hm hat hk
      generalize cl[k] = x at d0 d1 d2 d3 d4 d5 d6 d7 d8 d9 d10 HCk HB0 HHM HAK
      cases hok : p x with
      | true =>
        simp only [hok] at HCk
        go_wp2_with (first | (go_at_fn gf; (with_reducible refine (HCk.out _ HB0.out).mono ?_); rintro e w2 ⟨rfl, hb2⟩; have HB2 := Lib.hid (HB0.out.trans (hb2.mono HB0.out.size)); clear hb2))
        go_roundw
        all_goals first
          | exact ⟨k + 1, hlt, by go_num, Lib.hid (HAK.out hok), HB2⟩
          | exact meas7 hlt
          | (rw [hls]; exact meas7 hlt)
      | false =>
        simp only [hok] at HCk
        go_wp2_with (first | (go_at_fn gf; (with_reducible refine (HCk.out _ HB0.out).mono ?_); rintro e w2 ⟨rfl, hb2⟩; have HB2 := Lib.hid (HB0.out.trans (hb2.mono HB0.out.size)); clear hb2))
        go_ret
        refine ⟨show Ending.returned (Value.bool false) = _ from ?_, HB2.out⟩
        rw [show cl.all p = false from ?_]
        rw [Bool.eq_false_iff]
        intro hall
        have := List.all_eq_true.1 hall x HHM.out
        rw [hok] at this
        cases this
    · obtain rfl : k = cl.length := by omega
      have hnl : ¬ ((cl.length : Int) < (cl.length : Int)) := by omega
      clear hlt hk
      go_wp2
      go_ret
      refine ⟨show Ending.returned (Value.bool true) = _ from ?_, HB.out⟩
      rw [show cl.all p = true from ?_]
      rw [List.all_eq_true]
      intro c hc
      exact HA.out c (by rw [List.take_length]; exact hc)
set_option maxRecDepth 100000 in
set_option maxHeartbeats 2000000 in
theorem pEvery_bnd (gf : Nat) (cp : Value) (p : Cnd → Bool) (cl : List Cnd) (ta : Option Addr) (tc : Nat) (w : World) (eg : ∀ args w, (callFunc gf args).run Try.prog w = .ok (.enter gf args) w) (hcl : cl.length ≤ 140737488355328)
    (hc : CdV w (fun x => x < w.heap.size) (.slice ta cl.length tc) cl) (HF : ∀ c ∈ cl, ∀ u : World, Below w.heap.size w u → Calls Try.prog gf #[cp, cdV c] u fun e w' => e = .returned (.bool (p c)) ∧ Below u.heap.size u w') :
    Calls Try.prog 39 #[.slice ta cl.length tc, .func (.func gf) #[cp] #[]] w fun e w' => e = .returned (.bool (cl.all p)) ∧ Below w.heap.size w w' := by
  have HC := Lib.hid (fun (u : World) (hu : Below w.heap.size w u) (c : Cnd) (hm : c ∈ cl) => HF c hm u hu)
  have HX := Lib.hid (fun (u : World) (hu : Below w.heap.size w u) => hc.keep (fun b hb => hu.block b hb))
  have HN := Lib.hid hcl
  clear hc hcl HF
  go_enter Try.func39, Try.ntmps39
  go_wp2_with fail
  go_loopw [9] (fun iv wr => ∃ k : Nat, k ≤ cl.length ∧ iv = .int .i64 k ∧ Hid (∀ c ∈ cl.take k, p c = true) ∧ Hid (Below w.heap.size w wr)) (fun iv _ => cl.length - (intOf iv).toNat)
  case atStart => exact ⟨0, Nat.zero_le _, rfl, Lib.hid (by simp), Lib.hid (Below.refl _ _)⟩
  case round =>
    obtain ⟨k, hk, rfl, HA, HB⟩ := hrel
    by_cases hlt : k < cl.length
    · have hlti : (k : Int) < (cl.length : Int) := by omega
      have hls := wr7 hlt HN.out
      have hne : cl ≠ [] := fun h => by rw [h] at hlt; exact absurd hlt (Nat.not_lt_zero _)
      obtain ⟨ta', tc', he, hh⟩ := HX.out _ HB.out
      simp only [Value.slice.injEq, true_and] at he
      obtain ⟨rfl, rfl⟩ := he
      obtain ⟨b, o, rfl, hb, hat⟩ := hh hne
      obtain ⟨d0, d1, d2, d3, d4, d5, d6, d7, d8, d9, d10⟩ := hat.cells hlt
      have hm : cl[k] ∈ cl := List.getElem_mem _
      have HCk := Lib.hid (fun (u : World) (hu : Below w.heap.size w u) => HC.out u hu cl[k] hm)
      have HB0 := Lib.hid (HB.out.alloc HB.out.size (.cells #[.string cl[k].left.var, .string cl[k].left.attr, .int .i64 cl[k].left.vk, .int .i64 cl[k].left.vn, .string cl[k].left.vs, .int .i64 cl[k].rel, .string cl[k].right.var, .string cl[k].right.attr, .int .i64 cl[k].right.vk, .int .i64 cl[k].right.vn, .string cl[k].right.vs] 27))
      have HHM := Lib.hid hm
      have HAK : Hid (p cl[k] = true → ∀ c ∈ cl.take (k + 1), p c = true) := Lib.hid (fun ho c hc => by
        rw [List.take_succ_eq_append_getElem hlt, List.mem_append, List.mem_singleton] at hc
        rcases hc with hc | rfl
        · exact HA.out c hc
        · exact ho)
      unfold cdV at HCk
      clear hh hne hm hat hk
      generalize cl[k] = x at d0 d1 d2 d3 d4 d5 d6 d7 d8 d9 d10 HCk HB0 HHM HAK
      cases hok : p x with
      | true =>
        simp only [hok] at HCk
        go_wp2_with (first | (go_at_fn gf; (with_reducible refine (HCk.out _ HB0.out).mono ?_); rintro e w2 ⟨rfl, hb2⟩; have HB2 := Lib.hid (HB0.out.trans (hb2.mono HB0.out.size)); clear hb2))
        go_roundw
        all_goals first
          | exact ⟨k + 1, hlt, by go_num, Lib.hid (HAK.out hok), HB2⟩
          | exact meas7 hlt
          | (rw [hls]; exact meas7 hlt)
      | false =>
        simp only [hok] at HCk
        go_wp2_with (first | (go_at_fn gf; (with_reducible refine (HCk.out _ HB0.out).mono ?_); rintro e w2 ⟨rfl, hb2⟩; have HB2 := Lib.hid (HB0.out.trans (hb2.mono HB0.out.size)); clear hb2))
        go_ret
        refine ⟨show Ending.returned (Value.bool false) = _ from ?_, HB2.out⟩
        rw [show cl.all p = false from ?_]
        rw [Bool.eq_false_iff]
        intro hall
        have := List.all_eq_true.1 hall x HHM.out
        rw [hok] at this
        cases this
    · obtain rfl : k = cl.length := by omega
      have hnl : ¬ ((cl.length : Int) < (cl.length : Int)) := by omega
      clear hlt hk
      go_wp2
      go_ret
      refine ⟨show Ending.returned (Value.bool true) = _ from ?_, HB.out⟩
      rw [show cl.all p = true from ?_]
      rw [List.all_eq_true]
      intro c hc
      exact HA.out c (by rw [List.take_length]; exact hc)
end Go.Proofs.Ytpbloplbpkedcaa
