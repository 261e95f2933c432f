/- The walk of PredEarly. -/
import Derived.Test.YtpbloplbpkedcaaPt9
import Derived.Test.YtpbloplbpkedcaaSx9
namespace Go.Proofs.Ytpbloplbpkedcaa
open Go Go.RowKit Go.Sort

theorem ss_low9 {u u' : World} {v : Value} {l : List Nm} (h : SsV u (fun b => b < u.heap.size) v l) (hb : Below u.heap.size u u') : SsV u' (fun b => b < u'.heap.size) v l := (h.keep (fun b hb2 => hb.block b hb2)).mono (fun b hb2 => Nat.lt_of_lt_of_le hb2 hb.size)
theorem cd_low9 {u u' : World} {v : Value} {l : List Cnd} (h : CdV u (fun b => b < u.heap.size) v l) (hb : Below u.heap.size u u') : CdV u' (fun b => b < u'.heap.size) v l := (h.keep (fun b hb2 => hb.block b hb2)).mono (fun b hb2 => Nat.lt_of_lt_of_le hb2 hb.size)
theorem len_part (l : List Cnd) (q : Cnd → Bool) : (l.filter q).length + (l.filter fun c => !q c).length = l.length := by
  induction l with
  | nil => rfl
  | cons x r ih => cases h : q x <;> simp [h] <;> omega

set_option maxRecDepth 100000 in
set_option maxHeartbeats 4000000 in
theorem early9_walk (cl : List Cnd) (ta : Option Addr) (tc : Nat) (sa : Option Addr) (sc : Nat) (l : List Nm) (ao : Option Addr) (n cap : Nat) (bs : List Bd) (w : World) (hs : SsV w (fun b => b < w.heap.size) (.slice sa l.length sc) l) (hn : l.length ≤ 140737488355328) (hwl : ∀ x ∈ l, x.length ≤ maxLen)
    (hc : CdV w (fun x => x < w.heap.size) (.slice ta cl.length tc) cl) (hcl : cl.length * 136 ≤ 140737488355328) (hwc : ∀ c ∈ cl, wdC c) (h : BsV w w.heap.size (.slice ao n cap) bs) (hat : attrsB bs ≤ 1048576) (hvs : ∀ b ∈ bs, b.var.size ≤ maxLen) :
    Calls Try.prog 5 #[.slice ta cl.length tc, .slice sa l.length sc, .agg #[.slice ao n cap]] w fun e w' => e = .returned (.bool true) ∧ Below w.heap.size w w' := by
  have hnl : n = bs.length := by obtain ⟨_, _, he, _⟩ := h; simp only [Value.slice.injEq] at he; exact he.2.1
  have hsl := strsB_len bs
  have hn2 : n ≤ 140737488355328 := by omega
  obtain ⟨P, hP⟩ : ∃ P, P = w.heap.size := ⟨_, rfl⟩
  obtain ⟨W, hW⟩ : ∃ W, W = w.alloc (.cells #[.slice ao n cap] 43) := ⟨_, rfl⟩
  have hb : Below P w W := by rw [hW, hP]; exact (Below.refl _ _).alloc (Nat.le_refl _) _
  have q0 : W.heap[P]? = some (.cells #[.slice ao n cap] 43 (0, 0)) := by rw [hW, hP]; exact heap_alloc_new _ _
  have hPW : P ≤ W.heap.size := by have := lt_of_block q0; omega
  have hXC := fun (u : World) (hu : Below W.heap.size W u) => (show u.cell? ⟨P, 0, none⟩ = some (.slice ao n cap) from cell_of_one ((hu.block P (lt_of_block q0)).trans q0))
  have hbs := fun (u : World) (hu : Below W.heap.size W u) => (h.below (hP ▸ (hb.trans (hu.mono hPW))) (Nat.le_refl _))
  have hsz := fun (u : World) (hu : Below W.heap.size W u) => (show w.heap.size ≤ u.heap.size by have := hu.size; omega)
  have hcd := fun (u : World) (hu : Below W.heap.size W u) => (show CdV u (fun x => x < u.heap.size) (.slice ta cl.length tc) cl from (hc.keep (fun b hx => (hb.trans (hu.mono hPW)).block b (by omega))).mono (fun x hx => by have := hu.size; omega))
  have hss := fun (u : World) (hu : Below W.heap.size W u) => (show SsV u (fun x => x < u.heap.size) (.slice sa l.length sc) l from (hs.keep (fun b hx => (hb.trans (hu.mono hPW)).block b (by omega))).mono (fun x hx => by have := hu.size; omega))
  have HL := Lib.hid live9_any
  have HS := Lib.hid (fun (u : World) (hu : Below W.heap.size W u) => pSplit_any cl ta tc sa sc l u (hss u hu) hn hwl (hcd u hu) hcl hwc)
  have H0 := Lib.hid (fun (u : World) (hu : Below W.heap.size W u) => pAll_any cl ta tc w.heap.size ao n cap bs u (hbs u hu) (hsz u hu) hn2 (hcd u hu) (by omega) hwc hat hvs)
  have H1 := Lib.hid (fun (m : List Cnd) (hm : m.length ≤ 140737488355328 ∧ ∀ c ∈ m, wdC c) (va : Option Addr) (vc : Nat) (u : World) (hu : Below W.heap.size W u) (hv : CdV u (fun x => x < u.heap.size) (.slice va m.length vc) m) => pAll_any m va vc w.heap.size ao n cap bs u (hbs u hu) (hsz u hu) hn2 hv hm.1 hm.2 hat hvs)
  have hlen : ∀ p : Cnd → Bool, (cl.filter p).length ≤ 140737488355328 ∧ ∀ c ∈ cl.filter p, wdC c := fun p => ⟨Nat.le_trans (List.length_filter_le _ _) (by omega), fun c hc => hwc c (List.mem_filter.1 hc).1⟩
  have HA := Lib.hid (hlen fun c => readyB c l); have HBB := Lib.hid (hlen fun c => !readyB c l)
  have hpt : allB cl bs = (allB (cl.filter fun c => readyB c l) bs && allB (cl.filter fun c => !readyB c l) bs) := all_part cl (fun c => readyB c l) _
  have hlp := len_part cl (fun c => readyB c l)
  generalize (cl.filter fun c => readyB c l) = la at HS HA hpt hlp
  generalize (cl.filter fun c => !readyB c l) = lb at HS HBB hpt hlp
  have HLP : Hid ((la.length : Int) + (lb.length : Int) = (cl.length : Int)) := Lib.hid (by omega)
  have H2 := Lib.hid (H1.out la HA.out); have H3 := Lib.hid (H1.out lb HBB.out)
  generalize allB cl bs = xl at H0 hpt
  generalize allB la bs = xa at H2 hpt
  generalize allB lb bs = xb at H3 hpt
  have hw1 : IntKind.i64.wrap ((la.length : Int) + (lb.length : Int)) = (cl.length : Int) := by rw [HLP.out]; exact IntWalk.i64_in _ (by omega)
  have hw2 : wrap64 ((la.length : Int) + (lb.length : Int)) = (cl.length : Int) := by rw [HLP.out]; unfold wrap64; omega
  have HXC := Lib.hid hXC
  have HP := Lib.hid hP; have HW := Lib.hid hW; have HB := Lib.hid hb; have HPW := Lib.hid hPW
  have B2 := Lib.hid (Below.refl W.heap.size W)
  rw [← hP]
  clear H1 HA HBB hs hn hwl hc hcl hwc h hat hvs hnl hsl hn2 hP hW hb q0 hPW hbs hsz hcd hss hlen hlp HLP hXC
  subst hpt
  cases xa <;> cases xb
  all_goals
    simp only [Bool.and_self, Bool.and_true, Bool.and_false, Bool.true_and, Bool.false_and] at H0
    go_enter Try.func5, Try.ntmps5
    go_wp2_with fail
    rw [← HW.out, ← HP.out]
    go_wp2_with (first
      | (go_at_call 19; (with_reducible refine (HS.out _ B2.out).mono ?_); rintro e u1 ⟨va, vb, rfl, ht, hb⟩; have B2 := Lib.hid (B2.out.trans (hb.mono B2.out.size)); have ha1 := ht.a.cd; have hb1 := ht.b.cd; obtain ⟨a1, k1, rfl, -⟩ := ha1; obtain ⟨a2, k2, rfl, -⟩ := hb1; have HA1 := Lib.hid (fun (u : World) (hu : Below u1.heap.size u1 u) => cd_low9 ht.a.cd hu); have HB1 := Lib.hid (fun (u : World) (hu : Below u1.heap.size u1 u) => cd_low9 ht.b.cd hu); have B3 := Lib.hid (Below.refl u1.heap.size u1); clear ht hb))
    have c0 := HXC.out _ B2.out
    have mq := cell_regrown c0
    have HCL := Lib.hid (rg (w := u1) (fun u hu => live9_any u))
    have HC0 := Lib.hid (rg (w := u1) (fun u hu => H0.out u (B2.out.trans (hu.mono B2.out.size))))
    have HC2 := Lib.hid (rg (w := u1) (fun u hu => H2.out a1 k1 u (B2.out.trans (hu.mono B2.out.size)) (HA1.out u hu)))
    have HC3 := Lib.hid (rg (w := u1) (fun u hu => H3.out a2 k2 u (B2.out.trans (hu.mono B2.out.size)) (HB1.out u hu)))
    have HFIN : Hid (∀ u, Below u1.heap.size u1 u → Below P w u) := Lib.hid (fun u hu => HB.out.trans ((B2.out.trans (hu.mono B2.out.size)).mono HPW.out))
    clear c0
    refine wp_region_quiet_below (by kernel_rfl) (by kernel_rfl) ?_
    repeat (quiet_step (first | (with_reducible exact HCL.out _ _) | (with_reducible exact HC0.out _ _) | (with_reducible exact HC2.out _ _) | (with_reducible exact HC3.out _ _)))
    refine wpQuiet_nil ?_
    intro _ hw'
    obtain ⟨⟨dq, osq⟩, hw''⟩ := hw'
    subst hw''
    go_wp2
    go_ret
    exact ⟨rfl, HFIN.out _ (below_regrown u1 dq osq)⟩
end Go.Proofs.Ytpbloplbpkedcaa
