/- Contract: slices.SortFunc of bounds by their variables. -/
import Derived.Test.YtcnecokamckfaaaGreatDoorK4
import Derived.Test.YtcnecokamckfaaaGreatDoorShelf5
import Derived.Test.YtcnecokamckfaaaGreatDoorK1
import Derived.Shelf.SlSortCmp.WholeK
import Derived.Lib.OwnBridge
set_option linter.unusedVariables false
set_option linter.unusedSimpArgs false
namespace Go.Proofs.YtcnecokamckfaaaGreatDoor
open Go Go.RowKit Go.Sort Go.Shelf

/-- A bound with its slice of attributes. -/
abbrev El := Bd × (Option Addr × Nat)
def elV (p : El) : Value := .slice p.2.1 p.1.ev.ats.length p.2.2
def encE (p : El) : List Value := encB p.1 (elV p)
theorem encE_len (p : El) : (encE p).length = 6 := rfl
theorem RwL.els {A : Value → List At → Prop} : ∀ {bs : List Bd} {xs : List Value}, RwL A bs xs → ∃ l : List El, l.map Prod.fst = bs ∧ xs = l.flatMap encE ∧ ∀ p ∈ l, A (elV p) p.1.ev.ats
  | [], _, h => ⟨[], rfl, h, fun p hp => by cases hp⟩
  | x :: r, _, ⟨aa, ac, ys, e, h1, h2⟩ => by
    obtain ⟨l, e1, e2, h3⟩ := h2.els
    refine ⟨(x, (aa, ac)) :: l, by rw [List.map_cons, e1], by rw [e, e2]; rfl, fun p hp => ?_⟩
    rcases List.mem_cons.1 hp with rfl | hp
    · exact h1
    · exact h3 p hp
theorem RwL.of_els {A : Value → List At → Prop} : ∀ (l : List El), (∀ p ∈ l, A (elV p) p.1.ev.ats) → RwL A (l.map Prod.fst) (l.flatMap encE)
  | [], _ => rfl
  | p :: r, h => ⟨p.2.1, p.2.2, r.flatMap encE, rfl, h p (List.mem_cons_self ..), RwL.of_els r fun q hq => h q (List.mem_cons_of_mem _ hq)⟩
theorem flatE_len : ∀ l : List El, (l.flatMap encE).length = l.length * 6
  | [] => rfl
  | p :: r => by rw [List.flatMap_cons, List.length_append, encE_len, flatE_len r, List.length_cons]; omega
theorem flatE_at : ∀ (l : List El) (j : Nat), j < l.length * 6 → (l.flatMap encE)[j]? = some ((encE l[j / 6]!)[j % 6]!)
  | [], j, h => absurd h (by simp)
  | p :: r, j, h => by
    rw [List.flatMap_cons]
    by_cases hlt : j < 6
    · rw [List.getElem?_append_left (by rw [encE_len]; exact hlt), Nat.div_eq_of_lt hlt, Nat.mod_eq_of_lt hlt]
      show (encE p)[j]? = some ((encE p)[j]!)
      rw [getElem!_pos (encE p) j (by rw [encE_len]; exact hlt), List.getElem?_eq_getElem (by rw [encE_len]; exact hlt)]
    · have hl : (p :: r).length * 6 = r.length * 6 + 6 := by rw [List.length_cons]; omega
      rw [List.getElem?_append_right (by rw [encE_len]; omega), encE_len, flatE_at r (j - 6) (by omega)]
      have h1 : j / 6 = (j - 6) / 6 + 1 := by omega
      have h2 : j % 6 = (j - 6) % 6 := by omega
      rw [h1, h2]
      simp
theorem holds_of_own {w : World} {base g n cap : Nat} {l : List El} (h : w.ownsRow base 54 6 (.slice (some ⟨g, 0, none⟩) n cap) n (l.flatMap encE)) (hn : n = l.length) : HoldsK encE 6 w g 0 l.toArray := by
  intro j hj
  have hj' : j < l.length * 6 := by simpa [size_flatK] using hj
  refine ⟨?_, by rw [Nat.zero_add]; exact h.frozenAt j⟩
  rw [get_flatK _ _ _ j (by simpa using hj'), Nat.zero_add, h.cellAt j (by omega), flatE_at l j hj']
  simp
theorem cells_of_holds {w : World} {g : Nat} {l : List El} (h : HoldsK encE 6 w g 0 l.toArray) : ∀ j u, (l.flatMap encE)[j]? = some u → w.cell? ⟨g, 0 + j, none⟩ = some u := by
  intro j u hu
  have hj : j < l.length * 6 := by rw [← flatE_len]; exact (List.getElem?_eq_some_iff.1 hu).1
  have := (h j (by simpa [size_flatK] using hj)).1
  rw [this, get_flatK _ _ _ j (by simpa using hj), ← hu, flatE_at l j hj]
  simp
def cfE (x y : El) : Int := cbV x.1 y.1
theorem swoE : SWO (ltOf cfE) where
  irrefl x := by unfold ltOf cfE cbV; rw [cb_self]; rfl
  trans x y z h1 h2 := by
    unfold ltOf cfE at *
    rw [decide_eq_true_eq] at *
    exact cbV_trans h1 h2
  ntrans x y z h1 h2 := by
    unfold ltOf cfE at *
    rw [decide_eq_false_iff_not] at *
    have a := cbV_swap x.1 y.1; have b := cbV_swap y.1 z.1; have c := cbV_swap x.1 z.1
    have := (cb_trans z.1.var.data.toList y.1.var.data.toList x.1.var.data.toList (show cbV z.1 y.1 ≤ 0 by omega) (show cbV y.1 x.1 ≤ 0 by omega)).1
    have d : cbV z.1 x.1 ≤ 0 := this
    omega

set_option maxRecDepth 100000 in
set_option maxHeartbeats 1600000 in
theorem mMerge1_any (x y : El) (W : World) :
    Calls Tryz.prog 45 #[.agg (encE x).toArray, .agg (encE y).toArray] W fun e w' => e = .returned (.int .i64 (cfE x y)) ∧ ∃ q os', w' = grow (W.drewN q) os' := by
  show Calls Tryz.prog 45 #[.agg #[.string x.1.var, .int .i64 x.1.ev.src, .int .i64 x.1.ev.seq, .int .i64 x.1.ev.time, .string x.1.ev.ty, elV x], .agg #[.string y.1.var, .int .i64 y.1.ev.src, .int .i64 y.1.ev.seq, .int .i64 y.1.ev.time, .string y.1.ev.ty, elV y]] W fun e w' => e = .returned (.int .i64 (Lib.compareBytes x.1.var.data.toList y.1.var.data.toList)) ∧ ∃ q os', w' = grow (W.drewN q) os'
  have hcon := fun w => Tryz.strings_Compare x.1.var y.1.var w
  generalize Lib.compareBytes x.1.var.data.toList y.1.var.data.toList = r at hcon ⊢
  generalize elV x = vx
  generalize elV y = vy
  go_enter Tryz.func45, Tryz.ntmps45
  go_wp2_with (go_at_call 46; (with_reducible refine (hcon _).mono ?_); rintro e w' ⟨rfl, rfl⟩)
  go_ret
  exact ⟨rfl, 0, _, by rw [alloc_eq_grow, alloc_eq_grow, grow_grow]; rfl⟩

theorem below_sortWorld {base : Nat} {w : World} {g n : Nat} {d : Array El} {os : Array Obj} (hg : base ≤ g) (hgw : g < w.heap.size) : Below base w (sortWorldK encE 6 w g 0 n d os) ∧ w.heap.size ≤ (sortWorldK encE 6 w g 0 n d os).heap.size := by
  have hsz : (putRowK encE 6 (Sort.ahead w n) g 0 d).heap.size = w.heap.size := by unfold putRowK; rw [size_putRow]; rfl
  have h1 : Below base w (putRowK encE 6 (Sort.ahead w n) g 0 d) := Lib.below_putRow (Below.refl base w) hg
  have h2 : Below w.heap.size (putRowK encE 6 (Sort.ahead w n) g 0 d) (grow (putRowK encE 6 (Sort.ahead w n) g 0 d) os) := ⟨rfl, rfl, rfl, by simp [grow], fun k hk => by
    show (_ ++ os)[k]? = _
    rw [Array.getElem?_append_left (by omega)]⟩
  exact ⟨h1.trans (h2.mono (by omega)), by show w.heap.size ≤ (_ ++ os).size; rw [Array.size_append, hsz]; omega⟩

set_option maxRecDepth 100000 in
set_option maxHeartbeats 1600000 in
theorem iSortBd_none (p : Option Addr) (cap : Nat) (fv : Value) (w : World) :
    Calls Tryz.prog 101 #[.slice p 0 cap, .int .i64 0, .int .i64 0, fv] w fun e w' => e = .returned (.tuple #[]) ∧ w = w' := by
  go_enter Tryz.func101, Tryz.ntmps101
  go_wp2
  refine wp_loop_rounds 1 ?_
  rw [rounds_succ]
  go_wp2
  go_end0
  exact ⟨rfl, rfl⟩
set_option maxRecDepth 100000 in
set_option maxHeartbeats 1600000 in
theorem pdqBd_none (p : Option Addr) (cap : Nat) (lim : Int) (fv : Value) (w : World) :
    Calls Tryz.prog 72 #[.slice p 0 cap, .int .i64 0, .int .i64 0, .int .i64 lim, fv] w fun e w' => e = .returned (.tuple #[]) ∧ w = w' := by
  go_enter Tryz.func72, Tryz.ntmps72
  go_wp2
  refine wp_loop_rounds 1 ?_
  rw [rounds_succ]
  go_wp2_with (go_at_call 101; (with_reducible refine (iSortBd_none _ _ _ _).mono ?_); rintro e w' ⟨rfl, rfl⟩)
  (try simp only [Exit.inBlock, Exit.then]); refine bodyPost_ret (results_none rfl _ _ _) rfl ?_
  exact ⟨rfl, rfl⟩
set_option maxRecDepth 100000 in
set_option maxHeartbeats 1600000 in
theorem SortFuncBd_none (fv : Value) (w : World) :
    Calls Tryz.prog 44 #[.slice none 0 0, fv] w fun e w' => e = .returned (.tuple #[]) ∧ w = w' := by
  have hl : ∀ W, Calls Tryz.prog 73 #[.int .u64 0] W fun e w' => e = .returned (.int .i64 (Lib.bitLen 0 : Nat)) ∧ W = w' := fun W => (Tryz.bits_Len 0 W (by omega) (by omega)).mono fun _ _ ⟨a, b⟩ => ⟨a, b.symm⟩
  go_enter Tryz.func44, Tryz.ntmps44
  go_wp2_with (first | (go_at_call 73; (with_reducible refine (hl _).mono ?_); rintro e w' ⟨rfl, rfl⟩) | (go_at_call 72; (with_reducible refine (pdqBd_none _ _ _ _ _).mono ?_); rintro e w' ⟨rfl, rfl⟩))
  go_end0
  exact ⟨rfl, rfl⟩
set_option maxHeartbeats 1600000 in
theorem SortFuncBd_any (base B : Nat) (v : Value) (bs : List Bd) (xs : List Value) (w : World) (h : w.ownsRow base 54 6 v bs.length xs) (hr : RwL (AvN w B) bs xs) (hB : B ≤ base) (hbw : base ≤ w.heap.size) (hw : ∀ x ∈ bs, x.var.size ≤ maxLen ∧ x.ev.ty.size ≤ maxLen) (hl : bs.length * 80 ≤ 140737488355328) :
    Calls Tryz.prog 44 #[v, .func (.func 45) #[] #[]] w fun e w' => e = .returned (.tuple #[]) ∧ ∃ m : List Bd, m.Perm bs ∧ (m.Pairwise fun x y => cbV x y ≤ 0) ∧ BsV w' w'.heap.size v m ∧ Below base w w' ∧ w.heap.size ≤ w'.heap.size ∧ ∀ a : Addr, some a.block ≠ v.ownBlock → a.block < w.heap.size → w'.cell? a = w.cell? a := by
  rcases h.2 with ⟨rfl, h0⟩ | ⟨g, cap, cur, rfl, hg, hgg, hcap, hcm, _, _⟩
  · obtain rfl : bs = [] := List.eq_nil_of_length_eq_zero h0
    exact (SortFuncBd_none (.func (.func 45) #[] #[]) w).mono fun e w' ⟨he, hw'⟩ => ⟨he, [], List.Perm.refl _, List.Pairwise.nil, BsV.nil _ _, by rw [← hw']; exact Below.refl _ _, by rw [← hw']; exact Nat.le_refl _, fun a _ _ => by rw [← hw']⟩
  · obtain ⟨l, rfl, rfl, hA⟩ := hr.els
    have hgw := lt_of_block hgg
    have hlen : (l.map Prod.fst).length = l.length := List.length_map _
    have hH := holds_of_own h hlen
    have eg : ∀ args w, (callFunc 45 args).run Tryz.prog w = .ok (.enter 45 args) w := enters_of Tryz.func45 (by kernel_rfl) rfl
    have hcmp : CmpLays Tryz.prog 45 #[] encE 6 cfE g 0 l.toArray.size w := fun _ _ _ _ x y => mMerge1_any x y _
    have hcon := AnyQ.slices_SortFunc Tryz.lSortF 6 Tryz.isAgg54 Tryz.sizeOf54 encE encE_len (fun x v hv => encB_one _ _ _ _ v hv) cfE swoE 45 #[] g 0 cap l.toArray w eg hcmp hH hgw (by simp; omega)
    change Calls Tryz.prog 44 #[.slice (some ⟨g, 0, none⟩) l.length cap, _] _ _ at hcon
    rw [hlen]
    refine hcon.mono fun e w' ⟨he, d', n, os, hp, hs, hw'⟩ => ?_
    have hps : d'.size = l.length := by have := hp.1; simpa using this
    have hperm : d'.toList.Perm l := by
      have := hp.2.2
      have e1 : d'.extract 0 l.toArray.size = d' := by rw [show l.toArray.size = d'.size by simp [hps]]; exact Array.extract_size
      have e2 : l.toArray.extract 0 l.toArray.size = l.toArray := Array.extract_size
      rw [e1, e2] at this
      simpa using this
    obtain ⟨hb, hsz⟩ := below_sortWorld (n := n) (d := d') (os := os) hg hgw
    rw [← hw'] at hb hsz
    have hH' : HoldsK encE 6 w' g 0 d'.toList.toArray := by rw [hw', Array.toArray_toList]; exact holdsK_sortWorldK encE 6 w g 0 n l.toArray d' os hgw hH (by simp [hps])
    have hpm : (d'.toList.map Prod.fst).Perm (l.map Prod.fst) := hperm.map _
    refine ⟨he, d'.toList.map Prod.fst, hpm, ?_, ?_, hb, hsz, fun a ha hlt => by rw [hw']; exact cell?_sortWorldK_other encE 6 w g 0 n d' os a (fun e => ha (by rw [e]; rfl)) hlt⟩
    · rw [List.pairwise_iff_getElem]
      intro i j hi hj hij
      rw [List.length_map, Array.length_toList] at hi hj
      have := hs i j (Nat.zero_le _) hij (by simp; omega)
      unfold ltOf cfE at this
      rw [decide_eq_false_iff_not, getElem!_pos d' i hi, getElem!_pos d' j hj] at this
      have h2 := cbV_swap (d'[i]).1 (d'[j]).1
      rw [List.getElem_map, List.getElem_map, Array.getElem_toList, Array.getElem_toList]
      omega
    · have hml : (d'.toList.map Prod.fst).length = l.length := by rw [List.length_map, Array.length_toList, hps]
      refine ⟨fun x hx => hw x (hpm.mem_iff.1 hx), by rw [hml, ← hlen]; exact hl, some ⟨g, 0, none⟩, cap, by rw [hml], by rw [hml, ← hlen]; exact hcap, by unfold maxLen at hcm; omega, (fun e => by cases e), fun _ => ⟨g, 0, rfl, by omega, ?_⟩⟩
      exact BdAt.of_list (RwL.of_els d'.toList fun p hp => ((hA p (hperm.mem_iff.1 hp)).below hb hB).mono (by omega)) (cells_of_holds hH')
end Go.Proofs.YtcnecokamckfaaaGreatDoor
