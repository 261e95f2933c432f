/- Joined: So1, Rk1, Rs2, Iv1, Ic1, To1. -/
import Derived.Test.YtcnecokamckfaaaGreatDoorK10
import Derived.Test.YtcnecokamckfaaaGreatDoorK6
import Derived.Test.YtcnecokamckfaaaGreatDoorShelf6
import Derived.Shelf.SlSortCmp.WholeK
import Derived.Lib.OwnBridge
import Derived.Test.YtcnecokamckfaaaGreatDoorK8
import Derived.RangeFuncBox
import Derived.RangeFuncNested
import Derived.RangeFuncBound
import Derived.RangeFuncCalls
import Derived.RangeFuncLeaves
import Derived.Shelf.Abstract
import Derived.Shelf.RegionOpen
import Derived.WalkKit
import Derived.OwnWalkIn
import Derived.TacticsInMore
import Derived.LoopNIn
import Derived.LoopIn
import Derived.Test.YtcnecokamckfaaaGreatDoorK9
import Derived.Test.YtcnecokamckfaaaGreatDoorCl0
set_option linter.unusedVariables false
set_option linter.unusedSimpArgs false
/- Contracts: slices.SortFunc of partial matches by Compare; slices.SortedFunc of what a set holds. -/
namespace Go.Proofs.YtcnecokamckfaaaGreatDoor
open Go Go.RowKit Go.Sort Go.Shelf Go.Maps Go.WideMaps

/-- A partial match by its slice and its bounds. -/
structure Pe where
  s : Sl
  l : List Bd
def Pe.Ok (w : World) (N : Nat) (x : Pe) : Prop := BsV w N (slV x.s) x.l
theorem Pe.Ok.below {w w' : World} {N B : Nat} {x : Pe} (h : x.Ok w N) (hb : Below B w w') (hB : N ≤ B) : x.Ok w' N := BsV.below h hb hB
theorem Pe.Ok.mono {w : World} {N N' : Nat} {x : Pe} (h : x.Ok w N) (hN : N ≤ N') : x.Ok w N' := BsV.mono h hN
abbrev PeG (w : World) (N : Nat) : Type := {x : Pe // x.Ok w N}
instance (w : World) (N : Nat) : Inhabited (PeG w N) := ⟨⟨⟨⟨none, 0, 0⟩, []⟩, BsV.nil w N⟩⟩
def encP {w : World} {N : Nat} (x : PeG w N) : List Value := [slV x.1.s]
theorem encP_len {w : World} {N : Nat} (x : PeG w N) : (encP x).length = 1 := rfl
def cfP {w : World} {N : Nat} (x y : PeG w N) : Int := cmpL x.1.l y.1.l
theorem peG_of {w : World} {N : Nat} : ∀ ys : List Pe, (∀ y ∈ ys, y.Ok w N) → ∃ l : List (PeG w N), l.map Subtype.val = ys
  | [], _ => ⟨[], rfl⟩
  | y :: r, h => by
    obtain ⟨l, hl⟩ := peG_of r fun z hz => h z (List.mem_cons_of_mem _ hz)
    exact ⟨⟨y, h y (List.mem_cons_self ..)⟩ :: l, by rw [List.map_cons, hl]⟩
theorem swoP {w : World} {N : Nat} : SWO (ltOf (cfP (w := w) (N := N))) where
  irrefl x := by unfold ltOf cfP; rw [cmpL_self]; rfl
  trans x y z h1 h2 := by
    unfold ltOf cfP at *
    rw [decide_eq_true_eq] at *
    exact (cmpL_trans (a := x.1.l) (b := y.1.l) (c := z.1.l) (by omega) (by omega)).2 (.inl h1)
  ntrans x y z h1 h2 := by
    unfold ltOf cfP at *
    rw [decide_eq_false_iff_not] at *
    have a := cmpL_swap x.1.l y.1.l; have b := cmpL_swap y.1.l z.1.l; have c := cmpL_swap x.1.l z.1.l
    have := (cmpL_trans (a := z.1.l) (b := y.1.l) (c := x.1.l) (by omega) (by omega)).1
    omega
theorem holds_peG {w0 : World} {N : Nat} {w : World} {base g n cap : Nat} {l : List (PeG w0 N)} (h : w.ownsRow base 38 1 (.slice (some ⟨g, 0, none⟩) n cap) n (l.map fun x => slV x.1.s)) (hn : n = l.length) : HoldsK encP 1 w g 0 l.toArray := by
  intro j hj
  have hj' : j < l.length := by simpa [size_flatK] using hj
  refine ⟨?_, by rw [Nat.zero_add]; exact h.frozenAt j⟩
  rw [get_flatK _ _ _ j (by simpa using hj'), Nat.zero_add, h.cellAt j (by omega), Nat.div_one, Nat.mod_one]
  simp [encP, hj']
theorem cells_peG {w0 : World} {N : Nat} {w : World} {g : Nat} {l : List (PeG w0 N)} (h : HoldsK encP 1 w g 0 l.toArray) (j : Nat) (hj : j < l.length) : w.cell? ⟨g, 0 + j, none⟩ = some (slV l[j].1.s) := by
  have := (h j (by simpa [size_flatK] using hj)).1
  rw [this, get_flatK _ _ _ j (by simpa using hj), Nat.div_one, Nat.mod_one]
  simp [encP, hj]
/-- A row of partial matches, at or beyond block A, below block B. -/
def RwP (w : World) (A B : Nat) (v : Value) (zs : List Pe) : Prop := ∃ ao cap, v = .slice ao zs.length cap ∧ (0 < zs.length → ∃ b o, ao = some ⟨b, o, none⟩ ∧ A ≤ b ∧ b < B ∧ ∀ j (hj : j < zs.length), w.cell? ⟨b, o + j, none⟩ = some (slV zs[j].s))

theorem below_sortP {w0 : World} {N : Nat} {base : Nat} {w : World} {g n : Nat} {d : Array (PeG w0 N)} {os : Array Obj} (hg : base ≤ g) (hgw : g < w.heap.size) : Below base w (sortWorldK encP 1 w g 0 n d os) ∧ w.heap.size ≤ (sortWorldK encP 1 w g 0 n d os).heap.size := by
  have hsz : (putRowK encP 1 (Sort.ahead w n) g 0 d).heap.size = w.heap.size := by unfold putRowK; rw [size_putRow]; rfl
  have h1 : Below base w (putRowK encP 1 (Sort.ahead w n) g 0 d) := Lib.below_putRow (Below.refl base w) hg
  have h2 : Below w.heap.size (putRowK encP 1 (Sort.ahead w n) g 0 d) (grow (putRowK encP 1 (Sort.ahead w n) g 0 d) os) := ⟨rfl, rfl, rfl, by simp [grow], fun k hk => by
    show (_ ++ os)[k]? = _
    rw [Array.getElem?_append_left (by omega)]⟩
  exact ⟨h1.trans (h2.mono (by omega)), by show w.heap.size ≤ (_ ++ os).size; rw [Array.size_append, hsz]; omega⟩

set_option maxRecDepth 100000 in
set_option maxHeartbeats 1600000 in
theorem iSortP_none (p : Option Addr) (cap : Nat) (fv : Value) (w : World) :
    Calls Tryz.prog 119 #[.slice p 0 cap, .int .i64 0, .int .i64 0, fv] w fun e w' => e = .returned (.tuple #[]) ∧ w = w' := by
  go_enter Tryz.func119, Tryz.ntmps119
  go_wp2
  refine wp_loop_rounds 1 ?_
  rw [rounds_succ]
  go_wp2
  go_end0
  exact ⟨rfl, rfl⟩
set_option maxRecDepth 100000 in
set_option maxHeartbeats 1600000 in
theorem pdqP_none (p : Option Addr) (cap : Nat) (lim : Int) (fv : Value) (w : World) :
    Calls Tryz.prog 88 #[.slice p 0 cap, .int .i64 0, .int .i64 0, .int .i64 lim, fv] w fun e w' => e = .returned (.tuple #[]) ∧ w = w' := by
  go_enter Tryz.func88, Tryz.ntmps88
  go_wp2
  refine wp_loop_rounds 1 ?_
  rw [rounds_succ]
  go_wp2_with (go_at_call 119; (with_reducible refine (iSortP_none _ _ _ _).mono ?_); rintro e w' ⟨rfl, rfl⟩)
  (try simp only [Exit.inBlock, Exit.then]); refine bodyPost_ret (results_none rfl _ _ _) rfl ?_
  exact ⟨rfl, rfl⟩
set_option maxRecDepth 100000 in
set_option maxHeartbeats 1600000 in
theorem SortFuncP_none (fv : Value) (w : World) :
    Calls Tryz.prog 60 #[.slice none 0 0, fv] w fun e w' => e = .returned (.tuple #[]) ∧ w = w' := by
  have hl : ∀ W, Calls Tryz.prog 73 #[.int .u64 0] W fun e w' => e = .returned (.int .i64 (Lib.bitLen 0 : Nat)) ∧ W = w' := fun W => (Tryz.bits_Len 0 W (by omega) (by omega)).mono fun _ _ ⟨a, b⟩ => ⟨a, b.symm⟩
  go_enter Tryz.func60, Tryz.ntmps60
  go_wp2_with (first | (go_at_call 73; (with_reducible refine (hl _).mono ?_); rintro e w' ⟨rfl, rfl⟩) | (go_at_call 88; (with_reducible refine (pdqP_none _ _ _ _ _).mono ?_); rintro e w' ⟨rfl, rfl⟩))
  go_end0
  exact ⟨rfl, rfl⟩
set_option maxHeartbeats 1600000 in
theorem SortFuncP_any (N base : Nat) (v : Value) (ys : List Pe) (w : World) (h : w.ownsRow base 38 1 v ys.length (ys.map fun y => slV y.s)) (hr : ∀ y ∈ ys, y.Ok w N) (hN : N ≤ base) (hbw : base ≤ w.heap.size) (hl : ys.length ≤ 5864062014805) :
    Calls Tryz.prog 60 #[v, .func (.func 19) #[] #[]] w fun e w' => e = .returned (.tuple #[]) ∧ ∃ zs : List Pe, zs.Perm ys ∧ (zs.Pairwise fun x y => cmpL x.l y.l ≤ 0) ∧ RwP w' base w'.heap.size v zs ∧ Below base w w' := by
  rcases h.2 with ⟨rfl, h0⟩ | ⟨g, cap, cur, rfl, hg, hgg, hcap, hcm, _, _⟩
  · obtain rfl : ys = [] := List.eq_nil_of_length_eq_zero h0
    exact (SortFuncP_none (.func (.func 19) #[] #[]) w).mono fun e w' ⟨he, hw'⟩ => ⟨he, [], List.Perm.refl _, List.Pairwise.nil, ⟨none, 0, rfl, fun h => absurd h (by simp)⟩, by rw [← hw']; exact Below.refl _ _⟩
  · obtain ⟨l, rfl⟩ := peG_of ys hr
    have hgw := lt_of_block hgg
    rw [List.map_map] at h
    have hlen : (l.map Subtype.val).length = l.length := List.length_map _
    have hH := holds_peG (l := l) h hlen
    have eg : ∀ args w, (callFunc 19 args).run Tryz.prog w = .ok (.enter 19 args) w := enters_of Tryz.func19 (by kernel_rfl) rfl
    have hcmp : CmpLays Tryz.prog 19 #[] encP 1 cfP g 0 l.toArray.size w := fun m os dk _ x y => by
      obtain ⟨hb, hsz⟩ := below_sortP (base := base) (n := m) (d := dk) (os := os) hg hgw
      obtain ⟨⟨⟨a, n, c⟩, xl⟩, hx⟩ := x
      obtain ⟨⟨⟨a', n', c'⟩, yl⟩, hy⟩ := y
      refine (mCompare_dr N N a n c a' n' c' xl yl _ (BsV.below hx hb hN) (BsV.below hy hb hN) (by omega) (by omega)).mono ?_
      rintro e w' ⟨he, hd⟩
      exact ⟨he, hd.grown⟩
    have hcon := AnyQ.slices_SortFunc Tryz.lSortP 1 Tryz.isAgg38 Tryz.sizeOf38 encP encP_len (fun x v hv => by simp only [encP, List.mem_singleton] at hv; rw [hv]; rfl) cfP swoP 19 #[] g 0 cap l.toArray w eg hcmp hH hgw (by rw [hlen] at hl; simp; omega)
    change Calls Tryz.prog 60 #[.slice (some ⟨g, 0, none⟩) l.length cap, _] _ _ at hcon
    rw [hlen]
    refine hcon.mono fun e w' ⟨he, d', n, os, hp, hs, hw'⟩ => ?_
    have hps : d'.size = l.length := by have := hp.1; simpa using this
    have hperm : d'.toList.Perm l := by
      have := hp.2.2
      have e1 : d'.extract 0 l.toArray.size = d' := by rw [show l.toArray.size = d'.size by simp [hps]]; exact Array.extract_size
      have e2 : l.toArray.extract 0 l.toArray.size = l.toArray := Array.extract_size
      rw [e1, e2] at this
      simpa using this
    obtain ⟨hb, hsz⟩ := below_sortP (n := n) (d := d') (os := os) hg hgw
    rw [← hw'] at hb hsz
    have hH' : HoldsK encP 1 w' g 0 d'.toList.toArray := by rw [hw', Array.toArray_toList]; exact holdsK_sortWorldK encP 1 w g 0 n l.toArray d' os hgw hH (by simp [hps])
    have hml : (d'.toList.map Subtype.val).length = l.length := by rw [List.length_map, Array.length_toList, hps]
    refine ⟨he, d'.toList.map Subtype.val, hperm.map _, ?_, ⟨some ⟨g, 0, none⟩, cap, by rw [hml], fun _ => ⟨g, 0, rfl, hg, by omega, fun j hj => ?_⟩⟩, hb⟩
    · rw [List.pairwise_iff_getElem]
      intro i j hi hj hij
      rw [List.length_map, Array.length_toList] at hi hj
      have := hs i j (Nat.zero_le _) hij (by simp; omega)
      unfold ltOf cfP at this
      rw [decide_eq_false_iff_not, getElem!_pos d' i hi, getElem!_pos d' j hj] at this
      have h2 := cmpL_swap (d'[i]).1.l (d'[j]).1.l
      rw [List.getElem_map, List.getElem_map, Array.getElem_toList, Array.getElem_toList]
      omega
    · rw [List.length_map] at hj
      rw [List.getElem_map]
      exact cells_peG hH' j hj

theorem pe_of : ∀ (pre : List Sl) (L' : List (Value × List Bd)), L'.map Prod.fst = pre.map slV → ∃ ys : List Pe, ys.map Pe.s = pre ∧ ys.map (fun y => (slV y.s, y.l)) = L'
  | [], [], _ => ⟨[], rfl, rfl⟩
  | [], _ :: _, h => by cases h
  | _ :: _, [], h => by cases h
  | s :: pre, (v, l) :: L', h => by
    rw [List.map_cons, List.map_cons, List.cons.injEq] at h
    obtain ⟨ys, h1, h2⟩ := pe_of pre L' h.2
    have hv : v = slV s := h.1
    exact ⟨⟨s, l⟩ :: ys, by rw [List.map_cons, h1], by rw [List.map_cons, h2, hv]⟩
/-- zs are a set's partial matches, rising. -/
structure InO (L : List (Value × List Bd)) (zs : List Pe) : Prop where
  perm : (zs.map fun z => (slV z.s, z.l)).Perm L
  rise : zs.Pairwise fun x y => cmpL x.l y.l < 0
theorem InO.of {D : DataW Value} {L : List (Value × List Bd)} (hL : MapL D L) {zs : List Pe} (hp : (zs.map fun z => (slV z.s, z.l)).Perm L) (hz : zs.Pairwise fun x y => cmpL x.l y.l ≤ 0) : InO L zs := by
  refine ⟨hp, ?_⟩
  have h1 : (zs.map fun z => keyL z.l).Nodup := by
    have := (hp.map fun x => keyL x.2).nodup_iff.2 hL.nodup
    rwa [List.map_map] at this
  have h2 : zs.Pairwise fun x y => keyL x.l ≠ keyL y.l := List.Pairwise.of_map (fun z => keyL z.l) (fun _ _ h => h) h1
  exact (hz.and h2).imp fun ⟨a, b⟩ => by
    have : ¬ cmpL _ _ = 0 := fun e => b (key_cmp.2 e)
    omega

set_option maxRecDepth 100000 in
set_option maxHeartbeats 1600000 in
theorem sortedP_any (Bm b nn : Nat) (D0 : DataW Value) (L : List (Value × List Bd)) (w : World) (hBm : Bm < w.heap.size)
    (hm : w.cell? ⟨Bm, 0, none⟩ = some (.map (some b))) (hown : w.ownsMap Tryz.prog 9 heldE b nn D0) (hL : MapL D0 L) (hmany : L.length ≤ 5864062014805) (he : ∀ x ∈ L, BsV w w.heap.size x.1 x.2) :
    Calls Tryz.prog 31 #[.func (.func 61) #[] #[.pointer (some ⟨Bm, 0, none⟩)], .func (.func 19) #[] #[]] w fun e w' => ∃ (v : Value) (zs : List Pe), e = .returned v ∧ InO L zs ∧ RwP w' w.heap.size w'.heap.size v zs ∧ Below w.heap.size w w' := by
  have HC := Lib.hid (collectP_any Bm b nn D0 L w hBm hm hown hL hmany)
  have HL := Lib.hid hL
  have HS : Hid (∀ (v : Value) (pre : List Sl) (u : World), AllV L pre → u.ownsRow w.heap.size 38 1 v pre.length (pre.map slV) → Below w.heap.size w u → Calls Tryz.prog 60 #[v, .func (.func 19) #[] #[]] u fun e w' => e = .returned (.tuple #[]) ∧ ∃ zs : List Pe, InO L zs ∧ RwP w' w.heap.size w'.heap.size v zs ∧ Below w.heap.size u w') := Lib.hid fun v pre u hA ho hb => by
    obtain ⟨L', hp, hv⟩ := hA
    obtain ⟨ys, h1, h2⟩ := pe_of pre L' hv
    have hle : ys.length = pre.length := by rw [← h1, List.length_map]
    have hlL : ys.length = L.length := by rw [← hp.length_eq, ← h2, List.length_map]
    have ho' : u.ownsRow w.heap.size 38 1 v ys.length (ys.map fun y => slV y.s) := by rw [hle]; rw [← h1, List.map_map] at ho; rw [List.length_map, hle] at ho; exact ho
    refine (SortFuncP_any w.heap.size w.heap.size v ys u ho' (fun y hy => ?_) (Nat.le_refl _) hb.size (by omega)).mono ?_
    · have : (slV y.s, y.l) ∈ L := hp.mem_iff.1 (by rw [← h2]; exact List.mem_map.2 ⟨y, hy, rfl⟩)
      exact BsV.below (he _ this) hb (Nat.le_refl _)
    · rintro e w' ⟨e1, zs, hz, hs, hr, hb'⟩
      exact ⟨e1, zs, InO.of HL.out ((hz.map _).trans (by rw [h2]; exact hp)) hs, hr, hb'⟩
  clear hm hown hL hmany he
  go_enter Tryz.func31, Tryz.ntmps31
  go_wp2_with (first
    | (go_at_call 59; (with_reducible refine (HC.out).mono ?_); rintro e w1 ⟨v, pre, rfl, hA, ho, hb⟩; have HCC := Lib.hid (HS.out v pre w1 hA ho hb); have HB := Lib.hid hb; clear hA ho hb)
    | (go_at_call 60; (with_reducible refine (HCC.out).mono ?_); rintro e w2 ⟨rfl, h2⟩; have H2 := Lib.hid h2; clear h2))
  go_ret
  obtain ⟨zs, h1, h2, h3⟩ := H2.out
  exact ⟨_, zs, rfl, h1, h2, HB.out.trans h3⟩
end Go.Proofs.YtcnecokamckfaaaGreatDoor

/- The document's set as a list: rising, and of just the things that the program's set has. No program in this text. -/
namespace Go.Proofs.YtcnecokamckfaaaGreatDoor
open Go Go.RowKit

theorem hasR_key (ls : List (List Bd)) (bs : List Bd) : hasR ls bs = decide (keyL bs ∈ ls.map keyL) := by
  rw [Bool.eq_iff_iff]
  unfold hasR
  rw [List.any_eq_true, decide_eq_true_eq, List.mem_map]
  constructor
  · rintro ⟨x, hx, h⟩
    exact ⟨x, hx, key_cmp.2 (of_decide_eq_true h)⟩
  · rintro ⟨x, hx, h⟩
    exact ⟨x, hx, decide_eq_true (key_cmp.1 h)⟩
/-- How many of a row stand ahead of these bounds, from the front. -/
def idxR (ls : List (List Bd)) (bs : List Bd) : Nat := (ls.takeWhile fun x => decide (cmpL x bs < 0)).length
/-- The row with these bounds put where they belong. -/
def insR (ls : List (List Bd)) (bs : List Bd) : List (List Bd) := ls.take (idxR ls bs) ++ bs :: ls.drop (idxR ls bs)
def RiseL (ls : List (List Bd)) : Prop := ls.Pairwise fun x y => cmpL x y < 0
theorem insR_cons (x : List Bd) (r : List (List Bd)) (bs : List Bd) : insR (x :: r) bs = if cmpL x bs < 0 then x :: insR r bs else bs :: x :: r := by
  unfold insR idxR
  rw [List.takeWhile_cons]
  by_cases h : cmpL x bs < 0
  · simp [h]
  · simp [h]
theorem insR_perm : ∀ (ls : List (List Bd)) (bs : List Bd), (insR ls bs).Perm (ls ++ [bs])
  | [], bs => List.Perm.refl _
  | x :: r, bs => by
    rw [insR_cons]
    split
    · exact (insR_perm r bs).cons x
    · exact (List.perm_append_singleton bs (x :: r)).symm
theorem cmpL_lt_trans {a b c : List Bd} (h1 : cmpL a b < 0) (h2 : cmpL b c < 0) : cmpL a c < 0 := (cmpL_trans (by omega) (by omega)).2 (.inl h1)
theorem insR_rise : ∀ {ls : List (List Bd)} {bs : List Bd}, RiseL ls → hasR ls bs = false → RiseL (insR ls bs)
  | [], bs, _, _ => List.pairwise_singleton _ _
  | x :: r, bs, h, hn => by
    rw [RiseL, List.pairwise_cons] at h
    have hx : ¬ cmpL x bs = 0 := fun e => by
      have : hasR (x :: r) bs = true := List.any_eq_true.2 ⟨x, List.mem_cons_self .., decide_eq_true e⟩
      rw [this] at hn; cases hn
    have hr : hasR r bs = false := by
      cases hh : hasR r bs with
      | false => rfl
      | true =>
        obtain ⟨y, hy, e⟩ := List.any_eq_true.1 hh
        have : hasR (x :: r) bs = true := List.any_eq_true.2 ⟨y, List.mem_cons_of_mem _ hy, e⟩
        rw [this] at hn; cases hn
    rw [insR_cons]
    split
    · rename_i hlt
      rw [RiseL, List.pairwise_cons]
      refine ⟨fun y hy => ?_, insR_rise h.2 hr⟩
      rcases List.mem_append.1 ((insR_perm r bs).mem_iff.1 hy) with hy | hy
      · exact h.1 y hy
      · rw [List.mem_singleton.1 hy]; exact hlt
    · rename_i hge
      have hbx : cmpL bs x < 0 := by rw [cmpL_swap x bs]; omega
      rw [RiseL, List.pairwise_cons, List.pairwise_cons]
      refine ⟨fun y hy => ?_, h⟩
      rcases List.mem_cons.1 hy with rfl | hy
      · exact hbx
      · exact cmpL_lt_trans hbx (h.1 y hy)
/-- What the document's set has behind one more that is put to it; behind all of a row. -/
def addD (ks : List (List Bd)) (bs : List Bd) : List (List Bd) := if ckP bs = 0 ∧ hasR ks bs = false then insR ks bs else ks
def setD (ls : List (List Bd)) : List (List Bd) := ls.foldl addD []
theorem addD_rise {ks : List (List Bd)} {bs : List Bd} (h : RiseL ks) : RiseL (addD ks bs) := by
  unfold addD
  split
  · rename_i hc; exact insR_rise h hc.2
  · exact h
theorem addD_perm {ks ms : List (List Bd)} (h : ks.Perm ms) (bs : List Bd) : (addD ks bs).Perm (addK ms bs) := by
  have hk : (hasR ks bs = false) = (keyL bs ∉ ms.map keyL) := by
    rw [hasR_key, decide_eq_false_iff_not, (h.map keyL).mem_iff]
  unfold addD addK
  by_cases hc : ckP bs = 0 ∧ keyL bs ∉ ms.map keyL
  · rw [if_pos hc, if_pos ⟨hc.1, hk ▸ hc.2⟩]
    exact (insR_perm ks bs).trans (h.append_right [bs])
  · rw [if_neg hc, if_neg (fun hh => hc ⟨hh.1, hk ▸ hh.2⟩)]
    exact h
theorem foldD : ∀ (ls : List (List Bd)) {ks ms : List (List Bd)}, ks.Perm ms → RiseL ks → (ls.foldl addD ks).Perm (ls.foldl addK ms) ∧ RiseL (ls.foldl addD ks)
  | [], _, _, h, hr => ⟨h, hr⟩
  | x :: r, _, _, h, hr => foldD r (addD_perm h x) (addD_rise hr)
theorem setD_perm (ls : List (List Bd)) : (setD ls).Perm (setK ls) := (foldD ls (List.Perm.refl _) List.Pairwise.nil).1
theorem setD_rise (ls : List (List Bd)) : RiseL (setD ls) := (foldD ls (List.Perm.refl []) List.Pairwise.nil).2
/-- Two rising lists of the same things are the same. -/
theorem rise_eq : ∀ {a b : List (List Bd)}, RiseL a → RiseL b → a.Perm b → a = b
  | [], b, _, _, h => (List.nil_perm.1 h).symm
  | x :: a, [], _, _, h => absurd h.length_eq (by simp)
  | x :: a, y :: b, ha, hb, h => by
    rw [RiseL, List.pairwise_cons] at ha hb
    have hxy : x = y := by
      have h1 : x ∈ y :: b := h.mem_iff.1 (List.mem_cons_self ..)
      have h2 : y ∈ x :: a := h.mem_iff.2 (List.mem_cons_self ..)
      rcases List.mem_cons.1 h1 with e | h1
      · exact e
      · rcases List.mem_cons.1 h2 with e | h2
        · exact e.symm
        · have e1 := hb.1 x h1
          have e2 := ha.1 y h2
          rw [cmpL_swap x y] at e1
          omega
    subst hxy
    rw [rise_eq ha.2 hb.2 ((List.perm_cons x).1 h)]
/-- What All of a set tells is what the document's set has, in its order. -/
theorem InO.doc {L : List (Value × List Bd)} {zs : List Pe} (h : InO L zs) {ks : List (List Bd)} (hr : RiseL ks) (hp : ks.Perm (L.map Prod.snd)) : zs.map Pe.l = ks := by
  refine rise_eq (List.pairwise_map.2 h.rise) hr (List.Perm.trans ?_ hp.symm)
  have := h.perm.map Prod.snd
  rwa [List.map_map] at this
end Go.Proofs.YtcnecokamckfaaaGreatDoor

/- The document's SameSet. -/
namespace Go.Proofs.YtcnecokamckfaaaGreatDoor
open Go Go.RowKit Go.Sort

theorem LpV.mono {w : World} {B B' : Nat} {v : Value} {ls : List (List Bd)} (h : LpV w B v ls) (hB : B ≤ B') : LpV w B' v ls := by
  obtain ⟨ao, cap, h1, h2, h3, h4⟩ := h.row
  refine ⟨h.len, h.ky, ao, cap, h1, h2, h3, fun h0 => ?_⟩
  obtain ⟨b, o, e, hb1, hc⟩ := h4 h0
  refine ⟨b, o, e, Nat.lt_of_lt_of_le hb1 hB, fun j hj => ?_⟩
  obtain ⟨aa, n, c, h5, h6⟩ := hc j hj
  exact ⟨aa, n, c, h5, h6.mono hB⟩
/-- Whether two sets have the same. -/
def sameR (ls ms : List (List Bd)) : Bool := decide (ls.length = ms.length) && ls.all fun x => hasR ms x

set_option maxRecDepth 100000 in
set_option maxHeartbeats 3200000 in
theorem r10SameSet_any (q q2 : Nat) (v v2 : Value) (ls ms : List (List Bd)) (w : World) (hq : w.heap[q]? = some (.cells #[v] 33 (0, 0))) (hl : LpV w w.heap.size v ls) (hq2 : w.heap[q2]? = some (.cells #[v2] 33 (0, 0))) (hm : LpV w w.heap.size v2 ms) :
    Calls Tryz.prog 18 #[.pointer (some ⟨q, 0, none⟩), .pointer (some ⟨q2, 0, none⟩)] w fun e w' => e = .returned (.bool (sameR ls ms)) ∧ Below w.heap.size w w' := by
  obtain ⟨ao, cap, rfl, hcap, hcap2, hrow⟩ := hl.row
  obtain ⟨ao2, cap2, rfl, _⟩ := hm.row
  have hmany := hl.len
  have hmany2 := hm.len
  have HX : Hid (∀ W, Below w.heap.size w W → W.cell? ⟨q, 0, none⟩ = some (.slice ao ls.length cap) ∧ W.cell? ⟨q2, 0, none⟩ = some (.slice ao2 ms.length cap2)) := Lib.hid fun W h =>
    ⟨cells_one0 ((h.block q (lt_of_block hq)).trans hq), cells_one0 ((h.block q2 (lt_of_block hq2)).trans hq2)⟩
  have HHAS : Hid (∀ k, k < ls.length → ∃ b o aa m c, ao = some ⟨b, o, none⟩ ∧ (∀ W, Below w.heap.size w W → W.cell? ⟨b, o + k, none⟩ = some (.slice aa m c)) ∧ ∀ u, Below w.heap.size w u → Calls Tryz.prog 14 #[.pointer (some ⟨q2, 0, none⟩), .agg #[.slice aa m c]] u fun e w' => e = .returned (.bool (hasR ms ls[k]!)) ∧ Below u.heap.size u w') := Lib.hid fun k hk => by
    obtain ⟨b, o, e, hb, hc⟩ := hrow (by omega)
    obtain ⟨aa, m, c, h1, h2⟩ := hc k hk
    exact ⟨b, o, aa, m, c, e, fun W hW => (hW.cell (p := ⟨b, o + k, none⟩) hb).trans h1, fun u hu =>
      r10SetHas_any q2 _ ms aa m c ls[k]! u ((hu.block q2 (lt_of_block hq2)).trans hq2) ((hm.below hu).mono hu.size) ((h2.below hu (Nat.le_refl _)).mono hu.size)⟩
  have hb0 : Below w.heap.size w w := Below.refl _ _
  obtain ⟨c1, c2⟩ := HX.out w hb0
  have m1 := cell_regrown c1; have m2 := cell_regrown c2
  clear hq hl hq2 hm hrow hcap hb0
  by_cases hle : ls.length = ms.length
  case neg =>
    have hr : sameR ls ms = false := by unfold sameR; rw [decide_eq_false hle]; rfl
    have hne : ((ls.length : Int) != (ms.length : Int)) = true := by simp; omega
    have hne2 : ((ls.length : Int) == (ms.length : Int)) = false := by simp; omega
    rw [hr]
    go_enter Tryz.func18, Tryz.ntmps18
    go_wp2_with fail
    refine wp_region_quiet_below (by kernel_rfl) (by kernel_rfl) ?_
    repeat (quiet_step (fail))
    refine wpQuiet_nil ?_
    intro _ hw'
    obtain ⟨⟨dq, osq⟩, hw''⟩ := hw'
    subst hw''
    go_wp2
    go_ret
    exact ⟨rfl, below_regrown w dq osq⟩
  case pos =>
    have hr : sameR ls ms = ls.all fun x => hasR ms x := by unfold sameR; rw [decide_eq_true hle]; rfl
    rw [hr]
    have hne : ((ls.length : Int) != (ms.length : Int)) = false := by simp; omega
    have hne2 : ((ls.length : Int) == (ms.length : Int)) = true := by simp; omega
    go_enter Tryz.func18, Tryz.ntmps18
    go_wp2_with fail
    refine wp_region_quiet_below (by kernel_rfl) (by kernel_rfl) ?_
    repeat (quiet_step (fail))
    refine wpQuiet_nil ?_
    intro _ hw'
    obtain ⟨⟨dq, osq⟩, hw''⟩ := hw'
    subst hw''
    have HB1 := Lib.hid (below_regrown w dq osq)
    clear m1 m2 c1 c2
    generalize grow (redrawn w dq) osq = u0 at HB1 ⊢
    go_wp2_with fail
    go_loopw [5] (fun iv wr => ∃ k : Nat, k ≤ ls.length ∧ iv = .int .i64 k ∧ Hid ((ls.take k).all (fun x => hasR ms x) = true) ∧ Hid (Below w.heap.size w wr)) (fun iv _ => ls.length - (intOf iv).toNat)
    case atStart => exact ⟨0, Nat.zero_le _, rfl, Lib.hid rfl, HB1⟩
    case round =>
      obtain ⟨k, hk, rfl, HK, HB⟩ := hrel
      obtain ⟨c1, c2⟩ := HX.out wr HB.out
      by_cases hlt : k < ls.length
      · obtain ⟨b, o, aa, m, c, rfl, he, hC⟩ := HHAS.out k hlt
        have e0 := he wr HB.out
        have HT : Hid ((ls.take (k + 1)).all (fun x => hasR ms x) = hasR ms ls[k]!) := by
          rw [List.take_succ_eq_append_getElem hlt, List.all_append, HK.out, getElem!_pos ls k hlt]; exact Lib.hid (by simp)
        have HFULL : Hid (hasR ms ls[k]! = false → (ls.all fun x => hasR ms x) = false) := Lib.hid fun h => by
          cases ha : ls.all fun x => hasR ms x with
          | false => rfl
          | true =>
            have := List.all_eq_true.1 ha ls[k]! (by rw [getElem!_pos ls k hlt]; exact List.getElem_mem _)
            rw [this] at h; cases h
        have HC := Lib.hid (hC wr HB.out)
        have e1 : IntKind.i64.wrap ((k : Int) + 1) = (k : Int) + 1 := IntWalk.i64_in _ (by omega)
        have hkz : (0 : Int) ≤ (k : Int) := by omega
        clear he hC
        cases hh : hasR ms ls[k]! with
        | true =>
          rw [hh] at HC HT
          go_wp2_with (go_at_call 14; (with_reducible refine (HC.out).mono ?_); rintro e w1 ⟨rfl, hb⟩; have HB2 := Lib.hid (HB.out.trans (hb.mono HB.out.size)); clear hb)
          go_roundw
          case rel => exact ⟨k + 1, by omega, by go_num, HT, HB2⟩
          case measure => simp [intOf]; omega
        | false =>
          rw [hh] at HC
          have HF := Lib.hid (HFULL.out hh)
          go_wp2_with (go_at_call 14; (with_reducible refine (HC.out).mono ?_); rintro e w1 ⟨rfl, hb⟩; have HB2 := Lib.hid (HB.out.trans (hb.mono HB.out.size)); clear hb)
          go_ret
          exact ⟨ret_bool0 HF.out.symm, HB2.out⟩
      · obtain rfl : k = ls.length := by omega
        have HF : Hid ((ls.all fun x => hasR ms x) = true) := by have := HK.out; rw [List.take_length] at this; exact this
        clear hlt
        go_wp2
        go_ret
        exact ⟨ret_bool0 HF.out.symm, HB.out⟩
end Go.Proofs.YtcnecokamckfaaaGreatDoor

/- slices.Values of a row of partial matches, as it is ranged over. -/
namespace Go.Proofs.YtcnecokamckfaaaGreatDoor
open Go Go.RowKit Go.Shelf
attribute [local go_sem] Oper.semAt_some

/-- From w to w' the blocks below n₀ of which Z holds are as they were. -/
structure Kpt (Z : Nat → Prop) (n₀ : Nat) (w w' : World) : Prop where
  os : w'.os = w.os
  tape : w'.tape = w.tape
  output : w'.output = w.output
  size : w.heap.size ≤ w'.heap.size
  block : ∀ k, k < n₀ → Z k → w'.heap[k]? = w.heap[k]?
theorem Kpt.refl (Z : Nat → Prop) (n₀ : Nat) (w : World) : Kpt Z n₀ w w := ⟨rfl, rfl, rfl, Nat.le_refl _, fun _ _ _ => rfl⟩
theorem Kpt.trans {Z : Nat → Prop} {n₀ : Nat} {a b c : World} (h : Kpt Z n₀ a b) (k : Kpt Z n₀ b c) : Kpt Z n₀ a c :=
  ⟨k.os.trans h.os, k.tape.trans h.tape, k.output.trans h.output, Nat.le_trans h.size k.size, fun i hi hz => (k.block i hi hz).trans (h.block i hi hz)⟩
theorem Kpt.of {Z : Nat → Prop} {n₀ : Nat} {w w' : World} (h : Below n₀ w w') : Kpt Z n₀ w w' := ⟨h.os, h.tape, h.output, h.size, fun k hk _ => h.block k hk⟩
theorem Kpt.drew {Z : Nat → Prop} {n₀ : Nat} {a w : World} (h : Kpt Z n₀ a w) : Kpt Z n₀ a w.drew := ⟨h.os, h.tape, h.output, h.size, h.block⟩
theorem Kpt.alloc {Z : Nat → Prop} {n₀ : Nat} {a w : World} (h : Kpt Z n₀ a w) (hB : n₀ ≤ w.heap.size) (o : Obj) : Kpt Z n₀ a (w.alloc o) := h.trans (.of ((Below.refl _ _).alloc hB o))
theorem Kpt.setCell {Z : Nat → Prop} {n₀ : Nat} {a w : World} (h : Kpt Z n₀ a w) {p : Addr} (hp : ¬ Z p.block) (u : Value) : Kpt Z n₀ a (w.setCell p u) :=
  ⟨h.os, h.tape, h.output, by rw [World.size_setCell]; exact h.size, fun k hk hz => (Below.heap_setCell w p u k (fun e => hp (e ▸ hz))).trans (h.block k hk hz)⟩
theorem Kpt.cell {Z : Nat → Prop} {n₀ : Nat} {w w' : World} (h : Kpt Z n₀ w w') {p : Addr} (hp : p.block < n₀) (hz : Z p.block) : w'.cell? p = w.cell? p := World.cell?_of_block (w := w) (h.block p.block hp hz)
theorem Kpt.mono {Z : Nat → Prop} {n₀ n₁ : Nat} {w w' : World} (h : Kpt Z n₀ w w') (hn : n₁ ≤ n₀) : Kpt Z n₁ w w' := ⟨h.os, h.tape, h.output, h.size, fun k hk hz => h.block k (Nat.lt_of_lt_of_le hk hn) hz⟩
theorem kptK_b {Z : Nat → Prop} {n₀ : Nat} {w : World} (hn : n₀ ≤ w.heap.size) (W : World) (l : Nat) (o o' : Obj) (hl : w.heap.size ≤ l) (h : W.heap[l]? = some o) (_ : o.isCells = false) (_ : o.isWalk = false) : Kpt Z n₀ W (W.putObj l o') :=
  .of ((Below.refl n₀ W).grown (grownBy_putObj' W l o') (by have := (Array.getElem?_eq_some_iff.1 h).1; omega) (fun k e => by cases e; omega))
theorem ownFrom_kpt {β : Type} {Z : Nat → Prop} {n₀ B : Nat} {w₀ : World} (hn : n₀ ≤ w₀.heap.size) (hB : n₀ ≤ B) : OwnFrom B (fun (_ : β) W => Kpt Z n₀ w₀ W) :=
  fun _ _ _ _ hs hg hr => hs.trans (.of ((Below.refl _ _).grown hg (Nat.le_trans hn hs.size) (fun k e => Nat.le_trans hB (hr k e).1)))

theorem valuesP_in (F : Fence) (n : Nat) (hf : F.fn 30) (hro : F.round = none) (a : Option Addr) (len cap : Nat) (w : World) :
    CallsIn F n Tryz.prog 30 #[.slice a len cap] w fun e w' => e = .returned (.func (.func 58) #[] #[.pointer (some ⟨w.heap.size, 0, none⟩)]) ∧ w' = w.alloc (.cells #[.slice a len cap] 22) := by
  refine callsIn_of_wp Tryz.func30 rfl hf ?_ hro
  simp only [Tryz.ntmps30, List.size_toArray, List.length_cons, List.length_nil, Nat.reduceAdd, Nat.reduceSub, Array.replicate_succ, Array.replicate_zero, List.push_toArray, List.append_toArray, List.nil_append, List.cons_append]
  gi_wp2
  go_ret
  exact ⟨rfl, rfl⟩

set_option maxRecDepth 100000 in
set_option maxHeartbeats 2000000 in
theorem valuesP1_in (Z : Nat → Prop) (F : Fence) (n : Nat) (hf : F.fn 58) (hro : F.round = none) (hn : 1 ≤ n) (l Bs n₀ b o cap : Nat) (zs : List Pe) (hmany : zs.length ≤ 5864062014805) (hb : b < n₀) (hz : Z b) (J Jx : List Pe → World → Prop)
    (W : World) (hJ : OwnFrom W.heap.size J) (hn₀ : n₀ ≤ W.heap.size)
    (hY : ∀ pre x W1, J pre W1 → x ∈ zs → pre.length < zs.length → YieldAt F (n - 1) Tryz.prog l #[.agg #[slV x.s]] W1 fun e W' =>
      (e = .returned (.bool true) ∧ J (pre ++ [x]) W' ∧ Kpt Z n₀ W1 W') ∨ (e = .returned (.bool false) ∧ Jx (pre ++ [x]) W'))
    (hBs : W.cell? ⟨Bs, 0, none⟩ = some (.slice (some ⟨b, o, none⟩) zs.length cap)) (hc : ∀ j (hj : j < zs.length), W.cell? ⟨b, o + j, none⟩ = some (slV zs[j].s)) (h0 : J [] W) :
    CallsIn F n Tryz.prog 58 #[.func (.yield l) #[] #[], .pointer (some ⟨Bs, 0, none⟩)] W fun e W' => (∃ v, e = .returned v) ∧
      (J zs W' ∨ (∃ k, k ≤ zs.length ∧ Jx (zs.take k) W')) := by
  refine callsIn_of_wp Tryz.func58 rfl hf ?_ hro
  simp only [Tryz.ntmps58, List.size_toArray, List.length_cons, List.length_nil, Nat.reduceAdd, Nat.reduceSub, Array.replicate_succ, Array.replicate_zero, List.push_toArray, List.append_toArray, List.nil_append, List.cons_append]
  gi_wp2
  gi_loopw [7] (fun i wr => ∃ k : Nat, k ≤ zs.length ∧ i = .int .i64 k ∧ J (zs.take k) wr ∧ Kpt Z n₀ W wr)
    (fun i _ => zs.length - (intOf i).toNat)
  case atStart => exact ⟨0, Nat.zero_le _, rfl, h0, Kpt.refl _ _ _⟩
  case round =>
    obtain ⟨k, hk, rfl, hJs, hnx⟩ := hrel
    by_cases hlt : k < zs.length
    · have c0 : wr.cell? ⟨b, o + k, none⟩ = some (slV zs[k].s) := (hnx.cell (p := ⟨b, o + k, none⟩) hb hz).trans (hc k hlt)
      have hyy := hY _ zs[k] _ (hJ.alloc (.cells #[slV zs[k].s] 38) hJs) (List.getElem_mem _) (by simp; omega)
      unfold slV at hyy c0
      obtain ⟨fn, tmps, assign, body, hy, hR⟩ := hyy
      have hT : zs.take (k + 1) = zs.take k ++ [zs[k]] := by rw [List.take_succ_eq_append_getElem hlt]
      gi_wp2
      refine hR.mono ?_
      rintro e W3 (⟨rfl, hJ3, hk3⟩ | ⟨rfl, hJx3⟩)
      · gi_wp2
        go_roundw
        case rel => exact ⟨k + 1, by omega, by simp, by rw [hT]; exact hJ3, (hnx.alloc (Nat.le_trans hn₀ hnx.size) _).trans hk3⟩
        case measure => simp [intOf]; omega
      · gi_wp2
        refine bodyPost_ret (results_none rfl _ _ _) rfl ?_
        exact ⟨⟨_, rfl⟩, .inr ⟨k + 1, by omega, by rw [hT]; exact hJx3⟩⟩
    · obtain rfl : k = zs.length := by omega
      gi_wp2
      go_end0
      exact ⟨⟨_, rfl⟩, .inl (by rw [List.take_length] at hJs; exact hJs)⟩

set_option maxRecDepth 100000 in
set_option maxHeartbeats 1000000 in
/-- .. at no event: no round. -/
theorem valuesP1_nil_in (F : Fence) (n : Nat) (hf : F.fn 58) (hro : F.round = none) (l Bs : Nat) (ao : Option Addr) (cap : Nat) (J : List Pe → World → Prop) (W : World) (hBs : W.cell? ⟨Bs, 0, none⟩ = some (.slice ao 0 cap)) (h0 : J [] W) :
    CallsIn F n Tryz.prog 58 #[.func (.yield l) #[] #[], .pointer (some ⟨Bs, 0, none⟩)] W fun e W' => (∃ v, e = .returned v) ∧ J [] W' := by
  refine callsIn_of_wp Tryz.func58 rfl hf ?_ hro
  simp only [Tryz.ntmps58, List.size_toArray, List.length_cons, List.length_nil, Nat.reduceAdd, Nat.reduceSub, Array.replicate_succ, Array.replicate_zero, List.push_toArray, List.append_toArray, List.nil_append, List.cons_append]
  gi_wp2
  gi_loopw [7] (fun i wr => i = .int .i64 0 ∧ J [] wr) (fun _ _ => 0)
  case atStart => exact ⟨rfl, h0⟩
  case round =>
    obtain ⟨rfl, hJs⟩ := hrel
    gi_wp2
    go_end0
    exact ⟨⟨_, rfl⟩, hJs⟩
/-- slices.Values of a row of events: each in its place; the row lies below n₀. -/
theorem valuesP_stops (Z : Nat → Prop) (F : Fence) (n : Nat) (hf : F.fn 58) (hro : F.round = none) (hn : 1 ≤ n) (Bs n₀ cap : Nat) (ao : Option Addr) (zs : List Pe) (hmany : zs.length ≤ 5864062014805)
    (w : World) (hBl : Bs < w.heap.size) (hn₀ : n₀ ≤ w.heap.size) (hBs : w.cell? ⟨Bs, 0, none⟩ = some (.slice ao zs.length cap))
    (hrow : 0 < zs.length → ∃ b o, ao = some ⟨b, o, none⟩ ∧ b < n₀ ∧ Z b ∧ ∀ j (hj : j < zs.length), w.cell? ⟨b, o + j, none⟩ = some (slV zs[j].s)) :
    SeqStopsH F n Tryz.prog 58 #[.pointer (some ⟨Bs, 0, none⟩)] (fun x : Pe => #[.agg #[slV x.s]]) (fun x _ => x ∈ zs) (Kpt Z n₀) (fun ys => ys = zs) (fun pre => pre <+: zs) zs.length w := fun l J Jx W hW hJ hJx hY h0 => by
  have hc' := (hW.cell (p := ⟨Bs, 0, none⟩) hBl).trans hBs
  cases zs with
  | nil => exact (valuesP1_nil_in F n hf hro l Bs ao cap J W hc' h0).mono fun e W' ⟨he, hj⟩ => ⟨he, .inl ⟨_, rfl, hj⟩⟩
  | cons z zs =>
    obtain ⟨b, o, rfl, hb, hz, hc⟩ := hrow (by simp)
    refine (valuesP1_in Z F n hf hro hn l Bs n₀ b o cap (z :: zs) hmany hb hz J Jx W hJ (Nat.le_trans hn₀ hW.size) (fun pre x W1 hj hm hl => (hY pre x W1 hj hm hl).mono (fun e W' h => h.imp (fun ⟨a, b, c, _⟩ => ⟨a, b, c⟩) (fun ⟨a, b, _⟩ => ⟨a, b⟩))) hc' (fun j hj => (hW.cell (p := ⟨b, o + j, none⟩) (by show b < w.heap.size; omega)).trans (hc j hj)) h0).mono ?_
    rintro e W' ⟨he, hj | ⟨k, hk, hj⟩⟩
    · exact ⟨he, .inl ⟨_, rfl, hj⟩⟩
    · exact ⟨he, .inr ⟨_, List.take_prefix _ _, hj⟩⟩
end Go.Proofs.YtcnecokamckfaaaGreatDoor

/- match.clones, as it is ranged over: each partial match in memory of its own. -/
namespace Go.Proofs.YtcnecokamckfaaaGreatDoor
open Go Go.RowKit Go.Shelf
attribute [local go_sem] Oper.semAt_some

theorem mClones_in (F : Fence) (n : Nat) (hf : F.fn 29) (hro : F.round = none) (fv : Fn) (u v : Array Value) (w : World) :
    CallsIn F n Tryz.prog 29 #[.func fv u v] w fun e w' => e = .returned (.func (.func 57) #[] #[.pointer (some ⟨w.heap.size, 0, none⟩)]) ∧ w' = w.alloc (.cells #[.func fv u v] 30) := by
  refine callsIn_of_wp Tryz.func29 rfl hf ?_ hro
  simp only [Tryz.ntmps29, List.size_toArray, List.length_cons, List.length_nil, Nat.reduceAdd, Nat.reduceSub, Array.replicate_succ, Array.replicate_zero, List.push_toArray, List.append_toArray, List.nil_append, List.cons_append]
  gi_wp2
  go_ret
  exact ⟨rfl, rfl⟩

theorem row_base {w : World} {B B' : Nat} {e : TypeId} {size : Nat} {v : Value} {n : Nat} {xs : List Value} (h : w.ownsRow B e size v n xs) (hB : B' ≤ B) : w.ownsRow B' e size v n xs := by
  refine ⟨h.1, h.2.imp id ?_⟩
  rintro ⟨g, cap, cur, h1, h2, h3⟩
  exact ⟨g, cap, cur, h1, Nat.le_trans hB h2, h3⟩
theorem yield_deep {F : Fence} (hd : F.depth = none) {m : Nat} (m' : Nat) {P : Program} {l : Nat} {args : Array Value} {W : World} {R : Ending → World → Prop} (h : YieldAt F m P l args W R) : YieldAt F m' P l args W R := by
  obtain ⟨fn, tmps, assign, body, hy, hR⟩ := h
  exact ⟨fn, tmps, assign, body, hy, hR.1, fun c cs _ => hR.2 c cs (fun d h => by rw [hd] at h; cases h)⟩
/-- What clones hands: a partial match in memory of its own. -/
def HC (KX : List Bd → Prop) (n₀ : Nat) (x : List Bd × Value) (W : World) : Prop := BsO W n₀ x.2 x.1 ∧ KX x.1

/-- What a round keeps: what lay below n₀, and each box of a yield. -/
def KpY (Z : Nat → Prop) (n₀ : Nat) (A B : World) : Prop := Kpt Z n₀ A B ∧ ∀ (k : Nat) (cs : Array Value) (fr : Nat × Nat), A.heap[k]? = some (.cells cs 39 fr) → B.heap[k]? = some (.cells cs 39 fr)
set_option maxRecDepth 100000 in
set_option maxHeartbeats 2000000 in
theorem mClones_stops (Z : Nat → Prop) (KX : List Bd → Prop) (F : Fence) (n : Nat) (hf : F.fn 57) (hf2 : F.fn 58) (hf3 : F.fn 22) (hro : F.round = none) (hd : F.depth = none) (hn : 4 ≤ n) (Bc Bs n₀ cap : Nat) (ao : Option Addr) (zs : List Pe) (hmany : zs.length ≤ 5864062014805)
    (w : World) (hBl : Bs < w.heap.size) (hBc : Bc < w.heap.size) (hn₀ : n₀ ≤ w.heap.size) (hB : w.cell? ⟨Bc, 0, none⟩ = some (.func (.func 58) #[] #[.pointer (some ⟨Bs, 0, none⟩)])) (hBs : w.cell? ⟨Bs, 0, none⟩ = some (.slice ao zs.length cap))
    (hrow : 0 < zs.length → ∃ b o, ao = some ⟨b, o, none⟩ ∧ b < n₀ ∧ Z b ∧ ∀ j (hj : j < zs.length), w.cell? ⟨b, o + j, none⟩ = some (slV zs[j].s))
    (hC : ∀ (ao : Option Addr) (m c : Nat) (bs : List Bd) (W : World), BsV W W.heap.size (.slice ao m c) bs → CallsIn F (n - 1 - 1 - 1) Tryz.prog 22 #[.agg #[.slice ao m c]] W fun r W' => ∃ v', r = .returned (.agg #[v']) ∧ BsO W' W.heap.size v' bs ∧ Below W.heap.size W W')
    (hKX : ∀ z ∈ zs, KX z.l)
    (hats : ∀ z ∈ zs, ∀ u, Kpt Z n₀ w u → BsV u u.heap.size (slV z.s) z.l) :
    SeqStopsH F n Tryz.prog 57 #[.pointer (some ⟨Bc, 0, none⟩)] (fun x : List Bd × Value => #[.agg #[x.2]]) (HC KX n₀) (KpY Z n₀) (fun ys => ys.map Prod.fst = zs.map Pe.l) (fun pre => pre.map Prod.fst <+: zs.map Pe.l) zs.length w := fun l J Jx W hW hJ hJx hY h0 => by
  have hcB : ∀ o : Obj, (W.alloc o).cell? ⟨Bc, 0, none⟩ = some (.func (.func 58) #[] #[.pointer (some ⟨Bs, 0, none⟩)]) := fun o => Lib.cell?_alloc_some _ ((hW.cell (p := ⟨Bc, 0, none⟩) hBc).trans hB)
  refine callsIn_of_wp_marks Tryz.func57 rfl hf ?_ hro
  simp only [Tryz.ntmps57, List.size_toArray, List.length_cons, List.length_nil, Nat.reduceAdd, Nat.reduceSub, Array.replicate_succ, Array.replicate_zero, List.push_toArray, List.append_toArray, List.nil_append, List.cons_append]
  gi_wp2
  have hbW : Kpt Z n₀ w (W.alloc (.cells #[.func (.yield l) #[] #[]] 39)) := (Kpt.of (hW.mono hn₀)).alloc (Nat.le_trans hn₀ hW.size) _
  have hbw : Below w.heap.size w (W.alloc (.cells #[.func (.yield l) #[] #[]] 39)) := hW.alloc hW.size _
  have hy0 : (W.alloc (.cells #[.func (.yield l) #[] #[]] 39)).heap[W.heap.size]? = some (.cells #[.func (.yield l) #[] #[]] 39 (0, 0)) := heap_alloc_new _ _
  have hJ1 : J [] (W.alloc (.cells #[.func (.yield l) #[] #[]] 39)) := hJ.alloc _ h0
  have hjo : ∀ {K : List (List Bd × Value) → World → Prop}, OwnFrom W.heap.size K → OwnFrom (W.alloc (.cells #[.func (.yield l) #[] #[]] 39)).heap.size (fun (pre : List Pe) W' => ∃ ys, ys.map Prod.fst = pre.map Pe.l ∧ K ys W') := fun hK s A B row hs hg hr => by
    obtain ⟨ys, h1, h2⟩ := hs
    exact ⟨ys, h1, hK ys A B row h2 hg (fun r e => ⟨by have := (hr r e).1; simp at this; omega, (hr r e).2⟩)⟩
  refine wpIn_rangeFunc_H hro (by omega) (gf := 58) (lb := #[.pointer (some ⟨Bs, 0, none⟩)]) rfl hf2 (enters_of Tryz.func58 (by kernel_rfl) rfl)
    (valuesP_stops Z F (n - 1) hf2 hro (by omega) Bs n₀ cap ao zs hmany w hBl hn₀ hBs hrow) Kpt.trans (kptK_b (by have := hbW.size; omega)) hbw (fun _ => rfl)
    (fun pre W' => (∃ ys, ys.map Prod.fst = pre.map Pe.l ∧ J ys W') ∧ W'.heap[W.heap.size]? = some (.cells #[.func (.yield l) #[] #[]] 39 (0, 0)) ∧ Kpt Z n₀ w W')
    (fun c pre W' => c = .ret ∧ ∃ ys, ys.map Prod.fst = pre.map Pe.l ∧ Jx ys W')
    ?ownI ?ownX ⟨⟨[], rfl, hJ1⟩, hy0, hbW⟩
    (fun x a' W' => x ∈ zs ∧ ∃ Bx, W.heap.size < Bx ∧ W'.heap[Bx]? = some (.cells #[slV x.s] 38 (0, 0)) ∧
      a' = { tmps := #[.func (.yield l) #[] #[], .pointer (some ⟨Bc, 0, none⟩), .pointer (some ⟨W.heap.size, 0, none⟩), .pointer (some ⟨Bx, 0, none⟩), .func (.func 58) #[] #[.pointer (some ⟨Bs, 0, none⟩)], .agg #[slV x.s], undef, undef, undef, undef, undef], defers := [] })
    ?ownA ?assign ?body ?done ?stop
  case ownI => exact OwnFrom.and (hjo hJ) (OwnFrom.and (fun s A B row hs hg hr => (hg.block _ (Array.getElem?_eq_some_iff.1 hs).1 (fun e => by obtain ⟨_, o, ho, hc⟩ := hr _ e.symm; rw [hs] at ho; cases ho; cases hc)).trans hs) (ownFrom_kpt hn₀ (by have := hbW.size; omega)))
  case ownX => exact fun c => OwnFrom.and (ownFrom_pure _ _) (hjo hJx)
  case ownA =>
    rintro x a' s A B row ⟨hm, Bx, h1, h2, h3⟩ hg hr
    refine ⟨hm, Bx, h1, (hg.block Bx (Array.getElem?_eq_some_iff.1 h2).1 (fun e => ?_)).trans h2, h3⟩
    obtain ⟨_, o, ho, hc⟩ := hr Bx e.symm
    rw [h2] at ho; cases ho; cases hc
  case assign =>
    rintro l' pre x W' K ⟨⟨ys, h1, h2⟩, hc, hb⟩ hm hK
    have hlt : W.heap.size < W'.heap.size := (Array.getElem?_eq_some_iff.1 hc).1
    unfold slV
    gi_wp2
    exact hK _ _ ((KeepsOthers.alloc _ _).from _) ((Kpt.refl Z n₀ W').alloc (Nat.le_trans hn₀ hb.size) _) ⟨⟨ys, h1, hJ.alloc _ h2⟩, (Below.heap_alloc _ _ _ hlt).trans hc, hb.alloc (Nat.le_trans hn₀ hb.size) _⟩ ⟨hm, W'.heap.size, hlt, heap_alloc_new _ _, rfl⟩
  case body =>
    rintro l' pre x a' W' hl' hr ⟨⟨ys, h1, h2⟩, hc, hb⟩ ⟨hm, Bx, hBx, hbx, rfl⟩ hlen
    have c0 := cells_one0 hbx
    have hcell : W'.cell? ⟨W.heap.size, 0, none⟩ = some (.func (.yield l) #[] #[]) := by simp [World.cell?, hc]
    have hcl := fun (W2 : World) (h : BsV W2 W2.heap.size (slV x.s) x.l) => hC x.s.a x.s.n x.s.c x.l W2 h
    have hJn : ∀ W2, Below W'.heap.size W' W2 → J ys W2 := fun W2 h => hJ ys W' W2 none h2 ⟨h.os, h.tape, h.output, h.size, fun k hk _ => h.block k hk⟩ (fun r e => by cases e)
    have hlen' : ys.length < zs.length := by have h3 := congrArg List.length h1; simp at h3; omega
    have hmo : Tryz.prog.follows .mixedOrders = true := by kernel_rfl
    have hbd : Below W'.heap.size W' W'.drew := (Below.refl _ _).drew
    have havd : BsV W'.drew W'.drew.heap.size (slV x.s) x.l := hats x hm _ hb.drew
    have hnd : n₀ ≤ W'.drew.heap.size := Nat.le_trans hn₀ hb.size
    have hltP : W.heap.size < W'.heap.size := Nat.lt_trans hBx (Array.getElem?_eq_some_iff.1 hbx).1
    have hYY := fun (W2 : World) (v' : Value) (hJ2 : J ys W2) (hv : HC KX n₀ (x.l, v') W2) => (yield_deep hd (n - 1 - 1 - 1) (hY ys (x.l, v') W2 hJ2 hv hlen')).mono (R' := fun e W' => ∃ b, e = .returned (.bool b) ∧ (b = true → J (ys ++ [(x.l, v')]) W' ∧ KpY Z n₀ W2 W') ∧ (b = false → Jx (ys ++ [(x.l, v')]) W') ∧ KeepsFrom W.heap.size W2 W') (fun e W' h => by
      rcases h with ⟨rfl, h3, h4, h5⟩ | ⟨rfl, h3, h5⟩
      · exact ⟨true, rfl, fun _ => ⟨h3, h4⟩, (fun h => nomatch h), h5⟩
      · exact ⟨false, rfl, (fun h => nomatch h), (fun _ => h3), h5⟩)
    unfold slV at c0 hcl hYY havd ⊢
    gi_wp2
    gi_region_with_o (first
      | (gi_at_call 22; refine (CallsIn.inRound l' (hcl _ havd)).mono ?_; rintro r W2 ⟨v', rfl, ho, hb2⟩; obtain ⟨va, vk, rfl⟩ := ho.shape; have hbb := hbd.trans hb2; have hc2 := (hb2.cell (p := ⟨W.heap.size, 0, none⟩) hltP).trans (show W'.drew.cell? ⟨W.heap.size, 0, none⟩ = _ from hcell); obtain ⟨fn, tmps, assign, body, hy, hR⟩ := hYY W2 _ (hJn W2 hbb) ⟨ho.lower hnd, hKX x hm⟩; clear hbb)
      | (refine hR.mono ?_; rintro e W3 ⟨bb, rfl, hb3, hb4, hb5⟩))
    all_goals
      have hkf2 : KeepsFrom W.heap.size W' W2 := ⟨(hbd.trans hb2).size, fun k o _ hk _ => ((hbd.trans hb2).block k (Array.getElem?_eq_some_iff.1 hk).1).trans hk⟩
      have hkf3 := hkf2.trans hb5
      have hkf : KeepsFrom (W.heap.size + 1) W' W3 := ⟨hkf3.size, fun k o hk => hkf3.same k o (by omega)⟩
      have hc2 : W2.heap[W.heap.size]? = some (.cells #[.func (.yield l) #[] #[]] 39 (0, 0)) := ((hbd.trans hb2).block _ hltP).trans hc
      cases bb with
      | true =>
        obtain ⟨hj3, hbn3, hty3⟩ := hb3 rfl
        have hbn : Kpt Z n₀ W' W3 := (Kpt.of ((hbd.trans hb2).mono (Nat.le_trans hn₀ hb.size))).trans hbn3
        have hcy := hty3 _ _ _ hc2
        gi_wp2
        exact ⟨hkf, hbn, ⟨_, by simp [h1], hj3⟩, hcy, hb.trans hbn⟩
      | false =>
        have hj3 := hb4 rfl
        gi_wp2
        exact ⟨hkf, rfl, _, by simp [h1], hj3⟩
  case done =>
    rintro D xs W' hD rfl ⟨⟨ys, h1, h2⟩, hc, hb⟩ hK
    have hD' : W.heap.size ≤ D := by have := hD; simp at this; omega
    have hJD := hJ.putObj (.deferred none) h2 hD' hK rfl
    gi_wp2
    refine ⟨by simp, .inl ⟨_, _, rfl, run_takeDeferred hK, ?_⟩⟩
    exact ⟨_, results_none rfl _ _ _, ⟨_, rfl⟩, .inl ⟨ys, h1, hJD⟩⟩
  case stop =>
    rintro D c pre W' hD hp ⟨rfl, ys, h1, h2⟩ hK
    have hD' : W.heap.size ≤ D := by have := hD; simp at this; omega
    have hJD := hJx.putObj (.deferred none) h2 hD' hK rfl
    gi_wp2
    refine ⟨by simp, .inl ⟨_, _, rfl, run_takeDeferred hK, ?_⟩⟩
    exact ⟨_, results_none rfl _ _ _, ⟨_, rfl⟩, .inr ⟨ys, by rw [h1]; exact hp.map Pe.l, hJD⟩⟩
end Go.Proofs.YtcnecokamckfaaaGreatDoor

/- All of a set: what it hands, in memory. -/
namespace Go.Proofs.YtcnecokamckfaaaGreatDoor
open Go Go.RowKit Go.Shelf Go.Maps Go.WideMaps
attribute [local go_sem] Oper.semAt_some

/-- What All of a set hands back, in memory: it goes through zs; where Z holds nothing may turn. -/
def PAllAt (Z : Nat → Prop) (w : World) (n₀ Bc : Nat) (zs : List Pe) : Prop :=
  ∃ (Bs cap : Nat) (ao : Option Addr), zs.length ≤ 5864062014805 ∧ Bs < w.heap.size ∧ Bc < w.heap.size ∧ n₀ ≤ w.heap.size ∧
    w.cell? ⟨Bc, 0, none⟩ = some (.func (.func 58) #[] #[.pointer (some ⟨Bs, 0, none⟩)]) ∧ w.cell? ⟨Bs, 0, none⟩ = some (.slice ao zs.length cap) ∧
    (0 < zs.length → ∃ b o, ao = some ⟨b, o, none⟩ ∧ b < n₀ ∧ Z b ∧ ∀ j (hj : j < zs.length), w.cell? ⟨b, o + j, none⟩ = some (slV zs[j].s)) ∧
    (∀ z ∈ zs, ∀ u, Kpt Z n₀ w u → BsV u u.heap.size (slV z.s) z.l)
theorem PAllAt.below {Z : Nat → Prop} {w w' : World} {n₀ Bc : Nat} {zs : List Pe} (h : PAllAt Z w n₀ Bc zs) (hb : Below w.heap.size w w') : PAllAt Z w' n₀ Bc zs := by
  obtain ⟨Bs, cap, ao, h1, h2, h3, h4, h5, h6, h7, h8⟩ := h
  refine ⟨Bs, cap, ao, h1, Nat.lt_of_lt_of_le h2 hb.size, Nat.lt_of_lt_of_le h3 hb.size, Nat.le_trans h4 hb.size, (hb.cell (p := ⟨Bc, 0, none⟩) h3).trans h5, (hb.cell (p := ⟨Bs, 0, none⟩) h2).trans h6, fun h => ?_, fun z hz u hu => h8 z hz u ((Kpt.of (hb.mono h4)).trans hu)⟩
  obtain ⟨b, o, e, hB, hz, hc⟩ := h7 h
  exact ⟨b, o, e, hB, hz, fun j hj => (hb.cell (p := ⟨b, o + j, none⟩) (Nat.lt_of_lt_of_le hB h4)).trans (hc j hj)⟩
theorem PAllAt.stops {Z : Nat → Prop} {w : World} {n₀ Bc : Nat} {zs : List Pe} (h : PAllAt Z w n₀ Bc zs) (KX : List Bd → Prop) (hKX : ∀ z ∈ zs, KX z.l) (n : Nat) (hn : 4 ≤ n) :
    SeqStopsH Fence.wide n Tryz.prog 57 #[.pointer (some ⟨Bc, 0, none⟩)] (fun x : List Bd × Value => #[.agg #[x.2]]) (HC KX n₀) (KpY Z n₀) (fun ys => ys.map Prod.fst = zs.map Pe.l) (fun pre => pre.map Prod.fst <+: zs.map Pe.l) zs.length w := by
  obtain ⟨Bs, cap, ao, h1, h2, h3, h4, h5, h6, h7, h8⟩ := h
  exact mClones_stops Z KX Fence.wide n trivial trivial trivial rfl rfl hn Bc Bs n₀ cap ao zs h1 w h2 h3 h4 h5 h6 h7
    (fun ao m c bs W hav => callsIn_wide.2 (mClone_any W.heap.size ao m c bs W hav (Nat.le_refl _))) hKX h8
theorem kpY_t {Z : Nat → Prop} {B : Nat} {a b c : World} (h : KpY Z B a b) (h' : KpY Z B b c) : KpY Z B a c := ⟨h.1.trans h'.1, fun k cs fr hk => h'.2 k cs fr (h.2 k cs fr hk)⟩
theorem kpY_b {Z : Nat → Prop} {B l : Nat} {W : World} {o : Obj} (o' : Obj) (hB : B ≤ l) (hl : W.heap[l]? = some o) (ho : o.isCells = false) : KpY Z B W (W.putObj l o') :=
  ⟨.of ((Below.refl B W).grown (grownBy_putObj' W l o') (by have := (Array.getElem?_eq_some_iff.1 hl).1; omega) (fun k e => by cases e; omega)), fun k cs fr hk => by
    have hne : k ≠ l := by rintro rfl; rw [hk] at hl; cases hl; cases ho
    exact (World.putObj_heap_other hne).trans hk⟩

set_option maxRecDepth 100000 in
set_option maxHeartbeats 1600000 in
theorem mSetAll_any (Z F : Nat → Prop) (C q b : Nat) (L : List (Value × List Bd)) (w : World) (h : SetAt F C w q b L) (hZ : ∀ k, w.heap.size ≤ k → Z k) (hS : ∀ x ∈ L, ∀ u, Kpt Z w.heap.size w u → BsV u u.heap.size x.1 x.2) :
    Calls Tryz.prog 10 #[.pointer (some ⟨q, 0, none⟩)] w fun e w' => ∃ Bc n₀ zs, e = .returned (.func (.func 57) #[] #[.pointer (some ⟨Bc, 0, none⟩)]) ∧ InO L zs ∧ PAllAt Z w' n₀ Bc zs ∧ w.heap.size ≤ n₀ ∧ Below w.heap.size w w' := by
  have C0 := fun w => (callsIn_wide (n := 5)).1 (mapValues_in Fence.wide 5 trivial rfl (some b) w)
  have C1 := fun (w : World) (a : Option Addr) (n c : Nat) => (callsIn_wide (n := 5)).1 (valuesP_in Fence.wide 5 trivial rfl a n c w)
  have C2 := fun (w : World) (u v : Array Value) => (callsIn_wide (n := 5)).1 (mClones_in Fence.wide 5 trivial rfl (.func 58) u v w)
  have hq := h.cell
  have hm := h.many
  obtain ⟨N, D, hown, _, hL⟩ := h.map
  have hb0 : Below w.heap.size w (w.alloc (.cells #[.map (some b)] 60)) := (Below.refl _ _).alloc (Nat.le_refl _) _
  have CS := sortedP_any w.heap.size b N D L (w.alloc (.cells #[.map (some b)] 60)) (by simp) (cells_one0 (heap_alloc_new w _)) (owns_block0 hown (hb0.block b hown.lt)) hL hm (fun x hx => ((h.each x hx).1.now.below hb0 (Nat.le_refl _)).mono hb0.size)
  have HC0 := Lib.hid C0; have HC1 := Lib.hid C1; have HC2 := Lib.hid C2; have HCS := Lib.hid CS; have HB0 := Lib.hid hb0; have HS := Lib.hid hS; have HZ := Lib.hid hZ; have HM := Lib.hid hm
  have HP := Lib.hid (mSetParts_any q b w hq)
  clear h hown hL C0 C1 C2 CS hb0 hS hZ hm hq
  go_enter Tryz.func10, Tryz.ntmps10
  go_wp2_with (first
    | (go_at_call 33; (with_reducible refine (HP.out).mono ?_); rintro e w1 ⟨rfl, rfl⟩)
    | (go_at_call 32; (with_reducible refine (HC0.out _).mono ?_); rintro e w1 ⟨rfl, rfl⟩)
    | (go_at_call 31; (with_reducible refine (HCS.out).mono ?_); rintro e w2 ⟨v, zs, rfl, hio, ⟨ao, cap, rfl, hrow⟩, hb⟩; have HIO := Lib.hid hio; have HR := Lib.hid hrow; have HB := Lib.hid hb; clear hio hrow hb)
    | (go_at_call 30; (with_reducible refine (HC1.out _ _ _ _).mono ?_); rintro e w3 ⟨rfl, rfl⟩)
    | (go_at_call 29; (with_reducible refine (HC2.out _ _ _).mono ?_); rintro e w4 ⟨rfl, rfl⟩))
  go_ret
  have hb2 : Below w.heap.size w w2 := HB0.out.trans (HB.out.mono HB0.out.size)
  have hb3 : Below w2.heap.size w2 ((w2.alloc (.cells #[.slice ao zs.length cap] 22)).alloc (.cells #[.func (.func 58) #[] #[.pointer (some ⟨w2.heap.size, 0, none⟩)]] 30)) := ((Below.refl _ _).alloc (Nat.le_refl _) _).alloc (by simp) _
  have hzl : zs.length = L.length := by have := HIO.out.perm.length_eq; simpa using this
  refine ⟨_, w2.heap.size, zs, rfl, HIO.out, ⟨w2.heap.size, cap, ao, by have := HM.out; omega, by simp; omega, by simp, by simp; omega, ?_, ?_, fun h0 => ?_, fun z hz u hu => ?_⟩, hb2.size, hb2.trans (hb3.mono hb2.size)⟩
  · exact cells_one0 (heap_alloc_at (by simp) rfl)
  · exact cells_one0 (heap_alloc_keeps (heap_alloc_new w2 _) _)
  · obtain ⟨g, o, e, h1, h2, h3⟩ := HR.out h0
    exact ⟨g, o, e, h2, HZ.out g (Nat.le_trans HB0.out.size h1), fun j hj => (hb3.cell (p := ⟨g, o + j, none⟩) h2).trans (h3 j hj)⟩
  · have hin : (slV z.s, z.l) ∈ L := HIO.out.perm.mem_iff.1 (List.mem_map.2 ⟨z, hz, rfl⟩)
    exact HS.out _ hin u ((Kpt.of (hb2.trans (hb3.mono hb2.size))).trans (hu.mono hb2.size))
end Go.Proofs.YtcnecokamckfaaaGreatDoor
