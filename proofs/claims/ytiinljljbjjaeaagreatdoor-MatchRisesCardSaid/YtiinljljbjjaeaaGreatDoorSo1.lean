/- Contracts: slices.SortFunc of partial matches by Compare; slices.SortedFunc of what a set holds. -/
import Derived.Test.YtiinljljbjjaeaaGreatDoorCo0
import Derived.Test.YtiinljljbjjaeaaGreatDoorCd0
import Derived.Test.YtiinljljbjjaeaaGreatDoorKy0
import Derived.Test.YtiinljljbjjaeaaGreatDoorShelf6
import Derived.Shelf.SlSortCmp.WholeK
import Derived.Lib.OwnBridge
namespace Go.Proofs.YtiinljljbjjaeaaGreatDoor
open Go Go.RowKit Go.Sort Go.Shelf Go.Maps Go.WideMaps

/-- A partial match by its slice and its bounds. -/
structure Pe where
  s : Sl
  l : List Bd
def Pe.Ok (w : World) (N : Nat) (x : Pe) : Prop := BsV w N (slV x.s) x.l
theorem Pe.Ok.below {w w' : World} {N B : Nat} {x : Pe} (h : x.Ok w N) (hb : Below B w w') (hB : N ≤ B) : x.Ok w' N := BsV.below h hb hB
theorem Pe.Ok.mono {w : World} {N N' : Nat} {x : Pe} (h : x.Ok w N) (hN : N ≤ N') : x.Ok w N' := BsV.mono h hN
abbrev PeG (w : World) (N : Nat) : Type := {x : Pe // x.Ok w N}
instance (w : World) (N : Nat) : Inhabited (PeG w N) := ⟨⟨⟨⟨none, 0, 0⟩, []⟩, BsV.nil w N⟩⟩
def encP {w : World} {N : Nat} (x : PeG w N) : List Value := [slV x.1.s]
theorem encP_len {w : World} {N : Nat} (x : PeG w N) : (encP x).length = 1 := rfl
def cfP {w : World} {N : Nat} (x y : PeG w N) : Int := cmpL x.1.l y.1.l
theorem peG_of {w : World} {N : Nat} : ∀ ys : List Pe, (∀ y ∈ ys, y.Ok w N) → ∃ l : List (PeG w N), l.map Subtype.val = ys
  | [], _ => ⟨[], rfl⟩
  | y :: r, h => by
    obtain ⟨l, hl⟩ := peG_of r fun z hz => h z (List.mem_cons_of_mem _ hz)
    exact ⟨⟨y, h y (List.mem_cons_self ..)⟩ :: l, by rw [List.map_cons, hl]⟩
theorem swoP {w : World} {N : Nat} : SWO (ltOf (cfP (w := w) (N := N))) where
  irrefl x := by unfold ltOf cfP; rw [cmpL_self]; rfl
  trans x y z h1 h2 := by
    unfold ltOf cfP at *
    rw [decide_eq_true_eq] at *
    exact (cmpL_trans (a := x.1.l) (b := y.1.l) (c := z.1.l) (by omega) (by omega)).2 (.inl h1)
  ntrans x y z h1 h2 := by
    unfold ltOf cfP at *
    rw [decide_eq_false_iff_not] at *
    have a := cmpL_swap x.1.l y.1.l; have b := cmpL_swap y.1.l z.1.l; have c := cmpL_swap x.1.l z.1.l
    have := (cmpL_trans (a := z.1.l) (b := y.1.l) (c := x.1.l) (by omega) (by omega)).1
    omega
theorem holds_peG {w0 : World} {N : Nat} {w : World} {base g n cap : Nat} {l : List (PeG w0 N)} (h : w.ownsRow base 38 1 (.slice (some ⟨g, 0, none⟩) n cap) n (l.map fun x => slV x.1.s)) (hn : n = l.length) : HoldsK encP 1 w g 0 l.toArray := by
  intro j hj
  have hj' : j < l.length := by simpa [size_flatK] using hj
  refine ⟨?_, by rw [Nat.zero_add]; exact h.frozenAt j⟩
  rw [get_flatK _ _ _ j (by simpa using hj'), Nat.zero_add, h.cellAt j (by omega), Nat.div_one, Nat.mod_one]
  simp [encP, hj']
theorem cells_peG {w0 : World} {N : Nat} {w : World} {g : Nat} {l : List (PeG w0 N)} (h : HoldsK encP 1 w g 0 l.toArray) (j : Nat) (hj : j < l.length) : w.cell? ⟨g, 0 + j, none⟩ = some (slV l[j].1.s) := by
  have := (h j (by simpa [size_flatK] using hj)).1
  rw [this, get_flatK _ _ _ j (by simpa using hj), Nat.div_one, Nat.mod_one]
  simp [encP, hj]
/-- A row of partial matches, at or beyond block A, below block B. -/
def RwP (w : World) (A B : Nat) (v : Value) (zs : List Pe) : Prop := ∃ ao cap, v = .slice ao zs.length cap ∧ (0 < zs.length → ∃ b o, ao = some ⟨b, o, none⟩ ∧ A ≤ b ∧ b < B ∧ ∀ j (hj : j < zs.length), w.cell? ⟨b, o + j, none⟩ = some (slV zs[j].s))

theorem below_sortP {w0 : World} {N : Nat} {base : Nat} {w : World} {g n : Nat} {d : Array (PeG w0 N)} {os : Array Obj} (hg : base ≤ g) (hgw : g < w.heap.size) : Below base w (sortWorldK encP 1 w g 0 n d os) ∧ w.heap.size ≤ (sortWorldK encP 1 w g 0 n d os).heap.size := by
  have hsz : (putRowK encP 1 (Sort.ahead w n) g 0 d).heap.size = w.heap.size := by unfold putRowK; rw [size_putRow]; rfl
  have h1 : Below base w (putRowK encP 1 (Sort.ahead w n) g 0 d) := Lib.below_putRow (Below.refl base w) hg
  have h2 : Below w.heap.size (putRowK encP 1 (Sort.ahead w n) g 0 d) (grow (putRowK encP 1 (Sort.ahead w n) g 0 d) os) := ⟨rfl, rfl, rfl, by simp [grow], fun k hk => by
    show (_ ++ os)[k]? = _
    rw [Array.getElem?_append_left (by omega)]⟩
  exact ⟨h1.trans (h2.mono (by omega)), by show w.heap.size ≤ (_ ++ os).size; rw [Array.size_append, hsz]; omega⟩

set_option maxRecDepth 100000 in
set_option maxHeartbeats 1600000 in
theorem iSortP_none (p : Option Addr) (cap : Nat) (fv : Value) (w : World) :
    Calls Tryz.prog 119 #[.slice p 0 cap, .int .i64 0, .int .i64 0, fv] w fun e w' => e = .returned (.tuple #[]) ∧ w = w' := by
  go_enter Tryz.func119, Tryz.ntmps119
  go_wp2
  refine wp_loop_rounds 1 ?_
  rw [rounds_succ]
  go_wp2
  go_end0
  exact ⟨rfl, rfl⟩
set_option maxRecDepth 100000 in
set_option maxHeartbeats 1600000 in
theorem pdqP_none (p : Option Addr) (cap : Nat) (lim : Int) (fv : Value) (w : World) :
    Calls Tryz.prog 88 #[.slice p 0 cap, .int .i64 0, .int .i64 0, .int .i64 lim, fv] w fun e w' => e = .returned (.tuple #[]) ∧ w = w' := by
  go_enter Tryz.func88, Tryz.ntmps88
  go_wp2
  refine wp_loop_rounds 1 ?_
  rw [rounds_succ]
  go_wp2_with (go_at_call 119; (with_reducible refine (iSortP_none _ _ _ _).mono ?_); rintro e w' ⟨rfl, rfl⟩)
  (try simp only [Exit.inBlock, Exit.then]); refine bodyPost_ret (results_none rfl _ _ _) rfl ?_
  exact ⟨rfl, rfl⟩
set_option maxRecDepth 100000 in
set_option maxHeartbeats 1600000 in
theorem SortFuncP_none (fv : Value) (w : World) :
    Calls Tryz.prog 60 #[.slice none 0 0, fv] w fun e w' => e = .returned (.tuple #[]) ∧ w = w' := by
  have hl : ∀ W, Calls Tryz.prog 73 #[.int .u64 0] W fun e w' => e = .returned (.int .i64 (Lib.bitLen 0 : Nat)) ∧ W = w' := fun W => (Tryz.bits_Len 0 W (by omega) (by omega)).mono fun _ _ ⟨a, b⟩ => ⟨a, b.symm⟩
  go_enter Tryz.func60, Tryz.ntmps60
  go_wp2_with (first | (go_at_call 73; (with_reducible refine (hl _).mono ?_); rintro e w' ⟨rfl, rfl⟩) | (go_at_call 88; (with_reducible refine (pdqP_none _ _ _ _ _).mono ?_); rintro e w' ⟨rfl, rfl⟩))
  go_end0
  exact ⟨rfl, rfl⟩
set_option maxHeartbeats 1600000 in
theorem SortFuncP_any (N base : Nat) (v : Value) (ys : List Pe) (w : World) (h : w.ownsRow base 38 1 v ys.length (ys.map fun y => slV y.s)) (hr : ∀ y ∈ ys, y.Ok w N) (hN : N ≤ base) (hbw : base ≤ w.heap.size) (hl : ys.length ≤ 5864062014805) :
    Calls Tryz.prog 60 #[v, .func (.func 19) #[] #[]] w fun e w' => e = .returned (.tuple #[]) ∧ ∃ zs : List Pe, zs.Perm ys ∧ (zs.Pairwise fun x y => cmpL x.l y.l ≤ 0) ∧ RwP w' base w'.heap.size v zs ∧ Below base w w' := by
  rcases h.2 with ⟨rfl, h0⟩ | ⟨g, cap, cur, rfl, hg, hgg, hcap, hcm, _, _⟩
  · obtain rfl : ys = [] := List.eq_nil_of_length_eq_zero h0
    exact (SortFuncP_none (.func (.func 19) #[] #[]) w).mono fun e w' ⟨he, hw'⟩ => ⟨he, [], List.Perm.refl _, List.Pairwise.nil, ⟨none, 0, rfl, fun h => absurd h (by simp)⟩, by rw [← hw']; exact Below.refl _ _⟩
  · obtain ⟨l, rfl⟩ := peG_of ys hr
    have hgw := lt_of_block hgg
    rw [List.map_map] at h
    have hlen : (l.map Subtype.val).length = l.length := List.length_map _
    have hH := holds_peG (l := l) h hlen
    have eg : ∀ args w, (callFunc 19 args).run Tryz.prog w = .ok (.enter 19 args) w := enters_of Tryz.func19 (by kernel_rfl) rfl
    have hcmp : CmpLays Tryz.prog 19 #[] encP 1 cfP g 0 l.toArray.size w := fun m os dk _ x y => by
      obtain ⟨hb, hsz⟩ := below_sortP (base := base) (n := m) (d := dk) (os := os) hg hgw
      obtain ⟨⟨⟨a, n, c⟩, xl⟩, hx⟩ := x
      obtain ⟨⟨⟨a', n', c'⟩, yl⟩, hy⟩ := y
      refine (mCompare_dr N N a n c a' n' c' xl yl _ (BsV.below hx hb hN) (BsV.below hy hb hN) (by omega) (by omega)).mono ?_
      rintro e w' ⟨he, hd⟩
      exact ⟨he, hd.grown⟩
    have hcon := AnyQ.slices_SortFunc Tryz.lSortP 1 Tryz.isAgg38 Tryz.sizeOf38 encP encP_len (fun x v hv => by simp only [encP, List.mem_singleton] at hv; rw [hv]; rfl) cfP swoP 19 #[] g 0 cap l.toArray w eg hcmp hH hgw (by rw [hlen] at hl; simp; omega)
    change Calls Tryz.prog 60 #[.slice (some ⟨g, 0, none⟩) l.length cap, _] _ _ at hcon
    rw [hlen]
    refine hcon.mono fun e w' ⟨he, d', n, os, hp, hs, hw'⟩ => ?_
    have hps : d'.size = l.length := by have := hp.1; simpa using this
    have hperm : d'.toList.Perm l := by
      have := hp.2.2
      have e1 : d'.extract 0 l.toArray.size = d' := by rw [show l.toArray.size = d'.size by simp [hps]]; exact Array.extract_size
      have e2 : l.toArray.extract 0 l.toArray.size = l.toArray := Array.extract_size
      rw [e1, e2] at this
      simpa using this
    obtain ⟨hb, hsz⟩ := below_sortP (n := n) (d := d') (os := os) hg hgw
    rw [← hw'] at hb hsz
    have hH' : HoldsK encP 1 w' g 0 d'.toList.toArray := by rw [hw', Array.toArray_toList]; exact holdsK_sortWorldK encP 1 w g 0 n l.toArray d' os hgw hH (by simp [hps])
    have hml : (d'.toList.map Subtype.val).length = l.length := by rw [List.length_map, Array.length_toList, hps]
    refine ⟨he, d'.toList.map Subtype.val, hperm.map _, ?_, ⟨some ⟨g, 0, none⟩, cap, by rw [hml], fun _ => ⟨g, 0, rfl, hg, by omega, fun j hj => ?_⟩⟩, hb⟩
    · rw [List.pairwise_iff_getElem]
      intro i j hi hj hij
      rw [List.length_map, Array.length_toList] at hi hj
      have := hs i j (Nat.zero_le _) hij (by simp; omega)
      unfold ltOf cfP at this
      rw [decide_eq_false_iff_not, getElem!_pos d' i hi, getElem!_pos d' j hj] at this
      have h2 := cmpL_swap (d'[i]).1.l (d'[j]).1.l
      rw [List.getElem_map, List.getElem_map, Array.getElem_toList, Array.getElem_toList]
      omega
    · rw [List.length_map] at hj
      rw [List.getElem_map]
      exact cells_peG hH' j hj

theorem pe_of : ∀ (pre : List Sl) (L' : List (Value × List Bd)), L'.map Prod.fst = pre.map slV → ∃ ys : List Pe, ys.map Pe.s = pre ∧ ys.map (fun y => (slV y.s, y.l)) = L'
  | [], [], _ => ⟨[], rfl, rfl⟩
  | [], _ :: _, h => by cases h
  | _ :: _, [], h => by cases h
  | s :: pre, (v, l) :: L', h => by
    rw [List.map_cons, List.map_cons, List.cons.injEq] at h
    obtain ⟨ys, h1, h2⟩ := pe_of pre L' h.2
    have hv : v = slV s := h.1
    exact ⟨⟨s, l⟩ :: ys, by rw [List.map_cons, h1], by rw [List.map_cons, h2, hv]⟩
/-- zs are a set's partial matches, rising. -/
structure InO (L : List (Value × List Bd)) (zs : List Pe) : Prop where
  perm : (zs.map fun z => (slV z.s, z.l)).Perm L
  rise : zs.Pairwise fun x y => cmpL x.l y.l < 0
theorem InO.of {D : DataW Value} {L : List (Value × List Bd)} (hL : MapL D L) {zs : List Pe} (hp : (zs.map fun z => (slV z.s, z.l)).Perm L) (hz : zs.Pairwise fun x y => cmpL x.l y.l ≤ 0) : InO L zs := by
  refine ⟨hp, ?_⟩
  have h1 : (zs.map fun z => keyL z.l).Nodup := by
    have := (hp.map fun x => keyL x.2).nodup_iff.2 hL.nodup
    rwa [List.map_map] at this
  have h2 : zs.Pairwise fun x y => keyL x.l ≠ keyL y.l := List.Pairwise.of_map (fun z => keyL z.l) (fun _ _ h => h) h1
  exact (hz.and h2).imp fun ⟨a, b⟩ => by
    have : ¬ cmpL _ _ = 0 := fun e => b (key_cmp.2 e)
    omega

set_option maxRecDepth 100000 in
set_option maxHeartbeats 1600000 in
theorem sortedP_any (Bm b nn : Nat) (D0 : DataW Value) (L : List (Value × List Bd)) (w : World) (hBm : Bm < w.heap.size)
    (hm : w.cell? ⟨Bm, 0, none⟩ = some (.map (some b))) (hown : w.ownsMap Tryz.prog 9 heldE b nn D0) (hL : MapL D0 L) (hmany : L.length ≤ 5864062014805) (he : ∀ x ∈ L, BsV w w.heap.size x.1 x.2) :
    Calls Tryz.prog 31 #[.func (.func 61) #[] #[.pointer (some ⟨Bm, 0, none⟩)], .func (.func 19) #[] #[]] w fun e w' => ∃ (v : Value) (zs : List Pe), e = .returned v ∧ InO L zs ∧ RwP w' w.heap.size w'.heap.size v zs ∧ Below w.heap.size w w' := by
  have HC := Lib.hid (collectP_any Bm b nn D0 L w hBm hm hown hL hmany)
  have HL := Lib.hid hL
  have HS : Hid (∀ (v : Value) (pre : List Sl) (u : World), AllV L pre → u.ownsRow w.heap.size 38 1 v pre.length (pre.map slV) → Below w.heap.size w u → Calls Tryz.prog 60 #[v, .func (.func 19) #[] #[]] u fun e w' => e = .returned (.tuple #[]) ∧ ∃ zs : List Pe, InO L zs ∧ RwP w' w.heap.size w'.heap.size v zs ∧ Below w.heap.size u w') := Lib.hid fun v pre u hA ho hb => by
    obtain ⟨L', hp, hv⟩ := hA
    obtain ⟨ys, h1, h2⟩ := pe_of pre L' hv
    have hle : ys.length = pre.length := by rw [← h1, List.length_map]
    have hlL : ys.length = L.length := by rw [← hp.length_eq, ← h2, List.length_map]
    have ho' : u.ownsRow w.heap.size 38 1 v ys.length (ys.map fun y => slV y.s) := by rw [hle]; rw [← h1, List.map_map] at ho; rw [List.length_map, hle] at ho; exact ho
    refine (SortFuncP_any w.heap.size w.heap.size v ys u ho' (fun y hy => ?_) (Nat.le_refl _) hb.size (by omega)).mono ?_
    · have : (slV y.s, y.l) ∈ L := hp.mem_iff.1 (by rw [← h2]; exact List.mem_map.2 ⟨y, hy, rfl⟩)
      exact BsV.below (he _ this) hb (Nat.le_refl _)
    · rintro e w' ⟨e1, zs, hz, hs, hr, hb'⟩
      exact ⟨e1, zs, InO.of HL.out ((hz.map _).trans (by rw [h2]; exact hp)) hs, hr, hb'⟩
  clear hm hown hL hmany he
  go_enter Tryz.func31, Tryz.ntmps31
  go_wp2_with (first
    | (go_at_call 59; (with_reducible refine (HC.out).mono ?_); rintro e w1 ⟨v, pre, rfl, hA, ho, hb⟩; have HCC := Lib.hid (HS.out v pre w1 hA ho hb); have HB := Lib.hid hb; clear hA ho hb)
    | (go_at_call 60; (with_reducible refine (HCC.out).mono ?_); rintro e w2 ⟨rfl, h2⟩; have H2 := Lib.hid h2; clear h2))
  go_ret
  obtain ⟨zs, h1, h2, h3⟩ := H2.out
  exact ⟨_, zs, rfl, h1, h2, HB.out.trans h3⟩
end Go.Proofs.YtiinljljbjjaeaaGreatDoor
