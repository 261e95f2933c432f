/- Contract of tells (a range over words against words that are wanted); the walk of LexWalks. -/
import Derived.Test.YtdmdakkibgjffaaDoorRsa
import Derived.Sort.QuietIn
namespace Go.Proofs.YtdmdakkibgjffaaDoor
open Go Go.RowKit Go.Shelf
attribute [local go_sem] Oper.semAt_some

theorem wr_one5 {k N : Nat} (h : k + 1 ≤ N) (hN : N ≤ 140737488355328) : wrap64 ((k : Int) + 1) = (k : Int) + 1 := by unfold wrap64; omega
/-- How things stand in tells between two rounds: what is wanted at P, stop at P + 1, the result at P + 2, the count at P + 3. -/
structure Tn (w0 : World) (P : Nat) (v : Value) (stop : Int) (n : Nat) (W : World) : Prop where
  bv : W.heap[P]? = some (.cells #[v] 22 (0, 0))
  bs : W.heap[P + 1]? = some (.cells #[.int .i64 stop] 3 (0, 0))
  br : W.heap[P + 2]? = some (.cells #[.bool false] 4 (0, 0))
  bn : W.heap[P + 3]? = some (.cells #[.int .i64 (n : Int)] 3 (0, 0))
  below : Below P w0 W
theorem Tn.size {w0 : World} {P : Nat} {v : Value} {stop : Int} {n : Nat} {W : World} (h : Tn w0 P v stop n W) : P + 4 ≤ W.heap.size := (Array.getElem?_eq_some_iff.1 h.bn).1
/-- .. behind a round that left. -/
def Tx (w0 : World) (P : Nat) (ts pre : List Tok) (W : World) : Prop := ∃ b : Bool, W.heap[P + 2]? = some (.cells #[.bool b] 4 (0, 0)) ∧ (pre <+: ts → b = true) ∧ Below P w0 W
theorem below_own (w0 : World) {P B : Nat} (hB : P ≤ B) (hP : w0.heap.size = P) {X Y : World} {row : Option Nat} (h : Below P w0 X) (hg : X.grownBy Y row) (hr : ∀ r, row = some r → B ≤ r ∧ ∃ o : Obj, X.heap[r]? = some o ∧ o.isCells = false) : Below P w0 Y :=
  (ownFrom_below (β := Unit) (Nat.le_of_eq hP.symm) hB) () X Y row h hg hr
theorem Tn.own (w0 : World) {P B : Nat} (hB : P ≤ B) (hP : w0.heap.size = P) (v : Value) (stop : Int) : OwnFrom B (fun (pre : List Tok) W => Tn w0 P v stop pre.length W) := fun _ _ _ _ h hg hr =>
  ⟨own_blk hg hr h.bv, own_blk hg hr h.bs, own_blk hg hr h.br, own_blk hg hr h.bn, below_own w0 hB hP h.below hg hr⟩
theorem Tx.own (w0 : World) {P B : Nat} (hB : P ≤ B) (hP : w0.heap.size = P) (ts : List Tok) : OwnFrom B (fun (pre : List Tok) W => Tx w0 P ts pre W) := fun _ _ _ _ ⟨b, h1, h2, h3⟩ hg hr =>
  ⟨b, own_blk hg hr h1, h2, below_own w0 hB hP h3 hg hr⟩
theorem keeps_set {B : Nat} {W W' : World} {q : Nat} {cs : Array Value} {t : Nat} (h : KeepsFrom B W W') (u : Value) (hq : W.heap[q]? = some (.cells cs t (0, 0))) : KeepsFrom B W (W'.setCell ⟨q, 0, none⟩ u) :=
  ⟨by simpa using h.size, fun k o hk ho hc => set_far (h.same k o hk ho hc) (by rintro rfl; rw [hq] at ho; cases ho; cases hc) u⟩
theorem kpt_set {n₀ Bt d : Nat} {W W' : World} {q : Nat} (h : KpT n₀ Bt d W W') (u : Value) (h1 : n₀ ≤ q) (h2 : Bt < n₀) (h3 : q < d) : KpT n₀ Bt d W (W'.setCell ⟨q, 0, none⟩ u) :=
  ⟨h.1.setCell (p := ⟨q, 0, none⟩) h1 _, fun k cs t fr hk hc => set_far (h.2 k cs t fr hk hc) (by rcases hk with h | h <;> omega) u⟩
theorem kpt_refl (n₀ Bt d : Nat) (W : World) : KpT n₀ Bt d W W := ⟨Below.refl _ _, fun _ _ _ _ _ h => h⟩
theorem kpt_drew {n₀ Bt d : Nat} {W W' : World} (h : KpT n₀ Bt d W W') : KpT n₀ Bt d W W'.drew := ⟨h.1.drew, h.2⟩
theorem pre_snoc {ts pre : List Tok} {x : Tok} (hl : pre.length < ts.length) (hne : tEq x ts[pre.length] = false) : ¬ (pre ++ [x]) <+: ts := by
  rintro ⟨r, hr⟩
  have : ts[pre.length] = x := by simp only [← hr]; simp
  rw [this, tEq_refl] at hne; cases hne

set_option maxRecDepth 100000 in
set_option maxHeartbeats 4000000 in
theorem tells5_any (gf : Nat) (lb : Array Value) (Bt : Nat) (ts : List Tok) (hm : ts.length ≤ 4096) (ao : Option Addr) (cap : Nat) (stop : Int) (w : World) (hBt : Bt < w.heap.size) (hT : Tv w w.heap.size (.slice ao ts.length cap) ts)
    (eg : ∀ args w, (callFunc gf args).run Tryd.prog w = .ok (.enter gf args) w)
    (hseq : ∀ W, Below w.heap.size w W → SeqStopsV Fence.wide 5 Tryd.prog gf lb (fun x : Tok => #[tokV x]) (fun x _ => x ∈ ts) (KpT w.heap.size Bt) (fun ys => ys = ts) (fun pre => pre <+: ts) ts.length W) :
    Calls Tryd.prog 12 #[.func (.func gf) #[] lb, .slice ao ts.length cap, .int .i64 stop] w fun e w' => e = .returned (.bool true) ∧ Below w.heap.size w w' := by
  refine (callsIn_wide (n := 6)).1 ?_
  refine callsIn_of_wp_marks Tryd.func12 rfl trivial ?_ rfl
  simp only [Tryd.ntmps12, List.size_toArray, List.length_cons, List.length_nil, Nat.reduceAdd, Nat.reduceSub, Array.replicate_succ, Array.replicate_zero, List.push_toArray, List.append_toArray, List.nil_append, List.cons_append]
  gi_wp2
  have h0 : Tn w w.heap.size (.slice ao ts.length cap) stop 0 ((((w.alloc (.cells #[.slice ao ts.length cap] 22)).alloc (.cells #[.int .i64 stop] 3)).alloc (.cells #[.bool false] 4)).alloc (.cells #[.int .i64 0] 3)) := by
    have a1 := heap_alloc_new (w.alloc (.cells #[.slice ao ts.length cap] 22)) (.cells #[.int .i64 stop] 3)
    have a2 := heap_alloc_new ((w.alloc (.cells #[.slice ao ts.length cap] 22)).alloc (.cells #[.int .i64 stop] 3)) (.cells #[.bool false] 4)
    have a3 := heap_alloc_new (((w.alloc (.cells #[.slice ao ts.length cap] 22)).alloc (.cells #[.int .i64 stop] 3)).alloc (.cells #[.bool false] 4)) (.cells #[.int .i64 0] 3)
    rw [World.size_alloc] at a1
    rw [World.size_alloc, World.size_alloc] at a2
    rw [World.size_alloc, World.size_alloc, World.size_alloc] at a3
    exact ⟨heap_alloc_keeps (heap_alloc_keeps (heap_alloc_keeps (heap_alloc_new _ _) _) _) _, heap_alloc_keeps (heap_alloc_keeps a1 _) _, heap_alloc_keeps a2 _, a3,
      ((((Below.refl _ _).alloc (Nat.le_refl _) _).alloc (by simp) _).alloc (by simp; omega) _).alloc (by simp; omega) _⟩
  have hsz : ((((w.alloc (.cells #[.slice ao ts.length cap] 22)).alloc (.cells #[.int .i64 stop] 3)).alloc (.cells #[.bool false] 4)).alloc (.cells #[.int .i64 0] 3)).heap.size = w.heap.size + 4 := by simp
  generalize (((w.alloc (.cells #[.slice ao ts.length cap] 22)).alloc (.cells #[.int .i64 stop] 3)).alloc (.cells #[.bool false] 4)).alloc (.cells #[.int .i64 0] 3) = W0 at h0 hsz ⊢
  have hsq := hseq W0 h0.below
  clear hseq
  generalize hP : w.heap.size = P at h0 hsz hsq hBt hT ⊢
  have HT := Lib.hid hT
  clear hT
  refine wpIn_rangeFunc_V rfl (by omega) (gf := gf) (lb := lb) rfl trivial eg hsq KpT.trans (KpT.put (by omega)) (Below.refl _ _) (fun _ => rfl)
    (fun pre W => Tn w P (.slice ao ts.length cap) stop pre.length W) (fun c pre W => c = .ret ∧ Tx w P ts pre W) (Tn.own w (by omega) hP _ _) (fun c => OwnFrom.and (ownFrom_pure _ _) (Tx.own w (by omega) hP ts)) h0
    (fun x d a' W => x ∈ ts ∧ P + 4 ≤ d ∧ ∃ Bx, d ≤ Bx ∧ W.heap[Bx]? = some (.cells #[.int .i64 x.kind, .string x.text, .int .i64 x.vk, .int .i64 x.vn, .string x.vs, .int .i64 x.pl] 42 (0, 0)) ∧
      a' = { tmps := #[.func (.func gf) #[] lb, .slice ao ts.length cap, .int .i64 stop, undef, .pointer (some ⟨P, 0, none⟩), .pointer (some ⟨P + 1, 0, none⟩), .pointer (some ⟨P + 1 + 1, 0, none⟩), .pointer (some ⟨P + 1 + 1 + 1, 0, none⟩), .pointer (some ⟨Bx, 0, none⟩), .func (.func gf) #[] lb, tokV x, undef, undef, undef, undef, undef, undef, undef, undef, undef, undef, undef, undef, undef, undef, undef, undef, undef, undef, undef, undef, undef], defers := [] })
    ?ownA ?assign ?body ?done ?stop
  case ownA =>
    rintro x d a' _ A B row ⟨hm2, hd, Bx, h3, h4, h5⟩ hg hr
    exact ⟨hm2, hd, Bx, h3, own_blk hg hr h4, h5⟩
  case assign =>
    rintro l pre x V W K hV hbV hW hm2 hK
    have hPW : P ≤ W.heap.size := by have := hW.size; omega
    have hal := (Tn.own w (B := W0.heap.size) (by omega) hP (.slice ao ts.length cap) stop).alloc (.cells #[.int .i64 x.kind, .string x.text, .int .i64 x.vk, .int .i64 x.vn, .string x.vs, .int .i64 x.pl] 42) hW
    have HKK := Lib.hid (fun a' h => hK a' (W.alloc (.cells #[.int .i64 x.kind, .string x.text, .int .i64 x.vk, .int .i64 x.vn, .string x.vs, .int .i64 x.pl] 42)) ((KeepsOthers.alloc _ _).from _) (KpT.alloc hPW _) hal ⟨hm2, hV.size, W.heap.size, hbV.size, heap_alloc_new _ _, h⟩)
    clear hal hK hV hW hbV hm2 hPW hsq h0 hBt eg hm hsz hP
    unfold tokV at HKK ⊢
    gi_wp2
    exact HKK.out _ rfl
  case body =>
    rintro l pre x d a' W hl hr hS ⟨hm2, hd, Bx, hBx, hbx, rfl⟩ hln
    have HS := Lib.hid hS
    have hmo : Tryd.prog.follows .mixedOrders = true := by kernel_rfl
    obtain ⟨c0, c1, c2, c3, c4, c5⟩ := cell_of_six hbx
    obtain ⟨v0, _⟩ := cell_one2 hS.bv
    obtain ⟨s0, _⟩ := cell_one2 hS.bs
    obtain ⟨r0, rf⟩ := cell_one2 hS.br
    obtain ⟨n0, nf⟩ := cell_one2 hS.bn
    obtain ⟨g, a, hao, hgB, d0, d1, d2, d3, d4, d5⟩ := (HT.out.later hS.below (Nat.le_refl _)).cells hln
    subst hao
    have hge2 : ¬ (ts.length ≤ pre.length) := by omega
    have hge : decide (ts.length ≤ pre.length) = false := by simp; omega
    have he := fun w => tNe_run x ts[pre.length] w
    have hgd := fun (op : BinOp) (a b : Operand) (w : World) => tGuard op a b x ts[pre.length] w
    have HNE := Lib.hid (fun h => pre_snoc (x := x) hln h)
    generalize ts[pre.length] = y at d0 d1 d2 d3 d4 d5 he hgd HNE
    have hsb := hS.bs; have hrb := hS.br; have hnb := hS.bn; have hvb := hS.bv; have hbl := hS.below
    have HKF := Lib.hid (KeepsFrom.refl W0.heap.size W)
    have HKP := Lib.hid (kpt_refl P Bt d W)
    have hBtP : Bt < P := hBt
    have hd3 : P + 3 < d := by omega
    have hd2 : P + 2 < d := by omega
    have hn1 := wr_one5 (Nat.le_trans hln hm) (by decide)
    have hlen1 : (pre ++ [x]).length = pre.length + 1 := by simp
    have HG := Lib.hid (show Tn w P (.slice (some ⟨g, a, none⟩) ts.length cap) stop (pre ++ [x]).length (W.drew.setCell ⟨P + 3, 0, none⟩ (.int .i64 ((pre.length : Int) + 1))) from
      ⟨set_far hvb (by omega) _, set_far hsb (by omega) _, set_far hrb (by omega) _, by rw [hlen1]; exact set_one (u := .int .i64 ((pre.length : Int) + 1)) hnb, hbl.drew.setCell (p := ⟨P + 3, 0, none⟩) (Nat.le_add_right _ _) _⟩)
    have HGK := Lib.hid (show KeepsFrom W0.heap.size W (W.drew.setCell ⟨P + 3, 0, none⟩ (.int .i64 ((pre.length : Int) + 1))) from keeps_set (W' := W.drew) ⟨HKF.out.size, HKF.out.same⟩ _ hnb)
    have HGP := Lib.hid (show KpT P Bt d W (W.drew.setCell ⟨P + 3, 0, none⟩ (.int .i64 ((pre.length : Int) + 1))) from kpt_set (kpt_drew HKP.out) _ (Nat.le_add_right _ _) hBtP hd3)
    have HXT := Lib.hid (show Tx w P ts (pre ++ [x]) ((W.drew.setCell ⟨P + 3, 0, none⟩ (.int .i64 ((pre.length : Int) + 1))).setCell ⟨P + 2, 0, none⟩ (.bool true)) from
      ⟨true, set_one (set_far hrb (by omega) _) _, fun _ => rfl, (hbl.drew.setCell (p := ⟨P + 3, 0, none⟩) (Nat.le_add_right _ _) _).setCell (p := ⟨P + 2, 0, none⟩) (Nat.le_add_right _ _) _⟩)
    have HXK := Lib.hid (show KeepsFrom W0.heap.size W ((W.drew.setCell ⟨P + 3, 0, none⟩ (.int .i64 ((pre.length : Int) + 1))).setCell ⟨P + 2, 0, none⟩ (.bool true)) from keeps_set HGK.out _ hrb)
    have HXF := Lib.hid (fun (hne : tEq x y = false) => show Tx w P ts (pre ++ [x]) (W.drew.setCell ⟨P + 2, 0, none⟩ (.bool false)) from
      ⟨false, set_one hrb _, fun h => absurd h (HNE.out hne), hbl.drew.setCell (p := ⟨P + 2, 0, none⟩) (Nat.le_add_right _ _) _⟩)
    have HXFK := Lib.hid (show KeepsFrom W0.heap.size W (W.drew.setCell ⟨P + 2, 0, none⟩ (.bool false)) from keeps_set (W' := W.drew) ⟨HKF.out.size, HKF.out.same⟩ _ hrb)
    clear hS hbx hm2 hd hBx hr hsb hrb hnb hvb hbl hBtP hd3 hd2 hlen1 hsq h0 eg hsz hln hBt hm
    unfold tokV
    have HXF2 := Lib.hid (fun (h : (!tEq x y) = true) => HXF.out (by simpa using h))
    have HALL := Lib.hid (And.intro HXF2.out (And.intro HXFK.out (And.intro HXK.out (And.intro HXT.out (And.intro HGK.out (And.intro HGP.out HG.out))))))
    generalize (!tEq x y) = bb at he HXF2 HALL
    clear HXF HXF2 HXFK HXK HXT HGK HGP HG HKF HKP HNE HS HT
    gi_wp2
    gi_region_with_o fail
    all_goals
      obtain ⟨a1, a2, a3, a4, a5, a6, a7⟩ := HALL.out
      have A1 := Lib.hid a1
      have A2 := Lib.hid (And.intro a2 (And.intro a3 (And.intro a4 (And.intro a5 (And.intro a6 a7)))))
      clear a1 a2 a3 a4 a5 a6 a7 HALL he hgd d0 d1 d2 d3 d4 d5 c0 c1 c2 c3 c4 c5 hge hge2 hmo
      cases bb with
      | true =>
        have A3 := Lib.hid (A1.out rfl)
        gi_wp2
        exact ⟨A2.out.1, rfl, A3.out⟩
      | false =>
        clear A1
        by_cases hst : (pre.length : Int) + 1 = stop
        · have hbe : ((pre.length : Int) + 1 == stop) = true := by simpa using hst
          clear hst
          gi_wp2
          exact ⟨A2.out.2.1, rfl, A2.out.2.2.1⟩
        · have hbe : ((pre.length : Int) + 1 == stop) = false := by simpa using hst
          clear hst
          gi_wp2
          exact ⟨A2.out.2.2.2.1, A2.out.2.2.2.2.1, A2.out.2.2.2.2.2⟩
  case done =>
    rintro D ys W hD rfl hS hK
    obtain ⟨v0, _⟩ := cell_one2 hS.bv
    obtain ⟨r0, rf⟩ := cell_one2 hS.br
    obtain ⟨n0, nf⟩ := cell_one2 hS.bn
    have hD' : P + 4 ≤ D := by omega
    have hKD : (W.setCell ⟨P + 2, 0, none⟩ (.bool true)).heap[D]? = some (.deferred (some [])) := set_far hK (by omega) _
    have hrb := set_far (q := D) (k := P + 2) (set_one hS.br (.bool true)) (by omega) (.bool true)
    have HBW := Lib.hid (hS.below.setCell (p := ⟨P + 2, 0, none⟩) (Nat.le_add_right _ _) (.bool true))
    have HKD := Lib.hid hKD
    have HRB := Lib.hid (set_one hS.br (.bool true))
    have HD := Lib.hid hD'
    clear hS hK hD hD' hKD hrb hsq h0 eg hm hBt hsz
    gi_wp2
    refine ⟨by simp, .inl ⟨_, _, rfl, run_takeDeferred HKD.out, ?_⟩⟩
    have hres := (World.putObj_heap_other (w := W.setCell ⟨P + 2, 0, none⟩ (.bool true)) (o := .deferred none) (show P + 2 ≠ D by have := HD.out; omega)).trans HRB.out
    have hrc := (cell_one2 hres).1
    exact ⟨_, by simp [results, Tryd.results12, go_sem, hrc], rfl, by rw [hP]; exact HBW.out.trans (belowK_b (w := w) (Nat.le_of_eq hP.symm) _ D _ _ (by rw [hP]; have := HD.out; omega) HKD.out rfl rfl)⟩
  case stop =>
    rintro D c pre W hD hp ⟨rfl, b, hb, hbt, hbl⟩ hK
    obtain rfl := hbt hp
    have HB := Lib.hid hb
    have HBL := Lib.hid hbl
    have HKD := Lib.hid hK
    have HD := Lib.hid (show P + 4 ≤ D by omega)
    clear hb hbl hK hp hbt hD hsq h0 eg hm hBt hsz
    gi_wp2
    refine ⟨by simp, .inl ⟨_, _, rfl, run_takeDeferred HKD.out, ?_⟩⟩
    have hres := (World.putObj_heap_other (w := W) (o := .deferred none) (show P + 2 ≠ D by have := HD.out; omega)).trans HB.out
    have hrc := (cell_one2 hres).1
    exact ⟨_, by simp [results, Tryd.results12, go_sem, hrc], rfl, by rw [hP]; exact HBL.out.trans (belowK_b (w := w) (Nat.le_of_eq hP.symm) _ D _ _ (by rw [hP]; have := HD.out; omega) HKD.out rfl rfl)⟩
end Go.Proofs.YtdmdakkibgjffaaDoor
