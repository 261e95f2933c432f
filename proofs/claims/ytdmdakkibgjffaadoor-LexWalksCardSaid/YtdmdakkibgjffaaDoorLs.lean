/- Contract of the program's Scan. -/
import Derived.Test.YtdmdakkibgjffaaDoorLq
import Derived.Maps.AppendAt
import Derived.Lib.SmallJoins
namespace Go.Proofs.YtdmdakkibgjffaaDoor
open Go Go.RowKit Go.Shelf
attribute [local go_sem] Oper.semAt_some

theorem encT_len (x : Tok) : (encT x).length = 6 := rfl
theorem flatT_len (ts : List Tok) : (ts.flatMap encT).length = ts.length * 6 := by
  induction ts with
  | nil => rfl
  | cons a r ih => rw [List.flatMap_cons, List.length_append, ih, encT_len, List.length_cons]; omega
theorem encT_one (x : Tok) : ∀ v ∈ encT x, v.oneCell' = true := by
  intro v hv; simp only [encT, List.mem_cons, List.not_mem_nil, or_false] at hv
  rcases hv with rfl | rfl | rfl | rfl | rfl | rfl <;> rfl
/-- What Scan answers. -/
def ScanP (s : ByteArray) (ts : List Tok) (en : Nat) (w : World) (e : Ending) (w' : World) : Prop :=
  (4096 < s.size → e = .returned (.tuple #[.slice none 0 0, .int .i64 0, .int .i64 3])) ∧
  (s.size ≤ 4096 → en < s.size → e = .returned (.tuple #[.slice none 0 0, .int .i64 (en : Int), .int .i64 50])) ∧
  (s.size ≤ 4096 → en = s.size → ∃ v, e = .returned (.tuple #[v, .int .i64 0, .int .i64 0]) ∧ w'.ownsRow w.heap.size 42 6 v ts.length (ts.flatMap encT)) ∧ Below w.heap.size w w'

/-- How things stand in Scan between two rounds: the list's box at P, the end's at P + 1, the text's at P + 2. -/
structure Sn (w0 : World) (P : Nat) (pre : List Tok) (v : Value) (W : World) : Prop where
  bl : W.heap[P]? = some (.cells #[v] 22 (0, 0))
  be : W.heap[P + 1]? = some (.cells #[.int .i64 (endT 0 pre)] 3 (0, 0))
  row : W.ownsRow (P + 3) 42 6 v pre.length (pre.flatMap encT)
  below : Below P w0 W
theorem Sn.own (w0 : World) (P B : Nat) (hB : P + 3 ≤ B) (hP : w0.heap.size = P) : OwnFrom B (fun pre W => ∃ v, Sn w0 P pre v W) := fun s X Y row ⟨v, h⟩ hg hr => by
  have blk : ∀ (k : Nat) cs t fr, X.heap[k]? = some (.cells cs t fr) → Y.heap[k]? = some (.cells cs t fr) := fun k cs t fr hk => by
    refine (hg.block k (Array.getElem?_eq_some_iff.1 hk).1 (fun e => ?_)).trans hk
    obtain ⟨_, o, ho, hc⟩ := hr k e.symm
    rw [hk] at ho; cases ho; cases hc
  refine ⟨v, blk _ _ _ _ h.bl, blk _ _ _ _ h.be, h.row.kept hg ?_, ?_⟩
  · rcases h.row.2 with ⟨rfl, _⟩ | ⟨g, cap, cur, rfl, _, hgb, _⟩
    · exact .inl rfl
    · refine .inr fun e' => ?_
      obtain ⟨_, o, ho, hc⟩ := hr g (by simpa [Value.ownBlock] using e'.symm)
      rw [hgb] at ho; cases ho; cases hc
  · exact (ownFrom_below (β := Unit) (Nat.le_of_eq hP.symm) (by omega)) () X Y row h.below hg (fun r e => ⟨(hr r e).1, (hr r e).2⟩)

theorem row_base {w : World} {B B' : Nat} {e : TypeId} {size : Nat} {v : Value} {n : Nat} {xs : List Value} (h : w.ownsRow B e size v n xs) (hB : B' ≤ B) : w.ownsRow B' e size v n xs := by
  refine ⟨h.1, h.2.imp id ?_⟩
  rintro ⟨g, cap, cur, h1, h2, h3⟩
  exact ⟨g, cap, cur, h1, Nat.le_trans hB h2, h3⟩
theorem own_blk {X Y : World} {row : Option Nat} {B : Nat} (hg : X.grownBy Y row) (hr : ∀ r, row = some r → B ≤ r ∧ ∃ o : Obj, X.heap[r]? = some o ∧ o.isCells = false) {k : Nat} {cs : Array Value} {t : Nat} {fr : Nat × Nat} (hk : X.heap[k]? = some (.cells cs t fr)) : Y.heap[k]? = some (.cells cs t fr) := by
  refine (hg.block k (Array.getElem?_eq_some_iff.1 hk).1 (fun e => ?_)).trans hk
  obtain ⟨_, o, ho, hc⟩ := hr k e.symm
  rw [hk] at ho; cases ho; cases hc
theorem KpT.alloc {n₀ Bt d : Nat} {W : World} (h : n₀ ≤ W.heap.size) (o : Obj) : KpT n₀ Bt d W (W.alloc o) := ⟨(Below.refl _ _).alloc h o, fun _ _ _ _ _ hc => heap_alloc_keeps hc o⟩
theorem Sn.size {w0 : World} {P : Nat} {pre : List Tok} {v : Value} {W : World} (h : Sn w0 P pre v W) : P + 2 ≤ W.heap.size := (Array.getElem?_eq_some_iff.1 h.be).1
theorem cells6 {w : World} {q : Nat} {x : Tok} {t : Nat} (h : w.heap[q]? = some (.cells #[.int .i64 x.kind, .string x.text, .int .i64 x.vk, .int .i64 x.vn, .string x.vs, .int .i64 x.pl] t (0, 0))) :
    ∀ (j : Nat) (u : Value), (encT x)[j]? = some u → w.cell? ((⟨q, 0, none⟩ : Addr).add j) = some u := by
  intro j u hu
  have ha : (⟨q, 0, none⟩ : Addr).add j = ⟨q, j, none⟩ := by unfold Addr.add; split <;> simp_all
  have h2 : (#[.int .i64 x.kind, .string x.text, .int .i64 x.vk, .int .i64 x.vn, .string x.vs, .int .i64 x.pl] : Array Value)[j]? = some u := by rw [← hu]; simp [encT]
  rw [ha]; simp only [World.cell?, h]; exact h2
theorem infoT : (Tryd.prog.info? 42).map (fun i => (i.zero, i.size, i.bytes)) = some (some (.agg #[.int .i64 0, .string ⟨#[]⟩, .int .i64 0, .int .i64 0, .string ⟨#[]⟩, .int .i64 0]), 6, 64) := by kernel_rfl
theorem cell_one2 {w : World} {q : Nat} {c0 : Value} {t : Nat} (h : w.heap[q]? = some (.cells #[c0] t (0, 0))) : w.cell? ⟨q, 0, none⟩ = some c0 ∧ w.frozen? ⟨q, 0, none⟩ = false := by
  constructor
  · simp [World.cell?, h]
  · simp [World.frozen?, h]
theorem set_one {w : World} {q : Nat} {c0 : Value} {t : Nat} (h : w.heap[q]? = some (.cells #[c0] t (0, 0))) (u : Value) : (w.setCell ⟨q, 0, none⟩ u).heap[q]? = some (.cells #[u] t (0, 0)) := heap_setCell_same (k := 0) h u
theorem set_far {w : World} {q k : Nat} {o : Option Obj} (h : w.heap[k]? = o) (hne : k ≠ q) (u : Value) : (w.setCell ⟨q, 0, none⟩ u).heap[k]? = o := (Below.heap_setCell _ _ _ _ hne).trans h
/-- What stands behind the append: all cells but the row's own. -/
theorem Sn.cells {w0 : World} {P : Nat} {pre : List Tok} {v : Value} {W w1 : World} (_ : Sn w0 P pre v W) {tmp : Obj} (hg : (W.alloc tmp).grownBy w1 v.ownBlock) :
    ∀ (k : Nat) (o : Obj), W.heap[k]? = some o → v.ownBlock ≠ some k → w1.heap[k]? = some o := fun k o hk hne =>
  (hg.block k (by have := (Array.getElem?_eq_some_iff.1 hk).1; simp; omega) (fun e => hne e.symm)).trans (heap_alloc_keeps hk tmp)
theorem Sn.low {w0 : World} {P : Nat} {pre : List Tok} {v : Value} {W : World} (h : Sn w0 P pre v W) : ∀ g, v.ownBlock = some g → P + 3 ≤ g ∧ g < W.heap.size := h.row.lt
theorem Sn.next {w0 : World} {P : Nat} {pre : List Tok} {v v' : Value} {W w1 : World} {x : Tok} (h : Sn w0 P pre v W) (hP : w0.heap.size = P) {tmp : Obj} (hg : (W.alloc tmp).grownBy w1 v.ownBlock)
    (ho : w1.ownsRow (P + 3) 42 6 v' (pre.length + 1) (pre.flatMap encT ++ encT x)) :
    Sn w0 P (pre ++ [x]) v' ((w1.setCell ⟨P, 0, none⟩ v').setCell ⟨P + 1, 0, none⟩ (.int .i64 (x.pl + x.text.size))) ∧
    KeepsFrom (P + 3) W ((w1.setCell ⟨P, 0, none⟩ v').setCell ⟨P + 1, 0, none⟩ (.int .i64 (x.pl + x.text.size))) ∧
    (∀ d Bt, (∀ g, v.ownBlock = some g → g < d) → P + 2 ≤ d → Bt = P + 2 → KpT P Bt d W ((w1.setCell ⟨P, 0, none⟩ v').setCell ⟨P + 1, 0, none⟩ (.int .i64 (x.pl + x.text.size)))) := by
  have hPl : P ≤ W.heap.size := by rw [← hP]; have := h.below.size; exact this
  have hb1 : Below P W w1 := ((Below.refl P W).alloc hPl tmp).grown hg (by simp; omega) fun j ej => by have := (h.low j ej).1; omega
  have hb2 : Below P W ((w1.setCell ⟨P, 0, none⟩ v').setCell ⟨P + 1, 0, none⟩ (.int .i64 (x.pl + x.text.size))) := (hb1.setCell (p := ⟨P, 0, none⟩) (Nat.le_refl _) _).setCell (p := ⟨P + 1, 0, none⟩) (Nat.le_succ _) _
  have c1 := h.cells hg P _ h.bl (fun e => by have := (h.low P e).1; omega)
  have c2 := h.cells hg (P + 1) _ h.be (fun e => by have := (h.low (P + 1) e).1; omega)
  refine ⟨⟨?_, ?_, ?_, h.below.trans hb2⟩, ⟨hb2.size, fun k o hk ho2 hc => ?_⟩, fun d Bt hd hPd hBt => ⟨hb2, fun k cs t fr hk hc => ?_⟩⟩
  · exact set_far (set_one c1 v') (by omega) _
  · rw [endT_snoc]; exact set_one (set_far c2 (by omega) _) _
  · have hr := ownsRow_setCell_below (ownsRow_setCell_below ho (a := ⟨P, 0, none⟩) (by show P < P + 3; omega) v') (a := ⟨P + 1, 0, none⟩) (by show P + 1 < P + 3; omega) (.int .i64 (x.pl + x.text.size))
    rw [List.flatMap_append, List.length_append]
    simpa using hr
  · refine set_far (set_far (h.cells hg k o ho2 (fun e => ?_)) (by omega) _) (by omega) _
    rcases h.row.2 with ⟨rfl, _⟩ | ⟨g, cap, cur, rfl, _, hgb, _⟩
    · simp [Value.ownBlock] at e
    · obtain rfl : g = k := by simpa [Value.ownBlock] using e
      rw [hgb] at ho2; cases ho2; cases hc
  · refine set_far (set_far (h.cells hg k _ hc (fun e => ?_)) (by rcases hk with h1 | h1 <;> omega) _) (by rcases hk with h1 | h1 <;> omega) _
    have h1 := hd k e; have h2 := (h.low k e).1
    rcases hk with h3 | h3 <;> omega

set_option maxRecDepth 100000 in
set_option maxHeartbeats 4000000 in
theorem lScan_any (s : ByteArray) (hs : s.size ≤ 140737488355328) (ts : List Tok) (en : Nat) (hw : Wds s.data.toList (nx s.data.toList 0) ts en) (w : World) (hE : ErrV w) :
    Calls Tryd.prog 7 #[.string s] w fun e w' => ScanP s ts en w e w' := by
  by_cases hlong : 4096 < s.size
  · have hd : decide ((4096 : Int) < s.size) = true := by simp; omega
    go_enter Tryd.func7, Tryd.ntmps7
    go_wp2_with (go_at_call 21; (with_reducible refine (lIsLong_any _ _).mono ?_); rintro e w' ⟨rfl, rfl⟩; rw [hd])
    go_ret3
    exact ⟨fun _ => rfl, fun h => absurd h (by omega), fun h => absurd h (by omega), Below.refl _ _⟩
  · have hd : decide ((4096 : Int) < s.size) = false := by simp; omega
    have hWk := fun w => (lWalk_any s w).mono (R' := fun e w' => w' = w.alloc (.cells #[.string s] 9) ∧ e = .returned (.func (.func 24) #[] #[.pointer (some ⟨w.heap.size, 0, none⟩)])) (fun e w' h => ⟨h.1, h.2.2 (by omega)⟩)
    refine (callsIn_wide (n := 6)).1 ?_
    refine callsIn_of_wp_marks Tryd.func7 rfl trivial ?_ rfl
    simp only [Tryd.ntmps7, List.size_toArray, List.length_cons, List.length_nil, Nat.reduceAdd, Nat.reduceSub, Array.replicate_succ, Array.replicate_zero, List.push_toArray, List.append_toArray, List.nil_append, List.cons_append]
    gi_wp2_with (first
      | (refine ⟨trivial, ?_⟩; gi_at_call 21; refine (callsIn_wide.2 (lIsLong_any _ _)).mono ?_; rintro e1 w1 ⟨rfl, rfl⟩; rw [hd])
      | (refine ⟨trivial, ?_⟩; gi_at_call 13; refine (callsIn_wide.2 (hWk _)).mono ?_; rintro e1 w1 ⟨rfl, rfl⟩))
    have h0 : Sn w w.heap.size [] (.slice none 0 0) (((w.alloc (.cells #[.slice none 0 0] 22)).alloc (.cells #[.int .i64 0] 3)).alloc (.cells #[.string s] 9)) :=
      ⟨heap_alloc_keeps (heap_alloc_keeps (heap_alloc_new _ _) _) _, heap_alloc_keeps (by have h := heap_alloc_new (w.alloc (.cells #[.slice none 0 0] 22)) (.cells #[.int .i64 0] 3); rw [World.size_alloc] at h; exact h) _, World.ownsRow_nil _ _ _ _, (((Below.refl _ _).alloc (Nat.le_refl _) _).alloc (by simp) _).alloc (by simp; omega) _⟩
    have hBt : (((w.alloc (.cells #[.slice none 0 0] 22)).alloc (.cells #[.int .i64 0] 3)).alloc (.cells #[.string s] 9)).heap[w.heap.size + 1 + 1]? = some (.cells #[.string s] 9 (0, 0)) := by
      have h := heap_alloc_new ((w.alloc (.cells #[.slice none 0 0] 22)).alloc (.cells #[.int .i64 0] 3)) (.cells #[.string s] 9); simpa using h
    have hsz : (((w.alloc (.cells #[.slice none 0 0] 22)).alloc (.cells #[.int .i64 0] 3)).alloc (.cells #[.string s] 9)).heap.size = w.heap.size + 3 := by simp
    generalize ((w.alloc (.cells #[.slice none 0 0] 22)).alloc (.cells #[.int .i64 0] 3)).alloc (.cells #[.string s] 9) = W0 at h0 hBt hsz ⊢
    generalize hP : w.heap.size = P at h0 hBt hsz ⊢
    have hmem := hw.mem
    have hlen := hw.len
    rw [← Lib.size_eq] at hlen
    refine wpIn_rangeFunc_V rfl (by omega) (gf := 24) (lb := #[.pointer (some ⟨P + 1 + 1, 0, none⟩)]) rfl trivial (enters_of Tryd.func24 (by kernel_rfl) rfl)
      (walk_stops s hs ts en hw 5 (by omega) P (P + 1 + 1) w hE hP W0 h0.below (by omega) hBt) KpT.trans (KpT.put (by omega)) (Below.refl _ _) (fun _ => rfl)
      (fun pre W => ∃ v, Sn w P pre v W) (fun _ _ _ => False) (Sn.own w P _ (by omega) hP) (fun _ _ _ _ _ h _ _ => h) ⟨_, h0⟩
      (fun x d a' W => x ∈ ts ∧ P + 2 ≤ d ∧ (∃ v, W.heap[P]? = some (.cells #[v] 22 (0, 0)) ∧ ∀ g, v.ownBlock = some g → g < d) ∧ ∃ Bx, d ≤ Bx ∧ W.heap[Bx]? = some (.cells #[.int .i64 x.kind, .string x.text, .int .i64 x.vk, .int .i64 x.vn, .string x.vs, .int .i64 x.pl] 42 (0, 0)) ∧
        a' = { tmps := #[.string s, undef, .slice none 0 0, .int .i64 0, .int .i64 0, .pointer (some ⟨P, 0, none⟩), .pointer (some ⟨P + 1, 0, none⟩), .pointer (some ⟨Bx, 0, none⟩), undef, .string s, .bool false, .string s, .func (.func 24) #[] #[.pointer (some ⟨P + 1 + 1, 0, none⟩)], tokV x, undef, undef, undef, undef, undef, undef, undef, undef, undef, undef, undef, undef, undef, undef, undef, undef, undef, undef, undef], defers := [] })
      ?ownA ?assign ?body ?done ?stop
    case ownA =>
      rintro x d a' _ A B row ⟨hm, hd, ⟨v, h1, h2⟩, Bx, h3, h4, h5⟩ hg hr
      exact ⟨hm, hd, ⟨v, own_blk hg hr h1, h2⟩, Bx, h3, own_blk hg hr h4, h5⟩
    case assign =>
      rintro l pre x V W K ⟨v, hV⟩ hbV ⟨v2, hW⟩ hm hK
      have hPW : P ≤ W.heap.size := by have := hW.size; omega
      have hlV : P < V.heap.size := by have := hV.size; omega
      have hal := (Sn.own w P W0.heap.size (by omega) hP).alloc (.cells #[.int .i64 x.kind, .string x.text, .int .i64 x.vk, .int .i64 x.vn, .string x.vs, .int .i64 x.pl] 42) ⟨v2, hW⟩
      have HKK := Lib.hid (fun a' h => hK a' (W.alloc (.cells #[.int .i64 x.kind, .string x.text, .int .i64 x.vk, .int .i64 x.vn, .string x.vs, .int .i64 x.pl] 42)) ((KeepsOthers.alloc _ _).from _) (KpT.alloc hPW _) hal ⟨hm, hV.size, ⟨v, heap_alloc_keeps ((hbV.block P hlV).trans hV.bl) _, fun g e => (hV.low g e).2⟩, W.heap.size, hbV.size, heap_alloc_new _ _, h⟩)
      clear hal hK hV hW hbV hm hPW hlV hmem hlen hw hE h0 hBt hWk hs hd
      unfold tokV at HKK ⊢
      gi_wp2
      exact HKK.out _ rfl
    case body =>
      rintro l pre x d a' W hl hr ⟨v, hS⟩ ⟨hm, hd2, ⟨v2, hv2, hg2⟩, Bx, hBx, hbx, rfl⟩ hln
      obtain rfl : v2 = v := by rw [hS.bl] at hv2; simpa using hv2.symm
      obtain ⟨m0, m1, m2, m3, m4, m5⟩ := hmem x hm
      have hwr : wrap64 (x.pl + (x.text.size : Int)) = x.pl + (x.text.size : Int) := by rw [← Lib.size_eq] at m2; unfold wrap64; omega
      have hk1 : pre.length + 1 ≤ 4096 := by omega
      have b1 : pre.length + 1 ≤ maxLen := by unfold maxLen; omega
      have b2 : (pre.length + 1) * 64 ≤ 140737488355328 := by omega
      have b3 : P + 3 ≤ (W.alloc (.cells #[.int .i64 x.kind, .string x.text, .int .i64 x.vk, .int .i64 x.vn, .string x.vs, .int .i64 x.pl] 42)).heap.size := by rw [World.size_alloc]; have := hS.size; omega
      obtain ⟨i0, hi, hz0, hz1, hz2⟩ := info_parts infoT
      have hrow := hS.row
      have HCS := Lib.hid (fun (tmp : Obj) (w1 : World) (hg : (W.alloc tmp).grownBy w1 v2.ownBlock) => And.intro (hS.cells hg P _ hS.bl (fun e => by have := (hS.low P e).1; omega)) (And.intro (hS.cells hg (P + 1) _ hS.be (fun e => by have := (hS.low (P + 1) e).1; omega)) (hS.cells hg Bx _ hbx (fun e => by have := hg2 Bx e; omega))))
      have HG2 := Lib.hid hg2
      obtain ⟨cl, fl⟩ := cell_one2 hS.bl
      obtain ⟨c0, c1, c2, c3, c4, c5⟩ := cell_of_six hbx
      have hPB : Bx ≠ P := by omega
      have hP1 : P + 1 ≠ P := by omega
      have HN := Lib.hid (fun (tmp : Obj) (w1 : World) (v' : Value) (hg : (W.alloc tmp).grownBy w1 v2.ownBlock) (ho : w1.ownsRow (P + 3) 42 6 v' (pre.length + 1) (pre.flatMap encT ++ encT x)) => hS.next hP hg ho)
      clear hS hbx hv2 hg2 hmem hlen hw hE h0 hBt hWk hs hd m0 m1 m2 m3 m4 m5 hm hk1 hr hln
      unfold tokV
      gi_wp2_with (gi_at_builtin; refine wpListIn_append_own _ rfl _ _ 22 rfl (P + 3) 42 i0 _ 6 64 Tryd.underlying22 hi hz0 hz1 hz2 rfl (by decide) v2 pre.length (pre.flatMap encT) rfl (hrow.alloc _) ⟨W.heap.size, 0, none⟩ 1 1 (encT x) rfl (encT_len x) (cells6 (heap_alloc_new _ _)) (encT_one x) b1 b2 b3 ?_; intro v' w1 hown' hgrow _; obtain ⟨g', cap', rfl⟩ := ownsRow_succ hown'; obtain ⟨n1, n2, n3⟩ := HN.out _ _ _ hgrow hown'; obtain ⟨k1, k2, k3⟩ := HCS.out _ _ hgrow; have HN1 := Lib.hid n1; have HN2 := Lib.hid n2; have HN3 := Lib.hid (n3 d (P + 1 + 1) HG2.out hd2 rfl); clear n1 n2 n3 hgrow hown'; obtain ⟨cl1, fl1⟩ := cell_one2 k1; obtain ⟨ce1, fe1⟩ := cell_one2 k2; obtain ⟨d0, d1, d2, d3, d4, d5⟩ := cell_of_six k3; clear k1 k2 k3)
      rw [hsz]
      exact ⟨HN2.out, HN3.out, _, HN1.out⟩
    case done =>
      rintro D ys W hD rfl ⟨v, hS⟩ hK
      obtain ⟨b', hb1, hb2, hb3⟩ := hw.last 0 (Nat.zero_le _) rfl
      have he : endT 0 ys = (b' : Int) := hb1
      have hble := lBlank_any s hs (b' : Int) (by have := inW_nat (a := b') (b := 0) (N := b') (by omega) (by rw [← Lib.size_eq] at hb2; omega); simpa using this)
      rw [blk_nx hb2, hb3] at hble
      have HB := Lib.hid hble
      have hen : en ≤ s.size := by rw [Lib.size_eq]; exact hw.le.2
      have hbe := hS.be
      rw [he] at hbe
      obtain ⟨ce, fe⟩ := cell_one2 hbe
      obtain ⟨cl, fl⟩ := cell_one2 hS.bl
      have hPD : P ≠ D := by omega
      have hbD : Below P w (W.putObj D (.deferred none)) := hS.below.trans (belowK_b (w := w) (Nat.le_of_eq hP.symm) W D _ _ (by omega) hK rfl rfl)
      have hrD : (W.putObj D (.deferred none)).ownsRow P 42 6 v ys.length (ys.flatMap encT) := row_base (ownsRow_putObj hS.row _ hK rfl) (by omega)
      have HR := Lib.hid hrD
      have HBD := Lib.hid hbD
      have HK := Lib.hid hK
      clear hrD hbD hK hS hbe he hble hb1 hb2 hb3 hmem hlen hw hE h0 hBt hWk hd
      by_cases hfull : en < s.size
      · have hlt : (en : Int) < s.size := by omega
        gi_wp2_with (refine ⟨trivial, ?_⟩; gi_at_call 14; refine (callsIn_wide.2 (HB.out _)).mono ?_; rintro e1 w1 ⟨rfl, rfl⟩)
        refine ⟨by simp, .inl ⟨_, _, rfl, run_takeDeferred HK.out, ?_⟩⟩
        exact ⟨_, results_tmp3 rfl _ _ _, fun h => absurd h hlong, fun _ _ => rfl, fun _ h => absurd h (by omega), by rw [hP]; exact HBD.out⟩
      · have hlt : ¬ (en : Int) < s.size := by omega
        gi_wp2_with (refine ⟨trivial, ?_⟩; gi_at_call 14; refine (callsIn_wide.2 (HB.out _)).mono ?_; rintro e1 w1 ⟨rfl, rfl⟩)
        refine ⟨by simp, .inl ⟨_, _, rfl, run_takeDeferred HK.out, ?_⟩⟩
        exact ⟨_, results_tmp3 rfl _ _ _, fun h => absurd h hlong, fun _ h => absurd h hfull, fun _ _ => ⟨v, rfl, by rw [hP]; exact HR.out⟩, by rw [hP]; exact HBD.out⟩
    case stop => exact fun D c pre W _ _ h _ => h.elim
end Go.Proofs.YtdmdakkibgjffaaDoor
