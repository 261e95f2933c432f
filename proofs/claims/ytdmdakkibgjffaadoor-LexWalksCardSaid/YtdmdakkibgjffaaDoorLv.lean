/- Contract of the program's word. -/
import Derived.Test.YtdmdakkibgjffaaDoorLu
import Derived.Test.YtdmdakkibgjffaaDoorPa
namespace Go.Proofs.YtdmdakkibgjffaaDoor
open Go Go.RowKit

theorem cell_of_six {w : World} {q : Nat} {c0 c1 c2 c3 c4 c5 : Value} {t : Nat} (h : w.heap[q]? = some (.cells #[c0, c1, c2, c3, c4, c5] t (0, 0))) :
    w.cell? ⟨q, 0, none⟩ = some c0 ∧ w.cell? ⟨q, 1, none⟩ = some c1 ∧ w.cell? ⟨q, 2, none⟩ = some c2 ∧ w.cell? ⟨q, 3, none⟩ = some c3 ∧ w.cell? ⟨q, 4, none⟩ = some c4 ∧ w.cell? ⟨q, 5, none⟩ = some c5 := by
  refine ⟨?_, ?_, ?_, ?_, ?_, ?_⟩ <;> simp [World.cell?, h]
theorem free_of_six {w : World} {q : Nat} {c0 c1 c2 c3 c4 c5 : Value} {t : Nat} (h : w.heap[q]? = some (.cells #[c0, c1, c2, c3, c4, c5] t (0, 0))) :
    w.frozen? ⟨q, 0, none⟩ = false ∧ w.frozen? ⟨q, 1, none⟩ = false ∧ w.frozen? ⟨q, 2, none⟩ = false ∧ w.frozen? ⟨q, 3, none⟩ = false ∧ w.frozen? ⟨q, 4, none⟩ = false ∧ w.frozen? ⟨q, 5, none⟩ = false := by
  refine ⟨?_, ?_, ?_, ?_, ?_, ?_⟩ <;> simp [World.frozen?, h]
theorem Wd.at1 {p : Int} {l : List UInt8} {o : Option Tok} (h : Wd p l o) (h1 : (outl l).1 = 1) : (∀ x, o = some x → nameB (wtx l) = true ∧ x = ⟨1, baL (wtx l), 0, 0, ⟨#[]⟩, p⟩) ∧ (o = none → nameB (wtx l) = false) := by
  cases h with
  | name h hn => exact ⟨fun x e => by cases e; exact ⟨hn, rfl⟩, fun e => by cases e⟩
  | noname h hn => exact ⟨fun x e => (by cases e), fun e => hn⟩
  | sym h hn => omega
  | nosym h hn => omega
  | val h hs => omega
  | noval h hs => omega
theorem Wd.at4 {p : Int} {l : List UInt8} {o : Option Tok} (h : Wd p l o) (h1 : (outl l).1 = 4) : (∀ x, o = some x → symB (wtx l) = true ∧ x = ⟨4, baL (wtx l), 0, 0, ⟨#[]⟩, p⟩) ∧ (o = none → symB (wtx l) = false) := by
  cases h with
  | sym h hn => exact ⟨fun x e => by cases e; exact ⟨hn, rfl⟩, fun e => by cases e⟩
  | nosym h hn => exact ⟨fun x e => (by cases e), fun e => hn⟩
  | name h hn => omega
  | noname h hn => omega
  | val h hs => omega
  | noval h hs => omega
theorem Wd.at23 {p : Int} {l : List UInt8} {o : Option Tok} (h : Wd p l o) (h1 : (outl l).1 = 2 ∨ (outl l).1 = 3) : (∀ x, o = some x → ∃ k n t, Says (wtx l) k n t ∧ x = ⟨(outl l).1, baL (wtx l), k, n, t, p⟩) ∧ (o = none → ∀ (k n : Int) (t : ByteArray), ¬ Says (wtx l) k n t) := by
  cases h with
  | val h hs => exact ⟨fun x e => by cases e; exact ⟨_, _, _, hs, rfl⟩, fun e => by cases e⟩
  | noval h hs => exact ⟨fun x e => (by cases e), fun e => hs⟩
  | name h hn => omega
  | noname h hn => omega
  | sym h hn => omega
  | nosym h hn => omega
/-- What word answers. -/
def WordP (o : Option Tok) (e : Ending) : Prop := ∃ (t : Tok) (ok : Bool), e = .returned (.tuple #[tokV t, .bool ok]) ∧ (∀ x, o = some x → t = x ∧ ok = true) ∧ (o = none → ok = false)
theorem ext_wtx (s : ByteArray) (k : Nat) : s.extract k (k + (outl (s.data.toList.drop k)).2) = baL (wtx (s.data.toList.drop k)) :=
  ba_ext2 (by rw [Lib.extract_toList, Lib.toList_data, baL_list]; unfold wtx; rw [Nat.add_sub_cancel_left])
/-- What a value's reading says of a ghost. -/
theorem WordP.val {p : Int} {l : List UInt8} {o : Option Tok} (h : Wd p l o) (h1 : (outl l).1 = 2 ∨ (outl l).1 = 3) {k n : Int} {t : ByteArray} {ok : Bool} (hz : ParseZ (wtx l) (.returned (.tuple #[.agg #[.int .i64 k, .int .i64 n, .string t], .bool ok]))) :
    WordP o (.returned (.tuple #[tokV ⟨(outl l).1, baL (wtx l), k, n, t, p⟩, .bool ok])) := by
  obtain ⟨k', n', t', ok', he, hn, ha, hb, _⟩ := hz
  cases he
  obtain ⟨g1, g2⟩ := h.at23 h1
  refine ⟨_, _, rfl, fun x hx => ?_, fun hx => ?_⟩
  · obtain ⟨k2, n2, t2, hs, rfl⟩ := g1 x hx
    obtain ⟨rfl, rfl, h6, rfl⟩ := hb k2 n2 _ hs.1 hs.2.1 hs.2.2
    rw [ba_ext2 (a := t) (b := t2) (by rw [Lib.toList_data, Lib.toList_data]; exact h6)]
    exact ⟨rfl, rfl⟩
  · cases hok : ok with
    | false => rfl
    | true => exact absurd ⟨(ha hok).1, hn, (ha hok).2⟩ (g2 hx k n t)

theorem six_set {w : World} {P : Nat} {c0 c1 c2 c3 c4 c5 : Value} {t : Nat} (h : w.heap[P]? = some (.cells #[c0, c1, c2, c3, c4, c5] t (0, 0))) (v0 v1 v2 v3 v4 v5 : Value) :
    ((((((w.setCell ⟨P, 0, none⟩ v0).setCell ⟨P, 1, none⟩ v1).setCell ⟨P, 2, none⟩ v2).setCell ⟨P, 3, none⟩ v3).setCell ⟨P, 4, none⟩ v4).setCell ⟨P, 5, none⟩ v5).heap[P]? = some (.cells #[v0, v1, v2, v3, v4, v5] t (0, 0)) :=
  heap_setCell_same (k := 5) (heap_setCell_same (k := 4) (heap_setCell_same (k := 3) (heap_setCell_same (k := 2) (heap_setCell_same (k := 1) (heap_setCell_same (k := 0) h v0) v1) v2) v3) v4) v5
theorem six_below {w0 w : World} {P : Nat} (h : Below P w0 w) (v0 v1 v2 v3 v4 v5 : Value) :
    Below P w0 ((((((w.setCell ⟨P, 0, none⟩ v0).setCell ⟨P, 1, none⟩ v1).setCell ⟨P, 2, none⟩ v2).setCell ⟨P, 3, none⟩ v3).setCell ⟨P, 4, none⟩ v4).setCell ⟨P, 5, none⟩ v5) :=
  (((((h.setCell (p := ⟨P, 0, none⟩) (Nat.le_refl _) _).setCell (p := ⟨P, 1, none⟩) (Nat.le_refl _) _).setCell (p := ⟨P, 2, none⟩) (Nat.le_refl _) _).setCell (p := ⟨P, 3, none⟩) (Nat.le_refl _) _).setCell (p := ⟨P, 4, none⟩) (Nat.le_refl _) _).setCell (p := ⟨P, 5, none⟩) (Nat.le_refl _) _
/-- How things stand in word: the result's box at P, the token's at Q. -/
structure Lw (w0 : World) (P Q : Nat) (x : Tok) (w : World) : Prop where
  below : Below P w0 w
  pq : P < Q
  lt : Q < w.heap.size
  bp : w.heap[P]? = some (.cells #[.int .i64 0, .string ⟨#[]⟩, .int .i64 0, .int .i64 0, .string ⟨#[]⟩, .int .i64 0] 42 (0, 0))
  bq : w.heap[Q]? = some (.cells #[.int .i64 x.kind, .string x.text, .int .i64 x.vk, .int .i64 x.vn, .string x.vs, .int .i64 x.pl] 42 (0, 0))
theorem Lw.call {w0 : World} {P Q : Nat} {x : Tok} {w w' : World} (h : Lw w0 P Q x w) (hb : Below w.heap.size w w') : Lw w0 P Q x w' := by
  have h1 := h.pq; have h2 := h.lt
  exact ⟨h.below.trans (hb.mono (by omega)), h1, Nat.lt_of_lt_of_le h2 hb.size, (hb.block P (by omega)).trans h.bp, (hb.block Q h2).trans h.bq⟩
theorem Lw.start (w : World) {w1 : World} (hb : Below (w.alloc (.cells #[.int .i64 0, .string ⟨#[]⟩, .int .i64 0, .int .i64 0, .string ⟨#[]⟩, .int .i64 0] 42)).heap.size (w.alloc (.cells #[.int .i64 0, .string ⟨#[]⟩, .int .i64 0, .int .i64 0, .string ⟨#[]⟩, .int .i64 0] 42)) w1) (x : Tok) :
    Lw w w.heap.size w1.heap.size x (w1.alloc (.cells #[.int .i64 x.kind, .string x.text, .int .i64 x.vk, .int .i64 x.vn, .string x.vs, .int .i64 x.pl] 42)) := by
  have hb0 : Below w.heap.size w (w.alloc (.cells #[.int .i64 0, .string ⟨#[]⟩, .int .i64 0, .int .i64 0, .string ⟨#[]⟩, .int .i64 0] 42)) := (Below.refl _ _).alloc (Nat.le_refl _) _
  have hs : w.heap.size < w1.heap.size := by have := hb.size; simp at this; omega
  have hb1 := hb0.trans (hb.mono (by simp))
  have hp : w1.heap[w.heap.size]? = some (.cells #[.int .i64 0, .string ⟨#[]⟩, .int .i64 0, .int .i64 0, .string ⟨#[]⟩, .int .i64 0] 42 (0, 0)) := (hb.block w.heap.size (by simp)).trans (heap_alloc_new _ _)
  exact ⟨hb1.alloc hb1.size _, hs, by simp, (Below.heap_alloc _ _ _ hs).trans hp, heap_alloc_new _ _⟩

theorem Lw.set3 {w0 : World} {P Q : Nat} {x : Tok} {w : World} (h : Lw w0 P Q x w) (k' n' : Int) (t' : ByteArray) :
    Lw w0 P Q { x with vk := k', vn := n', vs := t' } (((w.setCell ⟨Q, 2, none⟩ (.int .i64 k')).setCell ⟨Q, 3, none⟩ (.int .i64 n')).setCell ⟨Q, 4, none⟩ (.string t')) := by
  have hq := h.pq
  have hbb : ∀ B, B ≤ Q → ∀ {a : World}, Below B a w → Below B a (((w.setCell ⟨Q, 2, none⟩ (.int .i64 k')).setCell ⟨Q, 3, none⟩ (.int .i64 n')).setCell ⟨Q, 4, none⟩ (.string t')) := fun B hB a hb =>
    ((hb.setCell (p := ⟨Q, 2, none⟩) hB _).setCell (p := ⟨Q, 3, none⟩) hB _).setCell (p := ⟨Q, 4, none⟩) hB _
  refine ⟨hbb _ (Nat.le_of_lt hq) h.below, hq, by simpa using h.lt, ?_, ?_⟩
  · rw [Below.heap_setCell _ _ _ _ (by show P ≠ Q; omega), Below.heap_setCell _ _ _ _ (by show P ≠ Q; omega), Below.heap_setCell _ _ _ _ (by show P ≠ Q; omega)]; exact h.bp
  · exact Lib.heap_setCell_same (i := 4) (Lib.heap_setCell_same (i := 3) (Lib.heap_setCell_same (i := 2) h.bq _) _) _

set_option maxRecDepth 100000 in
set_option maxHeartbeats 3200000 in
theorem lWord_any (s : ByteArray) (hs : s.size ≤ 140737488355328) (k : Nat) (hk : k < s.size) (o : Option Tok) (ho : Wd k (s.data.toList.drop k) o) (w : World) (hE : ErrV w) :
    Calls Tryd.prog 25 #[.string s, .int .i64 (k : Int)] w fun e w' => WordP o e ∧ Below w.heap.size w w' := by
  have hl : (s.extract k s.size).data.toList = s.data.toList.drop k := ext_list s k
  have hne : s.data.toList.drop k ≠ [] := drop_ne (by rw [← Lib.size_eq]; exact hk)
  have hle := outl_le _ hne
  rw [List.length_drop, ← Lib.size_eq] at hle
  have HO := Lib.hid (fun w => lOutline_any (s.extract k s.size) (by rw [ext_size]; omega) (by rw [ext_size]; omega) w)
  rw [hl] at HO
  have hX := ext_wtx s k
  have hxl : (baL (wtx (s.data.toList.drop k))).data.toList = wtx (s.data.toList.drop k) := rfl
  have hxs : (baL (wtx (s.data.toList.drop k))).size ≤ 140737488355328 := by rw [baL_size, wtx_len hne]; omega
  have HV := Lib.hid (fun hh => @WordP.val k _ o ho hh)
  have H1 := Lib.hid (ho.at1)
  have H4 := Lib.hid (ho.at4)
  have hkd := outl_kind (s.data.toList.drop k)
  generalize wtx (s.data.toList.drop k) = tl at hX hxl hxs HV H1 H4
  generalize baL tl = X at hX hxl hxs HV H1 H4
  generalize (outl (s.data.toList.drop k)).2 = n at hX hle HO
  generalize (outl (s.data.toList.drop k)).1 = kd at HO hkd HV H1 H4
  clear hl hne ho
  have hwr : wrap64 ((k : Int) + (n : Int)) = ((k + n : Nat) : Int) := by unfold wrap64; omega
  have HS := Lib.hid (fun (w1 : World) hb => Lw.start w (w1 := w1) hb ⟨kd, X, 0, 0, ⟨#[]⟩, k⟩)
  have HN := Lib.hid (fun w => vName_any X w (by unfold maxLen; omega))
  have HY := Lib.hid (fun w => lSymbol_any X w)
  have HP := Lib.hid (fun w hE => vParse_anyZ X hxs w hE)
  rw [hxl] at HN HY HP
  have hsl : ∀ w : World, (Instr.slice 9 (.string s) (some (.int .i64 (k : Int))) (some (.int .i64 ((k : Int) + (n : Int)))) none).run Tryd.prog w = .ok (.string X) w := fun w => by
    have h := run_slice_string (P := Tryd.prog) w 9 s .i64 .i64 (k : Int) ((k : Int) + (n : Int)) Tryd.underlying9 (by omega) (by omega) (by omega)
    rw [show (k : Int).toNat = k by omega, show ((k : Int) + (n : Int)).toNat = k + n by omega, hX] at h
    exact h
  have HE := Lib.hid hE
  clear hxs hxl hE
  go_enter Tryd.func25, Tryd.ntmps25
  rcases hkd with rfl | h23 | h23 | rfl
  · go_wp2_with (first
      | (go_at_call 36; (with_reducible refine (HO.out _).mono ?_); rintro e w1 ⟨rfl, hb⟩; have B1 := Lib.hid (HS.out _ hb); clear hb; obtain ⟨c0, c1, c2, c3, c4, c5⟩ := cell_of_six B1.out.bp; obtain ⟨f0, f1, f2, f3, f4, f5⟩ := free_of_six B1.out.bp; obtain ⟨d0, d1, d2, d3, d4, d5⟩ := cell_of_six B1.out.bq)
      | (go_at_call 37; (with_reducible refine (HN.out _).mono ?_); rintro e w2 ⟨rfl, rfl⟩))
    have hbe := six_below B1.out.below (.int .i64 1) (.string X) (.int .i64 0) (.int .i64 0) (.string ⟨#[]⟩) (.int .i64 (k : Int))
    have hsx := six_set B1.out.bp (.int .i64 1) (.string X) (.int .i64 0) (.int .i64 0) (.string ⟨#[]⟩) (.int .i64 (k : Int))
    obtain ⟨g1, g2⟩ := H1.out (by first | rfl | trivial)
    clear c0 c1 c2 c3 c4 c5 d0 d1 d2 d3 d4 d5 f0 f1 f2 f3 f4 f5
    obtain ⟨c0, c1, c2, c3, c4, c5⟩ := cell_of_six hsx
    refine bodyPost_ret (v := .tuple #[tokV ⟨1, X, 0, 0, ⟨#[]⟩, k⟩, .bool (nameB tl)]) (by simp [results, Tryd.results25, go_sem, c0, c1, c2, c3, c4, c5, tokV]) rfl ⟨⟨_, _, rfl, fun x hx => ?_, fun hx => g2 hx⟩, hbe⟩
    obtain ⟨h1, rfl⟩ := g1 x hx
    exact ⟨rfl, h1⟩
  · subst h23
    go_wp2_with (first
      | (go_at_call 36; (with_reducible refine (HO.out _).mono ?_); rintro e w1 ⟨rfl, hb⟩; have B1 := Lib.hid (HS.out _ hb); clear hb; obtain ⟨c0, c1, c2, c3, c4, c5⟩ := cell_of_six B1.out.bp; obtain ⟨f0, f1, f2, f3, f4, f5⟩ := free_of_six B1.out.bp; obtain ⟨d0, d1, d2, d3, d4, d5⟩ := cell_of_six B1.out.bq)
      | (go_at_call 38; (with_reducible refine (HP.out _ (HE.out.keep B1.out.below)).mono ?_); rintro e w2 ⟨hz, hb⟩; have HZ := Lib.hid hz; obtain ⟨k2, n2, t2, ok2, rfl, _⟩ := hz; have B2 := Lib.hid (B1.out.call hb); clear hb c0 c1 c2 c3 c4 c5 d0 d1 d2 d3 d4 d5 f0 f1 f2 f3 f4 f5; obtain ⟨c0, c1, c2, c3, c4, c5⟩ := cell_of_six B2.out.bp; obtain ⟨f0, f1, f2, f3, f4, f5⟩ := free_of_six B2.out.bp; obtain ⟨d0, d1, d2, d3, d4, d5⟩ := cell_of_six B2.out.bq; obtain ⟨g0, g1, g2, g3, g4, g5⟩ := free_of_six B2.out.bq; have hpq := B2.out.pq; have hpn : w.heap.size ≠ w1.heap.size := (by omega); have hqn : w1.heap.size ≠ w.heap.size := (by omega)))
    have B3 := Lib.hid (B2.out.set3 k2 n2 t2)
    have hbe := six_below B3.out.below (.int .i64 2) (.string X) (.int .i64 k2) (.int .i64 n2) (.string t2) (.int .i64 (k : Int))
    have hsx := six_set B3.out.bp (.int .i64 2) (.string X) (.int .i64 k2) (.int .i64 n2) (.string t2) (.int .i64 (k : Int))
    clear c0 c1 c2 c3 c4 c5 d0 d1 d2 d3 d4 d5 f0 f1 f2 f3 f4 f5
    obtain ⟨c0, c1, c2, c3, c4, c5⟩ := cell_of_six hsx
    exact bodyPost_ret (v := .tuple #[tokV ⟨2, X, k2, n2, t2, k⟩, .bool ok2]) (by simp [results, Tryd.results25, go_sem, c0, c1, c2, c3, c4, c5, tokV]) rfl ⟨HV.out (by simp) HZ.out, hbe⟩
  · subst h23
    go_wp2_with (first
      | (go_at_call 36; (with_reducible refine (HO.out _).mono ?_); rintro e w1 ⟨rfl, hb⟩; have B1 := Lib.hid (HS.out _ hb); clear hb; obtain ⟨c0, c1, c2, c3, c4, c5⟩ := cell_of_six B1.out.bp; obtain ⟨f0, f1, f2, f3, f4, f5⟩ := free_of_six B1.out.bp; obtain ⟨d0, d1, d2, d3, d4, d5⟩ := cell_of_six B1.out.bq)
      | (go_at_call 38; (with_reducible refine (HP.out _ (HE.out.keep B1.out.below)).mono ?_); rintro e w2 ⟨hz, hb⟩; have HZ := Lib.hid hz; obtain ⟨k2, n2, t2, ok2, rfl, _⟩ := hz; have B2 := Lib.hid (B1.out.call hb); clear hb c0 c1 c2 c3 c4 c5 d0 d1 d2 d3 d4 d5 f0 f1 f2 f3 f4 f5; obtain ⟨c0, c1, c2, c3, c4, c5⟩ := cell_of_six B2.out.bp; obtain ⟨f0, f1, f2, f3, f4, f5⟩ := free_of_six B2.out.bp; obtain ⟨d0, d1, d2, d3, d4, d5⟩ := cell_of_six B2.out.bq; obtain ⟨g0, g1, g2, g3, g4, g5⟩ := free_of_six B2.out.bq; have hpq := B2.out.pq; have hpn : w.heap.size ≠ w1.heap.size := (by omega); have hqn : w1.heap.size ≠ w.heap.size := (by omega)))
    have B3 := Lib.hid (B2.out.set3 k2 n2 t2)
    have hbe := six_below B3.out.below (.int .i64 3) (.string X) (.int .i64 k2) (.int .i64 n2) (.string t2) (.int .i64 (k : Int))
    have hsx := six_set B3.out.bp (.int .i64 3) (.string X) (.int .i64 k2) (.int .i64 n2) (.string t2) (.int .i64 (k : Int))
    clear c0 c1 c2 c3 c4 c5 d0 d1 d2 d3 d4 d5 f0 f1 f2 f3 f4 f5
    obtain ⟨c0, c1, c2, c3, c4, c5⟩ := cell_of_six hsx
    exact bodyPost_ret (v := .tuple #[tokV ⟨3, X, k2, n2, t2, k⟩, .bool ok2]) (by simp [results, Tryd.results25, go_sem, c0, c1, c2, c3, c4, c5, tokV]) rfl ⟨HV.out (by simp) HZ.out, hbe⟩
  · go_wp2_with (first
      | (go_at_call 36; (with_reducible refine (HO.out _).mono ?_); rintro e w1 ⟨rfl, hb⟩; have B1 := Lib.hid (HS.out _ hb); clear hb; obtain ⟨c0, c1, c2, c3, c4, c5⟩ := cell_of_six B1.out.bp; obtain ⟨f0, f1, f2, f3, f4, f5⟩ := free_of_six B1.out.bp; obtain ⟨d0, d1, d2, d3, d4, d5⟩ := cell_of_six B1.out.bq)
      | (go_at_call 16; (with_reducible refine (HY.out _).mono ?_); rintro e w2 ⟨rfl, rfl⟩))
    have hbe := six_below B1.out.below (.int .i64 4) (.string X) (.int .i64 0) (.int .i64 0) (.string ⟨#[]⟩) (.int .i64 (k : Int))
    have hsx := six_set B1.out.bp (.int .i64 4) (.string X) (.int .i64 0) (.int .i64 0) (.string ⟨#[]⟩) (.int .i64 (k : Int))
    obtain ⟨g1, g2⟩ := H4.out (by first | rfl | trivial)
    clear c0 c1 c2 c3 c4 c5 d0 d1 d2 d3 d4 d5 f0 f1 f2 f3 f4 f5
    obtain ⟨c0, c1, c2, c3, c4, c5⟩ := cell_of_six hsx
    refine bodyPost_ret (v := .tuple #[tokV ⟨4, X, 0, 0, ⟨#[]⟩, k⟩, .bool (symB tl)]) (by simp [results, Tryd.results25, go_sem, c0, c1, c2, c3, c4, c5, tokV]) rfl ⟨⟨_, _, rfl, fun x hx => ?_, fun hx => g2 hx⟩, hbe⟩
    obtain ⟨h1, rfl⟩ := g1 x hx
    exact ⟨rfl, h1⟩
end Go.Proofs.YtdmdakkibgjffaaDoor
