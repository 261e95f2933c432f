/- Contract of the document's one: the word at a place. -/
import Derived.Test.YtdmdakkibgjffaaDoorRdb
import Derived.Test.YtdmdakkibgjffaaDoorLv
import Derived.Test.YtdmdakkibgjffaaDoorPd
namespace Go.Proofs.YtdmdakkibgjffaaDoor
open Go Go.RowKit

theorem not_says_open {r : List UInt8} (h : clo r = none) (k n : Int) (t : ByteArray) : ¬ Says (34 :: r) k n t := by
  rintro ⟨h1, _, h3⟩
  rcases ck_ways h1 with ⟨rfl, _⟩ | ⟨rfl, _⟩
  · obtain ⟨c, r2, e, hc⟩ := itoa_head n
    have h4 : 34 :: r = Lib.itoa n := h3
    rw [e] at h4
    exact hc (List.cons.inj h4).1.symm
  · have h4 : 34 :: r = 34 :: (t.data.toList.flatMap escL ++ [34]) := h3
    rw [(List.cons.inj h4).2, clo_esc] at h
    cases h
theorem not_says_minus (k n : Int) (t : ByteArray) : ¬ Says [45] k n t := by
  rintro ⟨h1, _, h3⟩
  rcases ck_ways h1 with ⟨rfl, _⟩ | ⟨rfl, _⟩
  · have h4 : [45] = Lib.itoa n := h3
    by_cases hn : n < 0
    · rw [itoa_neg hn] at h4
      obtain ⟨c, r, e, a, b⟩ := dec_head n.natAbs
      rw [e] at h4; cases h4
    · rw [itoa_pos hn] at h4
      obtain ⟨c, r, e, a, b⟩ := dec_head n.toNat
      rw [e] at h4
      have := (List.cons.inj h4).1
      rw [← this] at a; revert a; decide
  · have h4 : [45] = 34 :: (t.data.toList.flatMap escL ++ [34]) := h3
    cases h4
theorem symB_minus (d : UInt8) : symB [45, d] = false := by unfold symB syms; simp
def zT (p : Int) : Tok := ⟨0, ⟨#[]⟩, 0, 0, ⟨#[]⟩, p⟩
theorem Lw.setKT {w0 : World} {P Q : Nat} {x : Tok} {w : World} (h : Lw w0 P Q x w) (kd : Int) (tx : ByteArray) :
    Lw w0 P Q { x with kind := kd, text := tx } ((w.setCell ⟨Q, 0, none⟩ (.int .i64 kd)).setCell ⟨Q, 1, none⟩ (.string tx)) := by
  have hq := h.pq
  refine ⟨(h.below.setCell (p := ⟨Q, 0, none⟩) (Nat.le_of_lt hq) _).setCell (p := ⟨Q, 1, none⟩) (Nat.le_of_lt hq) _, hq, by simpa using h.lt, ?_, ?_⟩
  · rw [Below.heap_setCell _ _ _ _ (by show P ≠ Q; omega), Below.heap_setCell _ _ _ _ (by show P ≠ Q; omega)]; exact h.bp
  · exact Lib.heap_setCell_same (i := 1) (Lib.heap_setCell_same (i := 0) h.bq _) _
theorem Lw.setTK {w0 : World} {P Q : Nat} {x : Tok} {w : World} (h : Lw w0 P Q x w) (kd : Int) (tx : ByteArray) :
    Lw w0 P Q { x with kind := kd, text := tx } ((w.setCell ⟨Q, 1, none⟩ (.string tx)).setCell ⟨Q, 0, none⟩ (.int .i64 kd)) := by
  have hq := h.pq
  refine ⟨(h.below.setCell (p := ⟨Q, 1, none⟩) (Nat.le_of_lt hq) _).setCell (p := ⟨Q, 0, none⟩) (Nat.le_of_lt hq) _, hq, by simpa using h.lt, ?_, ?_⟩
  · rw [Below.heap_setCell _ _ _ _ (by show P ≠ Q; omega), Below.heap_setCell _ _ _ _ (by show P ≠ Q; omega)]; exact h.bp
  · exact Lib.heap_setCell_same (i := 0) (Lib.heap_setCell_same (i := 1) h.bq _) _
theorem Lw.drew {w0 : World} {P Q : Nat} {x : Tok} {w : World} (h : Lw w0 P Q x w) : Lw w0 P Q x w.drew := h.call (Below.refl _ _).drew
theorem Lw.start2 (w : World) (p : Int) : Lw w w.heap.size (w.heap.size + 1) (zT p) ((w.alloc (.cells #[.int .i64 0, .string ⟨#[]⟩, .int .i64 0, .int .i64 0, .string ⟨#[]⟩, .int .i64 0] 42)).alloc (.cells #[.int .i64 0, .string ⟨#[]⟩, .int .i64 0, .int .i64 0, .string ⟨#[]⟩, .int .i64 p] 42)) := by
  have h := Lw.start w (w1 := w.alloc (.cells #[.int .i64 0, .string ⟨#[]⟩, .int .i64 0, .int .i64 0, .string ⟨#[]⟩, .int .i64 0] 42)) (Below.refl _ _) (zT p)
  rw [World.size_alloc] at h
  exact h

theorem drew_heap {w : World} {k : Nat} {o : Option Obj} (h : w.heap[k]? = o) : w.drew.heap[k]? = o := h
theorem one_end {a : Act} {W : World} {P : Nat} {y : Tok} {ok : Bool} {R : Ending → World → Prop} (h4 : a.tmps.getD 4 undef = .pointer (some ⟨P, 0, none⟩)) (h5 : a.tmps.getD 5 undef = .bool ok) (hd : a.defers = [])
    (hb : W.heap[P]? = some (.cells #[.int .i64 y.kind, .string y.text, .int .i64 y.vk, .int .i64 y.vn, .string y.vs, .int .i64 y.pl] 42 (0, 0))) (hR : R (.returned (.tuple #[tokV y, .bool ok])) W) : bodyPost Tryd.prog Tryd.f22 R Exit.ret a W := by
  obtain ⟨c0, c1, c2, c3, c4, c5⟩ := cell_of_six hb
  obtain ⟨T, d⟩ := a
  obtain rfl : d = [] := hd
  exact bodyPost_ret (v := .tuple #[tokV y, .bool ok]) (by
    simp at h4 h5
    simp [results, Tryd.results22, go_sem, h4, h5, c0, c1, c2, c3, c4, c5, tokV]) rfl hR
set_option maxRecDepth 100000 in
set_option maxHeartbeats 3200000 in
theorem r5one_name (s : ByteArray) (hs : s.size ≤ 140737488355328) (k : Nat) (hk : k < s.size) (o : Option Tok) (ho : Wd k (s.data.toList.drop k) o) (hlet : letB (s[k]'hk) = true) (w : World) :
    Calls Tryd.prog 22 #[.string s, .int .i64 (k : Int)] w fun e w' => WordP o e ∧ Below w.heap.size w w' := by
  have hl := list_at s k hk
  have hX := ext_wtx s k
  have hne : s.data.toList.drop k ≠ [] := drop_ne (by rw [← Lib.size_eq]; exact hk)
  have hle := outl_le _ hne
  rw [List.length_drop, ← Lib.size_eq] at hle
  have hxl : (baL (wtx (s.data.toList.drop k))).data.toList = wtx (s.data.toList.drop k) := rfl
  have hxs : (baL (wtx (s.data.toList.drop k))).size ≤ 140737488355328 := by rw [baL_size, wtx_len hne]; omega
  have HL := Lib.hid (fun w => r5letter_any (s[k]'hk) w)
  have e : ∀ d : UInt8, (((s[k]'hk).toNat : Int) == (d.toNat : Int)) = ((s[k]'hk) == d) := fun d => by
    rw [Bool.eq_iff_iff]; simp only [beq_iff_eq]
    exact ⟨fun h => UInt8.toNat_inj.1 (by omega), fun h => by rw [h]⟩
  have e45 := e 45; have e34 := e 34
  simp only [show ((45 : UInt8).toNat : Int) = 45 from rfl, show ((34 : UInt8).toNat : Int) = 34 from rfl] at e45 e34
  clear e
  have hou : outl (s.data.toList.drop k) = (1, runN ldB (s.data.toList.drop k)) := by
    have h2 : runN ldB (s.data.toList.drop k) = 1 + runN ldB (s.data.toList.drop (k + 1)) := by
      rw [hl, runN_yes (by unfold ldB; rw [hlet]; rfl)]
    rw [h2]
    conv => lhs; rw [hl]
    rw [outl_cons, if_pos hlet]
  have HR := Lib.hid (fun w => r5run_any s hs k (Nat.le_of_lt hk) true w)
  rw [rdB_t] at HR
  have HPP := Lib.hid (show WordP o (.returned (.tuple #[tokV ⟨1, baL (wtx (s.data.toList.drop k)), 0, 0, ⟨#[]⟩, k⟩, .bool (nameB (wtx (s.data.toList.drop k)))])) from by
    obtain ⟨g1, g2⟩ := ho.at1 (by rw [hou])
    refine ⟨_, _, rfl, fun x hx => ?_, fun hx => g2 hx⟩
    obtain ⟨h1, rfl⟩ := g1 x hx
    exact ⟨rfl, h1⟩)
  rw [hou] at hX hle
  have HN := Lib.hid (fun w => r3Name_any (baL (wtx (s.data.toList.drop k))) w (by unfold maxLen; omega))
  rw [hxl] at HN
  generalize nameB (wtx (s.data.toList.drop k)) = ok at HN HPP
  generalize baL (wtx (s.data.toList.drop k)) = X at hX hxs HN HPP
  generalize runN ldB (s.data.toList.drop k) = n at hX hle HR
  rw [hlet] at HL
  have hle' : n ≤ s.size - k := hle
  have hsl : ∀ w : World, (Instr.slice 9 (.string s) (some (.int .i64 (k : Int))) (some (.int .i64 ((k : Int) + (n : Int)))) none).run Tryd.prog w = .ok (.string X) w := fun w => by
    have h := run_slice_string (P := Tryd.prog) w 9 s .i64 .i64 (k : Int) ((k : Int) + (n : Int)) Tryd.underlying9 (by omega) (by omega) (by omega)
    rw [show (k : Int).toNat = k by omega, show ((k : Int) + (n : Int)).toNat = k + n by omega] at h
    rw [← hX]; exact h
  have hcast : ((k + n : Nat) : Int) = (k : Int) + (n : Int) := by omega
  rw [hcast] at HR
  clear hl hou hne hxl hxs hlet ho e45 e34 hX hle hcast
  have B0 := Lib.hid (Lw.start2 w (k : Int))
  have hpn : w.heap.size ≠ w.heap.size + 1 := by omega
  have hqn : w.heap.size + 1 ≠ w.heap.size := by omega
  have hWW : ∃ W0, W0 = (w.alloc (.cells #[.int .i64 0, .string ⟨#[]⟩, .int .i64 0, .int .i64 0, .string ⟨#[]⟩, .int .i64 0] 42)).alloc (.cells #[.int .i64 0, .string ⟨#[]⟩, .int .i64 0, .int .i64 0, .string ⟨#[]⟩, .int .i64 (k : Int)] 42) := ⟨_, rfl⟩
  go_enter Tryd.func22, Tryd.ntmps22
  go_wp2_with (go_at_call 30; (with_reducible refine (HL.out _).mono ?_); rintro e w' ⟨rfl, rfl⟩)
  obtain ⟨p0, p1, p2, p3, p4, p5⟩ := cell_of_six B0.out.bp
  obtain ⟨f0, f1, f2, f3, f4, f5⟩ := free_of_six B0.out.bp
  obtain ⟨q0, q1, q2, q3, q4, q5⟩ := cell_of_six B0.out.bq
  obtain ⟨g0, g1, g2, g3, g4, g5⟩ := free_of_six B0.out.bq
  generalize (w.alloc (.cells #[.int .i64 0, .string ⟨#[]⟩, .int .i64 0, .int .i64 0, .string ⟨#[]⟩, .int .i64 0] 42)).alloc (.cells #[.int .i64 0, .string ⟨#[]⟩, .int .i64 0, .int .i64 0, .string ⟨#[]⟩, .int .i64 (k : Int)] 42) = W0 at B0 p0 p1 p2 p3 p4 p5 f0 f1 f2 f3 f4 f5 q0 q1 q2 q3 q4 q5 g0 g1 g2 g3 g4 g5 ⊢
  go_region_law (first | (go_simp; go_at_call 31; (with_reducible refine (HR.out _).mono ?_); rintro e w2 ⟨rfl, rfl⟩))
  have B1 := Lib.hid ((B0.out.setKT 1 X).drew)
  clear p0 p1 p2 p3 p4 p5 f0 f1 f2 f3 f4 f5 q0 q1 q2 q3 q4 q5 g0 g1 g2 g3 g4 g5
  generalize ((W0.setCell ⟨w.heap.size + 1, 0, none⟩ (.int .i64 1)).setCell ⟨w.heap.size + 1, 1, none⟩ (.string X)).drew = W1 at B1 ⊢
  obtain ⟨p0, p1, p2, p3, p4, p5⟩ := cell_of_six B1.out.bp
  obtain ⟨f0, f1, f2, f3, f4, f5⟩ := free_of_six B1.out.bp
  obtain ⟨q0, q1, q2, q3, q4, q5⟩ := cell_of_six B1.out.bq
  obtain ⟨g0, g1, g2, g3, g4, g5⟩ := free_of_six B1.out.bq
  simp only [zT] at q0 q1 q2 q3 q4 q5
  go_wp2_with fail
  go_region_law (first | (go_simp; go_at_call 32; (with_reducible refine (HN.out _).mono ?_); rintro e w2 ⟨rfl, rfl⟩))
  all_goals go_wp2
  all_goals
    have hbe := six_below B1.out.below (.int .i64 1) (.string X) (.int .i64 0) (.int .i64 0) (.string ⟨#[]⟩) (.int .i64 (k : Int))
    have hsx := six_set B1.out.bp (.int .i64 1) (.string X) (.int .i64 0) (.int .i64 0) (.string ⟨#[]⟩) (.int .i64 (k : Int))
    refine one_end (P := w.heap.size) (y := ⟨1, X, 0, 0, ⟨#[]⟩, k⟩) (ok := ok) rfl rfl rfl ?_ ?_
    · first | with_reducible exact drew_heap hsx | with_reducible exact hsx
    · exact ⟨HPP.out, by first | with_reducible exact hbe.drew | with_reducible exact hbe⟩
set_option maxRecDepth 100000 in
set_option maxHeartbeats 3200000 in
theorem r5one_dig (s : ByteArray) (hs : s.size ≤ 140737488355328) (k : Nat) (hk : k < s.size) (o : Option Tok) (ho : Wd k (s.data.toList.drop k) o) (hlet : letB (s[k]'hk) = false) (hdig : digB (s[k]'hk) = true) (h4 : 4 * s.size + 2 ≤ 140737488355328) (w : World) :
    Calls Tryd.prog 22 #[.string s, .int .i64 (k : Int)] w fun e w' => WordP o e ∧ Below w.heap.size w w' := by
  have hl := list_at s k hk
  have hX := ext_wtx s k
  have hne : s.data.toList.drop k ≠ [] := drop_ne (by rw [← Lib.size_eq]; exact hk)
  have hle := outl_le _ hne
  rw [List.length_drop, ← Lib.size_eq] at hle
  have hxl : (baL (wtx (s.data.toList.drop k))).data.toList = wtx (s.data.toList.drop k) := rfl
  have hxs : (baL (wtx (s.data.toList.drop k))).size ≤ 140737488355328 := by rw [baL_size, wtx_len hne]; omega
  have HL := Lib.hid (fun w => r5letter_any (s[k]'hk) w)
  have e : ∀ d : UInt8, (((s[k]'hk).toNat : Int) == (d.toNat : Int)) = ((s[k]'hk) == d) := fun d => by
    rw [Bool.eq_iff_iff]; simp only [beq_iff_eq]
    exact ⟨fun h => UInt8.toNat_inj.1 (by omega), fun h => by rw [h]⟩
  have e45 := e 45; have e34 := e 34
  simp only [show ((45 : UInt8).toNat : Int) = 45 from rfl, show ((34 : UInt8).toNat : Int) = 34 from rfl] at e45 e34
  clear e
  have hx4 : 4 * (baL (wtx (s.data.toList.drop k))).size + 2 ≤ 140737488355328 := by rw [baL_size, wtx_len hne]; omega
  have hou : outl (s.data.toList.drop k) = (2, 1 + runN digB (s.data.toList.drop (k + 1))) := by
    conv => lhs; rw [hl]
    rw [outl_cons, if_neg (by rw [hlet]; simp), if_pos (.inr hdig)]
  have HR := Lib.hid (fun w => r5run_any s hs (k + 1) hk false w)
  rw [rdB_f] at HR
  have HPP := Lib.hid (fun (k2 n2 : Int) (t2 : ByteArray) (ok2 : Bool) (hz : ParseZ (wtx (s.data.toList.drop k)) (.returned (.tuple #[.agg #[.int .i64 k2, .int .i64 n2, .string t2], .bool ok2]))) => show WordP o (.returned (.tuple #[tokV ⟨2, baL (wtx (s.data.toList.drop k)), k2, n2, t2, k⟩, .bool ok2])) from by
    have h := WordP.val ho (.inl (by rw [hou])) hz
    rw [hou] at h
    exact h)
  rw [hou] at hX hle
  have HP := Lib.hid (fun w => r3Parse_any (baL (wtx (s.data.toList.drop k))) hx4 w)
  rw [hxl] at HP
  generalize wtx (s.data.toList.drop k) = tl at hX hxl hxs hx4 HPP HP
  generalize baL tl = X at hX hxl hxs hx4 HP HPP
  have hcast : ((k + 1 + runN digB (s.data.toList.drop (k + 1)) : Nat) : Int) = (k : Int) + ((1 + runN digB (s.data.toList.drop (k + 1)) : Nat) : Int) := by omega
  rw [hcast] at HR
  generalize 1 + runN digB (s.data.toList.drop (k + 1)) = n at hX hle HR
  rw [hlet] at HL
  have hle' : n ≤ s.size - k := hle
  have hsl : ∀ w : World, (Instr.slice 9 (.string s) (some (.int .i64 (k : Int))) (some (.int .i64 ((k : Int) + (n : Int)))) none).run Tryd.prog w = .ok (.string X) w := fun w => by
    have h := run_slice_string (P := Tryd.prog) w 9 s .i64 .i64 (k : Int) ((k : Int) + (n : Int)) Tryd.underlying9 (by omega) (by omega) (by omega)
    rw [show (k : Int).toNat = k by omega, show ((k : Int) + (n : Int)).toNat = k + n by omega] at h
    rw [← hX]; exact h
  have HD := Lib.hid (fun w => r5digit_any (s[k]'hk) w)
  rw [hdig] at HD
  have hne45 : ((s[k]'hk) == 45) = false := by
    cases h : (s[k]'hk) == 45 with
    | false => rfl
    | true => rw [show (s[k]'hk) = 45 by simpa using h] at hdig; exact absurd hdig (by decide)
  rw [hne45] at e45
  clear hne45
  have hc1 : ((k + 1 : Nat) : Int) = (k : Int) + 1 := by omega
  rw [hc1] at HR
  have hwk : IntKind.wrap .i64 ((k : Int) + 1) = (k : Int) + 1 := by rw [IntKind.wrap_i64]; omega
  clear hc1
  clear hl hou hne hxl hxs hx4 hlet ho hX hle hcast hdig e34
  have B0 := Lib.hid (Lw.start2 w (k : Int))
  have hpn : w.heap.size ≠ w.heap.size + 1 := by omega
  have hqn : w.heap.size + 1 ≠ w.heap.size := by omega
  have hWW : ∃ W0, W0 = (w.alloc (.cells #[.int .i64 0, .string ⟨#[]⟩, .int .i64 0, .int .i64 0, .string ⟨#[]⟩, .int .i64 0] 42)).alloc (.cells #[.int .i64 0, .string ⟨#[]⟩, .int .i64 0, .int .i64 0, .string ⟨#[]⟩, .int .i64 (k : Int)] 42) := ⟨_, rfl⟩
  go_enter Tryd.func22, Tryd.ntmps22
  go_wp2_with (first | (go_at_call 30; (with_reducible refine (HL.out _).mono ?_); rintro e w' ⟨rfl, rfl⟩) | (go_at_call 33; (with_reducible refine (HD.out _).mono ?_); rintro e w' ⟨rfl, rfl⟩))
  obtain ⟨p0, p1, p2, p3, p4, p5⟩ := cell_of_six B0.out.bp
  obtain ⟨f0, f1, f2, f3, f4, f5⟩ := free_of_six B0.out.bp
  obtain ⟨q0, q1, q2, q3, q4, q5⟩ := cell_of_six B0.out.bq
  obtain ⟨g0, g1, g2, g3, g4, g5⟩ := free_of_six B0.out.bq
  generalize (w.alloc (.cells #[.int .i64 0, .string ⟨#[]⟩, .int .i64 0, .int .i64 0, .string ⟨#[]⟩, .int .i64 0] 42)).alloc (.cells #[.int .i64 0, .string ⟨#[]⟩, .int .i64 0, .int .i64 0, .string ⟨#[]⟩, .int .i64 (k : Int)] 42) = W0 at B0 p0 p1 p2 p3 p4 p5 f0 f1 f2 f3 f4 f5 q0 q1 q2 q3 q4 q5 g0 g1 g2 g3 g4 g5 ⊢
  go_region_law (first | (go_simp; go_at_call 31; (with_reducible refine (HR.out _).mono ?_); rintro e w2 ⟨rfl, rfl⟩))
  have B1 := Lib.hid ((B0.out.setKT 2 X).drew)
  clear p0 p1 p2 p3 p4 p5 f0 f1 f2 f3 f4 f5 q0 q1 q2 q3 q4 q5 g0 g1 g2 g3 g4 g5
  generalize ((W0.setCell ⟨w.heap.size + 1, 0, none⟩ (.int .i64 2)).setCell ⟨w.heap.size + 1, 1, none⟩ (.string X)).drew = W1 at B1 ⊢
  obtain ⟨p0, p1, p2, p3, p4, p5⟩ := cell_of_six B1.out.bp
  obtain ⟨f0, f1, f2, f3, f4, f5⟩ := free_of_six B1.out.bp
  obtain ⟨q0, q1, q2, q3, q4, q5⟩ := cell_of_six B1.out.bq
  obtain ⟨g0, g1, g2, g3, g4, g5⟩ := free_of_six B1.out.bq
  simp only [zT] at q0 q1 q2 q3 q4 q5
  all_goals go_wp2_with (go_at_call 35; (with_reducible refine (HP.out _).mono ?_); rintro e w2 ⟨hz, hb⟩; have HZ := Lib.hid hz; obtain ⟨k2, n2, t2, ok2, rfl, _⟩ := hz; have B2 := Lib.hid ((B1.out.call hb).call ((Below.refl _ _).alloc (Nat.le_refl _) (.cells #[.int .i64 k2, .int .i64 n2, .string t2] 40))); have hq2 : w.heap.size + 1 ≠ w2.heap.size := (by have := B1.out.lt; have := hb.size; omega); have hp2 : w.heap.size ≠ w2.heap.size := (by have := B1.out.lt; have := hb.size; omega); clear hb p0 p1 p2 p3 p4 p5 f0 f1 f2 f3 f4 f5 q0 q1 q2 q3 q4 q5 g0 g1 g2 g3 g4 g5; obtain ⟨p0, p1, p2, p3, p4, p5⟩ := cell_of_six B2.out.bp; obtain ⟨f0, f1, f2, f3, f4, f5⟩ := free_of_six B2.out.bp; obtain ⟨q0, q1, q2, q3, q4, q5⟩ := cell_of_six B2.out.bq; obtain ⟨g0, g1, g2, g3, g4, g5⟩ := free_of_six B2.out.bq; simp only [zT] at q0 q1 q2 q3 q4 q5)
  all_goals have B3 := Lib.hid (B2.out.set3 k2 n2 t2)
  all_goals
    have hbe := six_below B3.out.below (.int .i64 2) (.string X) (.int .i64 k2) (.int .i64 n2) (.string t2) (.int .i64 (k : Int))
    have hsx := six_set B3.out.bp (.int .i64 2) (.string X) (.int .i64 k2) (.int .i64 n2) (.string t2) (.int .i64 (k : Int))
    refine one_end (P := w.heap.size) (y := ⟨2, X, k2, n2, t2, k⟩) (ok := ok2) rfl rfl rfl ?_ ?_
    · first | with_reducible exact drew_heap hsx | with_reducible exact hsx
    · exact ⟨HPP.out k2 n2 t2 ok2 HZ.out, by first | with_reducible exact hbe.drew | with_reducible exact hbe⟩
set_option maxRecDepth 100000 in
set_option maxHeartbeats 3200000 in
theorem r5one_neg (s : ByteArray) (hs : s.size ≤ 140737488355328) (k : Nat) (hk : k < s.size) (o : Option Tok) (ho : Wd k (s.data.toList.drop k) o) (hlet : letB (s[k]'hk) = false) (hm : (s[k]'hk) = 45) (hk1 : k + 1 < s.size) (hdig : digB (s[k + 1]'hk1) = true) (h4 : 4 * s.size + 2 ≤ 140737488355328) (w : World) :
    Calls Tryd.prog 22 #[.string s, .int .i64 (k : Int)] w fun e w' => WordP o e ∧ Below w.heap.size w w' := by
  have hl := list_at s k hk
  have hX := ext_wtx s k
  have hne : s.data.toList.drop k ≠ [] := drop_ne (by rw [← Lib.size_eq]; exact hk)
  have hle := outl_le _ hne
  rw [List.length_drop, ← Lib.size_eq] at hle
  have hxl : (baL (wtx (s.data.toList.drop k))).data.toList = wtx (s.data.toList.drop k) := rfl
  have hxs : (baL (wtx (s.data.toList.drop k))).size ≤ 140737488355328 := by rw [baL_size, wtx_len hne]; omega
  have HL := Lib.hid (fun w => r5letter_any (s[k]'hk) w)
  have e : ∀ d : UInt8, (((s[k]'hk).toNat : Int) == (d.toNat : Int)) = ((s[k]'hk) == d) := fun d => by
    rw [Bool.eq_iff_iff]; simp only [beq_iff_eq]
    exact ⟨fun h => UInt8.toNat_inj.1 (by omega), fun h => by rw [h]⟩
  have e45 := e 45; have e34 := e 34
  simp only [show ((45 : UInt8).toNat : Int) = 45 from rfl, show ((34 : UInt8).toNat : Int) = 34 from rfl] at e45 e34
  clear e
  have hx4 : 4 * (baL (wtx (s.data.toList.drop k))).size + 2 ≤ 140737488355328 := by rw [baL_size, wtx_len hne]; omega
  have hou : outl (s.data.toList.drop k) = (2, 1 + runN digB (s.data.toList.drop (k + 1))) := by
    conv => lhs; rw [hl]
    rw [outl_cons, if_neg (by rw [hlet]; simp), if_pos (.inl hm)]
  have HR := Lib.hid (fun w => r5run_any s hs (k + 1) hk false w)
  rw [rdB_f] at HR
  have HPP := Lib.hid (fun (k2 n2 : Int) (t2 : ByteArray) (ok2 : Bool) (hz : ParseZ (wtx (s.data.toList.drop k)) (.returned (.tuple #[.agg #[.int .i64 k2, .int .i64 n2, .string t2], .bool ok2]))) => show WordP o (.returned (.tuple #[tokV ⟨2, baL (wtx (s.data.toList.drop k)), k2, n2, t2, k⟩, .bool ok2])) from by
    have h := WordP.val ho (.inl (by rw [hou])) hz
    rw [hou] at h
    exact h)
  rw [hou] at hX hle
  have HP := Lib.hid (fun w => r3Parse_any (baL (wtx (s.data.toList.drop k))) hx4 w)
  rw [hxl] at HP
  generalize wtx (s.data.toList.drop k) = tl at hX hxl hxs hx4 HPP HP
  generalize baL tl = X at hX hxl hxs hx4 HP HPP
  have hcast : ((k + 1 + runN digB (s.data.toList.drop (k + 1)) : Nat) : Int) = (k : Int) + ((1 + runN digB (s.data.toList.drop (k + 1)) : Nat) : Int) := by omega
  rw [hcast] at HR
  generalize 1 + runN digB (s.data.toList.drop (k + 1)) = n at hX hle HR
  rw [hlet] at HL
  have hle' : n ≤ s.size - k := hle
  have hsl : ∀ w : World, (Instr.slice 9 (.string s) (some (.int .i64 (k : Int))) (some (.int .i64 ((k : Int) + (n : Int)))) none).run Tryd.prog w = .ok (.string X) w := fun w => by
    have h := run_slice_string (P := Tryd.prog) w 9 s .i64 .i64 (k : Int) ((k : Int) + (n : Int)) Tryd.underlying9 (by omega) (by omega) (by omega)
    rw [show (k : Int).toNat = k by omega, show ((k : Int) + (n : Int)).toNat = k + n by omega] at h
    rw [← hX]; exact h
  have HD := Lib.hid (fun w => r5digit_any (s[k]'hk) w)
  rw [show digB (s[k]'hk) = false by rw [hm]; decide] at HD
  have HD1 := Lib.hid (fun w => r5digit_any (s[k + 1]'hk1) w)
  rw [hdig] at HD1
  have hk1i : (k : Int) + 1 < s.size := by omega
  rw [hm] at e45
  have b45 : (((s[k]'hk).toNat : Int) == 45) = true := by rw [hm]; rfl
  clear hm
  have hc1 : ((k + 1 : Nat) : Int) = (k : Int) + 1 := by omega
  rw [hc1] at HR
  have hwk : IntKind.wrap .i64 ((k : Int) + 1) = (k : Int) + 1 := by rw [IntKind.wrap_i64]; omega
  clear hc1
  clear hl hou hne hxl hxs hx4 hlet ho hX hle hcast hdig e34 e45
  have B0 := Lib.hid (Lw.start2 w (k : Int))
  have hpn : w.heap.size ≠ w.heap.size + 1 := by omega
  have hqn : w.heap.size + 1 ≠ w.heap.size := by omega
  have hWW : ∃ W0, W0 = (w.alloc (.cells #[.int .i64 0, .string ⟨#[]⟩, .int .i64 0, .int .i64 0, .string ⟨#[]⟩, .int .i64 0] 42)).alloc (.cells #[.int .i64 0, .string ⟨#[]⟩, .int .i64 0, .int .i64 0, .string ⟨#[]⟩, .int .i64 (k : Int)] 42) := ⟨_, rfl⟩
  go_enter Tryd.func22, Tryd.ntmps22
  go_wp2_with (first | (go_at_call 30; (with_reducible refine (HL.out _).mono ?_); rintro e w' ⟨rfl, rfl⟩) | (go_at_call 33; (with_reducible refine (HD.out _).mono ?_); rintro e w' ⟨rfl, rfl⟩) | (go_at_call 33; (with_reducible refine (HD1.out _).mono ?_); rintro e w' ⟨rfl, rfl⟩))
  obtain ⟨p0, p1, p2, p3, p4, p5⟩ := cell_of_six B0.out.bp
  obtain ⟨f0, f1, f2, f3, f4, f5⟩ := free_of_six B0.out.bp
  obtain ⟨q0, q1, q2, q3, q4, q5⟩ := cell_of_six B0.out.bq
  obtain ⟨g0, g1, g2, g3, g4, g5⟩ := free_of_six B0.out.bq
  generalize (w.alloc (.cells #[.int .i64 0, .string ⟨#[]⟩, .int .i64 0, .int .i64 0, .string ⟨#[]⟩, .int .i64 0] 42)).alloc (.cells #[.int .i64 0, .string ⟨#[]⟩, .int .i64 0, .int .i64 0, .string ⟨#[]⟩, .int .i64 (k : Int)] 42) = W0 at B0 p0 p1 p2 p3 p4 p5 f0 f1 f2 f3 f4 f5 q0 q1 q2 q3 q4 q5 g0 g1 g2 g3 g4 g5 ⊢
  go_region_law (first | (go_simp; go_at_call 31; (with_reducible refine (HR.out _).mono ?_); rintro e w2 ⟨rfl, rfl⟩))
  have B1 := Lib.hid ((B0.out.setKT 2 X).drew)
  clear p0 p1 p2 p3 p4 p5 f0 f1 f2 f3 f4 f5 q0 q1 q2 q3 q4 q5 g0 g1 g2 g3 g4 g5
  generalize ((W0.setCell ⟨w.heap.size + 1, 0, none⟩ (.int .i64 2)).setCell ⟨w.heap.size + 1, 1, none⟩ (.string X)).drew = W1 at B1 ⊢
  obtain ⟨p0, p1, p2, p3, p4, p5⟩ := cell_of_six B1.out.bp
  obtain ⟨f0, f1, f2, f3, f4, f5⟩ := free_of_six B1.out.bp
  obtain ⟨q0, q1, q2, q3, q4, q5⟩ := cell_of_six B1.out.bq
  obtain ⟨g0, g1, g2, g3, g4, g5⟩ := free_of_six B1.out.bq
  simp only [zT] at q0 q1 q2 q3 q4 q5
  all_goals go_wp2_with (go_at_call 35; (with_reducible refine (HP.out _).mono ?_); rintro e w2 ⟨hz, hb⟩; have HZ := Lib.hid hz; obtain ⟨k2, n2, t2, ok2, rfl, _⟩ := hz; have B2 := Lib.hid ((B1.out.call hb).call ((Below.refl _ _).alloc (Nat.le_refl _) (.cells #[.int .i64 k2, .int .i64 n2, .string t2] 40))); have hq2 : w.heap.size + 1 ≠ w2.heap.size := (by have := B1.out.lt; have := hb.size; omega); have hp2 : w.heap.size ≠ w2.heap.size := (by have := B1.out.lt; have := hb.size; omega); clear hb p0 p1 p2 p3 p4 p5 f0 f1 f2 f3 f4 f5 q0 q1 q2 q3 q4 q5 g0 g1 g2 g3 g4 g5; obtain ⟨p0, p1, p2, p3, p4, p5⟩ := cell_of_six B2.out.bp; obtain ⟨f0, f1, f2, f3, f4, f5⟩ := free_of_six B2.out.bp; obtain ⟨q0, q1, q2, q3, q4, q5⟩ := cell_of_six B2.out.bq; obtain ⟨g0, g1, g2, g3, g4, g5⟩ := free_of_six B2.out.bq; simp only [zT] at q0 q1 q2 q3 q4 q5)
  all_goals have B3 := Lib.hid (B2.out.set3 k2 n2 t2)
  all_goals
    have hbe := six_below B3.out.below (.int .i64 2) (.string X) (.int .i64 k2) (.int .i64 n2) (.string t2) (.int .i64 (k : Int))
    have hsx := six_set B3.out.bp (.int .i64 2) (.string X) (.int .i64 k2) (.int .i64 n2) (.string t2) (.int .i64 (k : Int))
    refine one_end (P := w.heap.size) (y := ⟨2, X, k2, n2, t2, k⟩) (ok := ok2) rfl rfl rfl ?_ ?_
    · first | with_reducible exact drew_heap hsx | with_reducible exact hsx
    · exact ⟨HPP.out k2 n2 t2 ok2 HZ.out, by first | with_reducible exact hbe.drew | with_reducible exact hbe⟩
set_option maxRecDepth 100000 in
set_option maxHeartbeats 3200000 in
theorem r5one_open (s : ByteArray) (hs : s.size ≤ 140737488355328) (k : Nat) (hk : k < s.size) (o : Option Tok) (ho : Wd k (s.data.toList.drop k) o) (hlet : letB (s[k]'hk) = false) (hdig : digB (s[k]'hk) = false) (hq : (s[k]'hk) = 34) (hcl : clo (s.data.toList.drop (k + 1)) = none) (w : World) :
    Calls Tryd.prog 22 #[.string s, .int .i64 (k : Int)] w fun e w' => WordP o e ∧ Below w.heap.size w w' := by
  have hl := list_at s k hk
  have hX := ext_wtx s k
  have hne : s.data.toList.drop k ≠ [] := drop_ne (by rw [← Lib.size_eq]; exact hk)
  have hle := outl_le _ hne
  rw [List.length_drop, ← Lib.size_eq] at hle
  have hxl : (baL (wtx (s.data.toList.drop k))).data.toList = wtx (s.data.toList.drop k) := rfl
  have hxs : (baL (wtx (s.data.toList.drop k))).size ≤ 140737488355328 := by rw [baL_size, wtx_len hne]; omega
  have HL := Lib.hid (fun w => r5letter_any (s[k]'hk) w)
  have e : ∀ d : UInt8, (((s[k]'hk).toNat : Int) == (d.toNat : Int)) = ((s[k]'hk) == d) := fun d => by
    rw [Bool.eq_iff_iff]; simp only [beq_iff_eq]
    exact ⟨fun h => UInt8.toNat_inj.1 (by omega), fun h => by rw [h]⟩
  have e45 := e 45; have e34 := e 34
  simp only [show ((45 : UInt8).toNat : Int) = 45 from rfl, show ((34 : UInt8).toNat : Int) = 34 from rfl] at e45 e34
  clear e
  have hou : outl (s.data.toList.drop k) = (3, 1 + (s.data.toList.drop (k + 1)).length) := by
    conv => lhs; rw [hl]
    rw [outl_cons, if_neg (by rw [hlet]; simp), if_neg (by rw [hq]; decide), if_pos hq, hcl]
  have hwx : wtx (s.data.toList.drop k) = 34 :: s.data.toList.drop (k + 1) := by
    unfold wtx; rw [hou, hl, hq]; exact List.take_of_length_le (by simp; omega)
  have HPP := Lib.hid (show WordP o (.returned (.tuple #[tokV (zT (k : Int)), .bool false])) from by
    obtain ⟨g1, _⟩ := ho.at23 (.inr (by rw [hou]))
    refine ⟨_, _, rfl, fun x hx => ?_, fun _ => rfl⟩
    obtain ⟨k2, n2, t2, h2, _⟩ := g1 x hx
    rw [hwx] at h2
    exact absurd h2 (not_says_open hcl k2 n2 t2))
  have HC := Lib.hid (fun w => r5closes_any s hs k hk w)
  have hcv : closV (k + 1) (s.data.toList.drop (k + 1)) = .tuple #[.int .i64 0, .bool false] := by unfold closV; rw [hcl]
  rw [hcv] at HC
  rw [hlet] at HL
  have HD := Lib.hid (fun w => r5digit_any (s[k]'hk) w)
  rw [hdig] at HD
  have b34 : (((s[k]'hk).toNat : Int) == 34) = true := by rw [hq]; rfl
  have b45 : (((s[k]'hk).toNat : Int) == 45) = false := by rw [hq]; rfl
  clear hl hou hne hxl hxs hlet ho hX hle hdig e34 e45 hq hcl hwx hcv
  have B0 := Lib.hid (Lw.start2 w (k : Int))
  have hpn : w.heap.size ≠ w.heap.size + 1 := by omega
  have hqn : w.heap.size + 1 ≠ w.heap.size := by omega
  have hWW : ∃ W0, W0 = (w.alloc (.cells #[.int .i64 0, .string ⟨#[]⟩, .int .i64 0, .int .i64 0, .string ⟨#[]⟩, .int .i64 0] 42)).alloc (.cells #[.int .i64 0, .string ⟨#[]⟩, .int .i64 0, .int .i64 0, .string ⟨#[]⟩, .int .i64 (k : Int)] 42) := ⟨_, rfl⟩
  go_enter Tryd.func22, Tryd.ntmps22
  go_wp2_with (first | (go_at_call 30; (with_reducible refine (HL.out _).mono ?_); rintro e w' ⟨rfl, rfl⟩) | (go_at_call 33; (with_reducible refine (HD.out _).mono ?_); rintro e w' ⟨rfl, rfl⟩) | (go_at_call 34; (with_reducible refine (HC.out _).mono ?_); rintro e w' ⟨rfl, rfl⟩; obtain ⟨p0, p1, p2, p3, p4, p5⟩ := cell_of_six B0.out.bp; obtain ⟨f0, f1, f2, f3, f4, f5⟩ := free_of_six B0.out.bp; obtain ⟨q0, q1, q2, q3, q4, q5⟩ := cell_of_six B0.out.bq; generalize (w.alloc (.cells #[.int .i64 0, .string ⟨#[]⟩, .int .i64 0, .int .i64 0, .string ⟨#[]⟩, .int .i64 0] 42)).alloc (.cells #[.int .i64 0, .string ⟨#[]⟩, .int .i64 0, .int .i64 0, .string ⟨#[]⟩, .int .i64 (k : Int)] 42) = W0 at B0 p0 p1 p2 p3 p4 p5 f0 f1 f2 f3 f4 f5 q0 q1 q2 q3 q4 q5 ⊢; simp only [zT] at q0 q1 q2 q3 q4 q5))
  all_goals
    have hbe := six_below B0.out.below (.int .i64 0) (.string ⟨#[]⟩) (.int .i64 0) (.int .i64 0) (.string ⟨#[]⟩) (.int .i64 (k : Int))
    have hsx := six_set B0.out.bp (.int .i64 0) (.string ⟨#[]⟩) (.int .i64 0) (.int .i64 0) (.string ⟨#[]⟩) (.int .i64 (k : Int))
    refine one_end (P := w.heap.size) (y := ⟨0, ⟨#[]⟩, 0, 0, ⟨#[]⟩, k⟩) (ok := false) rfl rfl rfl ?_ ?_
    · first | with_reducible exact drew_heap hsx | with_reducible exact hsx
    · exact ⟨HPP.out, by first | with_reducible exact hbe.drew | with_reducible exact hbe⟩
set_option maxRecDepth 100000 in
set_option maxHeartbeats 3200000 in
theorem r5one_str (s : ByteArray) (hs : s.size ≤ 140737488355328) (k : Nat) (hk : k < s.size) (o : Option Tok) (ho : Wd k (s.data.toList.drop k) o) (hlet : letB (s[k]'hk) = false) (hdig : digB (s[k]'hk) = false) (hq : (s[k]'hk) = 34) {m : Nat} (hcl : clo (s.data.toList.drop (k + 1)) = some m) (h4 : 4 * s.size + 2 ≤ 140737488355328) (w : World) :
    Calls Tryd.prog 22 #[.string s, .int .i64 (k : Int)] w fun e w' => WordP o e ∧ Below w.heap.size w w' := by
  have hl := list_at s k hk
  have hX := ext_wtx s k
  have hne : s.data.toList.drop k ≠ [] := drop_ne (by rw [← Lib.size_eq]; exact hk)
  have hle := outl_le _ hne
  rw [List.length_drop, ← Lib.size_eq] at hle
  have hxl : (baL (wtx (s.data.toList.drop k))).data.toList = wtx (s.data.toList.drop k) := rfl
  have hxs : (baL (wtx (s.data.toList.drop k))).size ≤ 140737488355328 := by rw [baL_size, wtx_len hne]; omega
  have HL := Lib.hid (fun w => r5letter_any (s[k]'hk) w)
  have e : ∀ d : UInt8, (((s[k]'hk).toNat : Int) == (d.toNat : Int)) = ((s[k]'hk) == d) := fun d => by
    rw [Bool.eq_iff_iff]; simp only [beq_iff_eq]
    exact ⟨fun h => UInt8.toNat_inj.1 (by omega), fun h => by rw [h]⟩
  have e45 := e 45; have e34 := e 34
  simp only [show ((45 : UInt8).toNat : Int) = 45 from rfl, show ((34 : UInt8).toNat : Int) = 34 from rfl] at e45 e34
  clear e
  have hx4 : 4 * (baL (wtx (s.data.toList.drop k))).size + 2 ≤ 140737488355328 := by rw [baL_size, wtx_len hne]; omega
  have hou : outl (s.data.toList.drop k) = (3, 1 + m) := by
    conv => lhs; rw [hl]
    rw [outl_cons, if_neg (by rw [hlet]; simp), if_neg (by rw [hq]; decide), if_pos hq, hcl]
  have HC := Lib.hid (fun w => r5closes_any s hs k hk w)
  have hcv : closV (k + 1) (s.data.toList.drop (k + 1)) = .tuple #[.int .i64 (k + 1 + m : Nat), .bool true] := by unfold closV; rw [hcl]
  rw [hcv, show ((k + 1 + m : Nat) : Int) = (k : Int) + ((1 + m : Nat) : Int) by omega] at HC
  have HPP := Lib.hid (fun (k2 n2 : Int) (t2 : ByteArray) (ok2 : Bool) (hz : ParseZ (wtx (s.data.toList.drop k)) (.returned (.tuple #[.agg #[.int .i64 k2, .int .i64 n2, .string t2], .bool ok2]))) => show WordP o (.returned (.tuple #[tokV ⟨3, baL (wtx (s.data.toList.drop k)), k2, n2, t2, k⟩, .bool ok2])) from by
    have h := WordP.val ho (.inr (by rw [hou])) hz
    rw [hou] at h
    exact h)
  rw [hou] at hX hle
  have HP := Lib.hid (fun w => r3Parse_any (baL (wtx (s.data.toList.drop k))) hx4 w)
  rw [hxl] at HP
  generalize wtx (s.data.toList.drop k) = tl at hX hxl hxs hx4 HPP HP
  generalize baL tl = X at hX hxl hxs hx4 HP HPP
  generalize 1 + m = n at hX hle HC
  rw [hlet] at HL
  have hle' : n ≤ s.size - k := hle
  have hsl : ∀ w : World, (Instr.slice 9 (.string s) (some (.int .i64 (k : Int))) (some (.int .i64 ((k : Int) + (n : Int)))) none).run Tryd.prog w = .ok (.string X) w := fun w => by
    have h := run_slice_string (P := Tryd.prog) w 9 s .i64 .i64 (k : Int) ((k : Int) + (n : Int)) Tryd.underlying9 (by omega) (by omega) (by omega)
    rw [show (k : Int).toNat = k by omega, show ((k : Int) + (n : Int)).toNat = k + n by omega] at h
    rw [← hX]; exact h
  have HD := Lib.hid (fun w => r5digit_any (s[k]'hk) w)
  rw [hdig] at HD
  have b34 : (((s[k]'hk).toNat : Int) == 34) = true := by rw [hq]; rfl
  have b45 : (((s[k]'hk).toNat : Int) == 45) = false := by rw [hq]; rfl
  clear hl hou hne hxl hxs hx4 hlet ho hX hle hdig e34 e45 hq hcl hcv
  have B0 := Lib.hid (Lw.start2 w (k : Int))
  have hpn : w.heap.size ≠ w.heap.size + 1 := by omega
  have hqn : w.heap.size + 1 ≠ w.heap.size := by omega
  have hWW : ∃ W0, W0 = (w.alloc (.cells #[.int .i64 0, .string ⟨#[]⟩, .int .i64 0, .int .i64 0, .string ⟨#[]⟩, .int .i64 0] 42)).alloc (.cells #[.int .i64 0, .string ⟨#[]⟩, .int .i64 0, .int .i64 0, .string ⟨#[]⟩, .int .i64 (k : Int)] 42) := ⟨_, rfl⟩
  go_enter Tryd.func22, Tryd.ntmps22
  go_wp2_with (first | (go_at_call 30; (with_reducible refine (HL.out _).mono ?_); rintro e w' ⟨rfl, rfl⟩) | (go_at_call 33; (with_reducible refine (HD.out _).mono ?_); rintro e w' ⟨rfl, rfl⟩) | (go_at_call 34; (with_reducible refine (HC.out _).mono ?_); rintro e w' ⟨rfl, rfl⟩))
  obtain ⟨p0, p1, p2, p3, p4, p5⟩ := cell_of_six B0.out.bp
  obtain ⟨f0, f1, f2, f3, f4, f5⟩ := free_of_six B0.out.bp
  obtain ⟨q0, q1, q2, q3, q4, q5⟩ := cell_of_six B0.out.bq
  obtain ⟨g0, g1, g2, g3, g4, g5⟩ := free_of_six B0.out.bq
  generalize (w.alloc (.cells #[.int .i64 0, .string ⟨#[]⟩, .int .i64 0, .int .i64 0, .string ⟨#[]⟩, .int .i64 0] 42)).alloc (.cells #[.int .i64 0, .string ⟨#[]⟩, .int .i64 0, .int .i64 0, .string ⟨#[]⟩, .int .i64 (k : Int)] 42) = W0 at B0 p0 p1 p2 p3 p4 p5 f0 f1 f2 f3 f4 f5 q0 q1 q2 q3 q4 q5 g0 g1 g2 g3 g4 g5 ⊢
  go_region_law (fail)
  have B1 := Lib.hid ((B0.out.setKT 3 X).drew)
  clear p0 p1 p2 p3 p4 p5 f0 f1 f2 f3 f4 f5 q0 q1 q2 q3 q4 q5 g0 g1 g2 g3 g4 g5
  generalize ((W0.setCell ⟨w.heap.size + 1, 0, none⟩ (.int .i64 3)).setCell ⟨w.heap.size + 1, 1, none⟩ (.string X)).drew = W1 at B1 ⊢
  obtain ⟨p0, p1, p2, p3, p4, p5⟩ := cell_of_six B1.out.bp
  obtain ⟨f0, f1, f2, f3, f4, f5⟩ := free_of_six B1.out.bp
  obtain ⟨q0, q1, q2, q3, q4, q5⟩ := cell_of_six B1.out.bq
  obtain ⟨g0, g1, g2, g3, g4, g5⟩ := free_of_six B1.out.bq
  simp only [zT] at q0 q1 q2 q3 q4 q5
  all_goals go_wp2_with (go_at_call 35; (with_reducible refine (HP.out _).mono ?_); rintro e w2 ⟨hz, hb⟩; have HZ := Lib.hid hz; obtain ⟨k2, n2, t2, ok2, rfl, _⟩ := hz; have B2 := Lib.hid ((B1.out.call hb).call ((Below.refl _ _).alloc (Nat.le_refl _) (.cells #[.int .i64 k2, .int .i64 n2, .string t2] 40))); have hq2 : w.heap.size + 1 ≠ w2.heap.size := (by have := B1.out.lt; have := hb.size; omega); have hp2 : w.heap.size ≠ w2.heap.size := (by have := B1.out.lt; have := hb.size; omega); clear hb p0 p1 p2 p3 p4 p5 f0 f1 f2 f3 f4 f5 q0 q1 q2 q3 q4 q5 g0 g1 g2 g3 g4 g5; obtain ⟨p0, p1, p2, p3, p4, p5⟩ := cell_of_six B2.out.bp; obtain ⟨f0, f1, f2, f3, f4, f5⟩ := free_of_six B2.out.bp; obtain ⟨q0, q1, q2, q3, q4, q5⟩ := cell_of_six B2.out.bq; obtain ⟨g0, g1, g2, g3, g4, g5⟩ := free_of_six B2.out.bq; simp only [zT] at q0 q1 q2 q3 q4 q5)
  all_goals have B3 := Lib.hid (B2.out.set3 k2 n2 t2)
  all_goals
    have hbe := six_below B3.out.below (.int .i64 3) (.string X) (.int .i64 k2) (.int .i64 n2) (.string t2) (.int .i64 (k : Int))
    have hsx := six_set B3.out.bp (.int .i64 3) (.string X) (.int .i64 k2) (.int .i64 n2) (.string t2) (.int .i64 (k : Int))
    refine one_end (P := w.heap.size) (y := ⟨3, X, k2, n2, t2, k⟩) (ok := ok2) rfl rfl rfl ?_ ?_
    · first | with_reducible exact drew_heap hsx | with_reducible exact hsx
    · exact ⟨HPP.out k2 n2 t2 ok2 HZ.out, by first | with_reducible exact hbe.drew | with_reducible exact hbe⟩
set_option maxRecDepth 100000 in
set_option maxHeartbeats 3200000 in
theorem r5one_sy2 (s : ByteArray) (hs : s.size ≤ 140737488355328) (k : Nat) (hk : k < s.size) (o : Option Tok) (_ : Wd k (s.data.toList.drop k) o) (hlet : letB (s[k]'hk) = false) (hdig : digB (s[k]'hk) = false) (hq : (s[k]'hk) ≠ 34) (h45 : (s[k]'hk) ≠ 45) (hk1 : k + 1 < s.size) (h2 : symB [s[k]'hk, s[k + 1]'hk1] = true) (hpp : WordP o (.returned (.tuple #[tokV ⟨4, baL [s[k]'hk, s[k + 1]'hk1], 0, 0, ⟨#[]⟩, k⟩, .bool (true)]))) (w : World) :
    Calls Tryd.prog 22 #[.string s, .int .i64 (k : Int)] w fun e w' => WordP o e ∧ Below w.heap.size w w' := by
  have hl := list_at s k hk
  have hlp := hk
  have HPP := Lib.hid hpp
  have HL := Lib.hid (fun w => r5letter_any (s[k]'hk) w)
  rw [hlet] at HL
  have HD := Lib.hid (fun w => r5digit_any (s[k]'hk) w)
  rw [hdig] at HD
  have b34 : (((s[k]'hk).toNat : Int) == 34) = false := by
    rw [Bool.eq_false_iff]; intro h; apply hq; exact UInt8.toNat_inj.1 (by simp at h; show _ = 34; omega)
  have b45 : (((s[k]'hk).toNat : Int) == 45) = false := by
    rw [Bool.eq_false_iff]; intro h; apply h45; exact UInt8.toNat_inj.1 (by simp at h; show _ = 45; omega)
  have hk1i : (k : Int) + 1 < s.size := by omega
  have hl1 := list_at s (k + 1) hk1
  have hx2 : (s.extract k (k + 2)).data.toList = [s[k]'hk, s[k + 1]'hk1] := by
    rw [← Lib.toList_data, Lib.extract_toList, Nat.add_sub_cancel_left, hl, hl1]; rfl
  have HS2 := Lib.hid (fun w => r5Symbol_any (s.extract k (k + 2)) w)
  rw [hx2, h2] at HS2
  have hsl2 : ∀ w : World, (Instr.slice 9 (.string s) (some (.int .i64 (k : Int))) (some (.int .i64 ((k : Int) + 2))) none).run Tryd.prog w = .ok (.string (s.extract k (k + 2))) w := fun w => by
    have h := run_slice_string (P := Tryd.prog) w 9 s .i64 .i64 (k : Int) ((k : Int) + 2) Tryd.underlying9 (by omega) (by omega) (by omega)
    rw [show (k : Int).toNat = k by omega, show ((k : Int) + 2).toNat = k + 2 by omega] at h
    exact h
  have hXX : s.extract k (k + 2) = baL [s[k]'hk, s[k + 1]'hk1] := ba_ext2 (by rw [Lib.toList_data, Lib.toList_data, hx2]; rfl)
  rw [hXX] at HS2 hsl2
  generalize baL [s[k]'hk, s[k + 1]'hk1] = X at HPP HS2 hsl2
  have hwk : IntKind.wrap .i64 ((k : Int) + 1) = (k : Int) + 1 := by rw [IntKind.wrap_i64]; omega
  have hwk2 : IntKind.wrap .i64 ((k : Int) + 2) = (k : Int) + 2 := by rw [IntKind.wrap_i64]; omega
  clear hl hlet hdig hq h45 hpp hlp hl1 hx2 h2 hXX
  have B0 := Lib.hid (Lw.start2 w (k : Int))
  have hpn : w.heap.size ≠ w.heap.size + 1 := by omega
  have hqn : w.heap.size + 1 ≠ w.heap.size := by omega
  have hWW : ∃ W0, W0 = (w.alloc (.cells #[.int .i64 0, .string ⟨#[]⟩, .int .i64 0, .int .i64 0, .string ⟨#[]⟩, .int .i64 0] 42)).alloc (.cells #[.int .i64 0, .string ⟨#[]⟩, .int .i64 0, .int .i64 0, .string ⟨#[]⟩, .int .i64 (k : Int)] 42) := ⟨_, rfl⟩
  go_enter Tryd.func22, Tryd.ntmps22
  go_wp2_with (first | (go_at_call 30; (with_reducible refine (HL.out _).mono ?_); rintro e w' ⟨rfl, rfl⟩) | (go_at_call 33; (with_reducible refine (HD.out _).mono ?_); rintro e w' ⟨rfl, rfl⟩) | (go_at_call 17; (with_reducible refine (HS2.out _).mono ?_); rintro e w' ⟨rfl, hb9⟩; have B0 := Lib.hid (B0.out.call hb9); clear hb9; obtain ⟨p0, p1, p2, p3, p4, p5⟩ := cell_of_six B0.out.bp; obtain ⟨f0, f1, f2, f3, f4, f5⟩ := free_of_six B0.out.bp; obtain ⟨q0, q1, q2, q3, q4, q5⟩ := cell_of_six B0.out.bq; obtain ⟨g0, g1, g2, g3, g4, g5⟩ := free_of_six B0.out.bq))
  obtain ⟨W0, hW0⟩ : ∃ W0, W0 = w' := ⟨_, rfl⟩
  rw [← hW0] at B0 p0 p1 p2 p3 p4 p5 f0 f1 f2 f3 f4 f5 q0 q1 q2 q3 q4 q5 g0 g1 g2 g3 g4 g5 ⊢
  clear hW0
  go_region_law (fail)
  have B1 := Lib.hid ((B0.out.setKT 4 X).drew)
  clear p0 p1 p2 p3 p4 p5 f0 f1 f2 f3 f4 f5 q0 q1 q2 q3 q4 q5 g0 g1 g2 g3 g4 g5
  generalize ((W0.setCell ⟨w.heap.size + 1, 0, none⟩ (.int .i64 4)).setCell ⟨w.heap.size + 1, 1, none⟩ (.string X)).drew = W1 at B1 ⊢
  obtain ⟨p0, p1, p2, p3, p4, p5⟩ := cell_of_six B1.out.bp
  obtain ⟨f0, f1, f2, f3, f4, f5⟩ := free_of_six B1.out.bp
  obtain ⟨q0, q1, q2, q3, q4, q5⟩ := cell_of_six B1.out.bq
  obtain ⟨g0, g1, g2, g3, g4, g5⟩ := free_of_six B1.out.bq
  simp only [zT] at q0 q1 q2 q3 q4 q5
  go_wp2
  all_goals
    have hbe := six_below B1.out.below (.int .i64 4) (.string X) (.int .i64 0) (.int .i64 0) (.string ⟨#[]⟩) (.int .i64 (k : Int))
    have hsx := six_set B1.out.bp (.int .i64 4) (.string X) (.int .i64 0) (.int .i64 0) (.string ⟨#[]⟩) (.int .i64 (k : Int))
    refine one_end (P := w.heap.size) (y := ⟨4, X, 0, 0, ⟨#[]⟩, k⟩) (ok := true) rfl rfl rfl ?_ ?_
    · first | with_reducible exact drew_heap hsx | with_reducible exact hsx
    · exact ⟨HPP.out, by first | with_reducible exact hbe.drew | with_reducible exact hbe⟩
set_option maxRecDepth 100000 in
set_option maxHeartbeats 3200000 in
theorem r5one_sy1 (s : ByteArray) (hs : s.size ≤ 140737488355328) (k : Nat) (hk : k < s.size) (o : Option Tok) (_ : Wd k (s.data.toList.drop k) o) (hlet : letB (s[k]'hk) = false) (hdig : digB (s[k]'hk) = false) (hq : (s[k]'hk) ≠ 34) (h45 : (s[k]'hk) ≠ 45) (hk1 : k + 1 < s.size) (h2 : symB [s[k]'hk, s[k + 1]'hk1] = false) (hpp : WordP o (.returned (.tuple #[tokV ⟨4, baL [s[k]'hk], 0, 0, ⟨#[]⟩, k⟩, .bool (symB [s[k]'hk])]))) (w : World) :
    Calls Tryd.prog 22 #[.string s, .int .i64 (k : Int)] w fun e w' => WordP o e ∧ Below w.heap.size w w' := by
  have hl := list_at s k hk
  have hlp := hk
  have HPP := Lib.hid hpp
  have HL := Lib.hid (fun w => r5letter_any (s[k]'hk) w)
  rw [hlet] at HL
  have HD := Lib.hid (fun w => r5digit_any (s[k]'hk) w)
  rw [hdig] at HD
  have b34 : (((s[k]'hk).toNat : Int) == 34) = false := by
    rw [Bool.eq_false_iff]; intro h; apply hq; exact UInt8.toNat_inj.1 (by simp at h; show _ = 34; omega)
  have b45 : (((s[k]'hk).toNat : Int) == 45) = false := by
    rw [Bool.eq_false_iff]; intro h; apply h45; exact UInt8.toNat_inj.1 (by simp at h; show _ = 45; omega)
  have hk1i : (k : Int) + 1 < s.size := by omega
  have hl1 := list_at s (k + 1) hk1
  have hx2 : (s.extract k (k + 2)).data.toList = [s[k]'hk, s[k + 1]'hk1] := by
    rw [← Lib.toList_data, Lib.extract_toList, Nat.add_sub_cancel_left, hl, hl1]; rfl
  have HS2 := Lib.hid (fun w => r5Symbol_any (s.extract k (k + 2)) w)
  rw [hx2, h2] at HS2
  have hsl2 : ∀ w : World, (Instr.slice 9 (.string s) (some (.int .i64 (k : Int))) (some (.int .i64 ((k : Int) + 2))) none).run Tryd.prog w = .ok (.string (s.extract k (k + 2))) w := fun w => by
    have h := run_slice_string (P := Tryd.prog) w 9 s .i64 .i64 (k : Int) ((k : Int) + 2) Tryd.underlying9 (by omega) (by omega) (by omega)
    rw [show (k : Int).toNat = k by omega, show ((k : Int) + 2).toNat = k + 2 by omega] at h
    exact h
  have hx1 : (s.extract k (k + 1)).data.toList = [s[k]'hk] := by
    rw [← Lib.toList_data, Lib.extract_toList, Nat.add_sub_cancel_left, hl]; rfl
  have HS1 := Lib.hid (fun w => r5Symbol_any (s.extract k (k + 1)) w)
  rw [hx1] at HS1
  have hsl1 : ∀ w : World, (Instr.slice 9 (.string s) (some (.int .i64 (k : Int))) (some (.int .i64 ((k : Int) + 1))) none).run Tryd.prog w = .ok (.string (s.extract k (k + 1))) w := fun w => by
    have h := run_slice_string (P := Tryd.prog) w 9 s .i64 .i64 (k : Int) ((k : Int) + 1) Tryd.underlying9 (by omega) (by omega) (by omega)
    rw [show (k : Int).toNat = k by omega, show ((k : Int) + 1).toNat = k + 1 by omega] at h
    exact h
  have hXX : s.extract k (k + 1) = baL [s[k]'hk] := ba_ext2 (by rw [Lib.toList_data, Lib.toList_data, hx1]; rfl)
  rw [hXX] at HS1 hsl1
  generalize symB [s[k]'hk] = ok at HPP HS1
  generalize baL [s[k]'hk] = X at HPP HS1 hsl1
  have hwk : IntKind.wrap .i64 ((k : Int) + 1) = (k : Int) + 1 := by rw [IntKind.wrap_i64]; omega
  have hwk2 : IntKind.wrap .i64 ((k : Int) + 2) = (k : Int) + 2 := by rw [IntKind.wrap_i64]; omega
  clear hl hlet hdig hq h45 hpp hlp hl1 hx2 h2 hx1 hXX
  have B0 := Lib.hid (Lw.start2 w (k : Int))
  have hpn : w.heap.size ≠ w.heap.size + 1 := by omega
  have hqn : w.heap.size + 1 ≠ w.heap.size := by omega
  have hWW : ∃ W0, W0 = (w.alloc (.cells #[.int .i64 0, .string ⟨#[]⟩, .int .i64 0, .int .i64 0, .string ⟨#[]⟩, .int .i64 0] 42)).alloc (.cells #[.int .i64 0, .string ⟨#[]⟩, .int .i64 0, .int .i64 0, .string ⟨#[]⟩, .int .i64 (k : Int)] 42) := ⟨_, rfl⟩
  go_enter Tryd.func22, Tryd.ntmps22
  go_wp2_with (first | (go_at_call 30; (with_reducible refine (HL.out _).mono ?_); rintro e w' ⟨rfl, rfl⟩) | (go_at_call 33; (with_reducible refine (HD.out _).mono ?_); rintro e w' ⟨rfl, rfl⟩) | (go_at_call 17; (with_reducible refine (HS2.out _).mono ?_); rintro e w' ⟨rfl, hb9⟩; have B0 := Lib.hid (B0.out.call hb9); clear hb9; obtain ⟨p0, p1, p2, p3, p4, p5⟩ := cell_of_six B0.out.bp; obtain ⟨f0, f1, f2, f3, f4, f5⟩ := free_of_six B0.out.bp; obtain ⟨q0, q1, q2, q3, q4, q5⟩ := cell_of_six B0.out.bq; obtain ⟨g0, g1, g2, g3, g4, g5⟩ := free_of_six B0.out.bq))
  obtain ⟨W0, hW0⟩ : ∃ W0, W0 = w' := ⟨_, rfl⟩
  rw [← hW0] at B0 p0 p1 p2 p3 p4 p5 f0 f1 f2 f3 f4 f5 q0 q1 q2 q3 q4 q5 g0 g1 g2 g3 g4 g5 ⊢
  clear hW0
  go_region_law (fail)
  have B1 := Lib.hid ((B0.out.setKT 4 X).drew)
  clear p0 p1 p2 p3 p4 p5 f0 f1 f2 f3 f4 f5 q0 q1 q2 q3 q4 q5 g0 g1 g2 g3 g4 g5
  generalize ((W0.setCell ⟨w.heap.size + 1, 0, none⟩ (.int .i64 4)).setCell ⟨w.heap.size + 1, 1, none⟩ (.string X)).drew = W1 at B1 ⊢
  obtain ⟨p0, p1, p2, p3, p4, p5⟩ := cell_of_six B1.out.bp
  obtain ⟨f0, f1, f2, f3, f4, f5⟩ := free_of_six B1.out.bp
  obtain ⟨q0, q1, q2, q3, q4, q5⟩ := cell_of_six B1.out.bq
  obtain ⟨g0, g1, g2, g3, g4, g5⟩ := free_of_six B1.out.bq
  simp only [zT] at q0 q1 q2 q3 q4 q5
  go_wp2_with fail
  go_region_law (first | (go_simp; go_at_call 17; (with_reducible refine (HS1.out _).mono ?_); rintro e w2 ⟨rfl, hb9⟩; have B2 := Lib.hid (B1.out.drew.call hb9); clear hb9; obtain ⟨p0, p1, p2, p3, p4, p5⟩ := cell_of_six B2.out.bp; obtain ⟨f0, f1, f2, f3, f4, f5⟩ := free_of_six B2.out.bp; obtain ⟨q0, q1, q2, q3, q4, q5⟩ := cell_of_six B2.out.bq; obtain ⟨g0, g1, g2, g3, g4, g5⟩ := free_of_six B2.out.bq; simp only [zT] at q0 q1 q2 q3 q4 q5))
  all_goals go_wp2
  all_goals
    have hbe := six_below B2.out.below (.int .i64 4) (.string X) (.int .i64 0) (.int .i64 0) (.string ⟨#[]⟩) (.int .i64 (k : Int))
    have hsx := six_set B2.out.bp (.int .i64 4) (.string X) (.int .i64 0) (.int .i64 0) (.string ⟨#[]⟩) (.int .i64 (k : Int))
    refine one_end (P := w.heap.size) (y := ⟨4, X, 0, 0, ⟨#[]⟩, k⟩) (ok := ok) rfl rfl rfl ?_ ?_
    · first | with_reducible exact drew_heap hsx | with_reducible exact hsx
    · exact ⟨HPP.out, by first | with_reducible exact hbe.drew | with_reducible exact hbe⟩
set_option maxRecDepth 100000 in
set_option maxHeartbeats 3200000 in
theorem r5one_sye (s : ByteArray) (hs : s.size ≤ 140737488355328) (k : Nat) (hk : k < s.size) (o : Option Tok) (_ : Wd k (s.data.toList.drop k) o) (hlet : letB (s[k]'hk) = false) (hdig : digB (s[k]'hk) = false) (hq : (s[k]'hk) ≠ 34) (h45 : (s[k]'hk) ≠ 45) (hk1 : ¬ k + 1 < s.size) (hpp : WordP o (.returned (.tuple #[tokV ⟨4, baL [s[k]'hk], 0, 0, ⟨#[]⟩, k⟩, .bool (symB [s[k]'hk])]))) (w : World) :
    Calls Tryd.prog 22 #[.string s, .int .i64 (k : Int)] w fun e w' => WordP o e ∧ Below w.heap.size w w' := by
  have hl := list_at s k hk
  have hlp := hk
  have HPP := Lib.hid hpp
  have HL := Lib.hid (fun w => r5letter_any (s[k]'hk) w)
  rw [hlet] at HL
  have HD := Lib.hid (fun w => r5digit_any (s[k]'hk) w)
  rw [hdig] at HD
  have b34 : (((s[k]'hk).toNat : Int) == 34) = false := by
    rw [Bool.eq_false_iff]; intro h; apply hq; exact UInt8.toNat_inj.1 (by simp at h; show _ = 34; omega)
  have b45 : (((s[k]'hk).toNat : Int) == 45) = false := by
    rw [Bool.eq_false_iff]; intro h; apply h45; exact UInt8.toNat_inj.1 (by simp at h; show _ = 45; omega)
  have hk1i : ¬ ((k : Int) + 1 < s.size) := by omega
  have hx1 : (s.extract k (k + 1)).data.toList = [s[k]'hk] := by
    rw [← Lib.toList_data, Lib.extract_toList, Nat.add_sub_cancel_left, hl]; rfl
  have HS1 := Lib.hid (fun w => r5Symbol_any (s.extract k (k + 1)) w)
  rw [hx1] at HS1
  have hsl1 : ∀ w : World, (Instr.slice 9 (.string s) (some (.int .i64 (k : Int))) (some (.int .i64 ((k : Int) + 1))) none).run Tryd.prog w = .ok (.string (s.extract k (k + 1))) w := fun w => by
    have h := run_slice_string (P := Tryd.prog) w 9 s .i64 .i64 (k : Int) ((k : Int) + 1) Tryd.underlying9 (by omega) (by omega) (by omega)
    rw [show (k : Int).toNat = k by omega, show ((k : Int) + 1).toNat = k + 1 by omega] at h
    exact h
  have hXX : s.extract k (k + 1) = baL [s[k]'hk] := ba_ext2 (by rw [Lib.toList_data, Lib.toList_data, hx1]; rfl)
  rw [hXX] at HS1 hsl1
  generalize symB [s[k]'hk] = ok at HPP HS1
  generalize baL [s[k]'hk] = X at HPP HS1 hsl1
  have hwk : IntKind.wrap .i64 ((k : Int) + 1) = (k : Int) + 1 := by rw [IntKind.wrap_i64]; omega
  have hwk2 : IntKind.wrap .i64 ((k : Int) + 2) = (k : Int) + 2 := by rw [IntKind.wrap_i64]; omega
  clear hl hlet hdig hq h45 hpp hlp hx1 hXX
  have B0 := Lib.hid (Lw.start2 w (k : Int))
  have hpn : w.heap.size ≠ w.heap.size + 1 := by omega
  have hqn : w.heap.size + 1 ≠ w.heap.size := by omega
  have hWW : ∃ W0, W0 = (w.alloc (.cells #[.int .i64 0, .string ⟨#[]⟩, .int .i64 0, .int .i64 0, .string ⟨#[]⟩, .int .i64 0] 42)).alloc (.cells #[.int .i64 0, .string ⟨#[]⟩, .int .i64 0, .int .i64 0, .string ⟨#[]⟩, .int .i64 (k : Int)] 42) := ⟨_, rfl⟩
  go_enter Tryd.func22, Tryd.ntmps22
  go_wp2_with (first | (go_at_call 30; (with_reducible refine (HL.out _).mono ?_); rintro e w' ⟨rfl, rfl⟩) | (go_at_call 33; (with_reducible refine (HD.out _).mono ?_); rintro e w' ⟨rfl, rfl⟩))
  obtain ⟨p0, p1, p2, p3, p4, p5⟩ := cell_of_six B0.out.bp
  obtain ⟨f0, f1, f2, f3, f4, f5⟩ := free_of_six B0.out.bp
  obtain ⟨q0, q1, q2, q3, q4, q5⟩ := cell_of_six B0.out.bq
  obtain ⟨g0, g1, g2, g3, g4, g5⟩ := free_of_six B0.out.bq
  generalize (w.alloc (.cells #[.int .i64 0, .string ⟨#[]⟩, .int .i64 0, .int .i64 0, .string ⟨#[]⟩, .int .i64 0] 42)).alloc (.cells #[.int .i64 0, .string ⟨#[]⟩, .int .i64 0, .int .i64 0, .string ⟨#[]⟩, .int .i64 (k : Int)] 42) = W0 at B0 p0 p1 p2 p3 p4 p5 f0 f1 f2 f3 f4 f5 q0 q1 q2 q3 q4 q5 g0 g1 g2 g3 g4 g5 ⊢
  go_region_law (fail)
  have B1 := Lib.hid ((B0.out.setKT 4 X).drew)
  clear p0 p1 p2 p3 p4 p5 f0 f1 f2 f3 f4 f5 q0 q1 q2 q3 q4 q5 g0 g1 g2 g3 g4 g5
  generalize ((W0.setCell ⟨w.heap.size + 1, 0, none⟩ (.int .i64 4)).setCell ⟨w.heap.size + 1, 1, none⟩ (.string X)).drew = W1 at B1 ⊢
  obtain ⟨p0, p1, p2, p3, p4, p5⟩ := cell_of_six B1.out.bp
  obtain ⟨f0, f1, f2, f3, f4, f5⟩ := free_of_six B1.out.bp
  obtain ⟨q0, q1, q2, q3, q4, q5⟩ := cell_of_six B1.out.bq
  obtain ⟨g0, g1, g2, g3, g4, g5⟩ := free_of_six B1.out.bq
  simp only [zT] at q0 q1 q2 q3 q4 q5
  go_wp2_with fail
  go_region_law (first | (go_simp; go_at_call 17; (with_reducible refine (HS1.out _).mono ?_); rintro e w2 ⟨rfl, hb9⟩; have B2 := Lib.hid (B1.out.drew.call hb9); clear hb9; obtain ⟨p0, p1, p2, p3, p4, p5⟩ := cell_of_six B2.out.bp; obtain ⟨f0, f1, f2, f3, f4, f5⟩ := free_of_six B2.out.bp; obtain ⟨q0, q1, q2, q3, q4, q5⟩ := cell_of_six B2.out.bq; obtain ⟨g0, g1, g2, g3, g4, g5⟩ := free_of_six B2.out.bq; simp only [zT] at q0 q1 q2 q3 q4 q5))
  all_goals go_wp2
  all_goals
    have hbe := six_below B2.out.below (.int .i64 4) (.string X) (.int .i64 0) (.int .i64 0) (.string ⟨#[]⟩) (.int .i64 (k : Int))
    have hsx := six_set B2.out.bp (.int .i64 4) (.string X) (.int .i64 0) (.int .i64 0) (.string ⟨#[]⟩) (.int .i64 (k : Int))
    refine one_end (P := w.heap.size) (y := ⟨4, X, 0, 0, ⟨#[]⟩, k⟩) (ok := ok) rfl rfl rfl ?_ ?_
    · first | with_reducible exact drew_heap hsx | with_reducible exact hsx
    · exact ⟨HPP.out, by first | with_reducible exact hbe.drew | with_reducible exact hbe⟩
set_option maxRecDepth 100000 in
set_option maxHeartbeats 3200000 in
theorem r5one_mie (s : ByteArray) (hs : s.size ≤ 140737488355328) (k : Nat) (hk : k < s.size) (o : Option Tok) (_ : Wd k (s.data.toList.drop k) o) (hlet : letB (s[k]'hk) = false) (hdig : digB (s[k]'hk) = false) (hq : (s[k]'hk) ≠ 34) (h45 : (s[k]'hk) = 45) (hk1 : ¬ k + 1 < s.size) (hpp : WordP o (.returned (.tuple #[tokV ⟨4, baL [s[k]'hk], 0, 0, ⟨#[]⟩, k⟩, .bool (symB [s[k]'hk])]))) (w : World) :
    Calls Tryd.prog 22 #[.string s, .int .i64 (k : Int)] w fun e w' => WordP o e ∧ Below w.heap.size w w' := by
  have hl := list_at s k hk
  have hlp := hk
  have HPP := Lib.hid hpp
  have HL := Lib.hid (fun w => r5letter_any (s[k]'hk) w)
  rw [hlet] at HL
  have HD := Lib.hid (fun w => r5digit_any (s[k]'hk) w)
  rw [hdig] at HD
  have b34 : (((s[k]'hk).toNat : Int) == 34) = false := by
    rw [Bool.eq_false_iff]; intro h; apply hq; exact UInt8.toNat_inj.1 (by simp at h; show _ = 34; omega)
  have b45 : (((s[k]'hk).toNat : Int) == 45) = true := by rw [h45]; rfl
  have hk1i : ¬ ((k : Int) + 1 < s.size) := by omega
  have hx1 : (s.extract k (k + 1)).data.toList = [s[k]'hk] := by
    rw [← Lib.toList_data, Lib.extract_toList, Nat.add_sub_cancel_left, hl]; rfl
  have HS1 := Lib.hid (fun w => r5Symbol_any (s.extract k (k + 1)) w)
  rw [hx1] at HS1
  have hsl1 : ∀ w : World, (Instr.slice 9 (.string s) (some (.int .i64 (k : Int))) (some (.int .i64 ((k : Int) + 1))) none).run Tryd.prog w = .ok (.string (s.extract k (k + 1))) w := fun w => by
    have h := run_slice_string (P := Tryd.prog) w 9 s .i64 .i64 (k : Int) ((k : Int) + 1) Tryd.underlying9 (by omega) (by omega) (by omega)
    rw [show (k : Int).toNat = k by omega, show ((k : Int) + 1).toNat = k + 1 by omega] at h
    exact h
  have hXX : s.extract k (k + 1) = baL [s[k]'hk] := ba_ext2 (by rw [Lib.toList_data, Lib.toList_data, hx1]; rfl)
  rw [hXX] at HS1 hsl1
  generalize symB [s[k]'hk] = ok at HPP HS1
  generalize baL [s[k]'hk] = X at HPP HS1 hsl1
  have hwk : IntKind.wrap .i64 ((k : Int) + 1) = (k : Int) + 1 := by rw [IntKind.wrap_i64]; omega
  have hwk2 : IntKind.wrap .i64 ((k : Int) + 2) = (k : Int) + 2 := by rw [IntKind.wrap_i64]; omega
  clear hl hlet hdig hq h45 hpp hlp hx1 hXX
  have B0 := Lib.hid (Lw.start2 w (k : Int))
  have hpn : w.heap.size ≠ w.heap.size + 1 := by omega
  have hqn : w.heap.size + 1 ≠ w.heap.size := by omega
  have hWW : ∃ W0, W0 = (w.alloc (.cells #[.int .i64 0, .string ⟨#[]⟩, .int .i64 0, .int .i64 0, .string ⟨#[]⟩, .int .i64 0] 42)).alloc (.cells #[.int .i64 0, .string ⟨#[]⟩, .int .i64 0, .int .i64 0, .string ⟨#[]⟩, .int .i64 (k : Int)] 42) := ⟨_, rfl⟩
  go_enter Tryd.func22, Tryd.ntmps22
  go_wp2_with (first | (go_at_call 30; (with_reducible refine (HL.out _).mono ?_); rintro e w' ⟨rfl, rfl⟩) | (go_at_call 33; (with_reducible refine (HD.out _).mono ?_); rintro e w' ⟨rfl, rfl⟩))
  obtain ⟨p0, p1, p2, p3, p4, p5⟩ := cell_of_six B0.out.bp
  obtain ⟨f0, f1, f2, f3, f4, f5⟩ := free_of_six B0.out.bp
  obtain ⟨q0, q1, q2, q3, q4, q5⟩ := cell_of_six B0.out.bq
  obtain ⟨g0, g1, g2, g3, g4, g5⟩ := free_of_six B0.out.bq
  generalize (w.alloc (.cells #[.int .i64 0, .string ⟨#[]⟩, .int .i64 0, .int .i64 0, .string ⟨#[]⟩, .int .i64 0] 42)).alloc (.cells #[.int .i64 0, .string ⟨#[]⟩, .int .i64 0, .int .i64 0, .string ⟨#[]⟩, .int .i64 (k : Int)] 42) = W0 at B0 p0 p1 p2 p3 p4 p5 f0 f1 f2 f3 f4 f5 q0 q1 q2 q3 q4 q5 g0 g1 g2 g3 g4 g5 ⊢
  go_region_law (fail)
  have B1 := Lib.hid ((B0.out.setKT 4 X).drew)
  clear p0 p1 p2 p3 p4 p5 f0 f1 f2 f3 f4 f5 q0 q1 q2 q3 q4 q5 g0 g1 g2 g3 g4 g5
  generalize ((W0.setCell ⟨w.heap.size + 1, 0, none⟩ (.int .i64 4)).setCell ⟨w.heap.size + 1, 1, none⟩ (.string X)).drew = W1 at B1 ⊢
  obtain ⟨p0, p1, p2, p3, p4, p5⟩ := cell_of_six B1.out.bp
  obtain ⟨f0, f1, f2, f3, f4, f5⟩ := free_of_six B1.out.bp
  obtain ⟨q0, q1, q2, q3, q4, q5⟩ := cell_of_six B1.out.bq
  obtain ⟨g0, g1, g2, g3, g4, g5⟩ := free_of_six B1.out.bq
  simp only [zT] at q0 q1 q2 q3 q4 q5
  go_wp2_with fail
  go_region_law (first | (go_simp; go_at_call 17; (with_reducible refine (HS1.out _).mono ?_); rintro e w2 ⟨rfl, hb9⟩; have B2 := Lib.hid (B1.out.drew.call hb9); clear hb9; obtain ⟨p0, p1, p2, p3, p4, p5⟩ := cell_of_six B2.out.bp; obtain ⟨f0, f1, f2, f3, f4, f5⟩ := free_of_six B2.out.bp; obtain ⟨q0, q1, q2, q3, q4, q5⟩ := cell_of_six B2.out.bq; obtain ⟨g0, g1, g2, g3, g4, g5⟩ := free_of_six B2.out.bq; simp only [zT] at q0 q1 q2 q3 q4 q5))
  all_goals go_wp2
  all_goals
    have hbe := six_below B2.out.below (.int .i64 4) (.string X) (.int .i64 0) (.int .i64 0) (.string ⟨#[]⟩) (.int .i64 (k : Int))
    have hsx := six_set B2.out.bp (.int .i64 4) (.string X) (.int .i64 0) (.int .i64 0) (.string ⟨#[]⟩) (.int .i64 (k : Int))
    refine one_end (P := w.heap.size) (y := ⟨4, X, 0, 0, ⟨#[]⟩, k⟩) (ok := ok) rfl rfl rfl ?_ ?_
    · first | with_reducible exact drew_heap hsx | with_reducible exact hsx
    · exact ⟨HPP.out, by first | with_reducible exact hbe.drew | with_reducible exact hbe⟩
set_option maxRecDepth 100000 in
set_option maxHeartbeats 3200000 in
theorem r5one_mi1 (s : ByteArray) (hs : s.size ≤ 140737488355328) (k : Nat) (hk : k < s.size) (o : Option Tok) (_ : Wd k (s.data.toList.drop k) o) (hlet : letB (s[k]'hk) = false) (hdig : digB (s[k]'hk) = false) (hq : (s[k]'hk) ≠ 34) (h45 : (s[k]'hk) = 45) (hk1 : k + 1 < s.size) (hd1 : digB (s[k + 1]'hk1) = false) (h2 : symB [s[k]'hk, s[k + 1]'hk1] = false) (hpp : WordP o (.returned (.tuple #[tokV ⟨4, baL [s[k]'hk], 0, 0, ⟨#[]⟩, k⟩, .bool (symB [s[k]'hk])]))) (w : World) :
    Calls Tryd.prog 22 #[.string s, .int .i64 (k : Int)] w fun e w' => WordP o e ∧ Below w.heap.size w w' := by
  have hl := list_at s k hk
  have hlp := hk
  have HPP := Lib.hid hpp
  have HL := Lib.hid (fun w => r5letter_any (s[k]'hk) w)
  rw [hlet] at HL
  have HD := Lib.hid (fun w => r5digit_any (s[k]'hk) w)
  rw [hdig] at HD
  have b34 : (((s[k]'hk).toNat : Int) == 34) = false := by
    rw [Bool.eq_false_iff]; intro h; apply hq; exact UInt8.toNat_inj.1 (by simp at h; show _ = 34; omega)
  have b45 : (((s[k]'hk).toNat : Int) == 45) = true := by rw [h45]; rfl
  have HD1 := Lib.hid (fun w => r5digit_any (s[k + 1]'hk1) w)
  rw [hd1] at HD1
  have hk1i : (k : Int) + 1 < s.size := by omega
  have hl1 := list_at s (k + 1) hk1
  have hx2 : (s.extract k (k + 2)).data.toList = [s[k]'hk, s[k + 1]'hk1] := by
    rw [← Lib.toList_data, Lib.extract_toList, Nat.add_sub_cancel_left, hl, hl1]; rfl
  have HS2 := Lib.hid (fun w => r5Symbol_any (s.extract k (k + 2)) w)
  rw [hx2, h2] at HS2
  have hsl2 : ∀ w : World, (Instr.slice 9 (.string s) (some (.int .i64 (k : Int))) (some (.int .i64 ((k : Int) + 2))) none).run Tryd.prog w = .ok (.string (s.extract k (k + 2))) w := fun w => by
    have h := run_slice_string (P := Tryd.prog) w 9 s .i64 .i64 (k : Int) ((k : Int) + 2) Tryd.underlying9 (by omega) (by omega) (by omega)
    rw [show (k : Int).toNat = k by omega, show ((k : Int) + 2).toNat = k + 2 by omega] at h
    exact h
  have hx1 : (s.extract k (k + 1)).data.toList = [s[k]'hk] := by
    rw [← Lib.toList_data, Lib.extract_toList, Nat.add_sub_cancel_left, hl]; rfl
  have HS1 := Lib.hid (fun w => r5Symbol_any (s.extract k (k + 1)) w)
  rw [hx1] at HS1
  have hsl1 : ∀ w : World, (Instr.slice 9 (.string s) (some (.int .i64 (k : Int))) (some (.int .i64 ((k : Int) + 1))) none).run Tryd.prog w = .ok (.string (s.extract k (k + 1))) w := fun w => by
    have h := run_slice_string (P := Tryd.prog) w 9 s .i64 .i64 (k : Int) ((k : Int) + 1) Tryd.underlying9 (by omega) (by omega) (by omega)
    rw [show (k : Int).toNat = k by omega, show ((k : Int) + 1).toNat = k + 1 by omega] at h
    exact h
  have hXX : s.extract k (k + 1) = baL [s[k]'hk] := ba_ext2 (by rw [Lib.toList_data, Lib.toList_data, hx1]; rfl)
  rw [hXX] at HS1 hsl1
  generalize symB [s[k]'hk] = ok at HPP HS1
  generalize baL [s[k]'hk] = X at HPP HS1 hsl1
  have hwk : IntKind.wrap .i64 ((k : Int) + 1) = (k : Int) + 1 := by rw [IntKind.wrap_i64]; omega
  have hwk2 : IntKind.wrap .i64 ((k : Int) + 2) = (k : Int) + 2 := by rw [IntKind.wrap_i64]; omega
  clear hl hlet hdig hq h45 hpp hlp hl1 hx2 h2 hx1 hXX hd1
  have B0 := Lib.hid (Lw.start2 w (k : Int))
  have hpn : w.heap.size ≠ w.heap.size + 1 := by omega
  have hqn : w.heap.size + 1 ≠ w.heap.size := by omega
  have hWW : ∃ W0, W0 = (w.alloc (.cells #[.int .i64 0, .string ⟨#[]⟩, .int .i64 0, .int .i64 0, .string ⟨#[]⟩, .int .i64 0] 42)).alloc (.cells #[.int .i64 0, .string ⟨#[]⟩, .int .i64 0, .int .i64 0, .string ⟨#[]⟩, .int .i64 (k : Int)] 42) := ⟨_, rfl⟩
  go_enter Tryd.func22, Tryd.ntmps22
  go_wp2_with (first | (go_at_call 30; (with_reducible refine (HL.out _).mono ?_); rintro e w' ⟨rfl, rfl⟩) | (go_at_call 33; (with_reducible refine (HD.out _).mono ?_); rintro e w' ⟨rfl, rfl⟩) | (go_at_call 33; (with_reducible refine (HD1.out _).mono ?_); rintro e w' ⟨rfl, rfl⟩) | (go_at_call 17; (with_reducible refine (HS2.out _).mono ?_); rintro e w' ⟨rfl, hb9⟩; have B0 := Lib.hid (B0.out.call hb9); clear hb9; obtain ⟨p0, p1, p2, p3, p4, p5⟩ := cell_of_six B0.out.bp; obtain ⟨f0, f1, f2, f3, f4, f5⟩ := free_of_six B0.out.bp; obtain ⟨q0, q1, q2, q3, q4, q5⟩ := cell_of_six B0.out.bq; obtain ⟨g0, g1, g2, g3, g4, g5⟩ := free_of_six B0.out.bq))
  obtain ⟨W0, hW0⟩ : ∃ W0, W0 = w' := ⟨_, rfl⟩
  rw [← hW0] at B0 p0 p1 p2 p3 p4 p5 f0 f1 f2 f3 f4 f5 q0 q1 q2 q3 q4 q5 g0 g1 g2 g3 g4 g5 ⊢
  clear hW0
  go_region_law (fail)
  have B1 := Lib.hid ((B0.out.setKT 4 X).drew)
  clear p0 p1 p2 p3 p4 p5 f0 f1 f2 f3 f4 f5 q0 q1 q2 q3 q4 q5 g0 g1 g2 g3 g4 g5
  generalize ((W0.setCell ⟨w.heap.size + 1, 0, none⟩ (.int .i64 4)).setCell ⟨w.heap.size + 1, 1, none⟩ (.string X)).drew = W1 at B1 ⊢
  obtain ⟨p0, p1, p2, p3, p4, p5⟩ := cell_of_six B1.out.bp
  obtain ⟨f0, f1, f2, f3, f4, f5⟩ := free_of_six B1.out.bp
  obtain ⟨q0, q1, q2, q3, q4, q5⟩ := cell_of_six B1.out.bq
  obtain ⟨g0, g1, g2, g3, g4, g5⟩ := free_of_six B1.out.bq
  simp only [zT] at q0 q1 q2 q3 q4 q5
  go_wp2_with fail
  go_region_law (first | (go_simp; go_at_call 17; (with_reducible refine (HS1.out _).mono ?_); rintro e w2 ⟨rfl, hb9⟩; have B2 := Lib.hid (B1.out.drew.call hb9); clear hb9; obtain ⟨p0, p1, p2, p3, p4, p5⟩ := cell_of_six B2.out.bp; obtain ⟨f0, f1, f2, f3, f4, f5⟩ := free_of_six B2.out.bp; obtain ⟨q0, q1, q2, q3, q4, q5⟩ := cell_of_six B2.out.bq; obtain ⟨g0, g1, g2, g3, g4, g5⟩ := free_of_six B2.out.bq; simp only [zT] at q0 q1 q2 q3 q4 q5))
  all_goals go_wp2
  all_goals
    have hbe := six_below B2.out.below (.int .i64 4) (.string X) (.int .i64 0) (.int .i64 0) (.string ⟨#[]⟩) (.int .i64 (k : Int))
    have hsx := six_set B2.out.bp (.int .i64 4) (.string X) (.int .i64 0) (.int .i64 0) (.string ⟨#[]⟩) (.int .i64 (k : Int))
    refine one_end (P := w.heap.size) (y := ⟨4, X, 0, 0, ⟨#[]⟩, k⟩) (ok := ok) rfl rfl rfl ?_ ?_
    · first | with_reducible exact drew_heap hsx | with_reducible exact hsx
    · exact ⟨HPP.out, by first | with_reducible exact hbe.drew | with_reducible exact hbe⟩
end Go.Proofs.YtdmdakkibgjffaaDoor
