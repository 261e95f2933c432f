/- The walk of LexBack. -/
import Derived.Test.YtdmdakkibgjffaaDoorLjo
namespace Go.Proofs.YtdmdakkibgjffaaDoor
open Go Go.RowKit

/-- Words in a row that is written: from the i-th on they lie there as they are. -/
def Mv (w : World) (g : Nat) (L : List Tok) (i : Nat) : Prop := ∃ cs : Array Value, w.heap[g]? = some (.cells cs 42 (0, 0)) ∧ ∀ (j : Nat) (hj : j < L.length), i ≤ j → ∀ (q : Nat) (u : Value), (encT L[j])[q]? = some u → cs[j * 6 + q]? = some u
theorem Mv.of_row {w : World} {base g n cap : Nat} {L : List Tok} (h : w.ownsRow base 42 6 (.slice (some ⟨g, 0, none⟩) n cap) n (L.flatMap encT)) : Mv w g L 0 := by
  rcases h.2 with ⟨h0, _⟩ | ⟨g', cap', cur, h0, hb, hgg, _⟩
  · cases h0
  · cases h0
    refine ⟨cur, hgg, fun j hj _ q u hu => ?_⟩
    have := row_cell h _ _ (flat_six hj q u hu)
    simpa [World.cell?, hgg] using this
theorem Mv.lt {w : World} {g : Nat} {L : List Tok} {i : Nat} (h : Mv w g L i) : g < w.heap.size := by obtain ⟨cs, h1, _⟩ := h; exact (Array.getElem?_eq_some_iff.1 h1).1
theorem Mv.cells {w : World} {g : Nat} {L : List Tok} {i : Nat} (h : Mv w g L i) (hi : i < L.length) :
    w.cell? ⟨g, i * 6, none⟩ = some (.int .i64 L[i].kind) ∧ w.cell? ⟨g, i * 6 + 1, none⟩ = some (.string L[i].text) ∧ w.cell? ⟨g, i * 6 + 2, none⟩ = some (.int .i64 L[i].vk) ∧ w.cell? ⟨g, i * 6 + 3, none⟩ = some (.int .i64 L[i].vn) ∧ w.cell? ⟨g, i * 6 + 4, none⟩ = some (.string L[i].vs) ∧ w.cell? ⟨g, i * 6 + 5, none⟩ = some (.int .i64 L[i].pl) ∧ w.frozen? ⟨g, i * 6 + 5, none⟩ = false := by
  obtain ⟨cs, h1, h2⟩ := h
  have hx := fun (q : Nat) (u : Value) (hu : (encT L[i])[q]? = some u) => h2 i hi (Nat.le_refl _) q u hu
  refine ⟨?_, ?_, ?_, ?_, ?_, ?_, ?_⟩
  · simp only [World.cell?, h1]; exact hx 0 _ rfl
  · simp only [World.cell?, h1]; exact hx 1 _ rfl
  · simp only [World.cell?, h1]; exact hx 2 _ rfl
  · simp only [World.cell?, h1]; exact hx 3 _ rfl
  · simp only [World.cell?, h1]; exact hx 4 _ rfl
  · simp only [World.cell?, h1]; exact hx 5 _ rfl
  · simp [World.frozen?, h1]
theorem Mv.step {w : World} {g : Nat} {L : List Tok} {i : Nat} (h : Mv w g L i) (v : Value) : Mv (w.setCell ⟨g, i * 6 + 5, none⟩ v) g L (i + 1) := by
  obtain ⟨cs, h1, h2⟩ := h
  refine ⟨cs.setIfInBounds (i * 6 + 5) v, heap_setCell_same h1 _, fun j hj hij q u hu => ?_⟩
  rw [Array.getElem?_setIfInBounds_ne (by omega)]
  exact h2 j hj (by omega) q u hu
theorem Mv.drew {w : World} {g : Nat} {L : List Tok} {i : Nat} (h : Mv w g L i) : Mv w.drew g L i := h
theorem placed_at : ∀ (ts : List Tok) (p i : Nat) (hi : i < ts.length), ∃ q : Nat, (placed p ts)[i]? = some { ts[i] with pl := (q : Int) }
  | t :: r, p, 0, _ => ⟨p, rfl⟩
  | t :: r, p, i + 1, hi => by
    obtain ⟨q, hq⟩ := placed_at r (p + t.text.size + 1) i (by simpa using hi)
    exact ⟨q, by simpa [placed] using hq⟩
theorem nx_jn {ts : List Tok} (h : ∀ x ∈ ts, OkT x) : nx (jn ts) 0 = 0 ∧ Wds (jn ts) 0 (placed 0 ts) (jn ts).length := by
  cases ts with
  | nil => exact ⟨by unfold nx; rfl, Wds.fin⟩
  | cons t r =>
    obtain ⟨h1, h2, _⟩ := h t (by simp)
    obtain ⟨c, q, he, hb, h35⟩ := jn_head (r := r) h1 h2
    refine ⟨by rw [he]; exact nx_at [] c q hb h35, ?_⟩
    have := jn_words (t :: r) [] (by simp) (fun x hx => ⟨(h x hx).1, (h x hx).2.1⟩)
    simpa using this

set_option maxRecDepth 100000 in
set_option maxHeartbeats 6400000 in
theorem back5_walk (ao : Option Addr) (cap : Nat) (ts : List Tok) (s : ByteArray) (hs : s.size ≤ 140737488355328) (w : World) (hE : ErrV w) (hT : Tv w w.heap.size (.slice ao ts.length cap) ts) (hn : 64 * ts.length ≤ 140737488355328) (hsz : ∀ x ∈ ts, x.text.size ≤ 140737488355328) (hj : (jn ts).length ≤ 140737488355328) :
    Calls Tryd.prog 5 #[.slice ao ts.length cap, .string s] w fun e w' => e = .returned (.bool true) ∧ Below w.heap.size w w' := by
  have HJ := Lib.hid (lJoin_any ao cap ts w hE hT hn hsz hj)
  obtain ⟨ts2, en2, hw2⟩ := Wds.all s.data.toList
  have hsl : s.data.toList.length = s.size := (Lib.size_eq s).symm
  have hen : en2 ≤ s.size := by rw [← hsl]; exact hw2.le.2
  have hlen2 : ts2.length ≤ s.size := by rw [← hsl]; exact Nat.le_trans (Nat.le_add_right _ _) hw2.len
  have H2 := Lib.hid (fun w hE => (lScan_any s hs ts2 en2 hw2 w hE).mono fun e w' h => h.uni hen)
  have HTL := Lib.hid (sT_len (en := en2) hlen2)
  have HOK := Lib.hid (show ∀ x ∈ sT s ts2 en2, OkT x from fun x hx => by
    unfold sT at hx
    by_cases hl : 4096 < s.size
    · rw [if_pos hl] at hx; cases hx
    · rw [if_neg hl] at hx
      by_cases hf : en2 < s.size
      · rw [if_pos hf] at hx; cases hx
      · rw [if_neg hf] at hx
        have hm := hw2.mem x hx
        refine ⟨hw2.alone x hx, fun he => ?_, by omega⟩
        have h1 := hm.2.1
        rw [Lib.size_eq, he] at h1; simp at h1)
  generalize sT s ts2 en2 = T2 at H2 HTL HOK
  generalize sP s en2 = P2 at H2
  generalize sE s en2 = E2 at H2
  have HE := Lib.hid hE; have HT := Lib.hid hT; have HN := Lib.hid hn
  have HJL := Lib.hid hj
  clear hw2 hsl hen hlen2 hE hT hn hsz hs hj
  by_cases hE2 : E2 = 0
  · subst hE2
    by_cases hall : ∀ x ∈ ts, OkT x
    · obtain ⟨hz0, hw1⟩ := nx_jn hall
      by_cases hl : (jn ts).length ≤ 4096
      · have HJ2 := Lib.hid (HJ.out.mono (R' := fun e w' => e = .returned (.tuple #[.string (baL (jn ts)), .int .i64 0]) ∧ Below w.heap.size w w') (fun e w' h => ⟨h.1.2.1 hall hl, h.2⟩))
        have hXs : (baL (jn ts)).size = (jn ts).length := baL_size _
        have HS1 := Lib.hid (fun w hE => (lScan_any (baL (jn ts)) (by rw [hXs]; omega) (placed 0 ts) (jn ts).length (by show Wds (jn ts) (nx (jn ts) 0) _ _; rw [hz0]; exact hw1) w hE).mono (R' := fun e w' => ∃ ao cap, e = .returned (.tuple #[.slice ao ts.length cap, .int .i64 0, .int .i64 0]) ∧ w'.ownsRow w.heap.size 42 6 (.slice ao ts.length cap) ts.length ((placed 0 ts).flatMap encT) ∧ Below w.heap.size w w') (fun e w' h => by
          obtain ⟨v, he, hrow⟩ := h.2.2.1 (by rw [hXs]; exact hl) hXs.symm
          rw [placed_len] at hrow
          rcases hrow.2 with ⟨rfl, h0⟩ | ⟨g, cp, cur, rfl, _⟩
          · have h1 : ts = [] := List.length_eq_zero_iff.1 h0
            subst h1
            exact ⟨none, 0, he, hrow, h.2.2.2⟩
          · exact ⟨_, _, he, hrow, h.2.2.2⟩))
        have HPL := Lib.hid (fun i hi => placed_at ts 0 i hi)
        have HLL := Lib.hid (placed_len 0 ts)
        generalize placed 0 ts = L at HS1 HPL HLL
        generalize baL (jn ts) = X at HJ2 HS1
        clear hall hz0 hw1 hl hXs
        go_enter Tryd.func5, Tryd.ntmps5
        go_wp2_with (first
          | (go_at_call 18; (with_reducible refine HJ2.out.mono ?_); rintro e w1 ⟨rfl, hb1⟩; have HB := Lib.hid hb1; clear hb1)
          | (go_at_call 7; (with_reducible refine (HS1.out _ (HE.out.keep HB.out)).mono ?_); rintro e w3 ⟨ao3, cap3, rfl, ho3, hb3⟩; have HB3 := Lib.hid (HB.out.trans (hb3.mono HB.out.size)); have HGE := Lib.hid (Nat.le_trans HB.out.size (Nat.le_refl _)); have HO3 := Lib.hid (row_base ho3 HB.out.size); clear ho3 hb3))
        go_loopw [40, 10] (fun iv _ wr => ∃ i : Nat, i ≤ ts.length ∧ iv = .int .i64 i ∧ Hid (Below w.heap.size w wr) ∧ Hid (∀ g a, ao3 = some ⟨g, a, none⟩ → a = 0 ∧ w.heap.size ≤ g ∧ Mv wr g L i)) (fun iv _ _ => ts.length - (intOf iv).toNat)
        case atStart =>
          refine ⟨0, Nat.zero_le _, rfl, HB3, Lib.hid (fun g a hga => ?_)⟩
          have hro := HO3.out
          rcases hro.2 with ⟨h0, _⟩ | ⟨g', cp, cur, h0, hbs, _⟩
          · cases hga; cases h0
          · cases hga; cases h0
            exact ⟨rfl, hbs, Mv.of_row hro⟩
        case round =>
          obtain ⟨i, hi, rfl, HB, HM⟩ := hrel
          by_cases hlt : i < ts.length
          · have hlti : (i : Int) < (ts.length : Int) := by omega
            have hls := wr_one6 hlt HN.out
            obtain ⟨q, hq⟩ := HPL.out i hlt
            obtain ⟨g, cp, hsl, hgw, _⟩ := HO3.out.form (Nat.lt_of_le_of_lt (Nat.zero_le _) hlt)
            obtain rfl : ao3 = some ⟨g, 0, none⟩ := by cases hsl; rfl
            obtain ⟨_, hgge, hM⟩ := HM.out g 0 rfl
            obtain ⟨hLi, hLe⟩ := List.getElem?_eq_some_iff.1 hq
            obtain ⟨m0, m1, m2, m3, m4, m5, mf⟩ := hM.cells hLi
            rw [hLe] at m0 m1 m2 m3 m4 m5
            simp only at m0 m1 m2 m3 m4 m5
            obtain ⟨g2, a2, rfl, hg2, c0, c1, c2, c3, c4, c5⟩ := (HT.out.later HB.out (Nat.le_refl _)).cells hlt
            have hne : g2 ≠ g := by omega
            have hne2 : g ≠ g2 := by omega
            have he := fun w => tNe_run ts[i] ts[i] w
            have hgd := fun (op : BinOp) (a b : Operand) (w : World) => tGuard op a b ts[i] ts[i] w
            simp only [tEq_refl, Bool.not_true] at he
            have HMS := Lib.hid (fun v => hM.step v)
            have HBS := Lib.hid (fun v => HB.out.setCell (p := ⟨g, i * 6 + 5, none⟩) hgge v)
            have HGG := Lib.hid hgge
            generalize ts[i] = x at he hgd m0 m1 m2 m3 m4 m5 c0 c1 c2 c3 c4 c5
            clear hq hsl hgw hM hLi hLe hg2 hi hgge
            go_wp2_with fail
            go_region
            all_goals go_wp2
            all_goals go_roundw
            all_goals first
              | exact ⟨i + 1, hlt, by go_num, Lib.hid (by first | exact (HBS.out _).drew | exact HBS.out _), Lib.hid (fun g' a' h => by cases h; exact ⟨rfl, HGG.out, by first | exact (HMS.out _).drew | exact HMS.out _⟩)⟩
              | (rw [hls]; exact meas_step hlt)
          · obtain rfl : i = ts.length := by omega
            have hnl : ¬ ((ts.length : Int) < (ts.length : Int)) := by omega
            clear hlt hi
            go_wp2_with (first | (go_at_call 7; (with_reducible refine (H2.out _ (HE.out.keep HB.out)).mono ?_); rintro e w5 ⟨ao2, cap2, rfl, ht5, hb5⟩; have HB := Lib.hid (HB.out.trans (hb5.mono HB.out.size)); have HT2 := Lib.hid ht5; clear ht5 hb5))
            go_loopw [72] (fun iv wr => ∃ i : Nat, i ≤ T2.length ∧ iv = .int .i64 i ∧ Hid (Below w5.heap.size w5 wr) ∧ Hid (Tv wr w5.heap.size (.slice ao2 T2.length cap2) T2)) (fun iv _ => T2.length - (intOf iv).toNat)
            case atStart => exact ⟨0, Nat.zero_le _, rfl, Lib.hid (Below.refl _ _), HT2⟩
            case round =>
              obtain ⟨i, hi, rfl, HC7, HT7⟩ := hrel
              have HB := Lib.hid (HB.out.trans (HC7.out.mono HB.out.size))
              by_cases hlt : i < T2.length
              · have hlti : (i : Int) < (T2.length : Int) := by omega
                have hls := wr_one6 hlt (by have := HTL.out; omega)
                obtain ⟨g, a, rfl, _, d0, d1, d2, d3, d4, d5⟩ := HT7.out.cells hlt
                have HC := Lib.hid (fun w hE => lCheck_ok T2[i] (HOK.out _ (List.getElem_mem hlt)) w hE)
                have HB9 := Lib.hid (HB.out.alloc HB.out.size (.cells #[.int .i64 T2[i].kind, .string T2[i].text, .int .i64 T2[i].vk, .int .i64 T2[i].vn, .string T2[i].vs, .int .i64 T2[i].pl] 42))
                have HC9 := Lib.hid (HC7.out.alloc HC7.out.size (.cells #[.int .i64 T2[i].kind, .string T2[i].text, .int .i64 T2[i].vk, .int .i64 T2[i].vn, .string T2[i].vs, .int .i64 T2[i].pl] 42))
                have HT9 := Lib.hid (HT7.out.later ((Below.refl wr.heap.size wr).alloc (Nat.le_refl _) (.cells #[.int .i64 T2[i].kind, .string T2[i].text, .int .i64 T2[i].vk, .int .i64 T2[i].vn, .string T2[i].vs, .int .i64 T2[i].pl] 42)) HC7.out.size)
                unfold tokV at HC
                generalize T2[i] = x at HC HB9 HC9 HT9 d0 d1 d2 d3 d4 d5
                clear hi
                go_wp2_with (go_at_call 19; (with_reducible refine (HC.out _ (HE.out.keep HB9.out)).mono ?_); rintro e w8 ⟨rfl, hb8⟩; have HC8 := Lib.hid (HC9.out.trans (hb8.mono HC9.out.size)); have HT8 := Lib.hid (HT9.out.later hb8 HC9.out.size); clear hb8)
                go_roundw
                case rel => exact ⟨i + 1, hlt, by go_num, HC8, HT8⟩
                case measure => rw [hls]; exact meas_step hlt
              · obtain rfl : i = T2.length := by omega
                have hnl : ¬ ((T2.length : Int) < (T2.length : Int)) := by omega
                clear hlt hi
                go_wp2_with (go_at_call 9; (with_reducible refine (live5_any _ (HE.out.keep HB.out)).mono ?_); rintro e w6 ⟨rfl, hb6⟩; have HB := Lib.hid (HB.out.trans (hb6.mono HB.out.size)); clear hb6)
                go_ret
                exact ⟨rfl, HB.out⟩
      · have HJ2 := Lib.hid (HJ.out.mono (R' := fun e w' => e = .returned (.tuple #[.string ⟨#[]⟩, .int .i64 3]) ∧ Below w.heap.size w w') (fun e w' h => ⟨h.1.2.2 hall (by omega), h.2⟩))
        clear hall hz0 hw1 hl
        go_enter Tryd.func5, Tryd.ntmps5
        go_wp2_with (first | (go_at_call 18; (with_reducible refine HJ2.out.mono ?_); rintro e w1 ⟨rfl, hb1⟩; have HB := Lib.hid hb1; clear hb1) | (go_at_call 7; (with_reducible refine (H2.out _ (HE.out.keep HB.out)).mono ?_); rintro e w5 ⟨ao2, cap2, rfl, ht5, hb5⟩; have HB := Lib.hid (HB.out.trans (hb5.mono HB.out.size)); have HT2 := Lib.hid ht5; clear ht5 hb5))
        go_loopw [72] (fun iv wr => ∃ i : Nat, i ≤ T2.length ∧ iv = .int .i64 i ∧ Hid (Below w5.heap.size w5 wr) ∧ Hid (Tv wr w5.heap.size (.slice ao2 T2.length cap2) T2)) (fun iv _ => T2.length - (intOf iv).toNat)
        case atStart => exact ⟨0, Nat.zero_le _, rfl, Lib.hid (Below.refl _ _), HT2⟩
        case round =>
          obtain ⟨i, hi, rfl, HC7, HT7⟩ := hrel
          have HB := Lib.hid (HB.out.trans (HC7.out.mono HB.out.size))
          by_cases hlt : i < T2.length
          · have hlti : (i : Int) < (T2.length : Int) := by omega
            have hls := wr_one6 hlt (by have := HTL.out; omega)
            obtain ⟨g, a, rfl, _, d0, d1, d2, d3, d4, d5⟩ := HT7.out.cells hlt
            have HC := Lib.hid (fun w hE => lCheck_ok T2[i] (HOK.out _ (List.getElem_mem hlt)) w hE)
            have HB9 := Lib.hid (HB.out.alloc HB.out.size (.cells #[.int .i64 T2[i].kind, .string T2[i].text, .int .i64 T2[i].vk, .int .i64 T2[i].vn, .string T2[i].vs, .int .i64 T2[i].pl] 42))
            have HC9 := Lib.hid (HC7.out.alloc HC7.out.size (.cells #[.int .i64 T2[i].kind, .string T2[i].text, .int .i64 T2[i].vk, .int .i64 T2[i].vn, .string T2[i].vs, .int .i64 T2[i].pl] 42))
            have HT9 := Lib.hid (HT7.out.later ((Below.refl wr.heap.size wr).alloc (Nat.le_refl _) (.cells #[.int .i64 T2[i].kind, .string T2[i].text, .int .i64 T2[i].vk, .int .i64 T2[i].vn, .string T2[i].vs, .int .i64 T2[i].pl] 42)) HC7.out.size)
            unfold tokV at HC
            generalize T2[i] = x at HC HB9 HC9 HT9 d0 d1 d2 d3 d4 d5
            clear hi
            go_wp2_with (go_at_call 19; (with_reducible refine (HC.out _ (HE.out.keep HB9.out)).mono ?_); rintro e w8 ⟨rfl, hb8⟩; have HC8 := Lib.hid (HC9.out.trans (hb8.mono HC9.out.size)); have HT8 := Lib.hid (HT9.out.later hb8 HC9.out.size); clear hb8)
            go_roundw
            case rel => exact ⟨i + 1, hlt, by go_num, HC8, HT8⟩
            case measure => rw [hls]; exact meas_step hlt
          · obtain rfl : i = T2.length := by omega
            have hnl : ¬ ((T2.length : Int) < (T2.length : Int)) := by omega
            clear hlt hi
            go_wp2_with (go_at_call 9; (with_reducible refine (live5_any _ (HE.out.keep HB.out)).mono ?_); rintro e w6 ⟨rfl, hb6⟩; have HB := Lib.hid (HB.out.trans (hb6.mono HB.out.size)); clear hb6)
            go_ret
            exact ⟨rfl, HB.out⟩
    · have HJ2 := Lib.hid (HJ.out.mono (R' := fun e w' => e = .returned (.tuple #[.string ⟨#[]⟩, .int .i64 50]) ∧ Below w.heap.size w w') (fun e w' h => ⟨h.1.1 (by simpa using hall), h.2⟩))
      clear hall
      go_enter Tryd.func5, Tryd.ntmps5
      go_wp2_with (first | (go_at_call 18; (with_reducible refine HJ2.out.mono ?_); rintro e w1 ⟨rfl, hb1⟩; have HB := Lib.hid hb1; clear hb1) | (go_at_call 7; (with_reducible refine (H2.out _ (HE.out.keep HB.out)).mono ?_); rintro e w5 ⟨ao2, cap2, rfl, ht5, hb5⟩; have HB := Lib.hid (HB.out.trans (hb5.mono HB.out.size)); have HT2 := Lib.hid ht5; clear ht5 hb5))
      go_loopw [72] (fun iv wr => ∃ i : Nat, i ≤ T2.length ∧ iv = .int .i64 i ∧ Hid (Below w5.heap.size w5 wr) ∧ Hid (Tv wr w5.heap.size (.slice ao2 T2.length cap2) T2)) (fun iv _ => T2.length - (intOf iv).toNat)
      case atStart => exact ⟨0, Nat.zero_le _, rfl, Lib.hid (Below.refl _ _), HT2⟩
      case round =>
        obtain ⟨i, hi, rfl, HC7, HT7⟩ := hrel
        have HB := Lib.hid (HB.out.trans (HC7.out.mono HB.out.size))
        by_cases hlt : i < T2.length
        · have hlti : (i : Int) < (T2.length : Int) := by omega
          have hls := wr_one6 hlt (by have := HTL.out; omega)
          obtain ⟨g, a, rfl, _, d0, d1, d2, d3, d4, d5⟩ := HT7.out.cells hlt
          have HC := Lib.hid (fun w hE => lCheck_ok T2[i] (HOK.out _ (List.getElem_mem hlt)) w hE)
          have HB9 := Lib.hid (HB.out.alloc HB.out.size (.cells #[.int .i64 T2[i].kind, .string T2[i].text, .int .i64 T2[i].vk, .int .i64 T2[i].vn, .string T2[i].vs, .int .i64 T2[i].pl] 42))
          have HC9 := Lib.hid (HC7.out.alloc HC7.out.size (.cells #[.int .i64 T2[i].kind, .string T2[i].text, .int .i64 T2[i].vk, .int .i64 T2[i].vn, .string T2[i].vs, .int .i64 T2[i].pl] 42))
          have HT9 := Lib.hid (HT7.out.later ((Below.refl wr.heap.size wr).alloc (Nat.le_refl _) (.cells #[.int .i64 T2[i].kind, .string T2[i].text, .int .i64 T2[i].vk, .int .i64 T2[i].vn, .string T2[i].vs, .int .i64 T2[i].pl] 42)) HC7.out.size)
          unfold tokV at HC
          generalize T2[i] = x at HC HB9 HC9 HT9 d0 d1 d2 d3 d4 d5
          clear hi
          go_wp2_with (go_at_call 19; (with_reducible refine (HC.out _ (HE.out.keep HB9.out)).mono ?_); rintro e w8 ⟨rfl, hb8⟩; have HC8 := Lib.hid (HC9.out.trans (hb8.mono HC9.out.size)); have HT8 := Lib.hid (HT9.out.later hb8 HC9.out.size); clear hb8)
          go_roundw
          case rel => exact ⟨i + 1, hlt, by go_num, HC8, HT8⟩
          case measure => rw [hls]; exact meas_step hlt
        · obtain rfl : i = T2.length := by omega
          have hnl : ¬ ((T2.length : Int) < (T2.length : Int)) := by omega
          clear hlt hi
          go_wp2_with (go_at_call 9; (with_reducible refine (live5_any _ (HE.out.keep HB.out)).mono ?_); rintro e w6 ⟨rfl, hb6⟩; have HB := Lib.hid (HB.out.trans (hb6.mono HB.out.size)); clear hb6)
          go_ret
          exact ⟨rfl, HB.out⟩
  · have hbe : (E2 == 0) = false := by simpa using hE2
    clear hE2
    by_cases hall : ∀ x ∈ ts, OkT x
    · obtain ⟨hz0, hw1⟩ := nx_jn hall
      by_cases hl : (jn ts).length ≤ 4096
      · have HJ2 := Lib.hid (HJ.out.mono (R' := fun e w' => e = .returned (.tuple #[.string (baL (jn ts)), .int .i64 0]) ∧ Below w.heap.size w w') (fun e w' h => ⟨h.1.2.1 hall hl, h.2⟩))
        have hXs : (baL (jn ts)).size = (jn ts).length := baL_size _
        have HS1 := Lib.hid (fun w hE => (lScan_any (baL (jn ts)) (by rw [hXs]; omega) (placed 0 ts) (jn ts).length (by show Wds (jn ts) (nx (jn ts) 0) _ _; rw [hz0]; exact hw1) w hE).mono (R' := fun e w' => ∃ ao cap, e = .returned (.tuple #[.slice ao ts.length cap, .int .i64 0, .int .i64 0]) ∧ w'.ownsRow w.heap.size 42 6 (.slice ao ts.length cap) ts.length ((placed 0 ts).flatMap encT) ∧ Below w.heap.size w w') (fun e w' h => by
          obtain ⟨v, he, hrow⟩ := h.2.2.1 (by rw [hXs]; exact hl) hXs.symm
          rw [placed_len] at hrow
          rcases hrow.2 with ⟨rfl, h0⟩ | ⟨g, cp, cur, rfl, _⟩
          · have h1 : ts = [] := List.length_eq_zero_iff.1 h0
            subst h1
            exact ⟨none, 0, he, hrow, h.2.2.2⟩
          · exact ⟨_, _, he, hrow, h.2.2.2⟩))
        have HPL := Lib.hid (fun i hi => placed_at ts 0 i hi)
        have HLL := Lib.hid (placed_len 0 ts)
        generalize placed 0 ts = L at HS1 HPL HLL
        generalize baL (jn ts) = X at HJ2 HS1
        clear hall hz0 hw1 hl hXs
        go_enter Tryd.func5, Tryd.ntmps5
        go_wp2_with (first
          | (go_at_call 18; (with_reducible refine HJ2.out.mono ?_); rintro e w1 ⟨rfl, hb1⟩; have HB := Lib.hid hb1; clear hb1)
          | (go_at_call 7; (with_reducible refine (HS1.out _ (HE.out.keep HB.out)).mono ?_); rintro e w3 ⟨ao3, cap3, rfl, ho3, hb3⟩; have HB3 := Lib.hid (HB.out.trans (hb3.mono HB.out.size)); have HGE := Lib.hid (Nat.le_trans HB.out.size (Nat.le_refl _)); have HO3 := Lib.hid (row_base ho3 HB.out.size); clear ho3 hb3))
        go_loopw [40, 10] (fun iv _ wr => ∃ i : Nat, i ≤ ts.length ∧ iv = .int .i64 i ∧ Hid (Below w.heap.size w wr) ∧ Hid (∀ g a, ao3 = some ⟨g, a, none⟩ → a = 0 ∧ w.heap.size ≤ g ∧ Mv wr g L i)) (fun iv _ _ => ts.length - (intOf iv).toNat)
        case atStart =>
          refine ⟨0, Nat.zero_le _, rfl, HB3, Lib.hid (fun g a hga => ?_)⟩
          have hro := HO3.out
          rcases hro.2 with ⟨h0, _⟩ | ⟨g', cp, cur, h0, hbs, _⟩
          · cases hga; cases h0
          · cases hga; cases h0
            exact ⟨rfl, hbs, Mv.of_row hro⟩
        case round =>
          obtain ⟨i, hi, rfl, HB, HM⟩ := hrel
          by_cases hlt : i < ts.length
          · have hlti : (i : Int) < (ts.length : Int) := by omega
            have hls := wr_one6 hlt HN.out
            obtain ⟨q, hq⟩ := HPL.out i hlt
            obtain ⟨g, cp, hsl, hgw, _⟩ := HO3.out.form (Nat.lt_of_le_of_lt (Nat.zero_le _) hlt)
            obtain rfl : ao3 = some ⟨g, 0, none⟩ := by cases hsl; rfl
            obtain ⟨_, hgge, hM⟩ := HM.out g 0 rfl
            obtain ⟨hLi, hLe⟩ := List.getElem?_eq_some_iff.1 hq
            obtain ⟨m0, m1, m2, m3, m4, m5, mf⟩ := hM.cells hLi
            rw [hLe] at m0 m1 m2 m3 m4 m5
            simp only at m0 m1 m2 m3 m4 m5
            obtain ⟨g2, a2, rfl, hg2, c0, c1, c2, c3, c4, c5⟩ := (HT.out.later HB.out (Nat.le_refl _)).cells hlt
            have hne : g2 ≠ g := by omega
            have hne2 : g ≠ g2 := by omega
            have he := fun w => tNe_run ts[i] ts[i] w
            have hgd := fun (op : BinOp) (a b : Operand) (w : World) => tGuard op a b ts[i] ts[i] w
            simp only [tEq_refl, Bool.not_true] at he
            have HMS := Lib.hid (fun v => hM.step v)
            have HBS := Lib.hid (fun v => HB.out.setCell (p := ⟨g, i * 6 + 5, none⟩) hgge v)
            have HGG := Lib.hid hgge
            generalize ts[i] = x at he hgd m0 m1 m2 m3 m4 m5 c0 c1 c2 c3 c4 c5
            clear hq hsl hgw hM hLi hLe hg2 hi hgge
            go_wp2_with fail
            go_region
            all_goals go_wp2
            all_goals go_roundw
            all_goals first
              | exact ⟨i + 1, hlt, by go_num, Lib.hid (by first | exact (HBS.out _).drew | exact HBS.out _), Lib.hid (fun g' a' h => by cases h; exact ⟨rfl, HGG.out, by first | exact (HMS.out _).drew | exact HMS.out _⟩)⟩
              | (rw [hls]; exact meas_step hlt)
          · obtain rfl : i = ts.length := by omega
            have hnl : ¬ ((ts.length : Int) < (ts.length : Int)) := by omega
            clear hlt hi
            go_wp2_with (first | (go_at_call 7; (with_reducible refine (H2.out _ (HE.out.keep HB.out)).mono ?_); rintro e w5 ⟨ao2, cap2, rfl, ht5, hb5⟩; have HB := Lib.hid (HB.out.trans (hb5.mono HB.out.size)); have HT2 := Lib.hid ht5; clear ht5 hb5) | (go_at_call 9; (with_reducible refine (live5_any _ (HE.out.keep HB.out)).mono ?_); rintro e w6 ⟨rfl, hb6⟩; have HB := Lib.hid (HB.out.trans (hb6.mono HB.out.size)); clear hb6))
            go_ret
            exact ⟨rfl, HB.out⟩
      · have HJ2 := Lib.hid (HJ.out.mono (R' := fun e w' => e = .returned (.tuple #[.string ⟨#[]⟩, .int .i64 3]) ∧ Below w.heap.size w w') (fun e w' h => ⟨h.1.2.2 hall (by omega), h.2⟩))
        clear hall hz0 hw1 hl
        go_enter Tryd.func5, Tryd.ntmps5
        go_wp2_with (first | (go_at_call 18; (with_reducible refine HJ2.out.mono ?_); rintro e w1 ⟨rfl, hb1⟩; have HB := Lib.hid hb1; clear hb1) | (go_at_call 7; (with_reducible refine (H2.out _ (HE.out.keep HB.out)).mono ?_); rintro e w5 ⟨ao2, cap2, rfl, ht5, hb5⟩; have HB := Lib.hid (HB.out.trans (hb5.mono HB.out.size)); have HT2 := Lib.hid ht5; clear ht5 hb5) | (go_at_call 9; (with_reducible refine (live5_any _ (HE.out.keep HB.out)).mono ?_); rintro e w6 ⟨rfl, hb6⟩; have HB := Lib.hid (HB.out.trans (hb6.mono HB.out.size)); clear hb6))
        go_ret
        exact ⟨rfl, HB.out⟩
    · have HJ2 := Lib.hid (HJ.out.mono (R' := fun e w' => e = .returned (.tuple #[.string ⟨#[]⟩, .int .i64 50]) ∧ Below w.heap.size w w') (fun e w' h => ⟨h.1.1 (by simpa using hall), h.2⟩))
      clear hall
      go_enter Tryd.func5, Tryd.ntmps5
      go_wp2_with (first | (go_at_call 18; (with_reducible refine HJ2.out.mono ?_); rintro e w1 ⟨rfl, hb1⟩; have HB := Lib.hid hb1; clear hb1) | (go_at_call 7; (with_reducible refine (H2.out _ (HE.out.keep HB.out)).mono ?_); rintro e w5 ⟨ao2, cap2, rfl, ht5, hb5⟩; have HB := Lib.hid (HB.out.trans (hb5.mono HB.out.size)); have HT2 := Lib.hid ht5; clear ht5 hb5) | (go_at_call 9; (with_reducible refine (live5_any _ (HE.out.keep HB.out)).mono ?_); rintro e w6 ⟨rfl, hb6⟩; have HB := Lib.hid (HB.out.trans (hb6.mono HB.out.size)); clear hb6))
      go_ret
      exact ⟨rfl, HB.out⟩
end Go.Proofs.YtdmdakkibgjffaaDoor
