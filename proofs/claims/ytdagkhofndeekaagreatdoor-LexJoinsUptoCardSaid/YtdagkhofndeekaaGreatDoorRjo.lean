/- Contract of the document's Join. -/
import Derived.Test.YtdagkhofndeekaaGreatDoorRck
import Derived.Test.YtdagkhofndeekaaGreatDoorLjo
import Derived.Lib.AppendStr
namespace Go.Proofs.YtdagkhofndeekaaGreatDoor
open Go Go.RowKit

theorem jn_snoc (t : Tok) : ∀ ts : List Tok, jn (ts ++ [t]) = if ts = [] then t.text.data.toList else jn ts ++ 32 :: t.text.data.toList
  | [] => rfl
  | [u] => by simp [jn]
  | u :: x :: r => by
    have ih := jn_snoc t (x :: r)
    rw [if_neg (by simp)] at ih ⊢
    show u.text.data.toList ++ 32 :: jn (x :: r ++ [t]) = (u.text.data.toList ++ 32 :: jn (x :: r)) ++ 32 :: t.text.data.toList
    rw [ih]; simp
theorem jn_take {ts : List Tok} {k : Nat} (hk : k < ts.length) : jn (ts.take (k + 1)) = if k = 0 then ts[k].text.data.toList else jn (ts.take k) ++ 32 :: ts[k].text.data.toList := by
  rw [List.take_succ_eq_append_getElem hk, jn_snoc]
  by_cases h : k = 0
  · subst h; simp
  · have hl : (ts.take k).length = k := by rw [List.length_take]; omega
    rw [if_neg h, if_neg (by intro he; rw [he] at hl; exact h hl.symm)]
theorem jn_take_le {ts : List Tok} {k : Nat} (hk : k < ts.length) : (jn (ts.take k)).length ≤ (jn (ts.take (k + 1))).length := by
  rw [jn_take hk]
  by_cases h : k = 0
  · subst h; simp [jn]
  · rw [if_neg h, List.length_append]; omega
theorem jn_take_all {ts : List Tok} : ∀ (m k : Nat), ts.length - k ≤ m → k ≤ ts.length → (jn (ts.take k)).length ≤ (jn ts).length
  | 0, k, hm, hk => by rw [List.take_of_length_le (by omega)]; exact Nat.le_refl _
  | m + 1, k, hm, hk => by
    by_cases h : k < ts.length
    · exact Nat.le_trans (jn_take_le h) (jn_take_all m (k + 1) (by omega) h)
    · rw [List.take_of_length_le (by omega)]; exact Nat.le_refl _
theorem own_later5 {w w' : World} {B e size n : Nat} {v : Value} {xs : List Value} (h : w.ownsRow B e size v n xs) (hb : Below w.heap.size w w') : w'.ownsRow B e size v n xs := by
  refine ⟨h.1, ?_⟩
  rcases h.2 with hn | ⟨g, cap, cur, rfl, hg, hgg, rest⟩
  · exact .inl hn
  · exact .inr ⟨g, cap, cur, rfl, hg, by rw [hb.block g (Array.getElem?_eq_some_iff.1 hgg).1]; exact hgg, rest⟩
theorem own_sl5 {w : World} {B e size n : Nat} {v : Value} {xs : List Value} (h : w.ownsRow B e size v n xs) : ∃ ao cap, v = .slice ao n cap := by
  rcases h.2 with ⟨rfl, h0⟩ | ⟨g, cap, cur, rfl, _⟩
  · exact ⟨none, 0, by rw [h0]⟩
  · exact ⟨_, _, rfl⟩
theorem infoB : (Tryz.prog.info? 5).map (fun i => (i.zero, i.size, i.bytes)) = some (some (.int .u8 0), 1, 1) := by kernel_rfl

set_option maxRecDepth 100000 in
set_option maxHeartbeats 4000000 in
theorem r5Join_any (ao : Option Addr) (cap : Nat) (ts : List Tok) (w : World) (hE : ErrV w) (hT : Tv w w.heap.size (.slice ao ts.length cap) ts) (hn : 64 * ts.length ≤ 140737488355328) (hsz : ∀ x ∈ ts, x.text.size ≤ 140737488355328) (hj : (jn ts).length ≤ 140737488355328) :
    Calls Tryz.prog 5 #[.slice ao ts.length cap] w fun e w' => JoinP ts e ∧ Below w.heap.size w w' := by
  have HT := Lib.hid hT; have HE := Lib.hid hE; have HZ := Lib.hid hsz; have HJ := Lib.hid hj; have HN := Lib.hid hn
  obtain ⟨i0, hi, hz0, hz1, hz2⟩ := info_parts infoB
  have HI := Lib.hid (And.intro hi (And.intro hz0 (And.intro hz1 hz2)))
  clear hT hE hsz hj hn hi hz0 hz1 hz2
  go_enter Tryz.func5, Tryz.ntmps5
  go_wp2_with fail
  go_loopw [4, 5, 6] (fun v lv iv wr => ∃ k : Nat, k ≤ ts.length ∧ iv = .int .i64 k ∧ lv = .bool (decide (4096 < (jn (ts.take k)).length)) ∧ Hid (∀ j (hj : j < ts.length), j < k → OkT ts[j]) ∧ Hid (Below w.heap.size w wr) ∧ Hid (wr.ownsRow w.heap.size 5 1 v (jn (ts.take k)).length (Lib.byteCells (jn (ts.take k))))) (fun _ _ iv _ => ts.length - (intOf iv).toNat)
  case atStart => exact ⟨0, Nat.zero_le _, rfl, rfl, Lib.hid (fun _ _ h => absurd h (Nat.not_lt_zero _)), Lib.hid (Below.refl _ _), Lib.hid (World.ownsRow_nil _ _ _ _)⟩
  case round =>
    obtain ⟨k, hk, rfl, rfl, HA, HB, HO⟩ := hrel
    by_cases hlt : k < ts.length
    · have hlti : (k : Int) < (ts.length : Int) := by omega
      have hls := wr_one6 hlt HN.out
      obtain ⟨g, a, rfl, hgl, d0, d1, d2, d3, d4, d5⟩ := (HT.out.later HB.out (Nat.le_refl _)).cells hlt
      have HDD := Lib.hid (fun (W : World) (h : Below w.heap.size w W) => ((HT.out.later h (Nat.le_refl _)).cells hlt))
      by_cases hok : OkT ts[k]
      · have HC := Lib.hid (fun w hE => r5Check_ok ts[k] hok w hE)
        have HA2 := Lib.hid (show ∀ j (hj : j < ts.length), j < k + 1 → OkT ts[j] from fun j hj h => by
          rcases Nat.lt_succ_iff_lt_or_eq.1 h with h | rfl
          · exact HA.out j hj h
          · exact hok)
        have HJT := Lib.hid (jn_take hlt)
        have hjl := jn_take_all (ts := ts) _ (k + 1) (Nat.le_refl _) hlt
        have HMO := Lib.hid (jn_take_le hlt)
        have hjj := HJ.out
        have hpos : 0 < ts[k].text.size := by rw [Lib.size_eq]; exact List.length_pos_iff.2 hok.2.1
        unfold tokV at HC
        obtain ⟨tx, htx⟩ : ∃ tx, tx = ts[k].text := ⟨_, rfl⟩
        rw [← htx] at HJT hpos d1
        simp only [← htx] at HDD HC
        obtain ⟨m, hm⟩ : ∃ m, m = (jn (ts.take k)).length := ⟨_, rfl⟩
        obtain ⟨xs, hxs⟩ : ∃ xs, xs = Lib.byteCells (jn (ts.take k)) := ⟨_, rfl⟩
        have HJL := Lib.hid (Nat.le_trans hjl hjj)
        rw [← hm, ← hxs] at HO
        have HW := HO
        clear HO; have HO := HW; clear HW
        by_cases hk0 : k = 0
        · have hq : (jn (ts.take (k + 1))).length = m + tx.size := by rw [hm, HJT.out, if_pos hk0, Lib.size_eq, hk0]; simp [jn]
          have hqx : Lib.byteCells (jn (ts.take (k + 1))) = xs ++ Go.Lib.strCells tx := by rw [hxs, HJT.out, if_pos hk0, hk0]; rfl
          have HBY := Lib.hid (show m + tx.size ≤ 140737488355328 by rw [← hq]; exact HJL.out)
          have hgt : ¬ (0 < k) := by omega
          have HOF := Lib.hid (fun (W : World) (v : Value) (h : W.ownsRow w.heap.size 5 1 v (m + tx.size) (xs ++ Go.Lib.strCells tx)) => (show Hid (W.ownsRow w.heap.size 5 1 v (jn (ts.take (k + 1))).length (Lib.byteCells (jn (ts.take (k + 1))))) from by rw [hq, hqx]; exact Lib.hid h))
          rw [← hm]
          by_cases hl : 4096 < m
          · have hd : decide (4096 < m) = true := by simpa using hl
            have HLN := Lib.hid (show decide (4096 < (jn (ts.take (k + 1))).length) = true by rw [hq]; simp; omega)
            rw [hd]
            clear hok hk hjl hjj hpos htx hk0 hq hqx hm hxs hl hd HJT HMO HJL
            go_wp2_with (first
                | (go_at_call 7; (with_reducible refine (HC.out _ (HE.out.keep HB.out)).mono ?_); rintro e w2 ⟨rfl, hb2⟩; have HB2 := Lib.hid (HB.out.trans (hb2.mono HB.out.size)); have HO2 := Lib.hid (own_later5 HO.out hb2); clear hb2; obtain ⟨g2, a2, he2, _, _, c1, _, _, _, _⟩ := HDD.out w2 HB2.out; cases he2)
                | (at_builtin; (refine Go.Lib.wpList_append_own_string _ rfl _ _ 37 9 rfl w.heap.size 5 i0 Tryz.underlying37 Tryz.underlying9 HI.out.1 HI.out.2.1 HI.out.2.2.1 HI.out.2.2.2 _ m xs rfl HO2.out tx rfl (Nat.le_trans HBY.out (by decide)) HBY.out HB2.out.size ?_; intro v4 w4 hown4 hgrow4 hnil4; clear hnil4; obtain ⟨ao4, cap4, rfl⟩ := own_sl5 hown4; have HO4 := Lib.hid hown4; have HB4 := Lib.hid (HB2.out.grown hgrow4 HB2.out.size (fun k h => (HO2.out.lt k h).1)); clear hown4 hgrow4)))
            go_roundw
            case rel => exact ⟨k + 1, hlt, by go_num, by rw [HLN.out], HA2, HB4, HOF.out _ _ HO4.out⟩
            case measure => first | exact meas_step hlt | (rw [hls]; exact meas_step hlt)
          · have hd : decide (4096 < m) = false := by simpa using hl
            have HLN := Lib.hid (show Value.bool (decide ((4096 : Int) < (((m + tx.size) : Nat) : Int))) = .bool (decide (4096 < (jn (ts.take (k + 1))).length)) by rw [hq]; congr 1; exact decide_eq_decide.2 (by omega))
            rw [hd]
            clear hok hk hjl hjj hpos htx hk0 hq hqx hm hxs hl hd HJT HMO HJL
            go_wp2_with (first
                | (go_at_call 7; (with_reducible refine (HC.out _ (HE.out.keep HB.out)).mono ?_); rintro e w2 ⟨rfl, hb2⟩; have HB2 := Lib.hid (HB.out.trans (hb2.mono HB.out.size)); have HO2 := Lib.hid (own_later5 HO.out hb2); clear hb2; obtain ⟨g2, a2, he2, _, _, c1, _, _, _, _⟩ := HDD.out w2 HB2.out; cases he2)
                | (at_builtin; (refine Go.Lib.wpList_append_own_string _ rfl _ _ 37 9 rfl w.heap.size 5 i0 Tryz.underlying37 Tryz.underlying9 HI.out.1 HI.out.2.1 HI.out.2.2.1 HI.out.2.2.2 _ m xs rfl HO2.out tx rfl (Nat.le_trans HBY.out (by decide)) HBY.out HB2.out.size ?_; intro v4 w4 hown4 hgrow4 hnil4; clear hnil4; obtain ⟨ao4, cap4, rfl⟩ := own_sl5 hown4; have HO4 := Lib.hid hown4; have HB4 := Lib.hid (HB2.out.grown hgrow4 HB2.out.size (fun k h => (HO2.out.lt k h).1)); clear hown4 hgrow4)))
            go_roundw
            case rel => exact ⟨k + 1, hlt, by go_num, HLN.out, HA2, HB4, HOF.out _ _ HO4.out⟩
            case measure => first | exact meas_step hlt | (rw [hls]; exact meas_step hlt)
        · have hq : (jn (ts.take (k + 1))).length = m + 1 + tx.size := by rw [hm, HJT.out, if_neg hk0, Lib.size_eq, List.length_append, List.length_cons]; omega
          have hqx : Lib.byteCells (jn (ts.take (k + 1))) = xs ++ [Value.int IntKind.u8 32] ++ Go.Lib.strCells tx := by rw [hxs, HJT.out, if_neg hk0]; unfold Lib.byteCells; rw [List.map_append, List.map_cons, List.append_assoc]; rfl
          have HBY := Lib.hid (show m + 1 + tx.size ≤ 140737488355328 by rw [← hq]; exact HJL.out)
          have HBY1 := Lib.hid (show m + 1 ≤ 140737488355328 by have := HBY.out; omega)
          have hgt : 0 < k := by omega
          have HOF := Lib.hid (fun (W : World) (v : Value) (h : W.ownsRow w.heap.size 5 1 v (m + 1 + tx.size) (xs ++ [Value.int IntKind.u8 32] ++ Go.Lib.strCells tx)) => (show Hid (W.ownsRow w.heap.size 5 1 v (jn (ts.take (k + 1))).length (Lib.byteCells (jn (ts.take (k + 1))))) from by rw [hq, hqx]; exact Lib.hid h))
          rw [← hm]
          by_cases hl : 4096 < m
          · have hd : decide (4096 < m) = true := by simpa using hl
            have HLN := Lib.hid (show decide (4096 < (jn (ts.take (k + 1))).length) = true by rw [hq]; simp; omega)
            rw [hd]
            clear hok hk hjl hjj hpos htx hk0 hq hqx hm hxs hl hd HJT HMO HJL
            go_wp2_with (first
                | (go_at_call 7; (with_reducible refine (HC.out _ (HE.out.keep HB.out)).mono ?_); rintro e w2 ⟨rfl, hb2⟩; have HB2 := Lib.hid (HB.out.trans (hb2.mono HB.out.size)); have HO2 := Lib.hid (own_later5 HO.out hb2); clear hb2; obtain ⟨g2, a2, he2, _, _, c1, _, _, _, _⟩ := HDD.out w2 HB2.out; cases he2)
                | (at_builtin; (refine wpList_append_own _ rfl _ _ 37 rfl w.heap.size 5 i0 (.int .u8 0) 1 1 Tryz.underlying37 HI.out.1 HI.out.2.1 HI.out.2.2.1 HI.out.2.2.2 rfl (by decide) _ m xs rfl (HO2.out.alloc _) ⟨w2.heap.size, 0, none⟩ 1 1 [.int .u8 32] rfl rfl (World.news_of_block (heap_alloc_new _ _)) (by intro u hu; simp at hu; subst hu; rfl) (Nat.le_trans HBY1.out (by decide)) (by rw [Nat.mul_one]; exact HBY1.out) (by have := HB2.out.size; simp; omega) ?_; intro v3 w3 hown3 hgrow3 hnil3; clear hnil3; obtain ⟨ao3, cap3, rfl⟩ := own_sl5 hown3; have HO3 := Lib.hid hown3; have HB3 := Lib.hid ((HB2.out.alloc HB2.out.size _).grown hgrow3 (by have := HB2.out.size; simp; omega) (fun k h => (HO2.out.lt k h).1)); clear hown3 hgrow3 c1; obtain ⟨g2, a2, he2, _, _, c1, _, _, _, _⟩ := HDD.out w3 HB3.out; cases he2))
                | (at_builtin; (refine Go.Lib.wpList_append_own_string _ rfl _ _ 37 9 rfl w.heap.size 5 i0 Tryz.underlying37 Tryz.underlying9 HI.out.1 HI.out.2.1 HI.out.2.2.1 HI.out.2.2.2 _ (m + 1) (xs ++ [Value.int IntKind.u8 32]) rfl HO3.out tx rfl (Nat.le_trans HBY.out (by decide)) HBY.out HB3.out.size ?_; intro v4 w4 hown4 hgrow4 hnil4; clear hnil4; obtain ⟨ao4, cap4, rfl⟩ := own_sl5 hown4; have HO4 := Lib.hid hown4; have HB4 := Lib.hid (HB3.out.grown hgrow4 HB3.out.size (fun k h => (HO3.out.lt k h).1)); clear hown4 hgrow4)))
            go_roundw
            case rel => exact ⟨k + 1, hlt, by go_num, by rw [HLN.out], HA2, HB4, HOF.out _ _ HO4.out⟩
            case measure => first | exact meas_step hlt | (rw [hls]; exact meas_step hlt)
          · have hd : decide (4096 < m) = false := by simpa using hl
            have HLN := Lib.hid (show Value.bool (decide ((4096 : Int) < (((m + 1 + tx.size) : Nat) : Int))) = .bool (decide (4096 < (jn (ts.take (k + 1))).length)) by rw [hq]; congr 1; exact decide_eq_decide.2 (by omega))
            rw [hd]
            clear hok hk hjl hjj hpos htx hk0 hq hqx hm hxs hl hd HJT HMO HJL
            go_wp2_with (first
                | (go_at_call 7; (with_reducible refine (HC.out _ (HE.out.keep HB.out)).mono ?_); rintro e w2 ⟨rfl, hb2⟩; have HB2 := Lib.hid (HB.out.trans (hb2.mono HB.out.size)); have HO2 := Lib.hid (own_later5 HO.out hb2); clear hb2; obtain ⟨g2, a2, he2, _, _, c1, _, _, _, _⟩ := HDD.out w2 HB2.out; cases he2)
                | (at_builtin; (refine wpList_append_own _ rfl _ _ 37 rfl w.heap.size 5 i0 (.int .u8 0) 1 1 Tryz.underlying37 HI.out.1 HI.out.2.1 HI.out.2.2.1 HI.out.2.2.2 rfl (by decide) _ m xs rfl (HO2.out.alloc _) ⟨w2.heap.size, 0, none⟩ 1 1 [.int .u8 32] rfl rfl (World.news_of_block (heap_alloc_new _ _)) (by intro u hu; simp at hu; subst hu; rfl) (Nat.le_trans HBY1.out (by decide)) (by rw [Nat.mul_one]; exact HBY1.out) (by have := HB2.out.size; simp; omega) ?_; intro v3 w3 hown3 hgrow3 hnil3; clear hnil3; obtain ⟨ao3, cap3, rfl⟩ := own_sl5 hown3; have HO3 := Lib.hid hown3; have HB3 := Lib.hid ((HB2.out.alloc HB2.out.size _).grown hgrow3 (by have := HB2.out.size; simp; omega) (fun k h => (HO2.out.lt k h).1)); clear hown3 hgrow3 c1; obtain ⟨g2, a2, he2, _, _, c1, _, _, _, _⟩ := HDD.out w3 HB3.out; cases he2))
                | (at_builtin; (refine Go.Lib.wpList_append_own_string _ rfl _ _ 37 9 rfl w.heap.size 5 i0 Tryz.underlying37 Tryz.underlying9 HI.out.1 HI.out.2.1 HI.out.2.2.1 HI.out.2.2.2 _ (m + 1) (xs ++ [Value.int IntKind.u8 32]) rfl HO3.out tx rfl (Nat.le_trans HBY.out (by decide)) HBY.out HB3.out.size ?_; intro v4 w4 hown4 hgrow4 hnil4; clear hnil4; obtain ⟨ao4, cap4, rfl⟩ := own_sl5 hown4; have HO4 := Lib.hid hown4; have HB4 := Lib.hid (HB3.out.grown hgrow4 HB3.out.size (fun k h => (HO3.out.lt k h).1)); clear hown4 hgrow4)))
            go_roundw
            case rel => exact ⟨k + 1, hlt, by go_num, HLN.out, HA2, HB4, HOF.out _ _ HO4.out⟩
            case measure => first | exact meas_step hlt | (rw [hls]; exact meas_step hlt)
      · have HC := Lib.hid (fun w hE => r5Check_no ts[k] (HZ.out _ (List.getElem_mem _)) hok w hE)
        have HNO := Lib.hid (show JoinP ts (.returned (.tuple #[.string ⟨#[]⟩, .int .i64 50])) from ⟨fun _ => rfl, fun h => absurd (h _ (List.getElem_mem hlt)) hok, fun h => absurd (h _ (List.getElem_mem hlt)) hok⟩)
        unfold tokV at HC
        generalize ts[k] = x at HC d0 d1 d2 d3 d4 d5
        clear hok hk HDD
        go_wp2_with (go_at_call 7; (with_reducible refine (HC.out _ (HE.out.keep HB.out)).mono ?_); rintro e w2 ⟨rfl, hb2⟩; have HG2 := Lib.hid (HB.out.trans (hb2.mono HB.out.size)); clear hb2)
        go_ret2
        exact ⟨HNO.out, HG2.out⟩
    · obtain rfl : k = ts.length := by omega
      have hall : ∀ x ∈ ts, OkT x := fun x hx => by
        obtain ⟨j, hj, rfl⟩ := List.getElem_of_mem hx
        exact HA.out j hj hj
      rw [List.take_length] at HO ⊢
      have HY := Lib.hid (show ∀ e, ((jn ts).length ≤ 4096 → e = .returned (.tuple #[.string (baL (jn ts)), .int .i64 0])) → (4096 < (jn ts).length → e = .returned (.tuple #[.string ⟨#[]⟩, .int .i64 3])) → JoinP ts e from fun e h1 h2 => ⟨fun ⟨x, hx, hn⟩ => absurd (hall x hx) hn, fun _ => h1, fun _ => h2⟩)
      have hcv : (convert 37 9 _).run Tryz.prog wr = .ok (.string (baL (jn ts))) wr := conv_cells HO.out rfl
      generalize baL (jn ts) = X at hcv HY
      generalize (jn ts).length = m at HY HO ⊢
      have HOO := HO
      clear hall hk HO
      by_cases hl : 4096 < m
      · have hd : decide (4096 < m) = true := by simpa using hl
        rw [hd]
        have HL := Lib.hid hl
        clear hd hl
        go_wp2
        go_ret2
        exact ⟨HY.out _ (fun h => absurd h (Nat.not_le_of_lt HL.out)) (fun _ => rfl), HB.out⟩
      · have hd : decide (4096 < m) = false := by simpa using hl
        rw [hd]
        have HL := Lib.hid hl
        clear hd hl
        go_wp2
        go_ret2
        exact ⟨HY.out _ (fun _ => rfl) (fun h => absurd h HL.out), HB.out⟩
end Go.Proofs.YtdagkhofndeekaaGreatDoor
