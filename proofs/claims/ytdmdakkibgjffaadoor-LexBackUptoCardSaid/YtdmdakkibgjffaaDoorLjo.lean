/- Contract of the program's Join. -/
import Derived.Test.YtdmdakkibgjffaaDoorLck
import Derived.Test.YtdmdakkibgjffaaDoorShelf4
import Derived.Deep.OwnRows
namespace Go.Proofs.YtdmdakkibgjffaaDoor
open Go Go.RowKit Go.Shelf

theorem jn_join : ∀ ts : List Tok, jn ts = Lib.join (ts.map fun t => t.text.data.toList) [32]
  | [] => rfl
  | [t] => by rw [List.map_cons, List.map_nil, Lib.join_one]; rfl
  | t :: u :: r => by
    have ih := jn_join (u :: r)
    rw [List.map_cons, Lib.join_cons] at ih ⊢
    show t.text.data.toList ++ 32 :: jn (u :: r) = _
    rw [ih, List.map_cons]
    simp [Lib.joinTail]
theorem lJoinX : Builder.Extra Tryd.prog Tryd.lJoin_ren := {
  sizeBuilder := by kernel_rfl
  liesBuilder := by kernel_rfl
  t5 := Tryd.underlying5
  a5 := Tryd.isAgg5
  z5 := Tryd.sizeOf5
  v5 := Tryd.zeroValue5
  infoByte := by kernel_rfl
  cellsByte := by kernel_rfl
  sizeByte := by kernel_rfl
  neB5 := by decide }
theorem strJoin_any (bk c : Nat) (xs : List ByteArray) (w : World) (hcells : ∀ (j : Nat) x, xs[j]? = some x → w.cell? ⟨bk, j, none⟩ = some (.string x)) (hbk : bk < w.heap.size) (hN : xs.length ≤ 140737488355328) (hcap : xs.length ≤ c)
    (hlen : (Lib.join (xs.map (·.data.toList)) [32]).length ≤ 140737488355328) :
    Calls Tryd.prog 28 #[.slice (some ⟨bk, 0, none⟩) xs.length c, .string ⟨#[32]⟩] w fun e w' => e = .returned (.string ⟨(Lib.join (xs.map (·.data.toList)) [32]).toArray⟩) ∧ Below w.heap.size w w' :=
  Any.strings_Join Tryd.lJoin lJoinX bk 0 c xs ⟨#[32]⟩ w (fun j x h => by rw [Nat.zero_add]; exact hcells j x h) hbk hN hcap hlen

theorem meas_step {k n : Nat} (h : k < n) : n - ((k : Int) + 1).toNat < n - ((k : Nat) : Int).toNat := by omega
theorem wr_one6 {k n : Nat} (h : k < n) (hN : 64 * n ≤ 140737488355328) : wrap64 ((k : Int) + 1) = (k : Int) + 1 := by unfold wrap64; omega
/-- How things stand in Join: the first k texts lie in the row B. -/
structure Jn (w0 : World) (B : Nat) (ts : List Tok) (k : Nat) (w : World) : Prop where
  below : Below w0.heap.size w0 w
  ge : w0.heap.size ≤ B
  row : ∃ cs : Array Value, w.heap[B]? = some (.cells cs 9 (0, 0)) ∧ cs.size = ts.length ∧ ∀ j (hj : j < ts.length), j < k → cs[j]? = some (.string ts[j].text)
theorem Jn.lt {w0 : World} {B : Nat} {ts : List Tok} {k : Nat} {w : World} (h : Jn w0 B ts k w) : B < w.heap.size := by
  obtain ⟨cs, h1, _⟩ := h.row; exact (Array.getElem?_eq_some_iff.1 h1).1
theorem Jn.call {w0 : World} {B : Nat} {ts : List Tok} {k : Nat} {w w' : World} (h : Jn w0 B ts k w) (hb : Below w.heap.size w w') : Jn w0 B ts k w' := by
  obtain ⟨cs, h1, h2, h3⟩ := h.row
  exact ⟨h.below.trans (hb.mono h.below.size), h.ge, cs, (hb.block B h.lt).trans h1, h2, h3⟩
theorem Jn.start (w : World) (ts : List Tok) : Jn w w.heap.size ts 0 (w.alloc (.cells (madeCells #[.string ⟨#[]⟩] ts.length) 9)) :=
  ⟨(Below.refl _ _).alloc (Nat.le_refl _) _, Nat.le_refl _, _, heap_alloc_new _ _, size_madeCells _ _, fun _ _ h => absurd h (Nat.not_lt_zero _)⟩
theorem Jn.set {w0 : World} {B : Nat} {ts : List Tok} {k : Nat} {w : World} (h : Jn w0 B ts k w) (hk : k < ts.length) : Jn w0 B ts (k + 1) (w.setCell ⟨B, k, none⟩ (.string ts[k].text)) := by
  obtain ⟨cs, h1, h2, h3⟩ := h.row
  refine ⟨h.below.setCell (p := ⟨B, k, none⟩) h.ge _, h.ge, cs.setIfInBounds k (.string ts[k].text), heap_setCell_same h1 _, by simpa using h2, fun j hj hjk => ?_⟩
  rcases Nat.lt_succ_iff_lt_or_eq.1 hjk with h4 | rfl
  · rw [Array.getElem?_setIfInBounds_ne (by omega)]; exact h3 j hj h4
  · rw [Array.getElem?_setIfInBounds_self_of_lt (by omega)]
theorem Jn.cell {w0 : World} {B : Nat} {ts : List Tok} {k : Nat} {w : World} (h : Jn w0 B ts k w) (hk : k < ts.length) : (∃ u, w.cell? ⟨B, k, none⟩ = some u) ∧ w.frozen? ⟨B, k, none⟩ = false := by
  obtain ⟨cs, h1, h2, _⟩ := h.row
  constructor
  · simp only [World.cell?, h1]
    exact ⟨_, Array.getElem?_eq_getElem (by omega)⟩
  · simp [World.frozen?, h1]
theorem Jn.texts {w0 : World} {B : Nat} {ts : List Tok} {w : World} (h : Jn w0 B ts ts.length w) : ∀ (j : Nat) x, (ts.map Tok.text)[j]? = some x → w.cell? ⟨B, j, none⟩ = some (.string x) := fun j x hx => by
  obtain ⟨cs, h1, h2, h3⟩ := h.row
  rw [List.getElem?_map] at hx
  obtain ⟨t, ht, rfl⟩ := Option.map_eq_some_iff.1 hx
  obtain ⟨hj, rfl⟩ := List.getElem?_eq_some_iff.1 ht
  simp only [World.cell?, h1]
  exact h3 j hj hj

/-- What Join answers. -/
def JoinP (ts : List Tok) (e : Ending) : Prop :=
  ((∃ x ∈ ts, ¬ OkT x) → e = .returned (.tuple #[.string ⟨#[]⟩, .int .i64 50])) ∧
  ((∀ x ∈ ts, OkT x) → (jn ts).length ≤ 4096 → e = .returned (.tuple #[.string (baL (jn ts)), .int .i64 0])) ∧
  ((∀ x ∈ ts, OkT x) → 4096 < (jn ts).length → e = .returned (.tuple #[.string ⟨#[]⟩, .int .i64 3]))

set_option maxRecDepth 100000 in
set_option maxHeartbeats 4000000 in
theorem lJoin_any (ao : Option Addr) (cap : Nat) (ts : List Tok) (w : World) (hE : ErrV w) (hT : Tv w w.heap.size (.slice ao ts.length cap) ts) (hn : 64 * ts.length ≤ 140737488355328) (hsz : ∀ x ∈ ts, x.text.size ≤ 140737488355328) (hj : (jn ts).length ≤ 140737488355328) :
    Calls Tryd.prog 18 #[.slice ao ts.length cap] w fun e w' => JoinP ts e ∧ Below w.heap.size w w' := by
  have hmk : ∀ w : World, (Instr.makeSlice 51 (.int .i64 (ts.length : Int)) (.int .i64 (ts.length : Int))).run Tryd.prog w = .ok (.slice (some ⟨w.heap.size, 0, none⟩) ts.length ts.length) (w.alloc (.cells (madeCells #[.string ⟨#[]⟩] ts.length) 9)) := run_make_row' (P := Tryd.prog) 51 9 (.string ⟨#[]⟩) 16 Tryd.underlying51 (by kernel_rfl) rfl .i64 .i64 ts.length (by omega) (by omega)
  have J0 := Lib.hid (Jn.start w ts)
  have HT := Lib.hid hT; have HE := Lib.hid hE; have HZ := Lib.hid hsz; have HJ := Lib.hid hj; have HN := Lib.hid hn
  clear hT hE hsz hj hn
  go_enter Tryd.func18, Tryd.ntmps18
  go_wp2_with fail
  go_loopw [14] (fun iv wr => ∃ k : Nat, k ≤ ts.length ∧ iv = .int .i64 k ∧ Hid (∀ j (hj : j < ts.length), j < k → OkT ts[j]) ∧ Hid (Jn w w.heap.size ts k wr)) (fun iv _ => ts.length - (intOf iv).toNat)
  case atStart => exact ⟨0, Nat.zero_le _, rfl, Lib.hid (fun _ _ h => absurd h (Nat.not_lt_zero _)), J0⟩
  case round =>
    obtain ⟨k, hk, rfl, HA, HB⟩ := hrel
    by_cases hlt : k < ts.length
    · have hlti : (k : Int) < (ts.length : Int) := by omega
      have hls := wr_one6 hlt HN.out
      obtain ⟨g, a, rfl, hgl, d0, d1, d2, d3, d4, d5⟩ := (HT.out.later HB.out.below (Nat.le_refl _)).cells hlt
      have HGB := Lib.hid (HB.out.call ((Below.refl _ _).alloc (Nat.le_refl _) (.cells #[.int .i64 ts[k].kind, .string ts[k].text, .int .i64 ts[k].vk, .int .i64 ts[k].vn, .string ts[k].vs, .int .i64 ts[k].pl] 42)))
      have HQ := Lib.hid (heap_alloc_new wr (.cells #[.int .i64 ts[k].kind, .string ts[k].text, .int .i64 ts[k].vk, .int .i64 ts[k].vn, .string ts[k].vs, .int .i64 ts[k].pl] 42))
      have HLT := Lib.hid HB.out.lt
      by_cases hok : OkT ts[k]
      · have HC := Lib.hid (fun w hE => lCheck_ok ts[k] hok w hE)
        have HA2 := Lib.hid (show ∀ j (hj : j < ts.length), j < k + 1 → OkT ts[j] from fun j hj h => by
          rcases Nat.lt_succ_iff_lt_or_eq.1 h with h | rfl
          · exact HA.out j hj h
          · exact hok)
        have HST := Lib.hid (fun (W : World) (h : Jn w w.heap.size ts k W) => h.set hlt)
        have HCE := Lib.hid (fun (W : World) (h : Jn w w.heap.size ts k W) => h.cell hlt)
        unfold tokV at HC
        generalize ts[k] = x at HC HGB HQ HST d0 d1 d2 d3 d4 d5
        clear hok hk
        go_wp2_with (go_at_call 19; (with_reducible refine (HC.out _ (HE.out.keep HGB.out.below)).mono ?_); rintro e w2 ⟨rfl, hb2⟩; have HG2 := Lib.hid (HGB.out.call hb2); have hq2 := (hb2.block wr.heap.size (by simp)).trans HQ.out; obtain ⟨_, c1, _, _, _, _⟩ := cell_of_six hq2; obtain ⟨⟨u, cu⟩, cf⟩ := HCE.out _ HG2.out; clear hb2 hq2)
        have HG3 := Lib.hid (HST.out _ HG2.out)
        go_roundw
        case rel => exact ⟨k + 1, hlt, by go_num, HA2, HG3⟩
        case measure => rw [hls]; exact meas_step hlt
      · have HC := Lib.hid (fun w hE => lCheck_no ts[k] (HZ.out _ (List.getElem_mem _)) hok w hE)
        have HNO := Lib.hid (show JoinP ts (.returned (.tuple #[.string ⟨#[]⟩, .int .i64 50])) from ⟨fun _ => rfl, fun h => absurd (h _ (List.getElem_mem hlt)) hok, fun h => absurd (h _ (List.getElem_mem hlt)) hok⟩)
        unfold tokV at HC
        generalize ts[k] = x at HC HGB HQ d0 d1 d2 d3 d4 d5
        clear hok hk
        go_wp2_with (go_at_call 19; (with_reducible refine (HC.out _ (HE.out.keep HGB.out.below)).mono ?_); rintro e w2 ⟨rfl, hb2⟩; have HG2 := Lib.hid (HGB.out.call hb2); clear hb2)
        go_ret2
        exact ⟨HNO.out, HG2.out.below⟩
    · obtain rfl : k = ts.length := by omega
      have hall : ∀ x ∈ ts, OkT x := fun x hx => by
        obtain ⟨j, hj, rfl⟩ := List.getElem_of_mem hx
        exact HA.out j hj hj
      have hmap : (ts.map Tok.text).map (·.data.toList) = ts.map fun t => t.text.data.toList := by rw [List.map_map]; rfl
      have hjl : (Lib.join ((ts.map Tok.text).map (·.data.toList)) [32]).length ≤ 140737488355328 := by rw [hmap, ← jn_join]; exact HJ.out
      have hJJ := strJoin_any w.heap.size ts.length (ts.map Tok.text) wr HB.out.texts HB.out.lt (by rw [List.length_map]; have := HN.out; omega) (by rw [List.length_map]; exact Nat.le_refl _) hjl
      rw [hmap, ← jn_join, List.length_map] at hJJ
      have HJJ := Lib.hid hJJ
      have HS := Lib.hid (fun w => lIsLong_any (baL (jn ts)) w)
      have hsz : (baL (jn ts)).size = (jn ts).length := baL_size _
      have HY := Lib.hid (show ∀ e, ((jn ts).length ≤ 4096 → e = .returned (.tuple #[.string (baL (jn ts)), .int .i64 0])) → (4096 < (jn ts).length → e = .returned (.tuple #[.string ⟨#[]⟩, .int .i64 3])) → JoinP ts e from fun e h1 h2 => ⟨fun ⟨x, hx, hn⟩ => absurd (hall x hx) hn, fun _ => h1, fun _ => h2⟩)
      show _
      change Hid (Calls Tryd.prog 28 #[.slice (some ⟨w.heap.size, 0, none⟩) ts.length ts.length, .string ⟨#[32]⟩] wr fun e w' => e = .returned (.string (baL (jn ts))) ∧ Below wr.heap.size wr w') at HJJ
      generalize (jn ts).length = m at hsz HY
      generalize baL (jn ts) = X at HJJ HS HY hsz
      clear hall hmap hjl hJJ hk
      by_cases hl : m ≤ 4096
      · have hd : decide ((4096 : Int) < (X.size : Int)) = false := by simp; omega
        rw [hd] at HS
        have HL := Lib.hid hl
        clear hd hl hsz
        go_wp2_with (first
          | (go_at_call 28; (with_reducible refine HJJ.out.mono ?_); rintro e w2 ⟨rfl, hb2⟩; have HG2 := Lib.hid (HB.out.below.trans (hb2.mono HB.out.below.size)); clear hb2)
          | (go_at_call 21; (with_reducible refine (HS.out _).mono ?_); rintro e w3 ⟨rfl, rfl⟩))
        go_ret2
        exact ⟨HY.out _ (fun _ => rfl) (fun h => absurd h (by have := HL.out; omega)), HG2.out⟩
      · have hd : decide ((4096 : Int) < (X.size : Int)) = true := by simp; omega
        rw [hd] at HS
        have HL := Lib.hid hl
        clear hd hl hsz
        go_wp2_with (first
          | (go_at_call 28; (with_reducible refine HJJ.out.mono ?_); rintro e w2 ⟨rfl, hb2⟩; have HG2 := Lib.hid (HB.out.below.trans (hb2.mono HB.out.below.size)); clear hb2)
          | (go_at_call 21; (with_reducible refine (HS.out _).mono ?_); rintro e w3 ⟨rfl, rfl⟩))
        go_ret2
        exact ⟨HY.out _ (fun h => absurd h HL.out) (fun _ => rfl), HG2.out⟩
end Go.Proofs.YtdmdakkibgjffaaDoor
