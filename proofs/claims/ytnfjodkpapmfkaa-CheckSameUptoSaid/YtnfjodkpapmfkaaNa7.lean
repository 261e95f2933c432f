/- Sets of names: the program's maps. -/
import Derived.Test.YtnfjodkpapmfkaaSp7
import Derived.Test.YtnfjodkpapmfkaaIter
import Derived.Maps.RangeWalk
import Derived.Maps.OwnSet
import Derived.StringKeys
import Derived.Laws.IdiomRangeMap
namespace Go.Proofs.Ytnfjodkpapmfkaa
open Go Go.RowKit Go.Maps Go.Sort Go.WideMaps

theorem lawS : Keyed Try.prog 9 := string_keyed Try.underlying9
theorem zeroU (w : World) : (zeroValue 98).run Try.prog w = .ok (.agg #[]) w := by kernel_rfl
theorem eqNm_some (b : Nat) (w : World) : (binOp .eql 76 (.map (some b)) (.map none)).run Try.prog w = .ok (.bool false) w := by kernel_rfl
theorem eqNm_none (w : World) : (binOp .eql 76 (.map none) (.map none)).run Try.prog w = .ok (.bool true) w := by kernel_rfl
/-- A value is a set with the names S (some may stand there twice). -/
def StV (w : World) (m : Option Nat) (S : List Nm) : Prop :=
  (m = none ∧ S = []) ∨ ∃ b D, m = some b ∧ w.ownsMap Try.prog 9 (unitElem (H := Unit)) b S.length D ∧ ∀ x, Maps.has D (.string x) = decide (x ∈ S)
theorem StV.nil (w : World) : StV w none [] := .inl ⟨rfl, rfl⟩
theorem StV.block {w w' : World} {m : Option Nat} {S : List Nm} (h : StV w m S) (hk : ∀ b, m = some b → w'.heap[b]? = w.heap[b]?) : StV w' m S := by
  rcases h with h | ⟨b, D, rfl, ⟨es, c, h1, h2⟩, h3⟩
  · exact .inl h
  · exact .inr ⟨b, D, rfl, ⟨es, c, (hk b rfl).trans h1, h2⟩, h3⟩
theorem StV.lt {w : World} {m : Option Nat} {S : List Nm} (h : StV w m S) : ∀ b, m = some b → b < w.heap.size := by
  rintro b rfl
  rcases h with ⟨h, _⟩ | ⟨b, D, hb, h1, _⟩
  · cases h
  · cases hb; exact h1.lt
theorem StV.chg {w w' : World} {F : Nat → Prop} {m : Option Nat} {S : List Nm} (h : StV w m S) (hc : Chg F w w') (hF : ∀ b, m = some b → ¬ F b) : StV w' m S :=
  h.block fun b hb => hc.block b (h.lt b hb) (hF b hb)
theorem StV.below {w w' : World} {m : Option Nat} {S : List Nm} (h : StV w m S) (hb : Below w.heap.size w w') : StV w' m S :=
  h.block fun b hm => hb.block b (h.lt b hm)
theorem StV.drewN {w : World} {m : Option Nat} {S : List Nm} (h : StV w m S) (n : Nat) : StV (w.drewN n) m S := h
theorem Chg.grown7 {F : Nat → Prop} {a w w' : World} (h : Chg F a w) {r : Option Nat} (hg : w.grownBy w' r) (hF : ∀ b, r = some b → F b ∨ a.heap.size ≤ b) : Chg F a w' :=
  ⟨hg.os.trans h.os, hg.tape.trans h.tape, hg.output.trans h.output, Nat.le_trans h.size hg.size, fun k hk hf => (hg.block k (Nat.lt_of_lt_of_le hk h.size) (fun e => by rcases hF k e.symm with h1 | h1 <;> first | exact hf h1 | omega)).trans (h.block k hk hf)⟩
theorem hasPut {D : DataW Unit} (hD : IsMap D) {x : Nm} {S : List Nm} (h : ∀ y, Maps.has D (.string y) = decide (y ∈ S)) (y : Nm) : Maps.has (D.put (.string x) (.agg [])) (.string y) = decide (y ∈ S ++ [x]) := by
  by_cases e : y = x
  · subst e
    rw [Maps.has_put_same hD (by first | exact trivial | simp [WideAt.IsKeyLit])]
    simp
  · rw [Maps.has_put_other (by intro hh; exact e (by cases hh; rfl)), h y]
    simp [e]
def v0x (x : ByteArray) : List Nm := if x.size = 0 then [] else [nb x]
theorem v0_x (d : Nt) : v0 d = v0x d.var := rfl
theorem size_em {x : ByteArray} : x.size = 0 ↔ x = em := by
  constructor
  · intro h
    apply ByteArray.ext
    have h2 : x.data.size = 0 := h
    show x.data = #[]
    exact Array.eq_empty_of_size_eq_zero h2
  · rintro rfl; rfl

set_option maxRecDepth 100000 in
set_option maxHeartbeats 1000000 in
theorem cWith_any (m : Option Nat) (S : List Nm) (x : ByteArray) (w : World) (hS : StV w m S) (hx : x.size ≤ maxLen) (hn : S.length < maxLen) :
    Calls Try.prog 67 #[.map m, .string x] w fun e w' => ∃ m', e = .returned (.map m') ∧ StV w' m' (S ++ v0x x) ∧ Chg (fun b => m = some b) w w' ∧ (m' = m ∨ (m = none ∧ ∀ b, m' = some b → w.heap.size ≤ b)) := by
  by_cases he : x = em
  · have e0 : S ++ v0x x = S := by unfold v0x; rw [if_pos (size_em.2 he)]; simp
    rw [e0]
    subst he
    unfold em
    have HS := Lib.hid hS
    clear hS hx hn e0
    go_enter Try.func67, Try.ntmps67
    go_wp2
    go_ret
    exact ⟨m, rfl, HS.out, Chg.refl _ _, .inl rfl⟩
  · have e0 : v0x x = [nb x] := by unfold v0x; rw [if_neg (fun h => he (size_em.1 h))]
    rw [e0]
    have n1 := ne_em2 he; have n2 := ne_em3 he
    have hkey : keyOf Try.prog 9 (.string x) = some (.string (nb x)) := keyOf_string_mk Try.underlying9 hx
    have hmm := @run_makeMap Try.prog
    clear he e0
    rcases hS with ⟨rfl, rfl⟩ | ⟨b, D, rfl, hown, hD⟩
    · have heq := fun w => eqNm_none w
      have hown0 := World.ownsMap_made w Try.prog 9 (unitElem (H := Unit))
      go_enter Try.func67, Try.ntmps67
      go_wp2_with (first
        | (at_mapUpdate; refine wpList_mapUpdate_own _ rfl _ _ _ 76 rfl 9 98 lawS Try.underlying76 (unitElem (H := Unit)) w.heap.size 0 _ rfl hown0 (by unfold maxLen; omega) _ _ _ rfl rfl hkey _ [] unitElem_mk ?_; intro w1 hown1 hgrow1)
        | go_in)
      go_ret
      exact ⟨some w.heap.size, rfl, .inr ⟨w.heap.size, _, rfl, hown1, fun y => hasPut isMap_empty (S := []) (fun y => by simp [Maps.has]) y⟩,
        ((Chg.refl _ w).grown7 (World.grownBy_alloc w (.map #[] 0) none) (fun b hb => by cases hb)).grown7 hgrow1 (fun b hb => by cases hb; exact .inr (Nat.le_refl _)), .inr ⟨by trivial, fun b hb => by cases hb; exact Nat.le_refl _⟩⟩
    · have heq := fun w => eqNm_some b w
      go_enter Try.func67, Try.ntmps67
      go_wp2_with (first
        | (at_mapUpdate; refine wpList_mapUpdate_own _ rfl _ _ _ 76 rfl 9 98 lawS Try.underlying76 (unitElem (H := Unit)) b S.length D rfl hown hn _ _ _ rfl rfl hkey _ [] unitElem_mk ?_; intro w1 hown1 hgrow1)
        | go_in)
      go_ret
      exact ⟨some b, rfl, .inr ⟨b, _, rfl, by rw [List.length_append]; exact hown1, fun y => hasPut hown.isMap hD y⟩, (Chg.refl _ w).grown7 hgrow1 (fun b' hb => .inl hb), .inl rfl⟩
/-- How many names a set has, as len tells it. -/
def LenV (w : World) (m : Option Nat) (n : Nat) : Prop := ∀ ty, (Builtin.len_ #[76] ty #[.map m]).run Try.prog w = .ok (.int .i64 (n : Int)) w
/-- The same set, with its entries in sight. -/
def StD (w : World) (m : Option Nat) (S : List Nm) (n : Nat) : Prop :=
  (m = none ∧ S = [] ∧ n = 0) ∨ ∃ b D, m = some b ∧ w.ownsMap Try.prog 9 (unitElem (H := Unit)) b S.length D ∧ (∀ x, Maps.has D (.string x) = decide (x ∈ S)) ∧ Maps.size D = n
theorem StV.open_ {w : World} {m : Option Nat} {S : List Nm} (h : StV w m S) : ∃ n, StD w m S n ∧ n ≤ S.length := by
  rcases h with ⟨rfl, rfl⟩ | ⟨b, D, rfl, h1, h2⟩
  · exact ⟨0, .inl ⟨rfl, rfl, rfl⟩, Nat.le_refl _⟩
  · exact ⟨_, .inr ⟨b, D, rfl, h1, h2, rfl⟩, h1.size_le⟩
theorem StD.len {w : World} {m : Option Nat} {S : List Nm} {n : Nat} (h : StD w m S n) : LenV w m n := by
  rcases h with ⟨rfl, _, rfl⟩ | ⟨b, D, rfl, h1, _, rfl⟩
  · exact fun ty => Maps.len_nil Try.underlying76 ty
  · exact fun ty => h1.len Try.underlying76 ty
set_option maxRecDepth 100000 in
theorem cSized_any (a b : Option Nat) (n m : Nat) (w : World) (ha : LenV w a n) (hb : LenV w b m) :
    Calls Try.prog 104 #[.map a, .map b] w fun e w' => e = .returned (.tuple (if m < n then #[.map b, .map a] else #[.map a, .map b])) ∧ w = w' := by
  have h1 := fun ty => ha ty
  have h2 := fun ty => hb ty
  clear ha hb
  by_cases h : m < n
  · rw [if_pos h]
    have g1 : (m : Int) < (n : Int) := by omega
    have g1' := decide_eq_true g1
    clear h
    go_enter Try.func104, Try.ntmps104
    go_wp2
    go_ret2
    exact ⟨rfl, rfl⟩
  · rw [if_neg h]
    have g1 : ¬ (m : Int) < (n : Int) := by omega
    have g1' := decide_eq_false g1
    clear h
    go_enter Try.func104, Try.ntmps104
    go_wp2
    go_ret2
    exact ⟨rfl, rfl⟩
/-- What either, common and meet leave: new blocks alone have come, and only the set mg may have turned. -/
def Uni (w : World) (mg : Option Nat) (S T : List Nm) (w' : World) : Prop :=
  (∃ C, StV w' mg C ∧ (∀ x, x ∈ C ↔ x ∈ S ∨ x ∈ T) ∧ C.length ≤ S.length + T.length) ∧ Chg (fun b => mg = some b) w w'
set_option maxRecDepth 100000 in
set_option maxHeartbeats 2000000 in
theorem cEither_core (a b : Value) (ms mg : Option Nat) (S T : List Nm) (n : Nat) (w : World) (hs : StD w ms S n) (hg : StV w mg T) (hne : ∀ b, ms = some b → mg ≠ some b) (hz : mg = none → n = 0) (hl : S.length + T.length < maxLen)
    (HS : Calls Try.prog 104 #[a, b] w fun e w' => e = .returned (.tuple #[.map ms, .map mg]) ∧ w = w') :
    Calls Try.prog 71 #[a, b] w fun e w' => e = .returned (.map mg) ∧ Uni w mg S T w' := by
  have HZ := Lib.hid HS
  clear HS
  rcases hs with ⟨rfl, rfl, rfl⟩ | ⟨b1, D1, rfl, hown1, hD1, hsz⟩
  · have hrg := run_range_nilMap (P := Try.prog) w 76 9 98 Try.underlying76
    have hnx : ∀ ty, (Instr.next (.pointer (some ⟨w.heap.size, 0, none⟩)) false ty).run Try.prog (w.alloc (.mapIter none 0 #[] 0)) = _ := fun ty => run_next_nilMap w ty 0 0 #[]
    have HG := Lib.hid hg
    clear hne hz hl hg
    go_enter Try.func71, Try.ntmps71
    go_wp2_with (first | (go_at_call 104; (with_reducible refine HZ.out.mono ?_); rintro e w1 ⟨rfl, rfl⟩))
    refine wp_loop_rounds 1 ?_
    rw [rounds_succ]
    go_wp2
    go_ret
    have hb : Below w.heap.size w (w.alloc (.mapIter none 0 #[] 0)) := (Below.refl _ _).alloc (Nat.le_refl _) _
    exact ⟨rfl, ⟨T, HG.out.below hb, fun x => by simp, by simp⟩, Chg.of_below hb⟩
  · have hb1 := hown1.lt
    rcases hg with ⟨rfl, rfl⟩ | ⟨b2, D2, rfl, hown2, hD2⟩
    · have hn0 := hz rfl
      have HO := Lib.hid (show n = 0 ∧ Maps.size D1 = n from ⟨hn0, hsz⟩)
      have HD := Lib.hid hD1
      clear hne hz hl hn0 hsz hD1
      go_enter Try.func71, Try.ntmps71
      go_wp2_with (first
        | (go_at_call 104; (with_reducible refine HZ.out.mono ?_); rintro e w1 ⟨rfl, rfl⟩)
        | (at_range; refine wpList_range_own _ rfl _ 76 rfl 9 98 lawS Try.underlying76 _ b1 S.length _ rfl hown1 ?_; intro w0 hrg0 hg0 hs0)
        | go_in)
      go_frame
      go_loopw [7] (fun _ wr => ∃ (left : Lit → Bool) (cnt : Nat), wr.ranges Try.prog 9 (unitElem (H := Unit)) b1 w.heap.size S.length D1 left cnt ∧ Hid (cnt = 0) ∧ Hid (left = Maps.has D1) ∧ Hid (Chg (fun b => none = some b) w wr))
        (fun _ wr => wr.rangeLeft b1 w.heap.size)
      case atStart => exact ⟨_, _, hrg0, Lib.hid (by rw [HO.out.2, HO.out.1]), Lib.hid rfl, Lib.hid ((Chg.refl _ _).grown7 hg0 (fun b hb => by cases hb))⟩
      case round =>
        obtain ⟨left, cnt, hrg, HC, HL, HX⟩ := hrel
        go_wp2_with (first
          | (at_next; refine wpList_next_ranges _ rfl _ rfl 9 lawS (unitElem (H := Unit)) encStr id (fun key kl hk => by obtain ⟨x, hx, _⟩ := Maps.keyOf_str Try.underlying9 hk; exact ⟨x, hx⟩) (fun v _ _ => ⟨v, rfl⟩) b1 w.heap.size S.length _ _ _ rfl hrg ?_ ?_)
          | go_in)
        · intro hc0 hl0
          go_wp2
          go_ret
          refine ⟨rfl, ⟨[], StV.nil _, fun x => ?_, by simp⟩, HX.out⟩
          have := HD.out x
          rw [← HL.out, hl0] at this
          simpa using this.symm
        · intro x c kl yd yp w2 cnt2 hkey hlk hv hat hrg2 hlt hg2 hs2 hen
          exact absurd hlt (by rw [HC.out]; omega)
    · have hbne : b1 ≠ b2 := fun h => hne b1 rfl (by rw [h])
      have hb2 := hown2.lt
      have HO := Lib.hid hsz
      have HD1 := Lib.hid hD1; have HD2 := Lib.hid hD2; have HL0 := Lib.hid hl; have HSZ := Lib.hid hown1.size_le
      have HB := Lib.hid (show b1 ≠ b2 ∧ b1 < w.heap.size ∧ b2 < w.heap.size from ⟨hbne, hb1, hb2⟩)
      have HOW2 := Lib.hid hown2
      clear hne hz hl hsz hD1 hD2 hbne hb1 hb2 hown2
      go_enter Try.func71, Try.ntmps71
      go_wp2_with (first
        | (go_at_call 104; (with_reducible refine HZ.out.mono ?_); rintro e w1 ⟨rfl, rfl⟩)
        | (at_range; refine wpList_range_own _ rfl _ 76 rfl 9 98 lawS Try.underlying76 _ b1 S.length _ rfl hown1 ?_; intro w0 hrg0 hg0 hs0)
        | go_in)
      go_frame
      go_loopw [7] (fun _ wr => ∃ (left : Lit → Bool) (cnt : Nat) (C : List Nm) (D : DataW Unit), wr.ranges Try.prog 9 (unitElem (H := Unit)) b1 w.heap.size S.length D1 left cnt ∧ wr.ownsMap Try.prog 9 (unitElem (H := Unit)) b2 (T ++ C).length D ∧ Hid (∀ x, Maps.has D (.string x) = decide (x ∈ T ++ C)) ∧ Hid (Collected D1 left C) ∧ Hid (C.length + cnt ≤ S.length) ∧ Hid (Chg (fun b => some b2 = some b) w wr))
        (fun _ wr => wr.rangeLeft b1 w.heap.size)
      case atStart =>
        exact ⟨_, _, [], D2, hrg0, by rw [List.append_nil]; exact HOW2.out.kept hg0 (by simp), by rw [List.append_nil]; exact HD2, Lib.hid (Collected.start D1), Lib.hid (by rw [List.length_nil, Nat.zero_add]; exact HSZ.out), Lib.hid ((Chg.refl _ _).grown7 hg0 (fun b hb => by cases hb))⟩
      case round =>
        obtain ⟨left, cnt, C, D, hrg, hown, HD, HC, HN, HX⟩ := hrel
        go_wp2_with (first
          | (at_next; refine wpList_next_ranges _ rfl _ rfl 9 lawS (unitElem (H := Unit)) encStr id (fun key kl hk => by obtain ⟨x, hx, _⟩ := Maps.keyOf_str Try.underlying9 hk; exact ⟨x, hx⟩) (fun v _ _ => ⟨v, rfl⟩) b1 w.heap.size S.length _ _ _ rfl hrg ?_ ?_)
          | go_in)
        · intro hc0 hl0
          go_wp2
          go_ret
          refine ⟨rfl, ⟨T ++ C, .inr ⟨b2, D, rfl, hown, HD.out⟩, fun x => ?_, by rw [List.length_append]; have := HN.out; omega⟩, HX.out⟩
          rw [List.mem_append, HC.out.2 x, HD1.out x, hl0]
          simp [or_comm]
        · intro x c kl yd yp w2 cnt2 hkey hlk hv hat hrg2 hlt hg2 hs2 hen
          obtain ⟨x', ex, rfl, _⟩ := Maps.keyOf_str Try.underlying9 hkey
          obtain rfl : x = x' := encStr_inj ex
          have hown2 := hown.kept hg2 (fun h => by have := Option.some.inj h; have := HB.out; omega)
          have hroom : (T ++ C).length < maxLen := by rw [List.length_append]; have := HN.out; have := HL0.out; omega
          have HLK := Lib.hid hlk; have HAT := Lib.hid hat; have HLT := Lib.hid hlt; have HG2 := Lib.hid hg2
          clear hs2 hlk hat hlt ex hv
          go_wp2_with (first
            | (at_mapUpdate; refine wpList_mapUpdate_own _ rfl _ _ _ 76 rfl 9 98 lawS Try.underlying76 (unitElem (H := Unit)) b2 _ D rfl hown2 hroom _ _ _ rfl rfl hkey _ [] unitElem_mk ?_; intro w3 hown3 hg3; go_frame)
            | go_in)
          have hrg3 := hrg2.kept hg3 (fun e => HB.out.1 (Option.some.inj e)) (fun e => by have := Option.some.inj e; have := HB.out; omega)
          go_roundw
          case rel =>
            refine ⟨_, cnt2, C ++ [x], _, hrg3, by rw [← List.append_assoc, List.length_append]; exact hown3, Lib.hid (fun y => by rw [← List.append_assoc]; exact hasPut hown.isMap HD.out y), Lib.hid (HC.out.step HLK.out HAT.out), Lib.hid (by rw [List.length_append, List.length_singleton]; have := HN.out; have := HLT.out; omega), ?_⟩
            exact Lib.hid ((HX.out.grown7 HG2.out (fun b hb => .inr (by have := Option.some.inj hb; omega))).grown7 hg3 (fun b hb => .inl hb))
          case measure => rw [hrg3.left_eq, hrg.left_eq]; exact HLT.out
end Go.Proofs.Ytnfjodkpapmfkaa
