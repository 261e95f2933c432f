/- Joined: Ref, Make, Rnat, Rsrc, Rsbits, Rsnat, Snum2, Packm, Rstext, Puts2, Backm, Fm4. -/
import Derived.Shelf.Bytes.SlSmallAll
import Derived.Test.YtpbloplbpkedcaaJrb
import Derived.Test.YtpbloplbpkedcaaJra
import Derived.Deep.OwnRows
import Derived.Laws.BytesArg
/- Contracts of the document's own answers on bits: Low, long, Nat. -/
namespace Go.Proofs.Ytpbloplbpkedcaa
open Go Go.RowKit

theorem bytesIn_own {w : World} {B : Nat} {v : Value} {bytes : List Nat} (h : w.ownsRow B 5 1 v bytes.length (byteVs bytes)) :
    ∃ ao cap, v = .slice ao bytes.length cap ∧ Lib.BytesIn w ao bytes.length (bytes.map fun x : Nat => (x : Int)) := by
  rcases h.2 with ⟨hv, hn0⟩ | ⟨g, cap, cur, hv, hg, hgg, hgn, hcapm, hcsz, htake⟩
  · refine ⟨none, 0, by rw [hv, hn0], ?_⟩
    intro h; omega
  · refine ⟨some ⟨g, 0, none⟩, cap, hv, ?_⟩
    subst hv
    refine fun _ => ⟨g, 0, rfl, fun i hi => ?_⟩
    have := h.cells (g := g) rfl i (.int .u8 ((bytes.getD i 0 : Nat) : Int)) (by simp [byteVs, hi])
    rw [add_off] at this
    rw [Nat.zero_add, this]
    simp [List.getD, hi]
theorem bytesIn_lit (w : World) (c : Nat) (t : Nat) : Lib.BytesIn (w.alloc (.cells #[.int .u8 (c : Int)] t)) (some ⟨w.heap.size, 0, none⟩) 1 [(c : Int)] :=
  fun _ => ⟨w.heap.size, 0, rfl, fun i hi => by
    obtain rfl : i = 0 := by omega
    exact cell_alloc_one _ _ rfl _ _⟩
theorem bytesAt_lit (w : World) (c : Nat) (t : Nat) : BytesAt (w.alloc (.cells #[.int .u8 (c : Int)] t)) (some ⟨w.heap.size, 0, none⟩) [c] := by
  refine ⟨fun h => (by cases h), fun a ha j hj => ?_⟩
  simp only [Option.some.injEq] at ha
  subst ha
  obtain rfl : j = 0 := by simpa using hj
  rw [add_off]
  exact cell_alloc_one _ _ rfl _ _

theorem natBits4 : natBits 4 = [false, false, true, false, true] := by decide +kernel
theorem packed4 : packed (natBits 4) = [40] := by decide +kernel
theorem ahd4 : ahd 4 = 2 := by decide +kernel
theorem ahd1 : ahd 1 = 1 := by decide +kernel
theorem natErr40 : natErr [40] 0 = 0 := by decide +kernel
theorem natVal40 : natVal [40] 0 = 4 := by decide +kernel
theorem natNext40 : natNext [40] 0 = 5 := by decide +kernel
theorem endErr40 : endErr [40] 5 = 0 := by decide +kernel

end Go.Proofs.Ytpbloplbpkedcaa
namespace Go.Proofs.Ytpbloplbpkedcaa
open Go Go.RowKit

theorem Try.info4 : (Try.prog.info? 4).map (fun i => (i.zero, i.size, i.bytes)) = some (some (.bool false), 1, 1) := by kernel_rfl

def boolVs (l : List Bool) : List Value := l.map Value.bool
theorem boolVs_length (l : List Bool) : (boolVs l).length = l.length := by simp [boolVs]
theorem boolVs_one (l : List Bool) : ∀ u ∈ boolVs l, u.oneCell' = true := by
  intro u hu; simp [boolVs] at hu; rcases hu with ⟨_, rfl⟩ | ⟨_, rfl⟩ <;> rfl
theorem boolVs_append (l m : List Bool) : boolVs (l ++ m) = boolVs l ++ boolVs m := by simp [boolVs]

/-- The value v is a slice of just these flags, in a row from block B on. -/
def Flags (w : World) (B : Nat) (v : Value) (bs : List Bool) : Prop := w.ownsRow B 4 1 v bs.length (boolVs bs)

set_option maxRecDepth 100000 in
set_option maxHeartbeats 400000 in
theorem rLow_any (u n : Nat) (w : World) (hu : u < 2 ^ 64) (hn : n ≤ 64) :
    Calls Try.prog 55 #[.int .u64 (u : Int), .int .i64 (n : Int)] w fun e w' => ∃ v, e = .returned v ∧ Flags w' w.heap.size v (bitsOf u n) ∧ Below w.heap.size w w' := by
  obtain ⟨i0, hi, hz0, hz1, hz2⟩ := info_parts Try.info4
  have hu' : (u : Int) ≤ 18446744073709551615 := by omega
  have HU := hide hu; clear hu
  go_enter Try.func55, Try.ntmps55
  go_wp2
  go_loopw [5, 6] (fun v i wr => ∃ k : Nat, k ≤ n ∧ i = .int .i64 ((n : Int) - 1 - k) ∧ wr.ownsRow w.heap.size 4 1 v k (boolVs ((bitsOf u n).take k)) ∧ Below w.heap.size w wr) (fun _ i _ => (intOf i + 1).toNat)
  case atStart => exact ⟨0, Nat.zero_le _, by simp, World.ownsRow_nil _ _ _ _, Below.refl _ _⟩
  case round =>
    obtain ⟨k, hk, rfl, hown, hbel⟩ := hrel
    have HO := hide hown; have HB := hide hbel; clear hown hbel
    by_cases hlt : k < n
    · have HT := hide (bitsOf_take_succ u n k hlt)
      obtain ⟨j, hj⟩ : ∃ j, j = n - 1 - k := ⟨_, rfl⟩
      have hji : (n : Int) - 1 - k = (j : Int) := by omega
      obtain ⟨b, hb⟩ : ∃ b, b = u.testBit j := ⟨_, rfl⟩
      have hj64 : j ≤ 63 := by omega
      have hbt : (((u : Int) / 2 ^ j).tmod 2 == 1) = b := by
        rw [Int.tmod_eq_emod_of_nonneg (Int.ediv_nonneg (by omega) (by exact_mod_cast Nat.zero_le _)), hb, Nat.testBit_eq_decide_div_mod_eq]
        have e : ((u : Int) / 2 ^ j) % 2 = ((u / 2 ^ j % 2 : Nat) : Int) := by push_cast; rfl
        rw [e]
        rcases Nat.mod_two_eq_zero_or_one (u / 2 ^ j) with h | h <;> simp [h]
      rw [hji]
      have HJ := hide hj; have HBt := hide hb; clear hj hb hji
      go_wp2_with (at_builtin; refine wpList_append_own _ rfl (.tmp 13) (.tmp 23) 65 rfl w.heap.size 4 i0 (.bool false) 1 1 Try.underlying65 hi hz0 hz1 hz2 rfl (by decide) _ k _ rfl (HO.out.alloc _) ⟨wr.heap.size, 0, none⟩ 1 1 [.bool b] rfl rfl (by intro j' u hj; match j', hj with | 0, hj => simp at hj; subst hj; simp only [Addr.add]; exact cell_alloc_one _ _ rfl _ _) (by intro u hu; simp at hu; subst hu; rfl) (by unfold maxLen; omega) (by omega) (by have := HB.out.size; simp; omega) ?_; intro v3 w3 hown3 hgrow3 hnil3; clear hnil3; have HO3 := hide hown3; have HG3 := hide hgrow3; clear hown3 hgrow3)
      go_roundw
      case rel =>
        refine ⟨k + 1, by omega, ?_, ?_, (HB.out.alloc HB.out.size _).grown HG3.out (by have := HB.out.size; simp; omega) (fun k h => (HO.out.lt k h).1)⟩
        · have := HJ.out
          rw [show (n : Int) - 1 - ((k + 1 : Nat) : Int) = (j : Int) - 1 by omega]
        · rw [HT.out, boolVs_append, ← HJ.out, ← HBt.out]; exact HO3.out
      case measure => simp [intOf]
    · go_wp2
      go_ret
      obtain rfl : k = n := by omega
      refine ⟨_, rfl, ?_, HB.out⟩
      have := HO.out
      rw [List.take_of_length_le (by simp [bitsOf_length])] at this
      unfold Flags
      rw [bitsOf_length]; exact this

end Go.Proofs.Ytpbloplbpkedcaa

/- A law on 'append(l, make([]T, m)...)', which is one operation of the translation: it lays m zero values behind l. -/
namespace Go.Proofs.Ytpbloplbpkedcaa
open Go Go.RowKit

theorem zero_cells_list (z : Value) (h : z.cells = #[z]) (m : Nat) : (Builtin.zeroCells z.cells m) = (List.replicate m z).toArray := by
  rw [h]
  apply Array.ext'
  simp [Builtin.zeroCells, Nat.mod_one, List.map_const']

theorem run_append_make_own {P : Program} (w : World) (base : Nat) (t ti ty e : TypeId) (i : TypeInfo) (z : Value) (ht : P.underlying t = some (.slice e)) (hti : P.underlying ti = some (.int .i64)) (hi : P.info? e = some i) (hz : i.zero = some z)
    (hsize : i.size = 1) (hby : i.bytes = 1) (hzc : z.cells = #[z]) (hz1 : z.oneCell' = true)
    (v : Value) (n : Nat) (xs : List Value) (hown : w.ownsRow base e 1 v n xs) (hn : v ≠ .slice none 0 0) (m : Nat) (hm : 0 < m) (h63 : n + m ≤ 70368744177664) (hbase : base ≤ w.heap.size) :
    ∃ v' w', (Builtin.append_ #[t, ti] ty #[v, .int .i64 (m : Int)]).run P w = .ok v' w' ∧ w'.ownsRow base e 1 v' (n + m) (xs ++ List.replicate m z) ∧ w.grownBy w' v.ownBlock := by
  rcases hown.2 with ⟨hv, _⟩ | ⟨g, cap, cur, rfl, hbg, hg, hnc, hcm, hcs, htake⟩
  · exact absurd hv hn
  have hlen : (xs ++ List.replicate m z).length = (n + m) * 1 := by simp [hown.1]
  have hw : IntKind.i64.wrap (m : Int) = (m : Int) := by rw [IntKind.wrap_i64]; omega
  have hneg : ¬ ((m : Int) < 0) := by omega
  have h48 : ¬ (281474976710656 < (m : Int)) := by omega
  have hm0 : ¬ m = 0 := by omega
  have hm1 : ¬ ((m : Int) ≤ 0) := by omega
  have ha : ∀ w, (asInt (.int .i64 (m : Int))).run P w = .ok (m : Int) w := fun _ => rfl
  have hone : ∀ u ∈ List.replicate m z, u.oneCell' = true := by intro u hu; rw [List.eq_of_mem_replicate hu]; exact hz1
  by_cases hroom : n + m ≤ cap
  · have hst := run_storeCells_at P g n e (List.replicate m z) 0 cur w hg (by simp; omega) hone
    simp only [Nat.add_zero] at hst
    refine ⟨.slice (some ⟨g, 0, none⟩) (n + m) cap, w.setRow g (cur.toList.take n ++ List.replicate m z ++ cur.toList.drop (n + (List.replicate m z).length)).toArray, ?_, ⟨hlen, .inr ⟨g, cap, _, rfl, hbg, setRow_heap w g cur _ e _ hg, hroom, hcm, ?_, ?_⟩⟩, ⟨rfl, rfl, rfl, by simp, fun k _ hk => setRow_other w g k _ (fun e => hk (by simp [Value.ownBlock, e]))⟩⟩
    · simp [Builtin.append_, run_underlying ht, run_underlying hti, sizeOf, typeInfo, zeroValue, hi, hz, hsize, hby, hw, hneg, h48, hm0, hroom, ha, zero_cells_list z hzc, Addr.add_lit, hst]
    · simp only [List.size_toArray, List.length_append, List.length_take, List.length_drop, Array.length_toList, List.length_replicate]
      omega
    · rw [Nat.mul_one] at htake
      rw [htake, ← hlen]
      exact List.take_left
  · have hneed : ¬ (9223372036854775807 < ((n : Int) + (m : Int))) := by omega
    have hfit : ¬ (281474976710656 < Builtin.nextslicecap (n + m) cap) := by
      have := growslice_fits (need := n + m) (old := cap) (bytes := 1) (by omega) (by omega)
      omega
    have hfo := run_firstCells_some (P := P) w.drew 1 n ⟨g, 0, none⟩ n cap xs hown.1 (by simpa using hown.cells (g := g) rfl)
    have hge := grownCap_ge w (n + m) cap e
    have hcm2 : grownCap w (n + m) cap e ≤ maxLen := grownCap_le_maxLen w (n + m) cap e (by unfold maxLen; omega)
    refine ⟨.slice (some ⟨w.heap.size, 0, none⟩) (n + m) (grownCap w (n + m) cap e), w.drew.alloc (.cells (xs.toArray ++ (List.replicate m z).toArray ++ Builtin.zeroCells z.cells (grownCap w (n + m) cap e - (n + m))) e), ?_, ⟨hlen, .inr ⟨w.heap.size, _, _, rfl, hbase, heap_alloc_new w.drew _, hge, hcm2, ?_, ?_⟩⟩, ⟨rfl, rfl, rfl, by simp, fun k hk _ => Below.heap_alloc w.drew _ k hk⟩⟩
    · simp [Builtin.append_, run_underlying ht, run_underlying hti, sizeOf, typeInfo, zeroValue, hi, hz, hsize, hby, hw, hneg, h48, hm0, hroom, ha, zero_cells_list z hzc, hneed, hfit, Question.forced, hfo, newRow, grownCap]
    · have := hown.1
      simp [size_zeroCells, hzc]
      omega
    · simp only [Array.toList_append, List.append_assoc]
      rw [← List.append_assoc, ← hlen]
      exact List.take_left

theorem wpList_append_make {P : Program} (w : World) {ops : Array Oper} {rest : List Oper} {o : Oper} {a : Act} {Q : Exit → Act → World → Prop} (hgd : o.guard = none) (s x : Operand) (t ti : TypeId)
    (ho : o.op = .call { callee := .builtin .append, args := #[s, x], argTypes := #[t, ti] })
    (base : Nat) (e : TypeId) (i : TypeInfo) (z : Value) (ht : P.underlying t = some (.slice e)) (hti : P.underlying ti = some (.int .i64)) (hi : P.info? e = some i) (hz : i.zero = some z)
    (hsize : i.size = 1) (hby : i.bytes = 1) (hzc : z.cells = #[z]) (hz1 : z.oneCell' = true)
    (v : Value) (n : Nat) (xs : List Value) (hs : a.eval s = v) (hown : w.ownsRow base e 1 v n xs) (hn : v ≠ .slice none 0 0) (m : Nat) (hx : a.eval x = .int .i64 (m : Int)) (hm : 0 < m) (h63 : n + m ≤ 70368744177664) (hbase : base ≤ w.heap.size)
    (h : ∀ v' w', w'.ownsRow base e 1 v' (n + m) (xs ++ List.replicate m z) → w.grownBy w' v.ownBlock → wpList P ops Q rest (a.put o.dst v') w') : wpList P ops Q (o :: rest) a w := by
  refine wpList_plain hgd fun K hK => ?_
  obtain ⟨v', w', hrun, r1, r2⟩ := run_append_make_own (P := P) w base t ti o.type e i z ht hti hi hz hsize hby hzc hz1 v n xs hown hn m hm h63 hbase
  unfold Oper.wp
  simp [execOp, ho, resolve, invoke, builtin, hs, hx, hrun, Result.andThen]
  exact hK _ _ (h v' w' r1 r2)
end Go.Proofs.Ytpbloplbpkedcaa

/- Contract: the document's own code of a natural number. -/
namespace Go.Proofs.Ytpbloplbpkedcaa
open Go Go.RowKit

theorem boolVs_rep (k : Nat) : List.replicate k (Value.bool false) = boolVs (List.replicate k false) := by simp [boolVs]
theorem natBits_max : natBits 18446744073709551615 = List.replicate 64 false ++ [true] ++ List.replicate 64 false := by decide +kernel

theorem Flags.below {w w' : World} {B B' : Nat} {v : Value} {bs : List Bool} (h : Flags w B v bs) (hb : Below B' w w') (hB : w.heap.size ≤ B') : Flags w' B v bs := by
  refine ⟨h.1, ?_⟩
  rcases h.2 with hn | ⟨g, cap, cur, rfl, hg, hgg, rest⟩
  · exact .inl hn
  · exact .inr ⟨g, cap, cur, rfl, hg, by rw [hb.block g (by have := lt_of_block hgg; omega)]; exact hgg, rest⟩
theorem Flags.lower {w : World} {B B' : Nat} {v : Value} {bs : List Bool} (h : Flags w B v bs) (hB : B' ≤ B) : Flags w B' v bs := by
  refine ⟨h.1, ?_⟩
  rcases h.2 with hn | ⟨g, cap, cur, rfl, hg, rest⟩
  · exact .inl hn
  · exact .inr ⟨g, cap, cur, rfl, by omega, rest⟩

theorem ownsRow_below {w w' : World} {B B' e size n : Nat} {v : Value} {xs : List Value} (h : w.ownsRow B e size v n xs) (hb : Below B' w w') (hB : w.heap.size ≤ B') : w'.ownsRow B e size v n xs := by
  refine ⟨h.1, ?_⟩
  rcases h.2 with hn | ⟨g, cap, cur, rfl, hg, hgg, rest⟩
  · exact .inl hn
  · exact .inr ⟨g, cap, cur, rfl, hg, by rw [hb.block g (by have := lt_of_block hgg; omega)]; exact hgg, rest⟩
theorem ownsRow_lower {w : World} {B B' e size n : Nat} {v : Value} {xs : List Value} (h : w.ownsRow B e size v n xs) (hB : B' ≤ B) : w.ownsRow B' e size v n xs := by
  refine ⟨h.1, ?_⟩
  rcases h.2 with hn | ⟨g, cap, cur, rfl, hg, rest⟩
  · exact .inl hn
  · exact .inr ⟨g, cap, cur, rfl, by omega, rest⟩
theorem flags_shape {w : World} {B x n : Nat} {v : Value} (h : Flags w B v (bitsOf x (n + 1))) : ∃ g cap, v = .slice (some ⟨g, 0, none⟩) (n + 1) cap := by
  unfold Flags at h
  rw [bitsOf_length] at h
  exact own_shape h

theorem made_flags (w : World) (k : Nat) (hk : k ≤ 64) : (w.alloc (.cells (madeCells #[.bool false] k) 4)).ownsRow w.heap.size 4 1 (.slice (some ⟨w.heap.size, 0, none⟩) k k) k (boolVs (List.replicate k false)) := by
  have e' : (madeCells #[.bool false] k).toList = boolVs (List.replicate k false) := by rw [toList_madeCells_one, boolVs_rep]
  have hs : (madeCells #[Value.bool false] k).size = k := by
    have := congrArg List.length e'
    simpa [boolVs_length] using this
  refine ⟨by simp [boolVs_length], .inr ⟨w.heap.size, k, _, rfl, Nat.le_refl _, heap_alloc_new _ _, Nat.le_refl _, by unfold maxLen; omega, by rw [hs]; omega, ?_⟩⟩
  rw [Nat.mul_one, List.take_of_length_le (by rw [Array.length_toList, hs]; omega)]
  exact e'

end Go.Proofs.Ytpbloplbpkedcaa

/- What a source of the document's own answers is in memory; the contracts of value, Bits, Nat of it. -/
namespace Go.Proofs.Ytpbloplbpkedcaa
open Go Go.RowKit

def refT (e : Nat) : Bool := e == 67

/-- In w the block q is a source of the document's answers, to which the bits l are left. -/
structure RefIs (w : World) (B q : Nat) (l : List Bool) : Prop where
  from_ : B ≤ q
  len : l.length ≤ 1125899906842624
  row : ∃ ao cap, w.heap[q]? = some (.cells #[.slice ao l.length cap] 67 (0, 0)) ∧ l.length ≤ cap ∧ (ao = none → cap = 0) ∧
    ∀ a, ao = some a → a.spot = none ∧ ∃ cur, w.heap[a.block]? = some (.cells cur 4 (0, 0)) ∧ ∀ j, j < l.length → cur[a.off + j]? = some (.bool (l.getD j false))

/-- What a call of the document's source keeps: all but its own block. -/
structure KeptR (B q : Nat) (w w' : World) : Prop where
  kept : Kept B refT w w'
  only : ∀ k, k < w.heap.size → k ≠ q → w'.heap[k]? = w.heap[k]?
theorem KeptR.refl (B q : Nat) (w : World) : KeptR B q w w := ⟨Kept.refl _ _ _, fun _ _ _ => rfl⟩
theorem KeptR.trans {B q : Nat} {a b c : World} (h : KeptR B q a b) (k : KeptR B q b c) : KeptR B q a c :=
  ⟨h.kept.trans k.kept, fun i hi hq => (k.only i (Nat.lt_of_lt_of_le hi h.kept.below.size) hq).trans (h.only i hi hq)⟩
theorem KeptR.mono {B q B' : Nat} {T' : Nat → Bool} {w w' : World} (h : KeptR B q w w') (hB : B' ≤ B) (hT : ∀ e, T' e = false → refT e = false) : Kept B' T' w w' := h.kept.mono hB hT
theorem KeptR.below {B q : Nat} {w w' : World} (h : KeptR B q w w') : Below B w w' := h.kept.below
theorem KeptR.typed {B q : Nat} {w w' : World} (h : KeptR B q w w') (k : Nat) (cs : Array Value) (e : Nat) (fr : Nat × Nat) (h1 : w.heap[k]? = some (.cells cs e fr)) (h2 : refT e = false) : w'.heap[k]? = some (.cells cs e fr) := h.kept.typed k cs e fr h1 h2
theorem KeptR.ownsRow {B q : Nat} {w w' : World} (h : KeptR B q w w') {B0 e size n : Nat} {v : Value} {xs : List Value} (hown : w.ownsRow B0 e size v n xs) (ht : refT e = false) : w'.ownsRow B0 e size v n xs := h.kept.ownsRow hown ht
theorem KeptR.drew {B q : Nat} {a w : World} (h : KeptR B q a w) : KeptR B q a w.drew := ⟨h.kept.drew, fun k h1 h2 => h.only k h1 h2⟩
theorem KeptR.drewN {B q : Nat} {a w : World} (h : KeptR B q a w) (n : Nat) : KeptR B q a (w.drewN n) := ⟨h.kept.drewN n, fun k h1 h2 => h.only k h1 h2⟩
theorem KeptR.alloc {B q : Nat} {a w : World} (h : KeptR B q a w) (hB : B ≤ w.heap.size) (o : Obj) : KeptR B q a (w.alloc o) :=
  ⟨h.kept.alloc hB o, fun k h1 h2 => by rw [Below.heap_alloc _ _ _ (Nat.lt_of_lt_of_le h1 h.kept.below.size)]; exact h.only k h1 h2⟩
theorem RefIs.kept {w w' : World} {B B' q : Nat} {l : List Bool} {T : Nat → Bool} (h : RefIs w B q l) (hk : Kept B' T w w') (h1 : T 67 = false) (h2 : T 4 = false) : RefIs w' B q l := by
  obtain ⟨ao, cap, hq, hc, hn, hr⟩ := h.row
  refine ⟨h.from_, h.len, ao, cap, hk.typed _ _ _ _ hq h1, hc, hn, fun a ha => ?_⟩
  obtain ⟨hs, cur, hg, hj⟩ := hr a ha
  exact ⟨hs, cur, hk.typed _ _ _ _ hg h2, hj⟩
theorem RefIs.below {w w' : World} {B B' q : Nat} {l : List Bool} (h : RefIs w B q l) (hb : Below B' w w') (hB : w.heap.size ≤ B') : RefIs w' B q l := by
  obtain ⟨ao, cap, hq, hc, hn, hr⟩ := h.row
  refine ⟨h.from_, h.len, ao, cap, ?_, hc, hn, fun a ha => ?_⟩
  · rw [hb.block q (by have := lt_of_block hq; omega)]; exact hq
  · obtain ⟨hs, cur, hg, hj⟩ := hr a ha
    exact ⟨hs, cur, by rw [hb.block a.block (by have := lt_of_block hg; omega)]; exact hg, hj⟩
theorem RefIs.lt {w : World} {B q : Nat} {l : List Bool} (h : RefIs w B q l) : q < w.heap.size := by
  obtain ⟨ao, cap, hq, _⟩ := h.row
  exact lt_of_block hq
/-- As the walk wants it: no bit, or an address with its cells. -/
theorem RefIs.open {w : World} {B q : Nat} {l : List Bool} (h : RefIs w B q l) :
    (l = [] ∧ ∃ ao cap, w.cell? ⟨q, 0, none⟩ = some (.slice ao 0 cap) ∧ (ao = none → cap = 0) ∧ (∀ a, ao = some a → a.spot = none)) ∨
    (∃ b o cap, w.cell? ⟨q, 0, none⟩ = some (.slice (some ⟨b, o, none⟩) l.length cap) ∧ l.length ≤ cap ∧ 0 < l.length ∧ ∀ j, j < l.length → w.cell? ⟨b, o + j, none⟩ = some (.bool (l.getD j false))) := by
  obtain ⟨ao, cap, hq, hc, hn, hr⟩ := h.row
  have h0 := cell_of_one hq
  rcases Nat.eq_zero_or_pos l.length with hl | hl
  · refine .inl ⟨List.length_eq_zero_iff.1 hl, ao, cap, by rw [h0, hl], hn, fun a ha => (hr a ha).1⟩
  · cases ao with
    | none => have := hn rfl; omega
    | some a =>
      obtain ⟨hs, cur, hg, hj⟩ := hr a rfl
      obtain ⟨b, o, sp⟩ := a
      simp only at hs hg hj
      subst hs
      refine .inr ⟨b, o, cap, h0, hc, hl, fun j hj' => ?_⟩
      rw [cell_of_row w b (o + j) cur 4 (0, 0) hg]
      exact hj j hj'
/-- A store of what is left behind the first k bits. -/
theorem RefIs.moved {w : World} {B q : Nat} {l : List Bool} (h : RefIs w B q l) (k : Nat) (hk : k ≤ l.length) {b o cap : Nat} (h0 : w.cell? ⟨q, 0, none⟩ = some (.slice (some ⟨b, o, none⟩) l.length cap)) (v : Value)
    (hv : (cap = k ∧ v = .slice (some ⟨b, o, none⟩) (l.length - k) (cap - k)) ∨ v = .slice (some ⟨b, o + k, none⟩) (l.length - k) (cap - k)) : RefIs (w.setCell ⟨q, 0, none⟩ v) B q (l.drop k) := by
  obtain ⟨ao, cap', hq, hc, hn, hr⟩ := h.row
  have h1 := cell_of_one hq
  rw [h0] at h1
  simp only [Option.some.injEq, Value.slice.injEq, true_and] at h1
  obtain ⟨rfl, rfl⟩ := h1
  obtain ⟨hs, cur, hg, hj⟩ := hr _ rfl
  have hne : b ≠ q := by
    rintro rfl
    rw [hq] at hg
    simp only [Option.some.injEq, Obj.cells.injEq] at hg
    exact absurd hg.2.1 (by decide)
  have hg' : (w.setCell ⟨q, 0, none⟩ v).heap[b]? = some (.cells cur 4 (0, 0)) := by
    rw [Below.heap_setCell _ _ _ _ hne]; exact hg
  rcases hv with ⟨hck, rfl⟩ | rfl
  · refine ⟨h.from_, by have := h.len; simp; omega, some ⟨b, o, none⟩, cap - k, ?_, by simp; omega, (fun h => by cases h), fun a ha => ?_⟩
    · rw [one_setCell hq]; simp
    · simp only [Option.some.injEq] at ha; subst ha
      exact ⟨rfl, cur, hg', fun j hj' => by simp at hj'; omega⟩
  · refine ⟨h.from_, by have := h.len; simp; omega, some ⟨b, o + k, none⟩, cap - k, ?_, by simp; omega, (fun h => by cases h), fun a ha => ?_⟩
    · rw [one_setCell hq]; simp
    · simp only [Option.some.injEq] at ha; subst ha
      refine ⟨rfl, cur, hg', fun j hj' => ?_⟩
      simp at hj'
      have := hj (k + j) (by omega)
      rw [show o + k + j = o + (k + j) by omega]
      simp only at this
      rw [this]
      simp [List.getD, List.getElem?_drop]
theorem RefIs.keeps {w : World} {B q : Nat} {l : List Bool} (h : RefIs w B q l) (u : Value) : KeptR B q w (w.setCell ⟨q, 0, none⟩ u) := by
  obtain ⟨ao, cap, hq, _⟩ := h.row
  exact ⟨(Kept.refl _ _ _).setCell h.from_ hq rfl u, fun k _ hk => Below.heap_setCell _ _ _ _ hk⟩
theorem RefIs.free {w : World} {B q : Nat} {l : List Bool} (h : RefIs w B q l) : w.frozen? ⟨q, 0, none⟩ = false := by
  obtain ⟨ao, cap, hq, _⟩ := h.row
  exact free_of_one hq

theorem valBits_take_succ (l : List Bool) (k : Nat) (h : k < l.length) : valBits (l.take (k + 1)) = 2 * valBits (l.take k) + (l.getD k false).toNat := by
  rw [List.take_succ_eq_append_getElem h, valBits_snoc]
  simp [List.getD, h]

set_option maxRecDepth 100000 in
theorem rValue_any (b o cap : Nat) (l : List Bool) (w : World) (hl : l.length ≤ 64) (hc : ∀ j, j < l.length → w.cell? ⟨b, o + j, none⟩ = some (.bool (l.getD j false))) :
    Calls Try.prog 121 #[.slice (some ⟨b, o, none⟩) l.length cap] w fun e w' => e = .returned (.int .u64 ((valBits l : Nat) : Int)) ∧ w = w' := by
  obtain ⟨N, hN⟩ : ∃ N, N = l.length := ⟨_, rfl⟩
  rw [← hN] at hl ⊢
  have HC := hide hc; clear hc
  have HN := hide hN; clear hN
  go_enter Try.func121, Try.ntmps121
  go_wp2
  go_loop [3, 4] (fun u i => ∃ k : Nat, k ≤ N ∧ i = .int .i64 k ∧ u = .int .u64 ((valBits (l.take k) : Nat) : Int)) (fun _ i => N - (intOf i).toNat)
  case atStart => exact ⟨0, Nat.zero_le _, rfl, rfl⟩
  case round =>
    obtain ⟨k, hk, rfl, rfl⟩ := hrel
    by_cases hlt : k < N
    · have hcell := HC.out k (by rw [← HN.out]; exact hlt)
      have HS := hide (valBits_take_succ l k (by rw [← HN.out]; exact hlt))
      have hV := valBits_lt (l.take k)
      have hV2 : (l.take k).length ≤ 63 := by simp; omega
      have hV3 := Nat.pow_le_pow_right (n := 2) (by omega) hV2
      obtain ⟨V, hVV⟩ : ∃ V, V = valBits (l.take k) := ⟨_, rfl⟩
      rw [← hVV] at hV ⊢
      have hV4 : (V : Int) ≤ 9223372036854775807 := by omega
      have HV := hide hVV; clear hVV hV hV2 hV3
      cases hb : l.getD k false with
      | true =>
        rw [hb] at hcell
        have HB := hide hb; clear hb
        go_wp2
        go_round
        case rel => exact ⟨k + 1, by omega, by go_num, by rw [HS.out, HB.out, ← HV.out]; simp only [Bool.toNat_true]; go_num⟩
        case measure => simp [intOf]; omega
      | false =>
        rw [hb] at hcell
        have HB := hide hb; clear hb
        go_wp2
        go_round
        case rel => exact ⟨k + 1, by omega, by go_num, by rw [HS.out, HB.out, ← HV.out]; simp only [Bool.toNat_false]; go_num⟩
        case measure => simp [intOf]; omega
    · go_wp2
      go_ret
      obtain rfl : k = N := by omega
      rw [List.take_of_length_le (by rw [← HN.out]; omega)]
      exact ⟨rfl, rfl⟩

theorem rValue_nil (ao : Option Addr) (cap : Nat) (w : World) :
    Calls Try.prog 121 #[.slice ao 0 cap] w fun e w' => e = .returned (.int .u64 0) ∧ w = w' := by
  go_enter Try.func121, Try.ntmps121
  go_wp2
  refine wp_loop_rounds 1 ?_
  rw [rounds_succ]
  go_wp2
  go_ret
  exact ⟨rfl, rfl⟩
end Go.Proofs.Ytpbloplbpkedcaa

/- Contracts of Bits: of the document's own source, and of the program's. -/
namespace Go.Proofs.Ytpbloplbpkedcaa
open Go Go.RowKit

def bitsErr (n : Int) (len : Nat) : Nat := if n < 0 ∨ 64 < n then 1 else if (len : Int) < n then 10 else 0
def bitsVal (l : List Bool) (n : Int) : Nat := if bitsErr n l.length = 0 then valBits (l.take n.toNat) else 0
def bitsRest (l : List Bool) (n : Int) : List Bool := if bitsErr n l.length = 0 then l.drop n.toNat else l

theorem bitsErr_arg {n : Int} {len : Nat} (h : n < 0 ∨ 64 < n) : bitsErr n len = 1 := by unfold bitsErr; rw [if_pos h]
theorem bitsErr_ends {n : Int} {len : Nat} (h : ¬ (n < 0 ∨ 64 < n)) (h2 : (len : Int) < n) : bitsErr n len = 10 := by unfold bitsErr; rw [if_neg h, if_pos h2]
theorem bitsErr_ok {n : Nat} {len : Nat} (h : n ≤ 64) (h2 : n ≤ len) : bitsErr (n : Int) len = 0 := by unfold bitsErr; rw [if_neg (by omega), if_neg (by omega)]

set_option maxRecDepth 100000 in
set_option maxHeartbeats 400000 in
theorem rsBits_ok (B q n : Nat) (l : List Bool) (w : World) (hs : RefIs w B q l) (hn : n ≤ 64) (hle : n ≤ l.length) :
    Calls Try.prog 94 #[.pointer (some ⟨q, 0, none⟩), .int .i64 (n : Int)] w fun e w' => e = .returned (.tuple #[.int .u64 ((valBits (l.take n) : Nat) : Int), .int .i64 0]) ∧ RefIs w' B q (l.drop n) ∧ KeptR B q w w' := by
  have hlen := hs.len
  have hfree := hs.free
  rcases hs.open with ⟨rfl, ao, cap, h0, hn0, hsp⟩ | ⟨b, o, cap, h0, hcap, hpos, hc⟩
  · obtain rfl : n = 0 := by simpa using hle
    cases ao with
    | none =>
      obtain rfl := hn0 rfl
      have HS := hide hs; clear hs hn0 hsp
      go_enter Try.func94, Try.ntmps94
      go_wp2_with (go_at_call 121; refine (rValue_nil _ _ _).mono ?_; rintro e w' ⟨rfl, rfl⟩)
      go_ret2
      refine ⟨rfl, ?_, HS.out.keeps _⟩
      obtain ⟨ao', cap', hq, hc', hn', hr'⟩ := HS.out.row
      have h1 := cell_of_one hq
      rw [h0] at h1
      simp only [Option.some.injEq, Value.slice.injEq] at h1
      refine ⟨HS.out.from_, by simp, none, 0, ?_, by simp, fun _ => rfl, fun a ha => by cases ha⟩
      rw [one_setCell hq]; rfl
    | some a =>
      obtain ⟨b, o, sp⟩ := a
      obtain rfl : sp = none := hsp _ rfl
      have HS := hide hs; clear hs hn0 hsp
      by_cases hc0 : cap = 0
      · subst hc0
        go_enter Try.func94, Try.ntmps94
        go_wp2_with (go_at_call 121; refine (rValue_nil _ _ _).mono ?_; rintro e w' ⟨rfl, rfl⟩)
        go_ret2
        exact ⟨rfl, HS.out.moved 0 (Nat.zero_le _) h0 _ (.inl ⟨rfl, rfl⟩), HS.out.keeps _⟩
      · have hc1 : 0 < cap := by omega
        have HC0 := hide hc0; clear hc0
        go_enter Try.func94, Try.ntmps94
        go_wp2_with (go_at_call 121; refine (rValue_nil _ _ _).mono ?_; rintro e w' ⟨rfl, rfl⟩)
        go_ret2
        exact ⟨rfl, HS.out.moved 0 (Nat.zero_le _) h0 _ (.inr rfl), HS.out.keeps _⟩
  · obtain ⟨N, hN⟩ : ∃ N, N = l.length := ⟨_, rfl⟩
    have CV : Calls Try.prog 121 #[.slice (some ⟨b, o, none⟩) n cap] w fun e w' => e = .returned (.int .u64 ((valBits (l.take n) : Nat) : Int)) ∧ w = w' := by
      have := rValue_any b o cap (l.take n) w (by simp; omega) (fun j hj => by
        simp at hj
        rw [hc j (by omega)]
        have hjn : j < n := by omega
        simp [List.getD, hjn])
      rwa [List.length_take, Nat.min_eq_left hle] at this
    have HM := hide (fun v hv => hs.moved n hle h0 v hv)
    have HS := hide hs
    clear hs hc
    obtain ⟨V, hV⟩ : ∃ V, V = valBits (l.take n) := ⟨_, rfl⟩
    rw [← hV] at CV ⊢
    clear hV
    rw [← hN] at h0 hcap hpos hlen hle
    have HN := hide hN; clear hN
    by_cases hcn : cap = n
    · subst hcn
      obtain rfl : N = cap := by omega
      go_enter Try.func94, Try.ntmps94
      go_wp2_with (go_at_call 121; refine CV.mono ?_; rintro e w' ⟨rfl, rfl⟩)
      go_ret2
      refine ⟨rfl, HM.out _ (.inl ⟨by trivial, ?_⟩), HS.out.keeps _⟩
      rw [← HN.out]; simp
    · have hlt : n < cap := by omega
      have HCN := hide hcn; clear hcn
      go_enter Try.func94, Try.ntmps94
      go_wp2_with (go_at_call 121; refine CV.mono ?_; rintro e w' ⟨rfl, rfl⟩)
      go_ret2
      refine ⟨rfl, HM.out _ (.inr ?_), HS.out.keeps _⟩
      rw [← HN.out]

set_option maxRecDepth 100000 in
theorem rsBits_any (B q : Nat) (n : Int) (l : List Bool) (w : World) (hs : RefIs w B q l) (hw : (Lit.int .i64 n).wf = true) :
    Calls Try.prog 94 #[.pointer (some ⟨q, 0, none⟩), .int .i64 n] w fun e w' => e = .returned (.tuple #[.int .u64 ((bitsVal l n : Nat) : Int), .int .i64 ((bitsErr n l.length : Nat) : Int)]) ∧ RefIs w' B q (bitsRest l n) ∧ KeptR B q w w' := by
  have hw2 : -9223372036854775808 ≤ n ∧ n ≤ 9223372036854775807 := by simpa [Lit.wf, IntKind.min, IntKind.max, IntKind.signed, IntKind.bits] using hw
  by_cases h1 : n < 0
  · have he := bitsErr_arg (n := n) (len := l.length) (.inl h1)
    rw [bitsVal, bitsRest, he]
    have HS := hide hs; clear hs he hw
    go_enter Try.func94, Try.ntmps94
    go_wp2
    go_ret2
    exact ⟨rfl, HS.out, .refl _ _ _⟩
  by_cases h2 : 64 < n
  · have he := bitsErr_arg (n := n) (len := l.length) (.inr h2)
    rw [bitsVal, bitsRest, he]
    have HS := hide hs; clear hs he hw
    go_enter Try.func94, Try.ntmps94
    go_wp2
    go_ret2
    exact ⟨rfl, HS.out, .refl _ _ _⟩
  by_cases h3 : (l.length : Int) < n
  · have he := bitsErr_ends (n := n) (len := l.length) (by omega) h3
    rw [bitsVal, bitsRest, he]
    have hlen := hs.len
    obtain ⟨ao, cap, h0⟩ : ∃ ao cap, w.cell? ⟨q, 0, none⟩ = some (.slice ao l.length cap) := by
      obtain ⟨ao, cap, hq, _⟩ := hs.row
      exact ⟨ao, cap, cell_of_one hq⟩
    obtain ⟨N, hN⟩ : ∃ N, N = l.length := ⟨_, rfl⟩
    rw [← hN] at h0 h3 hlen
    have HN := hide hN; clear hN
    have HS := hide hs; clear hs he hw
    go_enter Try.func94, Try.ntmps94
    go_wp2
    go_ret2
    exact ⟨rfl, HS.out, .refl _ _ _⟩
  · obtain ⟨m, rfl⟩ : ∃ m : Nat, n = m := ⟨n.toNat, by omega⟩
    have he := bitsErr_ok (n := m) (len := l.length) (by omega) (by omega)
    rw [bitsVal, bitsRest, he, if_pos rfl, if_pos rfl]
    exact rsBits_ok B q m l w hs (by omega) (by omega)

set_option maxRecDepth 100000 in
theorem sTake_any (B q n : Nat) (bytes : List Nat) (p : Nat) (w : World) (hs : SrcIs w B q bytes p) (hn : n ≤ 64) (hle : p + n ≤ 8 * bytes.length) :
    Calls Try.prog 62 #[.pointer (some ⟨q, 0, none⟩), .int .i64 (n : Int)] w fun e w' => e = .returned (.int .u64 ((valAt bytes p n : Nat) : Int)) ∧ SrcIs w' B q bytes (p + n) ∧ KeptS B q w w' := by
  have hpos := hs.pos
  have hfree := hs.free
  have hl := hs.len
  have C := sPeek_any B q bytes p p n w hs hn hle
  have HM := hide (hs.moved (p + n) hle)
  have HK := hide (fun u => hs.keeps u)
  clear hs
  go_enter Try.func62, Try.ntmps62
  go_wp2_with (go_at_call 85; refine C.mono ?_; rintro e w' ⟨rfl, rfl⟩)
  go_ret
  exact ⟨rfl, HM.out, HK.out _⟩

set_option maxRecDepth 100000 in
theorem sBits_any (B q : Nat) (n : Int) (bytes : List Nat) (p : Nat) (w : World) (hs : SrcIs w B q bytes p) (hw : (Lit.int .i64 n).wf = true) :
    Calls Try.prog 26 #[.pointer (some ⟨q, 0, none⟩), .int .i64 n] w fun e w' => e = .returned (.tuple #[.int .u64 ((bitsVal (leftL bytes p) n : Nat) : Int), .int .i64 ((bitsErr n (leftL bytes p).length : Nat) : Int)]) ∧
      (∃ p', SrcIs w' B q bytes p' ∧ leftL bytes p' = bitsRest (leftL bytes p) n) ∧ KeptS B q w w' := by
  have hw2 : -9223372036854775808 ≤ n ∧ n ≤ 9223372036854775807 := by simpa [Lit.wf, IntKind.min, IntKind.max, IntKind.signed, IntKind.bits] using hw
  have hp := hs.at_
  by_cases h1 : n < 0
  · have he := bitsErr_arg (n := n) (len := (leftL bytes p).length) (.inl h1)
    rw [bitsVal, bitsRest, he]
    have hm := hs.made
    have HS := hide hs; clear hs he hw
    go_enter Try.func26, Try.ntmps26
    go_wp2_with (go_at_call 61; refine (sIsMade_any q _ hm).mono ?_; rintro e w' ⟨rfl, rfl⟩)
    go_ret2
    exact ⟨rfl, ⟨p, HS.out, rfl⟩, .refl _ _ _⟩
  by_cases h2 : 64 < n
  · have he := bitsErr_arg (n := n) (len := (leftL bytes p).length) (.inr h2)
    rw [bitsVal, bitsRest, he]
    have hm := hs.made
    have HS := hide hs; clear hs he hw
    go_enter Try.func26, Try.ntmps26
    go_wp2_with (go_at_call 61; refine (sIsMade_any q _ hm).mono ?_; rintro e w' ⟨rfl, rfl⟩)
    go_ret2
    exact ⟨rfl, ⟨p, HS.out, rfl⟩, .refl _ _ _⟩
  obtain ⟨m, rfl⟩ : ∃ m : Nat, n = m := ⟨n.toNat, by omega⟩
  obtain ⟨Lf, hLf⟩ : ∃ Lf, Lf = 8 * bytes.length - p := ⟨_, rfl⟩
  have C2 := sLeft_k B q bytes p w hs
  rw [← hLf] at C2
  have hm := hs.made
  by_cases h3 : Lf < m
  · have he := bitsErr_ends (n := (m : Int)) (len := (leftL bytes p).length) (by omega) (by rw [leftL_length]; omega)
    rw [bitsVal, bitsRest, he]
    clear hs he hw hLf
    go_enter Try.func26, Try.ntmps26
    go_wp2_with fail
    refine (sIsMade_any q _ hm).mono ?_; rintro e w' ⟨rfl, rfl⟩
    go_wp2_with fail
    refine C2.mono ?_; rintro e w1 ⟨rfl, hs1, k1⟩
    have HS1 := hide hs1; have HK1 := hide k1; clear hs1 k1
    go_wp2
    go_ret2
    exact ⟨rfl, ⟨p, HS1.out, rfl⟩, HK1.out⟩
  · have he := bitsErr_ok (n := m) (len := (leftL bytes p).length) (by omega) (by rw [leftL_length]; omega)
    rw [bitsVal, bitsRest, he, if_pos rfl, if_pos rfl]
    have hv := valAt_left bytes p 0 m
    rw [Nat.add_zero, List.drop_zero] at hv
    have hr : leftL bytes (p + m) = (leftL bytes p).drop m := by simp [leftL, List.drop_drop]
    have hle : p + m ≤ 8 * bytes.length := by omega
    rw [show ((m : Int)).toNat = m from rfl, ← hv]
    have HR := hide hr
    clear hs he hw hLf hr hv
    go_enter Try.func26, Try.ntmps26
    go_wp2_with fail
    refine (sIsMade_any q _ hm).mono ?_; rintro e w' ⟨rfl, rfl⟩
    go_wp2_with fail
    refine C2.mono ?_; rintro e w1 ⟨rfl, hs1, k1⟩
    have HK1 := hide k1; clear k1
    go_wp2_with fail
    refine (sTake_any B q m bytes p w1 hs1 (by omega) hle).mono ?_; rintro e w2 ⟨rfl, hs2, k2⟩
    have HS2 := hide hs2; have HK2 := hide k2; clear hs2 k2 hs1
    go_wp2
    go_ret2
    exact ⟨rfl, ⟨p + m, HS2.out, HR.out⟩, HK1.out.trans HK2.out⟩
end Go.Proofs.Ytpbloplbpkedcaa

/- Contract of Nat of the document's own source. -/
namespace Go.Proofs.Ytpbloplbpkedcaa
open Go Go.RowKit

theorem zerosL_eq (l : List Bool) (k : Nat) (hk : k ≤ min l.length 65) (h : ∀ i, i < k → l.getD i false = false) (h2 : k < min l.length 65 → l.getD k false = true) : zerosL l = k := by
  unfold zerosL
  have hl : (l.take 65).length = min l.length 65 := by simp; omega
  refine tw_len _ k (by rw [hl]; exact hk) (fun i hi => ?_) (fun hlt => ?_)
  · have := h i hi
    have hil : i < l.length := by omega
    simp [List.getD, hil] at this
    rw [List.getElem_take]; exact this
  · have := h2 (by rw [← hl]; exact hlt)
    have hil : k < l.length := by omega
    simp [List.getD, hil] at this
    rw [List.getElem_take]; exact this

set_option maxRecDepth 100000 in
theorem rsNat_nil (B q : Nat) (w : World) (hs : RefIs w B q []) :
    Calls Try.prog 122 #[.pointer (some ⟨q, 0, none⟩)] w fun e w' => e = .returned (.tuple #[.int .u64 0, .int .i64 10]) ∧ RefIs w' B q [] ∧ KeptR B q w w' := by
  obtain ⟨ao, cap, h0⟩ : ∃ ao cap, w.cell? ⟨q, 0, none⟩ = some (.slice ao 0 cap) := by
    obtain ⟨ao, cap, hq, _⟩ := hs.row
    exact ⟨ao, cap, cell_of_one hq⟩
  have HS := hide hs; clear hs
  go_enter Try.func122, Try.ntmps122
  go_wp2
  refine wp_loop_rounds 1 ?_
  rw [rounds_succ]
  go_wp2
  go_ret2
  exact ⟨rfl, HS.out, .refl _ _ _⟩

set_option maxRecDepth 100000 in
set_option maxHeartbeats 1600000 in
theorem rsNat_cons (B q b o cap : Nat) (l : List Bool) (w : World) (hs : RefIs w B q l) (h0 : w.cell? ⟨q, 0, none⟩ = some (.slice (some ⟨b, o, none⟩) l.length cap)) (hcap : l.length ≤ cap) (hpos : 0 < l.length)
    (hc : ∀ j, j < l.length → w.cell? ⟨b, o + j, none⟩ = some (.bool (l.getD j false))) :
    Calls Try.prog 122 #[.pointer (some ⟨q, 0, none⟩)] w fun e w' => e = .returned (.tuple #[.int .u64 ((natValL l : Nat) : Int), .int .i64 ((natErrL l : Nat) : Int)]) ∧ RefIs w' B q (natRestL l) ∧ KeptR B q w w' := by
  have hlen := hs.len
  have hfree := hs.free
  have HM := hide (fun k hk v hv => hs.moved k hk h0 v hv)
  have HS := hide hs
  clear hs
  obtain ⟨N, hN⟩ : ∃ N, N = l.length := ⟨_, rfl⟩
  rw [← hN] at h0 hcap hpos hlen
  have HN := hide hN; clear hN
  have HC := hide hc; clear hc
  go_enter Try.func122, Try.ntmps122
  go_wp2
  go_loop [4] (fun i => ∃ k : Nat, k ≤ N ∧ k ≤ 65 ∧ i = .int .i64 k ∧ ∀ i, i < k → l.getD i false = false) (fun i => 65 - (intOf i).toNat)
  case atStart => exact ⟨0, Nat.zero_le _, by omega, rfl, by intro i hi; omega⟩
  case round =>
    obtain ⟨k, hkN, hk65, rfl, hz⟩ := hrel
    have HZ := hide hz; clear hz
    by_cases hA : k = 65
    · subst hA
      have he : zerosL l = 65 := zerosL_eq l 65 (by rw [← HN.out]; omega) HZ.out (by omega)
      have hE : natErrL l = 11 := by unfold natErrL; rw [he, if_pos (by decide)]
      have HE := hide hE; clear hE he
      by_cases hb : 65 < N
      · go_wp2
        go_ret2
        rw [natValL, natRestL, HE.out]
        exact ⟨rfl, HS.out, .refl _ _ _⟩
      · go_wp2
        go_ret2
        rw [natValL, natRestL, HE.out]
        exact ⟨rfl, HS.out, .refl _ _ _⟩
    have hk64 : k ≤ 64 := by omega
    have HA := hide hA; clear hA
    by_cases hB : N ≤ k
    · have he : zerosL l = k := zerosL_eq l k (by rw [← HN.out]; omega) HZ.out (by rw [← HN.out]; omega)
      have hE : natErrL l = 10 := by unfold natErrL; rw [he, if_neg (by omega), if_pos (by rw [← HN.out]; omega)]
      have HE := hide hE; clear hE he
      go_wp2
      go_ret2
      rw [natValL, natRestL, HE.out]
      exact ⟨rfl, HS.out, .refl _ _ _⟩
    have hlt : k < N := by omega
    have hcell := HC.out k (by rw [← HN.out]; exact hlt)
    cases hb : l.getD k false with
    | false =>
      rw [hb] at hcell
      have HB := hide hb; clear hb
      go_wp2
      go_round
      case rel =>
        refine ⟨k + 1, by omega, by omega, by go_num, fun i hi => ?_⟩
        by_cases hik : i = k
        · rw [hik]; exact HB.out
        · exact HZ.out i (by omega)
      case measure => simp [intOf]; omega
    | true =>
      rw [hb] at hcell
      have he : zerosL l = k := zerosL_eq l k (by rw [← HN.out]; omega) HZ.out (fun _ => hb)
      have HB := hide hb; clear hb
      by_cases hfew : N < 2 * k + 1
      · have hE : natErrL l = 10 := by unfold natErrL; rw [he, if_neg (by omega), if_pos (by rw [← HN.out]; omega)]
        have HE := hide hE; clear hE he
        go_wp2
        go_ret2
        rw [natValL, natRestL, HE.out]
        exact ⟨rfl, HS.out, .refl _ _ _⟩
      have hE0 : natErrL l = if k = 64 ∧ valBits ((l.drop (k + 1)).take k) ≠ 0 then 11 else 0 := by
        unfold natErrL; rw [he, if_neg (by omega), if_neg (by rw [← HN.out]; omega)]
      obtain ⟨V, hV⟩ : ∃ V, V = valBits ((l.drop (k + 1)).take k) := ⟨_, rfl⟩
      rw [← hV] at hE0
      have HEz := hide he; clear he
      -- the number that the bits behind the first 1 say
      have CV : k ≠ 0 → ∀ n c : Nat, n = k → Calls Try.prog 121 #[.slice (some ⟨b, o + (k + 1), none⟩) n c] w fun e w' => e = .returned (.int .u64 ((V : Nat) : Int)) ∧ w = w' := by
        intro _ n c hnk
        rw [hnk]
        have hll : ((l.drop (k + 1)).take k).length = k := by rw [List.length_take, List.length_drop, ← HN.out]; omega
        have := rValue_any b (o + (k + 1)) c ((l.drop (k + 1)).take k) w (by omega) (fun j hj => by
          rw [hll] at hj
          have h2 := HC.out (k + 1 + j) (by rw [← HN.out]; omega)
          rw [show o + (k + 1) + j = o + (k + 1 + j) by omega, h2]
          simp [List.getD, List.getElem?_drop, hj])
        rwa [hll, ← hV] at this
      have hV0 : k = 0 → V = 0 := by intro h; rw [hV, h]; simp [valBits]
      have hVlt : V < 2 ^ k := by
        have := valBits_lt ((l.drop (k + 1)).take k)
        rw [hV]
        rwa [show ((l.drop (k + 1)).take k).length = k by rw [List.length_take, List.length_drop, ← HN.out]; omega] at this
      have HV := hide hV; clear hV
      have HE0 := hide hE0; clear hE0
      by_cases hk0 : k = 0
      · subst hk0
        rw [Nat.add_zero] at hcell
        have HV0 := hide hV0; clear hV0 CV
        by_cases hc1 : cap = 1
        · subst hc1
          go_wp2_with (go_at_call 121; refine (rValue_nil _ _ _).mono ?_; rintro e w' ⟨rfl, rfl⟩)
          go_ret2
          have he : natErrL l = 0 := HE0.out.trans (if_neg (by rintro ⟨h, _⟩; exact absurd h (by decide)))
          rw [natValL, natRestL, he, if_pos rfl, if_pos rfl, HEz.out, ← HV.out]
          refine ⟨?_, HM.out (2 * 0 + 1) (by rw [← HN.out]; omega) _ (.inl ⟨by first | trivial | rfl | omega, by rw [← HN.out]; congr 1 <;> first | rfl | omega⟩), HS.out.keeps _⟩
          · rw [HV0.out (by trivial)]; rfl

        · have hc2 : 1 < cap := by omega
          have HC1 := hide hc1; clear hc1
          go_wp2_with (go_at_call 121; refine (rValue_nil _ _ _).mono ?_; rintro e w' ⟨rfl, rfl⟩)
          go_ret2
          have he : natErrL l = 0 := HE0.out.trans (if_neg (by rintro ⟨h, _⟩; exact absurd h (by decide)))
          rw [natValL, natRestL, he, if_pos rfl, if_pos rfl, HEz.out, ← HV.out]
          refine ⟨?_, HM.out (2 * 0 + 1) (by rw [← HN.out]; omega) _ (.inr (by rw [← HN.out] <;> rfl)), HS.out.keeps _⟩
          · rw [HV0.out (by trivial)]; rfl

      have CV2 := CV hk0
      have hk1 : 1 ≤ k := by omega
      clear CV hV0
      have HK0 := hide hk0; clear hk0
      have hcap1 : k + 1 < cap := by omega
      by_cases hk64e : k = 64
      · subst hk64e
        by_cases hVz : V = 0
        · subst hVz
          by_cases hc1 : cap = 129
          · subst hc1
            go_wp2_with (go_at_call 121; refine (CV2 _ _ (by omega)).mono ?_; rintro e w' ⟨rfl, rfl⟩)
            go_ret2
            have he : natErrL l = 0 := HE0.out.trans (if_neg (by rintro ⟨_, h⟩; exact h rfl))
            rw [natValL, natRestL, he, if_pos rfl, if_pos rfl, HEz.out, ← HV.out]
            refine ⟨?_, HM.out (2 * 64 + 1) (by rw [← HN.out]; omega) _ (.inl ⟨by first | trivial | rfl | omega, by rw [← HN.out]; congr 1 <;> first | rfl | omega⟩), HS.out.keeps _⟩
            · rfl
  
          · have hc2 : 129 < cap := by omega
            have HC1 := hide hc1; clear hc1
            go_wp2_with (go_at_call 121; refine (CV2 _ _ (by omega)).mono ?_; rintro e w' ⟨rfl, rfl⟩)
            go_ret2
            have he : natErrL l = 0 := HE0.out.trans (if_neg (by rintro ⟨_, h⟩; exact h rfl))
            rw [natValL, natRestL, he, if_pos rfl, if_pos rfl, HEz.out, ← HV.out]
            refine ⟨?_, HM.out (2 * 64 + 1) (by rw [← HN.out]; omega) _ (.inr (by rw [← HN.out] <;> rfl)), HS.out.keeps _⟩
            · rfl
  
        · have hVp : 0 < V := by omega
          have HVz := hide hVz; clear hVz
          go_wp2_with (go_at_call 121; refine (CV2 _ _ (by omega)).mono ?_; rintro e w' ⟨rfl, rfl⟩)
          go_ret2
          have he : natErrL l = 11 := HE0.out.trans (if_pos ⟨by trivial, HVz.out⟩)
          rw [natValL, natRestL, he]
          exact ⟨rfl, HS.out, .refl _ _ _⟩
      · have hk63 : k ≤ 63 := by omega
        have HK64 := hide hk64e; clear hk64e
        by_cases hc1 : cap = 2 * k + 1
        · subst hc1
          go_wp2_with (go_at_call 121; refine (CV2 _ _ (by omega)).mono ?_; rintro e w' ⟨rfl, rfl⟩)
          go_ret2
          have he : natErrL l = 0 := HE0.out.trans (if_neg (by rintro ⟨h, _⟩; exact HK64.out h))
          rw [natValL, natRestL, he, if_pos rfl, if_pos rfl, HEz.out, ← HV.out]
          refine ⟨?_, HM.out (2 * k + 1) (by rw [← HN.out]; omega) _ (.inl ⟨by first | trivial | rfl | omega, by rw [← HN.out]; congr 1 <;> first | rfl | omega⟩), HS.out.keeps _⟩
          · show Ending.returned (.tuple #[.int .u64 (IntKind.u64.wrap (IntKind.u64.wrap (IntKind.u64.wrap (2 ^ k) + (V : Int)) - 1)), .int .i64 0]) = _
            have h2k : (2 : Nat) ^ k ≤ 2 ^ 63 := Nat.pow_le_pow_right (by omega) hk63
            have h1k : 0 < (2 : Nat) ^ k := Nat.two_pow_pos k
            have hck : ((2 : Int) ^ k) = ((2 ^ k : Nat) : Int) := by push_cast; rfl
            have e : IntKind.u64.wrap (IntKind.u64.wrap (IntKind.u64.wrap (2 ^ k) + (V : Int)) - 1) = ((2 ^ k + V - 1 : Nat) : Int) := by
              rw [hck]; simp only [IntKind.wrap_u64]; omega
            rw [e]; rfl

        · have hc2 : 2 * k + 1 < cap := by omega
          have HC1 := hide hc1; clear hc1
          go_wp2_with (go_at_call 121; refine (CV2 _ _ (by omega)).mono ?_; rintro e w' ⟨rfl, rfl⟩)
          go_ret2
          have he : natErrL l = 0 := HE0.out.trans (if_neg (by rintro ⟨h, _⟩; exact HK64.out h))
          rw [natValL, natRestL, he, if_pos rfl, if_pos rfl, HEz.out, ← HV.out]
          refine ⟨?_, HM.out (2 * k + 1) (by rw [← HN.out]; omega) _ (.inr (by rw [← HN.out] <;> rfl)), HS.out.keeps _⟩
          · show Ending.returned (.tuple #[.int .u64 (IntKind.u64.wrap (IntKind.u64.wrap (IntKind.u64.wrap (2 ^ k) + (V : Int)) - 1)), .int .i64 0]) = _
            have h2k : (2 : Nat) ^ k ≤ 2 ^ 63 := Nat.pow_le_pow_right (by omega) hk63
            have h1k : 0 < (2 : Nat) ^ k := Nat.two_pow_pos k
            have hck : ((2 : Int) ^ k) = ((2 ^ k : Nat) : Int) := by push_cast; rfl
            have e : IntKind.u64.wrap (IntKind.u64.wrap (IntKind.u64.wrap (2 ^ k) + (V : Int)) - 1) = ((2 ^ k + V - 1 : Nat) : Int) := by
              rw [hck]; simp only [IntKind.wrap_u64]; omega
            rw [e]; rfl
end Go.Proofs.Ytpbloplbpkedcaa

/- Contracts of Num, Flag, End, of the program's source and of the document's own. -/
namespace Go.Proofs.Ytpbloplbpkedcaa
open Go Go.RowKit

/-- The number for which a natural number stands. -/
def numOf (u : Nat) : Int := if u % 2 = 0 then ((u / 2 : Nat) : Int) else -((u / 2 : Nat) : Int) - 1
def numValL (l : List Bool) : Int := if natErrL l = 0 then numOf (natValL l) else 0

theorem natErrL_num (l : List Bool) : natErrL l = 0 ∨ natErrL l = 10 ∨ natErrL l = 11 := by
  unfold natErrL
  by_cases h1 : 64 < zerosL l
  · rw [if_pos h1]; omega
  rw [if_neg h1]
  by_cases h2 : l.length < 2 * zerosL l + 1
  · rw [if_pos h2]; omega
  rw [if_neg h2]
  by_cases h3 : zerosL l = 64 ∧ valBits ((l.drop (zerosL l + 1)).take (zerosL l)) ≠ 0
  · rw [if_pos h3]; omega
  · rw [if_neg h3]; omega
theorem natValL_lt (l : List Bool) : natValL l < 2 ^ 64 := by
  unfold natValL
  by_cases h : natErrL l = 0
  · rw [if_pos h]
    unfold natErrL at h
    have hv := valBits_lt ((l.drop (zerosL l + 1)).take (zerosL l))
    have hvl : ((l.drop (zerosL l + 1)).take (zerosL l)).length ≤ zerosL l := by simp; omega
    have hv2 := Nat.pow_le_pow_right (n := 2) (by omega) hvl
    by_cases h1 : 64 < zerosL l
    · rw [if_pos h1] at h; cases h
    rw [if_neg h1] at h
    by_cases h2 : l.length < 2 * zerosL l + 1
    · rw [if_pos h2] at h; cases h
    rw [if_neg h2] at h
    by_cases h3 : zerosL l = 64 ∧ valBits ((l.drop (zerosL l + 1)).take (zerosL l)) ≠ 0
    · rw [if_pos h3] at h; cases h
    by_cases h4 : zerosL l = 64
    · have h5 : valBits ((l.drop (zerosL l + 1)).take (zerosL l)) = 0 := by
        by_cases h6 : valBits ((l.drop (zerosL l + 1)).take (zerosL l)) = 0
        · exact h6
        · exact absurd ⟨h4, h6⟩ h3
      rw [h5, h4]; decide
    · have h7 : 2 ^ zerosL l ≤ 2 ^ 63 := Nat.pow_le_pow_right (by omega) (by omega)
      omega
  · rw [if_neg h]; decide

theorem rsNat_any (B q : Nat) (l : List Bool) (w : World) (hs : RefIs w B q l) :
    Calls Try.prog 122 #[.pointer (some ⟨q, 0, none⟩)] w fun e w' => e = .returned (.tuple #[.int .u64 ((natValL l : Nat) : Int), .int .i64 ((natErrL l : Nat) : Int)]) ∧ RefIs w' B q (natRestL l) ∧ KeptR B q w w' := by
  rcases hs.open with ⟨rfl, _⟩ | ⟨b, o, cap, h0, hcap, hpos, hc⟩
  · exact rsNat_nil B q w hs
  · exact rsNat_cons B q b o cap l w hs h0 hcap hpos hc

/-- The same of the program's source, in the words of the bits that are left. -/
theorem sNat_left (B q : Nat) (bytes : List Nat) (p : Nat) (w : World) (hs : SrcIs w B q bytes p) :
    Calls Try.prog 157 #[.pointer (some ⟨q, 0, none⟩)] w fun e w' => e = .returned (.tuple #[.int .u64 ((natValL (leftL bytes p) : Nat) : Int), .int .i64 ((natErrL (leftL bytes p) : Nat) : Int)]) ∧
      (∃ p', SrcIs w' B q bytes p' ∧ leftL bytes p' = natRestL (leftL bytes p)) ∧ KeptS B q w w' :=
  (sNat_any B q bytes p w hs).mono fun e w' ⟨he, h1, h2⟩ => ⟨by rw [he, natErr_left, natVal_left], ⟨_, h1, natRest_left bytes p⟩, h2⟩
theorem sEnd_left (B q : Nat) (bytes : List Nat) (p : Nat) (w : World) (hs : SrcIs w B q bytes p) :
    Calls Try.prog 52 #[.pointer (some ⟨q, 0, none⟩)] w fun e w' => e = .returned (.int .i64 ((endErrL (leftL bytes p) : Nat) : Int)) ∧ SrcIs w' B q bytes p ∧ KeptS B q w w' :=
  (sEnd_any B q bytes p w hs).mono fun e w' ⟨he, h1, h2⟩ => ⟨by rw [he, ← endErr_left bytes p hs.at_]; rfl, h1, h2⟩

theorem and_one_bool (u : Nat) (hu : u < 2 ^ 64) : (bits BinOp.and IntKind.u64 (u : Int) 1 == 0) = decide (u % 2 = 0) := by
  rw [Go.and_one_u64 _ (by omega) (by omega)]
  have e : ((u : Int)) % 2 = ((u % 2 : Nat) : Int) := by push_cast; rfl
  rw [e]
  rcases Nat.mod_two_eq_zero_or_one u with h | h <;> simp [h]

set_option maxRecDepth 100000 in
theorem unfold_any (u : Nat) (hu : u < 2 ^ 64) (w : World) :
    Calls Try.prog 191 #[.int .u64 (u : Int)] w fun e w' => e = .returned (.int .i64 (numOf u)) ∧ w = w' := by
  have hb := and_one_bool u hu
  have hu' : (u : Int) ≤ 18446744073709551615 := by omega
  by_cases hp : u % 2 = 0
  · rw [show decide (u % 2 = 0) = true by simp [hp]] at hb
    have hv : numOf u = (u : Int) / 2 := by unfold numOf; rw [if_pos hp]; omega
    have HV := hide hv; clear hv hp hu
    go_enter Try.func191, Try.ntmps191
    go_wp2
    go_ret
    refine ⟨?_, rfl⟩
    rw [HV.out]
    rfl
  · rw [show decide (u % 2 = 0) = false by simp [hp]] at hb
    have hv : numOf u = -((u : Int) / 2) - 1 := by unfold numOf; rw [if_neg hp]; omega
    have HV := hide hv; clear hv hp hu
    go_enter Try.func191, Try.ntmps191
    go_wp2
    go_ret
    refine ⟨?_, rfl⟩
    rw [HV.out]
    rfl
end Go.Proofs.Ytpbloplbpkedcaa
namespace Go.Proofs.Ytpbloplbpkedcaa
open Go Go.RowKit

set_option maxRecDepth 100000 in
theorem sNum_any (B q : Nat) (bytes : List Nat) (p : Nat) (w : World) (hs : SrcIs w B q bytes p) :
    Calls Try.prog 190 #[.pointer (some ⟨q, 0, none⟩)] w fun e w' => e = .returned (.tuple #[.int .i64 (numValL (leftL bytes p)), .int .i64 ((natErrL (leftL bytes p) : Nat) : Int)]) ∧
      (∃ p', SrcIs w' B q bytes p' ∧ leftL bytes p' = natRestL (leftL bytes p)) ∧ KeptS B q w w' := by
  have C := sNat_left B q bytes p w hs
  have hlt := natValL_lt (leftL bytes p)
  obtain ⟨E, hE⟩ : ∃ E, E = natErrL (leftL bytes p) := ⟨_, rfl⟩
  obtain ⟨V, hV⟩ : ∃ V, V = natValL (leftL bytes p) := ⟨_, rfl⟩
  have hn : numValL (leftL bytes p) = if E = 0 then numOf V else 0 := by unfold numValL; rw [hE, hV]
  rw [← hE, ← hV] at C
  rw [← hV] at hlt
  rw [hn, ← hE]
  clear hE hV hn hs
  have U := fun w => unfold_any V hlt w
  by_cases h0 : E = 0
  · subst h0
    rw [if_pos rfl]
    go_enter Try.func190, Try.ntmps190
    go_wp2_with fail
    refine C.mono ?_
    clear C
    rintro e w1 ⟨rfl, h1, h2⟩
    have H1 := hide h1; have H2 := hide h2; clear h1 h2
    go_wp2_with fail
    refine (U _).mono ?_
    rintro e w' ⟨rfl, rfl⟩
    go_wp2
    go_ret2
    exact ⟨rfl, H1.out, H2.out⟩
  · rw [if_neg h0]
    have hb : ((E : Int) != 0) = true := by simp; omega
    have H0 := hide h0; clear h0
    go_enter Try.func190, Try.ntmps190
    go_wp2_with fail
    refine C.mono ?_
    clear C
    rintro e w1 ⟨rfl, h1, h2⟩
    have H1 := hide h1; have H2 := hide h2; clear h1 h2
    go_wp2
    go_ret2
    exact ⟨rfl, H1.out, H2.out⟩

theorem rem_two (u : Nat) : (((u : Int) % 2) == 1) = decide (u % 2 ≠ 0) := by
  have e : ((u : Int)) % 2 = ((u % 2 : Nat) : Int) := by push_cast; rfl
  rw [e]
  rcases Nat.mod_two_eq_zero_or_one u with h | h <;> simp [h]

set_option maxRecDepth 100000 in
theorem rsNum_any (B q : Nat) (l : List Bool) (w : World) (hs : RefIs w B q l) :
    Calls Try.prog 179 #[.pointer (some ⟨q, 0, none⟩)] w fun e w' => e = .returned (.tuple #[.int .i64 (numValL l), .int .i64 ((natErrL l : Nat) : Int)]) ∧ RefIs w' B q (natRestL l) ∧ KeptR B q w w' := by
  have C := rsNat_any B q l w hs
  have hlt := natValL_lt l
  obtain ⟨E, hE⟩ : ∃ E, E = natErrL l := ⟨_, rfl⟩
  obtain ⟨V, hV⟩ : ∃ V, V = natValL l := ⟨_, rfl⟩
  have hn : numValL l = if E = 0 then numOf V else 0 := by unfold numValL; rw [hE, hV]
  rw [← hE, ← hV] at C
  rw [← hV] at hlt
  rw [hn, ← hE]
  clear hE hV hn hs
  have hlt' : (V : Int) ≤ 18446744073709551615 := by omega
  have hb2 := rem_two V
  by_cases h0 : E = 0
  · subst h0
    rw [if_pos rfl]
    by_cases hp : V % 2 = 0
    · rw [show decide (V % 2 ≠ 0) = false by simp [hp]] at hb2
      have hv : numOf V = (V : Int) / 2 := by unfold numOf; rw [if_pos hp]; omega
      have HV := hide hv; clear hv hp hlt
      go_enter Try.func179, Try.ntmps179
      go_wp2_with fail
      refine C.mono ?_
      clear C
      rintro e w1 ⟨rfl, h1, h2⟩
      have H1 := hide h1; have H2 := hide h2; clear h1 h2
      go_wp2
      go_ret2
      rw [HV.out]
      exact ⟨rfl, H1.out, H2.out⟩
    · rw [show decide (V % 2 ≠ 0) = true by simp; omega] at hb2
      have hv : numOf V = -((V : Int) / 2) - 1 := by unfold numOf; rw [if_neg hp]; omega
      have HV := hide hv; clear hv hp hlt
      go_enter Try.func179, Try.ntmps179
      go_wp2_with fail
      refine C.mono ?_
      clear C
      rintro e w1 ⟨rfl, h1, h2⟩
      have H1 := hide h1; have H2 := hide h2; clear h1 h2
      go_wp2
      go_ret2
      rw [HV.out]
      exact ⟨rfl, H1.out, H2.out⟩
  · rw [if_neg h0]
    have hb : ((E : Int) != 0) = true := by simp; omega
    have H0 := hide h0; clear h0
    go_enter Try.func179, Try.ntmps179
    go_wp2_with fail
    refine C.mono ?_
    clear C
    rintro e w1 ⟨rfl, h1, h2⟩
    have H1 := hide h1; have H2 := hide h2; clear h1 h2
    go_wp2
    go_ret2
    exact ⟨rfl, H1.out, H2.out⟩

/-- A flag: the next bit. -/
def flagVal (l : List Bool) : Bool := (bitsVal l 1 : Int) == 1

theorem any_take_false (l : List Bool) (k : Nat) (h : ∀ i, i < k → l.getD i false = false) : (l.take k).any id = false := by
  rw [List.any_eq_false]
  intro x hx
  obtain ⟨i, hi, rfl⟩ := List.getElem_of_mem hx
  simp at hi
  have hik : i < k := by omega
  have hil : i < l.length := by omega
  have := h i hik
  simp [List.getD, hil] at this
  rw [List.getElem_take]
  simp [this]
theorem any_of (l : List Bool) (k : Nat) (hk : k < l.length) (h : l.getD k false = true) : l.any id = true := by
  rw [List.any_eq_true]
  refine ⟨l[k], List.getElem_mem _, ?_⟩
  simpa [List.getD, hk] using h

set_option maxRecDepth 100000 in
theorem rsEnd_any (B q : Nat) (l : List Bool) (w : World) (hs : RefIs w B q l) :
    Calls Try.prog 53 #[.pointer (some ⟨q, 0, none⟩)] w fun e w' => e = .returned (.int .i64 ((endErrL l : Nat) : Int)) ∧ w = w' := by
  rcases hs.open with ⟨rfl, ao, cap, h0, _⟩ | ⟨b, o, cap, h0, hcap, hpos, hc⟩
  · clear hs
    go_enter Try.func53, Try.ntmps53
    go_wp2
    refine wp_loop_rounds 1 ?_
    rw [rounds_succ]
    go_wp2
    go_ret
    exact ⟨rfl, rfl⟩
  · have hlen := hs.len
    clear hs
    obtain ⟨N, hN⟩ : ∃ N, N = l.length := ⟨_, rfl⟩
    rw [← hN] at h0 hcap hpos hlen
    have HN := hide hN; clear hN
    have HC := hide hc; clear hc
    by_cases h8 : 7 < N
    · have he : endErrL l = 12 := by unfold endErrL; rw [if_pos (by rw [← HN.out]; omega)]
      rw [he]
      clear he
      go_enter Try.func53, Try.ntmps53
      go_wp2
      go_ret
      exact ⟨rfl, rfl⟩
    · have he : endErrL l = if l.any id then 12 else 0 := by unfold endErrL; rw [if_neg (by rw [← HN.out]; omega)]
      have HE := hide he; clear he
      go_enter Try.func53, Try.ntmps53
      go_wp2
      go_loop [3] (fun i => ∃ k : Nat, k ≤ N ∧ i = .int .i64 k ∧ ∀ i, i < k → l.getD i false = false) (fun i => N - (intOf i).toNat)
      case atStart => exact ⟨0, Nat.zero_le _, rfl, by intro i hi; omega⟩
      case round =>
        obtain ⟨k, hk, rfl, hz⟩ := hrel
        have HZ := hide hz; clear hz
        by_cases hlt : k < N
        · have hcell := HC.out k (by rw [← HN.out]; exact hlt)
          cases hb : l.getD k false with
          | true =>
            rw [hb] at hcell
            have HB := hide hb; clear hb
            go_wp2
            go_ret
            rw [HE.out, any_of l k (by rw [← HN.out]; exact hlt) HB.out]
            exact ⟨rfl, rfl⟩
          | false =>
            rw [hb] at hcell
            have HB := hide hb; clear hb
            go_wp2
            go_round
            case rel =>
              refine ⟨k + 1, by omega, by go_num, fun i hi => ?_⟩
              by_cases hik : i = k
              · rw [hik]; exact HB.out
              · exact HZ.out i (by omega)
            case measure => simp [intOf]; omega
        · go_wp2
          go_ret
          have ht := any_take_false l k HZ.out
          rw [List.take_of_length_le (by rw [← HN.out]; omega)] at ht
          rw [HE.out, ht]
          exact ⟨rfl, rfl⟩
end Go.Proofs.Ytpbloplbpkedcaa

/- Plain facts: bits, eight a byte, built bit by bit. No program here. -/
namespace Go.Proofs.Ytpbloplbpkedcaa
open Go

/-- Byte j of bits, filled up with bits 0. -/
def packByte (l : List Bool) (j : Nat) : Nat := valBits ((l.drop (8 * j)).take 8) * 2 ^ (8 - ((l.drop (8 * j)).take 8).length)
/-- n bytes of bits. -/
def packN (l : List Bool) (n : Nat) : List Nat := (List.range n).map (packByte l)
theorem packN_length (l : List Bool) (n : Nat) : (packN l n).length = n := by simp [packN]
theorem packByte_empty (l : List Bool) (j : Nat) (h : l.length ≤ 8 * j) : packByte l j = 0 := by
  unfold packByte
  rw [List.drop_of_length_le h]; simp [valBits]
theorem packByte_lt (l : List Bool) (j : Nat) : packByte l j < 256 := by
  unfold packByte
  have h := valBits_lt ((l.drop (8 * j)).take 8)
  have hl : ((l.drop (8 * j)).take 8).length ≤ 8 := by simp; omega
  have := Nat.mul_lt_mul_of_pos_right h (Nat.two_pow_pos (8 - ((l.drop (8 * j)).take 8).length))
  rw [← Nat.pow_add, show ((l.drop (8 * j)).take 8).length + (8 - ((l.drop (8 * j)).take 8).length) = 8 by omega] at this
  omega
theorem packByte_other (l : List Bool) (b : Bool) (j : Nat) (h : j ≠ l.length / 8) : packByte (l ++ [b]) j = packByte l j := by
  unfold packByte
  rcases Nat.lt_or_ge j (l.length / 8) with hlt | hge
  · rw [List.drop_append_of_le_length (by omega), List.take_append_of_le_length (by simp; omega)]
  · have h1 : l.length < 8 * j := by omega
    rw [List.drop_of_length_le (l := l) (by omega), List.drop_of_length_le (l := l ++ [b]) (by simp; omega)]
theorem packByte_this (l : List Bool) (b : Bool) : packByte (l ++ [b]) (l.length / 8) = packByte l (l.length / 8) + b.toNat * 2 ^ (7 - l.length % 8) := by
  unfold packByte
  have hd : (l.drop (8 * (l.length / 8))).length = l.length % 8 := by rw [List.length_drop]; omega
  have hlt : l.length % 8 < 8 := Nat.mod_lt _ (by decide)
  rw [List.drop_append_of_le_length (by omega), List.take_of_length_le (by simp; omega), List.take_of_length_le (by omega), List.length_append, hd, valBits_snoc]
  simp only [List.length_cons, List.length_nil]
  rw [show 8 - l.length % 8 = (7 - l.length % 8) + 1 by omega, show 8 - (l.length % 8 + (0 + 1)) = 7 - l.length % 8 by omega, Nat.pow_succ]
  rw [Nat.add_mul]
  congr 1
  rw [Nat.mul_comm 2, Nat.mul_assoc, Nat.mul_comm 2]
theorem packed_packN (l : List Bool) : packed l = packN l ((l.length + 7) / 8) := by
  unfold packed packN
  have hfull : fullOf l = (List.range (l.length / 8)).map (packByte l) := by
    unfold fullOf
    apply List.map_congr_left
    intro j hj
    simp at hj
    unfold packByte
    have : ((l.drop (8 * j)).take 8).length = 8 := by simp; omega
    rw [this]; simp
  rw [hfull]
  by_cases h : l.length % 8 = 0
  · rw [if_pos h, List.append_nil, show (l.length + 7) / 8 = l.length / 8 by omega]
  · rw [if_neg h, show (l.length + 7) / 8 = l.length / 8 + 1 by omega, List.range_succ, List.map_append]
    congr 1
    simp only [List.map_cons, List.map_nil, List.cons.injEq, and_true]
    unfold packByte restOf
    have hd : (l.drop (8 * (l.length / 8))).length = l.length % 8 := by rw [List.length_drop]; omega
    rw [List.take_of_length_le (by omega), hd]
theorem packN_set (l : List Bool) (b : Bool) (n : Nat) (_h : l.length < 8 * n) : (byteVs (packN l n)).set (l.length / 8) (.int .u8 ((packByte l (l.length / 8) + b.toNat * 2 ^ (7 - l.length % 8) : Nat) : Int)) = byteVs (packN (l ++ [b]) n) := by
  apply List.ext_getElem
  · simp [byteVs, packN]
  · intro i h1 h2
    simp [byteVs, packN] at h1 h2 ⊢
    rw [List.getElem_set]
    by_cases hik : l.length / 8 = i
    · subst hik
      rw [if_pos rfl, packByte_this]
      push_cast; rfl
    · rw [if_neg hik, packByte_other l b i (by omega)]
      simp
theorem packN_zero (n : Nat) : packN [] n = List.replicate n 0 := by
  unfold packN
  apply List.ext_getElem
  · simp
  · intro i h1 h2
    simp [packByte_empty]
end Go.Proofs.Ytpbloplbpkedcaa

/- Contract of Text of the document's own source. -/
namespace Go.Proofs.Ytpbloplbpkedcaa
open Go Go.RowKit

def textStr (l : List Bool) : ByteArray := strOfNums ((textBytesL l).map fun x : Nat => (x : Int))

/-- An append onto a row that was made since: of the older blocks nothing turns. -/
theorem Kept.grown_fresh {B : Nat} {T : Nat → Bool} {a w w' : World} (h : Kept B T a w) {B0 e size n : Nat} {v : Value} {xs : List Value} (hown : w.ownsRow B0 e size v n xs) (hg : w.grownBy w' v.ownBlock) (hB : B ≤ w.heap.size) (hB0 : B ≤ B0) (hB1 : a.heap.size ≤ B0) : Kept B T a w' :=
  ⟨h.below.grown hg hB (fun k hk => Nat.le_trans hB0 (hown.lt k hk).1), fun k cs e1 fr hk ht => by
    have hh := h.typed k cs e1 fr hk ht
    rw [hg.block k (lt_of_block hh) ?_]; · exact hh
    intro hk2
    have h1 := hown.lt k hk2.symm
    have h2 := lt_of_block hk
    omega⟩
theorem Kept.setCell_fresh {B : Nat} {T : Nat → Bool} {a w : World} (h : Kept B T a w) {p : Addr} (hp : B ≤ p.block) (h1 : a.heap.size ≤ p.block) (u : Value) : Kept B T a (w.setCell p u) :=
  ⟨h.below.setCell hp u, fun k cs e fr hk ht => by
    have hh := h.typed k cs e fr hk ht
    have hne : k ≠ p.block := by have := lt_of_block hk; omega
    rw [Below.heap_setCell _ _ _ _ hne]; exact hh⟩
theorem KeptR.grown_fresh {B q : Nat} {a w w' : World} (h : KeptR B q a w) {B0 e size n : Nat} {v : Value} {xs : List Value} (hown : w.ownsRow B0 e size v n xs) (hg : w.grownBy w' v.ownBlock) (hB : B ≤ w.heap.size) (hB0 : B ≤ B0) (hB1 : a.heap.size ≤ B0) : KeptR B q a w' :=
  ⟨h.kept.grown_fresh hown hg hB hB0 hB1, fun k h1 h2 => by
    rw [hg.block k (Nat.lt_of_lt_of_le h1 h.kept.below.size) (fun e => by have := (hown.lt k e.symm).1; omega)]; exact h.only k h1 h2⟩
theorem KeptR.setCell_fresh {B q : Nat} {a w : World} (h : KeptR B q a w) {p : Addr} (hp : B ≤ p.block) (h1 : a.heap.size ≤ p.block) (u : Value) : KeptR B q a (w.setCell p u) :=
  ⟨h.kept.setCell_fresh hp h1 u, fun k h2 h3 => by rw [Below.heap_setCell _ _ _ _ (by omega)]; exact h.only k h2 h3⟩
theorem RefIs.grown {w w' : World} {B q : Nat} {l : List Bool} (h : RefIs w B q l) {B0 e size n : Nat} {v : Value} {xs : List Value} (hown : w.ownsRow B0 e size v n xs) (he1 : 67 ≠ e) (he2 : 4 ≠ e) (hg : w.grownBy w' v.ownBlock) : RefIs w' B q l := by
  obtain ⟨ao, cap, hq, hc, hn, hr⟩ := h.row
  refine ⟨h.from_, h.len, ao, cap, grow_keeps hq hown he1 hg rfl, hc, hn, fun a ha => ?_⟩
  obtain ⟨hs, cur, hg2, hj⟩ := hr a ha
  exact ⟨hs, cur, grow_keeps hg2 hown he2 hg rfl, hj⟩
theorem RefIs.alloc {w : World} {B q : Nat} {l : List Bool} (h : RefIs w B q l) (o : Obj) : RefIs (w.alloc o) B q l :=
  h.below ((Below.refl w.heap.size w).alloc (Nat.le_refl _) o) (Nat.le_refl _)
/-- What was loaded before is stored back: it stands where it stood. -/
theorem RefIs.restored {w w1 : World} {B B' q : Nat} {l l1 : List Bool} (h : RefIs w B q l) (hk : KeptR B' q w w1) (h1 : RefIs w1 B q l1) {v : Value} (h0 : w.cell? ⟨q, 0, none⟩ = some v) : RefIs (w1.setCell ⟨q, 0, none⟩ v) B q l := by
  obtain ⟨ao, cap, hq, hc, hn, hr⟩ := h.row
  obtain ⟨ao1, cap1, hq1, _⟩ := h1.row
  have h2 := cell_of_one hq
  rw [h0] at h2
  simp only [Option.some.injEq] at h2
  subst h2
  refine ⟨h.from_, h.len, ao, cap, one_setCell hq1, hc, hn, fun a ha => ?_⟩
  obtain ⟨hs, cur, hg, hj⟩ := hr a ha
  refine ⟨hs, cur, ?_, hj⟩
  have hg1 := hk.typed _ _ _ _ hg (by decide)
  have hne : a.block ≠ q := by
    rintro rfl
    rw [hq1] at hg1
    simp only [Option.some.injEq, Obj.cells.injEq] at hg1
    exact absurd hg1.2.1 (by decide)
  rw [Below.heap_setCell _ _ _ _ hne]; exact hg1

theorem conv_own {w : World} {B n : Nat} {v : Value} {bytes : List Nat} (h : w.ownsRow B 5 1 v n (byteVs bytes)) (hn : bytes.length = n) :
    (convert 53 9 v).run Try.prog w = .ok (.string (strOfNums (bytes.map fun x : Nat => (x : Int)))) w := by
  subst hn
  rcases h.2 with ⟨hv, hn0⟩ | ⟨g, cap, cur, hv, hg, hgg, hgn, hcapm, hcsz, htake⟩
  · subst hv
    obtain rfl : bytes = [] := List.length_eq_zero_iff.1 hn0
    exact run_convert_bytes_nil w 53 5 Try.underlying53 Try.underlying5 0 0 9 Try.underlying9
  · subst hv
    refine run_convert_bytes_arg w 53 5 Try.underlying53 Try.underlying5 g 0 bytes.length cap _ (by simp) (fun i hi => ?_) 9 Try.underlying9
    have := h.cells (g := g) rfl i (.int .u8 ((bytes.getD i 0 : Nat) : Int)) (by simp [byteVs, hi])
    rw [add_off] at this
    rw [Nat.zero_add, this]
    simp [List.getD, hi]

theorem chunk_eq (l : List Bool) (i : Nat) : bitsVal (l.drop (8 * i)) 8 = if 8 * i + 8 ≤ l.length then chunk l i else 0 := by
  unfold bitsVal chunk
  by_cases h : 8 * i + 8 ≤ l.length
  · rw [if_pos h, if_pos]; · rfl
    exact bitsErr_ok (n := 8) (by omega) (by simp; omega)
  · rw [if_neg h, if_neg]
    rw [bitsErr_ends (n := 8) (by omega) (by simp; omega)]
    decide

set_option maxRecDepth 100000 in
set_option maxHeartbeats 1600000 in
theorem rsText_any (B q : Nat) (l : List Bool) (w : World) (hs : RefIs w B q l) :
    Calls Try.prog 95 #[.pointer (some ⟨q, 0, none⟩)] w fun e w' => e = .returned (.tuple #[.string (textStr l), .int .i64 ((textErrL l : Nat) : Int)]) ∧ RefIs w' B q (textRestL l) ∧ KeptR B q w w' := by
  obtain ⟨i0, hi, hz0, hz1, hz2⟩ := info_parts Try.info5
  have C := rsNat_any B q l w hs
  have hlt := natValL_lt l
  have hfree := hs.free
  obtain ⟨ao0, cap0, h00⟩ : ∃ ao cap, w.cell? ⟨q, 0, none⟩ = some (.slice ao l.length cap) := by
    obtain ⟨ao, cap, hq, _⟩ := hs.row
    exact ⟨ao, cap, cell_of_one hq⟩
  obtain ⟨N0, hN0⟩ : ∃ N0, N0 = l.length := ⟨_, rfl⟩
  rw [← hN0] at h00
  have HN0 := hide hN0; clear hN0
  obtain ⟨E, hE⟩ : ∃ E, E = natErrL l := ⟨_, rfl⟩
  obtain ⟨V, hV⟩ : ∃ V, V = natValL l := ⟨_, rfl⟩
  rw [← hE, ← hV] at C
  rw [← hV] at hlt
  have HS := hide hs
  have HE := hide hE
  have HV := hide hV
  clear hE hV hs
  have hV' : (V : Int) ≤ 18446744073709551615 := by omega
  have HVlt := hide hlt; clear hlt
  by_cases h0 : E = 0
  · subst h0
    go_enter Try.func95, Try.ntmps95
    go_wp2_with fail
    refine C.mono ?_
    clear C
    rintro e w1 ⟨rfl, hs1, k1⟩
    obtain ⟨ao1, cap1, h01⟩ : ∃ ao cap, w1.cell? ⟨q, 0, none⟩ = some (.slice ao (natRestL l).length cap) := by
      obtain ⟨ao, cap, hq, _⟩ := hs1.row
      exact ⟨ao, cap, cell_of_one hq⟩
    have hfree1 := hs1.free
    have hlen1 := hs1.len
    obtain ⟨N1, hN1⟩ : ∃ N1, N1 = (natRestL l).length := ⟨_, rfl⟩
    rw [← hN1] at h01 hlen1
    have HN1 := hide hN1; clear hN1
    have H1 := hide hs1; have K1 := hide k1; clear hs1 k1
    by_cases hmuch : N1 / 8 < V
    · have he : textErrL l = 10 := by unfold textErrL; rw [← HE.out, ← HV.out, ← HN1.out]; simp [hmuch]
      go_wp2_with fail
      go_ret2
      rw [textStr, textBytesL, textRestL, he]
      refine ⟨rfl, ?_, K1.out.trans (H1.out.keeps _)⟩
      exact HS.out.restored K1.out H1.out (by rw [h00])
    · have he : textErrL l = 0 := by unfold textErrL; rw [← HE.out, ← HV.out, ← HN1.out]; simp [hmuch]
      have hV8 : 8 * V ≤ N1 := by omega
      have hV9 : V ≤ 140737488355328 := by omega
      have HT : Hid (textBytesL l = (List.range V).map (chunk (natRestL l)) ∧ textRestL l = (natRestL l).drop (8 * V)) := by
        unfold textBytesL textRestL; rw [he, if_pos rfl, if_pos rfl, ← HV.out]; exact ⟨rfl, rfl⟩
      have HTE := hide he; clear he
      go_wp2_with fail
      go_loopw [7, 8] (fun v i wr => ∃ k : Nat, k ≤ V ∧ i = .int .u64 k ∧ wr.ownsRow w1.heap.size 5 1 v k (byteVs ((List.range k).map (chunk (natRestL l)))) ∧ RefIs wr B q ((natRestL l).drop (8 * k)) ∧ KeptR B q w1 wr) (fun _ i _ => V - (intOf i).toNat)
      case atStart => exact ⟨0, Nat.zero_le _, rfl, World.ownsRow_nil _ _ _ _, by simpa using H1.out, .refl _ _ _⟩
      case round =>
        obtain ⟨k, hk, rfl, hown, hsr, hkr⟩ := hrel
        have HO := hide hown; have HR := hide hsr; have HK := hide hkr; clear hown hsr hkr
        by_cases hltk : k < V
        · have hsz : w1.heap.size ≤ wr.heap.size := HK.out.below.size
          have hB1 : B ≤ w1.heap.size := by have := H1.out.from_; have := H1.out.lt; omega
          have CB := rsBits_any B q 8 ((natRestL l).drop (8 * k)) wr HR.out (by decide)
          have hc1 := chunk_eq (natRestL l) k
          rw [if_pos (by rw [← HN1.out]; omega)] at hc1
          have hce : bitsErr 8 ((natRestL l).drop (8 * k)).length = 0 := bitsErr_ok (n := 8) (by omega) (by simp; rw [← HN1.out]; omega)
          have hcr : bitsRest ((natRestL l).drop (8 * k)) 8 = (natRestL l).drop (8 * (k + 1)) := by
            unfold bitsRest; rw [hce, if_pos rfl]; simp [List.drop_drop, Nat.mul_add]
          rw [hc1, hce, hcr] at CB
          obtain ⟨c, hcc⟩ : ∃ c, c = chunk (natRestL l) k := ⟨_, rfl⟩
          have hc256 : c < 256 := by rw [hcc]; exact chunk_lt _ _
          rw [← hcc] at CB
          have HCC := hide hcc; clear hcc hc1 hce hcr
          have hcw : (c : Int) % 256 = (c : Int) := by omega
          go_wp2_with fail
          refine CB.mono ?_
          clear CB
          rintro e w2 ⟨rfl, hs2, k2⟩
          have H2 := hide hs2; have K2 := hide k2; clear hs2 k2
          have HO2 := hide (K2.out.ownsRow HO.out (by decide))
          have hsz2 := K2.out.below.size
          go_wp2_with (at_builtin; refine wpList_append_own _ rfl (.tmp 46) (.tmp 49) 53 rfl w1.heap.size 5 i0 (.int .u8 0) 1 1 Try.underlying53 hi hz0 hz1 hz2 rfl (by decide) _ k _ rfl (HO2.out.alloc _) ⟨w2.heap.size, 0, none⟩ 1 1 [.int .u8 (c : Int)] rfl rfl (by intro j' u hj; match j', hj with | 0, hj => simp at hj; subst hj; simp only [Addr.add]; exact cell_alloc_one _ _ rfl _ _) (by intro u hu; simp at hu; subst hu; rfl) (by unfold maxLen; omega) (by omega) (by simp; omega) ?_; intro v3 w3 hown3 hgrow3 hnil3; clear hnil3; have HO3 := hide hown3; have HG3 := hide hgrow3; clear hown3 hgrow3)
          go_roundw
          case rel =>
            refine ⟨k + 1, by omega, by go_num, ?_, (H2.out.alloc _).grown (HO2.out.alloc _) (by decide) (by decide) HG3.out, ?_⟩
            · rw [List.range_succ, List.map_append, byteVs_append, ← List.singleton_append]
              have := HO3.out
              rw [HCC.out] at this
              simpa [byteVs] using this
            · exact ((HK.out.trans K2.out).alloc (by omega) _).grown_fresh (HO2.out.alloc _) HG3.out (by simp; omega) hB1 (Nat.le_refl _)
          case measure => simp [intOf]; omega
        · obtain rfl : k = V := by omega
          have hcv := conv_own HO.out (by simp)
          go_wp2
          go_ret2
          rw [textStr, HT.out.1, HT.out.2, HTE.out]
          exact ⟨by rw [List.map_map]; rfl, HR.out, K1.out.trans HK.out⟩
  · have hb : ((E : Int) != 0) = true := by simp; omega
    have H0 := hide h0; clear h0
    go_enter Try.func95, Try.ntmps95
    go_wp2_with fail
    refine C.mono ?_
    clear C
    rintro e w1 ⟨rfl, hs1, k1⟩
    have H1 := hide hs1; have K1 := hide k1; clear hs1 k1
    go_wp2
    go_ret2
    have he : textErrL l = E := by unfold textErrL; rw [← HE.out, if_pos H0.out]
    have hr : natRestL l = l := by unfold natRestL; rw [← HE.out, if_neg H0.out]
    have ht : textBytesL l = [] := by unfold textBytesL; rw [he, if_neg H0.out]
    have ht2 : textRestL l = l := by unfold textRestL; rw [he, if_neg H0.out]
    have hh := H1.out
    rw [hr] at hh
    rw [textStr, ht, ht2, he]
    exact ⟨rfl, hh, K1.out⟩
end Go.Proofs.Ytpbloplbpkedcaa

/- Contracts: a sink takes a text, two flags; the document's own bits of a number, of a text. -/
namespace Go.Proofs.Ytpbloplbpkedcaa
open Go Go.RowKit

/-- Does the number u have place in n bits. -/
def fitsB (u : Nat) (n : Int) : Bool := decide (0 ≤ n ∧ n ≤ 64 ∧ u < 2 ^ n.toNat)
theorem shr_zero (u n : Nat) : (((u : Int) / 2 ^ n) != 0) = !decide (u < 2 ^ n) := by
  have e : ((u : Int) / 2 ^ n) = ((u / 2 ^ n : Nat) : Int) := by push_cast; rfl
  rw [e]
  by_cases h : u < 2 ^ n
  · rw [Nat.div_eq_of_lt h]; simp [h]
  · have : 0 < u / 2 ^ n := Nat.div_pos (by omega) (Nat.two_pow_pos n)
    have h2 : ((u / 2 ^ n : Nat) : Int) ≠ 0 := by omega
    rw [show decide (u < 2 ^ n) = false by simp; omega]
    simp
    exact_mod_cast h2

set_option maxRecDepth 100000 in
theorem kBits_unfit (B q : Nat) (u : Nat) (n : Int) (bs : List Bool) (w : World) (hs : SinkIs w B q bs) (hf : fitsB u n = false) (hu : u < 2 ^ 64) (hn : (Lit.int .i64 n).wf = true) :
    Calls Try.prog 99 #[.pointer (some ⟨q, 0, none⟩), .int .u64 (u : Int), .int .i64 n] w fun e w' => e = .returned (.int .i64 1) ∧ w = w' := by
  have hm := hs.made
  have hw2 : -9223372036854775808 ≤ n ∧ n ≤ 9223372036854775807 := by simpa [Lit.wf, IntKind.min, IntKind.max, IntKind.signed, IntKind.bits] using hn
  clear hs hn
  by_cases h1 : n < 0
  · clear hf
    go_enter Try.func99, Try.ntmps99
    go_wp2_with (go_at_call 103; refine (isMade_any q _ hm).mono ?_; rintro e w' ⟨rfl, rfl⟩)
    go_ret
    exact ⟨rfl, rfl⟩
  by_cases h2 : 64 < n
  · clear hf
    go_enter Try.func99, Try.ntmps99
    go_wp2_with (go_at_call 103; refine (isMade_any q _ hm).mono ?_; rintro e w' ⟨rfl, rfl⟩)
    go_ret
    exact ⟨rfl, rfl⟩
  obtain ⟨m, rfl⟩ : ∃ m : Nat, n = m := ⟨n.toNat, by omega⟩
  have hb : (((u : Int) / 2 ^ m) != 0) = true := by
    rw [shr_zero]
    unfold fitsB at hf
    simp at hf ⊢
    exact hf (by omega)
  have hm64 : m ≤ 64 := by omega
  have hu' : (u : Int) ≤ 18446744073709551615 := by omega
  clear hf hu
  go_enter Try.func99, Try.ntmps99
  go_wp2_with (go_at_call 103; refine (isMade_any q _ hm).mono ?_; rintro e w' ⟨rfl, rfl⟩)
  go_ret
  exact ⟨rfl, rfl⟩

theorem fitsB_nat {u : Nat} {n : Int} (h : fitsB u n = true) : ∃ m : Nat, n = m ∧ m ≤ 64 ∧ u < 2 ^ m := by
  unfold fitsB at h
  simp only [decide_eq_true_eq] at h
  obtain ⟨h1, h2, h3⟩ := h
  exact ⟨n.toNat, by omega, by omega, h3⟩

set_option maxRecDepth 100000 in
theorem kBits_long (B q : Nat) (u m : Nat) (bs : List Bool) (w : World) (hs : SinkIs w B q bs) (hm64 : m ≤ 64) (hf : u < 2 ^ m) (hl : 1048576 < bs.length + m) :
    Calls Try.prog 99 #[.pointer (some ⟨q, 0, none⟩), .int .u64 (u : Int), .int .i64 (m : Int)] w fun e w' => e = .returned (.int .i64 3) ∧ w = w' := by
  have hm := hs.made
  have hc := hs.count
  have hsl := hs.len
  have hb : (((u : Int) / 2 ^ m) != 0) = false := by rw [shr_zero]; simp [hf]
  have hd : decide ((m : Int) ≤ 1048576 - ((bs.length : Nat) : Int)) = false := by simp; omega
  clear hf hs
  go_enter Try.func99, Try.ntmps99
  go_wp2_with fail
  refine (isMade_any q _ hm).mono ?_
  rintro e w' ⟨rfl, rfl⟩
  go_wp2_with fail
  refine (hasRoom_any q _ _ _ (by omega) (by omega) hc).mono ?_
  rw [hd]
  rintro e w' ⟨rfl, rfl⟩
  go_wp2
  go_ret
  exact ⟨rfl, rfl⟩

set_option maxRecDepth 100000 in
theorem kBits_fits (B q : Nat) (u m : Nat) (bs : List Bool) (w : World) (hs : SinkIs w B q bs) (hm64 : m ≤ 64) (hf : u < 2 ^ m) (hl : bs.length + m ≤ 1048576) :
    Calls Try.prog 99 #[.pointer (some ⟨q, 0, none⟩), .int .u64 (u : Int), .int .i64 (m : Int)] w fun e w' => e = .returned (.int .i64 0) ∧ SinkIs w' B q (bs ++ bitsOf u m) ∧ Kept B sinkT w w' := by
  have hm := hs.made
  have hc := hs.count
  have hsl := hs.len
  have hb : (((u : Int) / 2 ^ m) != 0) = false := by rw [shr_zero]; simp [hf]
  have hd : decide ((m : Int) ≤ 1048576 - ((bs.length : Nat) : Int)) = true := by simp; omega
  have hu : u < 2 ^ 64 := Nat.lt_of_lt_of_le hf (Nat.pow_le_pow_right (by omega) hm64)
  have C := kPut_any B q u m bs w hu hm64 hs hl
  clear hf hs hu
  go_enter Try.func99, Try.ntmps99
  go_wp2_with fail
  refine (isMade_any q _ hm).mono ?_
  rintro e w' ⟨rfl, rfl⟩
  go_wp2_with fail
  refine (hasRoom_any q _ _ _ (by omega) (by omega) hc).mono ?_
  rw [hd]
  rintro e w' ⟨rfl, rfl⟩
  go_wp2_with fail
  refine C.mono ?_
  rintro e w' ⟨rfl, hs', hk'⟩
  go_wp2
  go_ret
  exact ⟨rfl, hs', hk'⟩

theorem zigN_lt (n : Int) (h : -9223372036854775808 ≤ n ∧ n ≤ 9223372036854775807) : zigN n < 2 ^ 64 := by
  unfold zigN; split <;> omega

set_option maxRecDepth 100000 in
theorem fold_any (n : Int) (w : World) (hn : (Lit.int .i64 n).wf = true) :
    Calls Try.prog 189 #[.int .i64 n] w fun e w' => e = .returned (.int .u64 ((zigN n : Nat) : Int)) ∧ w = w' := by
  have hw2 : -9223372036854775808 ≤ n ∧ n ≤ 9223372036854775807 := by simpa [Lit.wf, IntKind.min, IntKind.max, IntKind.signed, IntKind.bits] using hn
  by_cases h : 0 ≤ n
  · have hz : ((zigN n : Nat) : Int) = 2 * n := by unfold zigN; rw [if_pos h]; omega
    rw [hz]
    clear hz hn
    go_enter Try.func189, Try.ntmps189
    go_wp2
    go_ret
    exact ⟨rfl, rfl⟩
  · have hz : ((zigN n : Nat) : Int) = 2 * (-(n + 1)) + 1 := by unfold zigN; rw [if_neg h]; omega
    rw [hz]
    clear hz hn
    go_enter Try.func189, Try.ntmps189
    go_wp2
    go_ret
    exact ⟨rfl, rfl⟩

theorem kNum_fits (B q : Nat) (n : Int) (bs : List Bool) (w : World) (hn : (Lit.int .i64 n).wf = true) (hs : SinkIs w B q bs) (hl : bs.length + (2 * ahd (zigN n) + 1) ≤ 1048576) :
    Calls Try.prog 187 #[.pointer (some ⟨q, 0, none⟩), .int .i64 n] w fun e w' => e = .returned (.int .i64 0) ∧ SinkIs w' B q (bs ++ natBits (zigN n)) ∧ Kept B sinkT w w' := by
  have hw2 : -9223372036854775808 ≤ n ∧ n ≤ 9223372036854775807 := by simpa [Lit.wf, IntKind.min, IntKind.max, IntKind.signed, IntKind.bits] using hn
  have F := fold_any n w hn
  have C := kNat_fits B q (zigN n) bs w (zigN_lt n hw2) hs hl
  clear hn hw2 hs hl
  go_enter Try.func187, Try.ntmps187
  go_wp2_with fail
  refine F.mono ?_
  rintro e w' ⟨rfl, rfl⟩
  go_wp2_with fail
  refine C.mono ?_
  rintro e w' ⟨rfl, hs', hk'⟩
  go_wp2
  go_ret
  exact ⟨rfl, hs', hk'⟩
theorem kNum_long (B q : Nat) (n : Int) (bs : List Bool) (w : World) (hn : (Lit.int .i64 n).wf = true) (hs : SinkIs w B q bs) (hl : 1048576 < bs.length + (2 * ahd (zigN n) + 1)) :
    Calls Try.prog 187 #[.pointer (some ⟨q, 0, none⟩), .int .i64 n] w fun e w' => e = .returned (.int .i64 3) ∧ w = w' := by
  have hw2 : -9223372036854775808 ≤ n ∧ n ≤ 9223372036854775807 := by simpa [Lit.wf, IntKind.min, IntKind.max, IntKind.signed, IntKind.bits] using hn
  have F := fold_any n w hn
  have C := kNat_long B q (zigN n) bs w (zigN_lt n hw2) hs hl
  clear hn hw2 hs hl
  go_enter Try.func187, Try.ntmps187
  go_wp2_with fail
  refine F.mono ?_
  rintro e w' ⟨rfl, rfl⟩
  go_wp2_with fail
  refine C.mono ?_
  rintro e w' ⟨rfl, rfl⟩
  go_wp2
  go_ret
  exact ⟨rfl, rfl⟩
end Go.Proofs.Ytpbloplbpkedcaa
namespace Go.Proofs.Ytpbloplbpkedcaa
open Go Go.RowKit

theorem own_shape_pos' {w : World} {base e size n : Nat} {v : Value} {xs : List Value} (h : w.ownsRow base e size v n xs) (hn : 0 < n) : ∃ g cap, v = .slice (some ⟨g, 0, none⟩) n cap := by
  rcases h.2 with ⟨_, h0⟩ | ⟨g, cap, cur, hv, _⟩
  · omega
  · exact ⟨g, cap, hv⟩
theorem flags_nat' {w : World} {B u : Nat} {v : Value} (h : Flags w B v (natBits u)) : ∃ g cap, v = .slice (some ⟨g, 0, none⟩) (2 * ahd u + 1) cap := by
  unfold Flags at h
  rw [natBits_length] at h
  exact own_shape h
theorem textBits_length (l : List UInt8) : (textBits l).length = 2 * ahd l.length + 1 + 8 * l.length := by
  unfold textBits
  rw [List.length_append, natBits_length]
  congr 1
  induction l with
  | nil => simp
  | cons c l ih => simp only [List.flatMap_cons, List.length_append, bitsOf_length, ih, List.length_cons]; omega
theorem flat_take_succ (l : List UInt8) (k : Nat) (h : k < l.length) : (l.take (k + 1)).flatMap (fun c => bitsOf c.toNat 8) = (l.take k).flatMap (fun c => bitsOf c.toNat 8) ++ bitsOf l[k].toNat 8 := by
  rw [List.take_succ_eq_append_getElem h, List.flatMap_append]
  simp
theorem flat_length (l : List UInt8) : (l.flatMap fun c => bitsOf c.toNat 8).length = 8 * l.length := by
  induction l with
  | nil => simp
  | cons c l ih => simp only [List.flatMap_cons, List.length_append, bitsOf_length, ih, List.length_cons]; omega

set_option maxRecDepth 100000 in
theorem kText_long (B q : Nat) (s : ByteArray) (bs : List Bool) (w : World) (hs : SinkIs w B q bs) (hbig : s.size ≤ 1048576) (hl : 1048576 < bs.length + (2 * ahd s.size + 1 + 8 * s.size)) :
    Calls Try.prog 129 #[.pointer (some ⟨q, 0, none⟩), .string s] w fun e w' => e = .returned (.int .i64 3) ∧ w = w' := by
  have hm := hs.made
  have hc := hs.count
  have hsl := hs.len
  clear hs
  by_cases h1 : 131072 < s.size
  · clear hl
    go_enter Try.func129, Try.ntmps129
    go_wp2_with (go_at_call 103; refine (isMade_any q _ hm).mono ?_; rintro e w' ⟨rfl, rfl⟩)
    go_ret
    exact ⟨rfl, rfl⟩
  · have C := Size_any s.size (by omega) w
    have ha := ahd_le s.size (by omega)
    obtain ⟨A, hA⟩ : ∃ A, A = ahd s.size := ⟨_, rfl⟩
    rw [← hA] at hl C ha
    clear hA
    have hd : decide (2 * (A : Int) + 1 + 8 * (s.size : Int) ≤ 1048576 - ((bs.length : Nat) : Int)) = false := by simp; omega
    go_enter Try.func129, Try.ntmps129
    go_wp2_with fail
    refine (isMade_any q _ hm).mono ?_
    rintro e w' ⟨rfl, rfl⟩
    go_wp2_with fail
    refine C.mono ?_
    rintro e w' ⟨rfl, rfl⟩
    go_wp2_with fail
    refine (hasRoom_any q _ _ _ (by omega) (by omega) hc).mono ?_
    rw [hd]
    rintro e w' ⟨rfl, rfl⟩
    go_wp2
    go_ret
    exact ⟨rfl, rfl⟩

set_option maxRecDepth 100000 in
set_option maxHeartbeats 800000 in
theorem kText_fits (B q : Nat) (s : ByteArray) (bs : List Bool) (w : World) (hs : SinkIs w B q bs) (hl : bs.length + (2 * ahd s.size + 1 + 8 * s.size) ≤ 1048576) :
    Calls Try.prog 129 #[.pointer (some ⟨q, 0, none⟩), .string s] w fun e w' => e = .returned (.int .i64 0) ∧ SinkIs w' B q (bs ++ textBits s.data.toList) ∧ Kept B sinkT w w' := by
  have hm := hs.made
  have hc := hs.count
  have hsl := hs.len
  have hsz : s.size ≤ 131072 := by omega
  have C := Size_any s.size (by omega) w
  have CN := kPutNat_any B q s.size bs w (by omega) hs (by omega)
  have ha := ahd_le s.size (by omega)
  have hnl := natBits_length s.size
  obtain ⟨A, hA⟩ : ∃ A, A = ahd s.size := ⟨_, rfl⟩
  rw [← hA] at hl C ha hnl
  clear hA hs
  have hdl : s.data.toList.length = s.size := Array.length_toList
  have HD := hide hdl; clear hdl
  have hd : decide (2 * (A : Int) + 1 + 8 * (s.size : Int) ≤ 1048576 - ((bs.length : Nat) : Int)) = true := by simp; omega
  go_enter Try.func129, Try.ntmps129
  go_wp2_with fail
  refine (isMade_any q _ hm).mono ?_
  rintro e w' ⟨rfl, rfl⟩
  go_wp2_with fail
  refine C.mono ?_
  rintro e w' ⟨rfl, rfl⟩
  go_wp2_with fail
  refine (hasRoom_any q _ _ _ (by omega) (by omega) hc).mono ?_
  rw [hd]
  rintro e w' ⟨rfl, rfl⟩
  go_wp2_with fail
  refine CN.mono ?_
  rintro e w1 ⟨rfl, hs1, k1⟩
  have HS1 := hide hs1; have HK1 := hide k1; have HNL := hide hnl
  clear hs1 k1 CN C hm hc hnl
  go_wp2_with fail
  go_loopw [32] (fun i wr => ∃ k : Nat, k ≤ s.size ∧ i = .int .i64 k ∧ SinkIs wr B q (bs ++ natBits s.size ++ (s.data.toList.take k).flatMap (fun c => bitsOf c.toNat 8)) ∧ Kept B sinkT w1 wr) (fun i _ => s.size - (intOf i).toNat)
  case atStart => exact ⟨0, Nat.zero_le _, rfl, by simpa using HS1.out, Kept.refl _ _ _⟩
  case round =>
    obtain ⟨k, hk, rfl, hsr, hkr⟩ := hrel
    have HSr := hide hsr; have HKr := hide hkr; clear hsr hkr
    by_cases hlt : k < s.size
    · have hft := flat_take_succ s.data.toList k (by rw [HD.out]; exact hlt)
      obtain ⟨c, hcc⟩ : ∃ c, c = s[k] := ⟨_, rfl⟩
      have hce : s.data.toList[k]'(by rw [HD.out]; exact hlt) = c := by rw [hcc]; rfl
      rw [hce] at hft
      have hc256 : c.toNat < 256 := UInt8.toNat_lt c
      have hlen2 : (bs ++ natBits s.size ++ (s.data.toList.take k).flatMap (fun c => bitsOf c.toNat 8)).length + 8 ≤ 1048576 := by
        rw [List.length_append, List.length_append, HNL.out, flat_length, List.length_take, HD.out]; omega
      have CP := kPut_any B q c.toNat 8 _ wr (by omega) (by omega) HSr.out hlen2
      have HF := hide hft
      have hcw : IntKind.u64.wrap ((s[k].toNat : Nat) : Int) = ((c.toNat : Nat) : Int) := by rw [← hcc, IntKind.wrap_u64]; omega
      clear hft hce hlen2 hcc
      go_wp2_with fail
      refine CP.mono ?_
      rintro e w2 ⟨rfl, hs2, k2⟩
      have HS2 := hide hs2; have HK2 := hide k2; clear hs2 k2
      go_wp2
      go_roundw
      case rel => exact ⟨k + 1, by omega, by go_num, by rw [HF.out, ← List.append_assoc]; exact HS2.out, HKr.out.trans HK2.out⟩
      case measure => simp [intOf]; omega
    · go_wp2
      go_ret
      obtain rfl : k = s.size := by omega
      refine ⟨rfl, ?_, HK1.out.trans HKr.out⟩
      have := HSr.out
      rw [List.take_of_length_le (by rw [HD.out]; omega)] at this
      unfold textBits
      rw [HD.out, ← List.append_assoc]
      exact this

end Go.Proofs.Ytpbloplbpkedcaa

/- Plain facts: what was put is what is taken. No program here. -/
namespace Go.Proofs.Ytpbloplbpkedcaa
open Go

theorem valBits_bitsOf (u m : Nat) (h : u < 2 ^ m) : valBits (bitsOf u m) = u := by
  have key : ∀ k, k ≤ m → valBits ((bitsOf u m).take k) = u / 2 ^ (m - k) := by
    intro k
    induction k with
    | zero => intro _; rw [List.take_zero, Nat.sub_zero, Nat.div_eq_of_lt h]; rfl
    | succ k ih =>
      intro hk
      rw [bitsOf_take_succ u m k (by omega), valBits_snoc, ih (by omega), show m - 1 - k = m - (k + 1) by omega, Nat.testBit_eq_decide_div_mod_eq]
      have h2 : u / 2 ^ (m - k) = u / 2 ^ (m - (k + 1)) / 2 := by
        rw [Nat.div_div_eq_div_mul, show m - k = m - (k + 1) + 1 by omega, Nat.pow_succ]
      rw [h2]
      rcases Nat.mod_two_eq_zero_or_one (u / 2 ^ (m - (k + 1))) with h3 | h3 <;> simp [h3] <;> omega
  have := key m (Nat.le_refl _)
  rw [List.take_of_length_le (by rw [bitsOf_length]; omega), Nat.sub_self, Nat.pow_zero, Nat.div_one] at this
  exact this

theorem bitsErr_front (u m : Nat) (rest : List Bool) (hm : m ≤ 64) : bitsErr (m : Int) (bitsOf u m ++ rest).length = 0 := bitsErr_ok hm (by simp [bitsOf_length])
theorem bitsVal_front (u m : Nat) (rest : List Bool) (hm : m ≤ 64) (h : u < 2 ^ m) : bitsVal (bitsOf u m ++ rest) (m : Int) = u := by
  unfold bitsVal
  rw [bitsErr_front u m rest hm, if_pos rfl, show ((m : Int)).toNat = m from rfl, List.take_append_of_le_length (by rw [bitsOf_length]; omega), List.take_of_length_le (by rw [bitsOf_length]; omega), valBits_bitsOf u m h]
theorem bitsRest_front (u m : Nat) (rest : List Bool) (hm : m ≤ 64) : bitsRest (bitsOf u m ++ rest) (m : Int) = rest := by
  unfold bitsRest
  rw [bitsErr_front u m rest hm, if_pos rfl, show ((m : Int)).toNat = m from rfl]
  have := List.drop_left (l₁ := bitsOf u m) (l₂ := rest)
  rwa [bitsOf_length] at this

theorem zerosL_front (u : Nat) (hu : u < 2 ^ 64) (rest : List Bool) : zerosL (natBits u ++ rest) = ahd u := by
  have ha := ahd_le u hu
  refine zerosL_eq _ _ (by rw [List.length_append, natBits_length]; omega) (fun i hi => ?_) (fun _ => ?_)
  · rw [List.getD, List.getElem?_append_left (by rw [natBits_length]; omega), natBits_low u i hi]; rfl
  · have := natBits_high u 0 (Nat.zero_le _)
    rw [Nat.add_zero, Nat.sub_zero, testBit_top _ _ (ahd_pow u) (ahd_lt u)] at this
    rw [List.getD, List.getElem?_append_left (by rw [natBits_length]; omega), this]; rfl
theorem natTail_front (u : Nat) (rest : List Bool) : ((natBits u ++ rest).drop (ahd u + 1)).take (ahd u) = bitsOf (u + 1) (ahd u) := by
  have h1 : natBits u = (List.replicate (ahd u) false ++ [true]) ++ bitsOf (u + 1) (ahd u) := by
    rw [natBits, bitsOf_succ, testBit_top _ _ (ahd_pow u) (ahd_lt u)]; simp
  have h2 : (List.replicate (ahd u) false ++ [true]).length = ahd u + 1 := by simp
  rw [h1, List.append_assoc, ← h2, List.drop_left]
  have h3 := List.take_left (l₁ := bitsOf (u + 1) (ahd u)) (l₂ := rest)
  rwa [bitsOf_length] at h3
theorem valTail (u : Nat) : valBits (bitsOf (u + 1) (ahd u)) = u + 1 - 2 ^ ahd u := by
  have h := valBits_bitsOf (u + 1) (ahd u + 1) (ahd_lt u)
  rw [bitsOf_succ, testBit_top _ _ (ahd_pow u) (ahd_lt u)] at h
  have h2 : ∀ l : List Bool, valBits (true :: l) = 2 ^ l.length + valBits l := by
    intro l
    refine snocInd (P := fun l => valBits (true :: l) = 2 ^ l.length + valBits l) (by simp [valBits]) (fun l b ih => ?_) l
    rw [← List.cons_append, valBits_snoc, valBits_snoc, ih, List.length_append, List.length_singleton, Nat.pow_succ]
    omega
  rw [h2, bitsOf_length] at h
  omega
theorem natErrL_front (u : Nat) (hu : u < 2 ^ 64) (rest : List Bool) : natErrL (natBits u ++ rest) = 0 := by
  have ha := ahd_le u hu
  unfold natErrL
  rw [zerosL_front u hu, natTail_front, valTail, if_neg (by omega), if_neg (by rw [List.length_append, natBits_length]; omega), if_neg]
  rintro ⟨h1, h2⟩
  rw [h1] at h2
  omega
theorem natValL_front (u : Nat) (hu : u < 2 ^ 64) (rest : List Bool) : natValL (natBits u ++ rest) = u := by
  have hp := ahd_pow u
  unfold natValL
  rw [natErrL_front u hu, if_pos rfl, zerosL_front u hu, natTail_front, valTail]
  omega
theorem natRestL_front (u : Nat) (hu : u < 2 ^ 64) (rest : List Bool) : natRestL (natBits u ++ rest) = rest := by
  unfold natRestL
  rw [natErrL_front u hu, if_pos rfl, zerosL_front u hu]
  have := List.drop_left (l₁ := natBits u) (l₂ := rest)
  rwa [natBits_length] at this

theorem numOf_zigN (n : Int) : numOf (zigN n) = n := by
  unfold numOf zigN
  by_cases h : 0 ≤ n
  · rw [if_pos h, if_pos (by omega)]; omega
  · rw [if_neg h, if_neg (by omega)]; omega

theorem valBits_testBit (l : List Bool) (r : Nat) (hr : r < l.length) : (valBits l).testBit (l.length - 1 - r) = l.getD r false := by
  refine snocInd (P := fun l => ∀ r, r < l.length → (valBits l).testBit (l.length - 1 - r) = l.getD r false) (fun r hr => by simp at hr) (fun l b ih r hr => ?_) l r hr
  rw [valBits_snoc, List.length_append, List.length_singleton]
  rw [List.length_append, List.length_singleton] at hr
  by_cases h : r < l.length
  · rw [show l.length + 1 - 1 - r = (l.length - 1 - r) + 1 by omega, Nat.testBit_succ, show (2 * valBits l + b.toNat) / 2 = valBits l by cases b <;> simp <;> omega, ih r h]
    rw [List.getD, List.getD, List.getElem?_append_left h]
  · obtain rfl : r = l.length := by omega
    rw [show l.length + 1 - 1 - l.length = 0 by omega, Nat.testBit_zero]
    rw [List.getD, List.getElem?_append_right (Nat.le_refl _)]
    cases b <;> simp <;> omega
theorem packByte_bit (l : List Bool) (i : Nat) : (packByte l (i / 8)).testBit (7 - i % 8) = l.getD i false := by
  unfold packByte
  obtain ⟨c, hc⟩ : ∃ c, c = (l.drop (8 * (i / 8))).take 8 := ⟨_, rfl⟩
  rw [← hc]
  have hl : c.length = min 8 (l.length - 8 * (i / 8)) := by rw [hc]; simp
  have hg : c.getD (i % 8) false = l.getD i false := by
    rw [hc, List.getD, List.getD, List.getElem?_take, if_pos (by omega), List.getElem?_drop, show 8 * (i / 8) + i % 8 = i by omega]
  rw [Nat.testBit_mul_two_pow]
  by_cases h : i % 8 < c.length
  · rw [decide_eq_true (by omega : 7 - i % 8 ≥ 8 - c.length), Bool.true_and, show 7 - i % 8 - (8 - c.length) = c.length - 1 - i % 8 by omega, valBits_testBit c _ h, hg]
  · rw [← hg, List.getD, List.getElem?_eq_none (by omega), decide_eq_false (by omega : ¬ 7 - i % 8 ≥ 8 - c.length)]; rfl

/-- The bits of what a sink hands out: its own, then bits 0, fewer than eight. -/
theorem bitsAll_packN (bs : List Bool) (n : Nat) (h : bs.length ≤ 8 * n) : bitsAll (packN bs n) = bs ++ List.replicate (8 * n - bs.length) false := by
  apply List.ext_getElem
  · simp [bitsAll_length, packN_length]; omega
  · intro i h1 h2
    rw [bitsAll_getElem]
    rw [bitsAll_length, packN_length] at h1
    have e : bitAt (packN bs n) i = bs.getD i false := by
      unfold bitAt packN
      have : i / 8 < n := by omega
      rw [show ((List.range n).map (packByte bs)).getD (i / 8) 0 = packByte bs (i / 8) by simp [List.getD, this], packByte_bit]
    rw [e]
    by_cases hi : i < bs.length
    · rw [List.getElem_append_left hi]; simp [List.getD, hi]
    · rw [List.getElem_append_right (by omega)]; simp [List.getD, hi]
theorem bitsAll_packed (bs : List Bool) : ∃ pad, bitsAll (packed bs) = bs ++ List.replicate pad false ∧ pad < 8 :=
  ⟨8 * ((bs.length + 7) / 8) - bs.length, by rw [packed_packN]; exact bitsAll_packN bs _ (by omega), by omega⟩
theorem packed_small (bs : List Bool) : ∀ c ∈ packed bs, c < 256 := by
  rw [packed_packN]
  intro c hc
  unfold packN at hc
  rw [List.mem_map] at hc
  obtain ⟨j, _, rfl⟩ := hc
  exact packByte_lt bs j
theorem endErrL_pad (pad : Nat) (h : pad < 8) : endErrL (List.replicate pad false) = 0 := by
  unfold endErrL
  rw [List.length_replicate, if_neg (by omega), if_neg (by simp)]

/-- Texts. -/
theorem flatb_at (l : List UInt8) (i : Nat) (h : i < l.length) : (l.flatMap fun c => bitsOf c.toNat 8) = ((l.take i).flatMap fun c => bitsOf c.toNat 8) ++ (bitsOf l[i].toNat 8 ++ (l.drop (i + 1)).flatMap fun c => bitsOf c.toNat 8) := by
  conv => lhs; rw [← List.take_append_drop i l, List.flatMap_append, List.drop_eq_getElem_cons h, List.flatMap_cons]
theorem chunk_flat (l : List UInt8) (rest : List Bool) (i : Nat) (h : i < l.length) : chunk ((l.flatMap fun c => bitsOf c.toNat 8) ++ rest) i = l[i].toNat := by
  have hl : ((l.take i).flatMap fun c => bitsOf c.toNat 8).length = 8 * i := by rw [flat_length, List.length_take]; omega
  unfold chunk
  rw [flatb_at l i h, List.append_assoc, List.append_assoc, ← hl, List.drop_left, List.take_append_of_le_length (by rw [bitsOf_length]; omega), List.take_of_length_le (by rw [bitsOf_length]; omega), valBits_bitsOf _ 8 l[i].toNat_lt]
theorem natErr_text (l : List UInt8) (rest : List Bool) (h : l.length < 2 ^ 64) : natErrL (textBits l ++ rest) = 0 := by
  rw [textBits, List.append_assoc]; exact natErrL_front _ h _
theorem natVal_text (l : List UInt8) (rest : List Bool) (h : l.length < 2 ^ 64) : natValL (textBits l ++ rest) = l.length := by
  rw [textBits, List.append_assoc]; exact natValL_front _ h _
theorem natRest_text (l : List UInt8) (rest : List Bool) (h : l.length < 2 ^ 64) : natRestL (textBits l ++ rest) = (l.flatMap fun c => bitsOf c.toNat 8) ++ rest := by
  rw [textBits, List.append_assoc]; exact natRestL_front _ h _
theorem textErrL_front (l : List UInt8) (rest : List Bool) (h : l.length < 2 ^ 64) : textErrL (textBits l ++ rest) = 0 := by
  unfold textErrL
  rw [natErr_text l rest h, natVal_text l rest h, natRest_text l rest h, if_neg (by omega), if_neg]
  rw [List.length_append, flat_length]; omega
theorem textRestL_front (l : List UInt8) (rest : List Bool) (h : l.length < 2 ^ 64) : textRestL (textBits l ++ rest) = rest := by
  unfold textRestL
  rw [textErrL_front l rest h, natVal_text l rest h, natRest_text l rest h, if_pos rfl, ← flat_length l, List.drop_left]
theorem textBytesL_front (l : List UInt8) (rest : List Bool) (h : l.length < 2 ^ 64) : textBytesL (textBits l ++ rest) = l.map UInt8.toNat := by
  unfold textBytesL
  rw [textErrL_front l rest h, natVal_text l rest h, natRest_text l rest h, if_pos rfl]
  apply List.ext_getElem
  · simp
  · intro i h1 h2
    simp at h1
    rw [List.getElem_map, List.getElem_map, List.getElem_range, chunk_flat l rest i h1]
theorem textStr_front (s : ByteArray) (rest : List Bool) (h : s.size < 2 ^ 64) : textStr (textBits s.data.toList ++ rest) = s := by
  unfold textStr
  have hd : s.data.toList.length = s.size := Array.length_toList
  rw [textBytesL_front _ _ (by omega)]
  unfold strOfNums
  rw [List.map_map, List.map_map]
  have e : s.data.toList.map (((fun n : Int => UInt8.ofNat n.toNat) ∘ (fun x : Nat => (x : Int))) ∘ UInt8.toNat) = s.data.toList := by
    conv => rhs; rw [← List.map_id s.data.toList]
    apply List.map_congr_left
    intro c _
    simp [Function.comp]
  rw [e]
/-- Flags. -/
theorem flagVal_front (b : Bool) (rest : List Bool) : flagVal (b :: rest) = b := by
  unfold flagVal bitsVal
  rw [show (1 : Int) = ((1 : Nat) : Int) from rfl, bitsErr_ok (n := 1) (by omega) (by simp), if_pos rfl]
  cases b <;> simp [valBits]
theorem flagErr_front (b : Bool) (rest : List Bool) : bitsErr 1 (b :: rest).length = 0 := bitsErr_ok (n := 1) (by omega) (by simp)
theorem flagRest_front (b : Bool) (rest : List Bool) : bitsRest (b :: rest) 1 = rest := by
  unfold bitsRest
  rw [flagErr_front, if_pos rfl]; rfl
end Go.Proofs.Ytpbloplbpkedcaa

/- Plain facts on events as bits. No program here. -/
namespace Go.Proofs.Ytpbloplbpkedcaa
open Go

/-- The bits of an attribute; of an event. -/
def valBitsA (x : At) : List Bool := if x.k = 1 then natBits (zigN x.n) else textBits x.s.data.toList
def atBits (x : At) : List Bool := textBits x.name.data.toList ++ bitsOf x.k.toNat 2 ++ valBitsA x
def headE (e : Ev) : List Bool := bitsOf e.src.toNat 4 ++ natBits e.seq.toNat ++ natBits e.time.toNat ++ textBits e.ty.data.toList ++ bitsOf e.ats.length 4
def evBits (e : Ev) : List Bool := headE e ++ e.ats.flatMap atBits

theorem ckGo_all {xs : List At} {i : Nat} (h : ckGo xs i = 0) : ∀ j, i ≤ j → j < xs.length → nameB xs[j]!.name.data.toList = true ∧ ckB xs[j]!.k xs[j]!.n xs[j]!.s.data.toList = true := by
  generalize hm : xs.length - i = m
  induction m generalizing i with
  | zero => intro j h1 h2; omega
  | succ m ih =>
    intro j h1 h2
    rw [ckGo] at h
    rw [if_pos (by omega)] at h
    split at h
    · exact absurd h (by decide)
    · rename_i hn
      split at h
      · exact absurd h (by decide)
      · rename_i hc
        split at h
        · exact absurd h (by decide)
        · by_cases hij : i = j
          · subst hij; exact ⟨by simpa using hn, by simpa using hc⟩
          · exact ih h (by omega) j (by omega) h2
theorem ckAll_zero {xs : List At} (h : ckAll xs = 0) : xs.length ≤ 8 ∧ ∀ x ∈ xs, nameB x.name.data.toList = true ∧ ckB x.k x.n x.s.data.toList = true := by
  unfold ckAll at h
  split at h
  · exact absurd h (by decide)
  · refine ⟨by omega, fun x hx => ?_⟩
    obtain ⟨i, hi, rfl⟩ := List.mem_iff_getElem.1 hx
    have := ckGo_all h i (Nat.zero_le _) hi
    rwa [getElem!_pos xs i hi] at this
theorem nameB_len {s : List UInt8} (h : nameB s = true) : s.length ≤ 32 := (of_decide_eq_true h).2.1
/-- What Check takes of an attribute. -/
theorem ckB_parts {k n : Int} {s : List UInt8} (h : ckB k n s = true) : (k = 1 ∧ s.length = 0) ∨ (k = 2 ∧ n = 0 ∧ s.length ≤ 64) := by
  unfold ckB at h
  split at h
  · rename_i hk; exact .inl ⟨hk, by simpa using h⟩
  · split at h
    · rename_i hk
      simp only [Bool.and_eq_true, decide_eq_true_eq] at h
      exact .inr ⟨hk, h.1, h.2⟩
    · cases h
/-- What is written of an event that may be: all in natural numbers. -/
structure EvOk (e : Ev) : Prop where
  src0 : 0 ≤ e.src
  src : e.src < 16
  seq0 : 0 ≤ e.seq
  seq : e.seq ≤ 1099511627776
  time0 : 0 ≤ e.time
  time : e.time ≤ 1099511627776
  ty : e.ty.size ≤ 32
  ats : e.ats.length ≤ 8
  each : ∀ x ∈ e.ats, x.name.size ≤ 32 ∧ ((x.k = 1 ∧ x.s.size = 0) ∨ (x.k = 2 ∧ x.n = 0 ∧ x.s.size ≤ 64))
theorem size_of_data (s : ByteArray) : s.size = s.data.toList.length := by simp
theorem EvOk.of {e : Ev} (h : ckE e = 0) : EvOk e := by
  cases hb : evB e with
  | false => rw [ckE_no hb] at h; exact absurd h (by decide)
  | true =>
    rw [ckE_ok hb] at h
    obtain ⟨h1, h2⟩ := ckAll_zero h
    simp only [evB, evSrcB, evTmB, Bool.and_eq_true, decide_eq_true_eq] at hb
    obtain ⟨⟨⟨⟨a, b⟩, c, d⟩, e1, f⟩, g⟩ := hb
    refine ⟨a, b, c, d, e1, f, by rw [size_of_data]; exact nameB_len g, h1, fun x hx => ?_⟩
    obtain ⟨h3, h4⟩ := h2 x hx
    rw [size_of_data, size_of_data]
    exact ⟨nameB_len h3, ckB_parts h4⟩

theorem ahd_small4 (u : Nat) (h : u ≤ 1099511627776) : ahd u ≤ 40 := by
  unfold ahd
  have : (u + 1).log2 < 41 := (Nat.log2_lt (by omega)).2 (by omega)
  omega
theorem ahd_text (u : Nat) (h : u ≤ 64) : ahd u ≤ 6 := by
  unfold ahd
  have : (u + 1).log2 < 7 := (Nat.log2_lt (by omega)).2 (by omega)
  omega
theorem textBits_len (s : ByteArray) : (textBits s.data.toList).length = 2 * ahd s.size + 1 + 8 * s.size := by
  unfold textBits
  rw [List.length_append, natBits_length, size_of_data]
  congr 1
  generalize s.data.toList = l
  induction l with
  | nil => rfl
  | cons c r ih => rw [List.flatMap_cons, List.length_append, ih, bitsOf_length, List.length_cons]; omega
theorem headE_len (e : Ev) : (headE e).length = 4 + (2 * ahd e.seq.toNat + 1) + (2 * ahd e.time.toNat + 1) + (2 * ahd e.ty.size + 1 + 8 * e.ty.size) + 4 := by
  unfold headE
  simp only [List.length_append, bitsOf_length, natBits_length, textBits_len]
theorem atBits_len (x : At) : (atBits x).length = (2 * ahd x.name.size + 1 + 8 * x.name.size) + 2 + (valBitsA x).length := by
  unfold atBits
  simp only [List.length_append, bitsOf_length, textBits_len]
theorem valBitsA_le (x : At) (h : (x.k = 1 ∧ x.s.size = 0) ∨ (x.k = 2 ∧ x.n = 0 ∧ x.s.size ≤ 64)) (hn : zigN x.n < 2 ^ 64) : (valBitsA x).length ≤ 525 := by
  unfold valBitsA
  rcases h with ⟨h1, h2⟩ | ⟨h1, h2, h3⟩
  · rw [if_pos h1, natBits_length]
    have := ahd_le (zigN x.n) hn
    omega
  · rw [if_neg (by omega), textBits_len]
    have := ahd_text x.s.size h3
    omega
theorem flatAt_le (xs : List At) (hn : ∀ x ∈ xs, zigN x.n < 2 ^ 64) (h : ∀ x ∈ xs, x.name.size ≤ 32 ∧ ((x.k = 1 ∧ x.s.size = 0) ∨ (x.k = 2 ∧ x.n = 0 ∧ x.s.size ≤ 64))) : (xs.flatMap atBits).length ≤ xs.length * 796 := by
  induction xs with
  | nil => simp
  | cons x r ih =>
    have h1 := ih (fun y hy => hn y (by simp [hy])) (fun y hy => h y (by simp [hy]))
    obtain ⟨h2, h3⟩ := h x (by simp)
    have h4 := valBitsA_le x h3 (hn x (by simp))
    have h5 := ahd_text x.name.size (by omega)
    rw [List.flatMap_cons, List.length_append, atBits_len, List.length_cons]
    omega
theorem evBits_le (e : Ev) (h : EvOk e) (hn : ∀ x ∈ e.ats, zigN x.n < 2 ^ 64) : (evBits e).length ≤ 8192 := by
  have h1 := flatAt_le e.ats hn h.each
  have h2 := ahd_small4 e.seq.toNat (by have := h.seq; omega)
  have h3 := ahd_small4 e.time.toNat (by have := h.time; omega)
  have h4 := ahd_text e.ty.size (by have := h.ty; omega)
  have h5 := h.ty
  have h6 := h.ats
  unfold evBits
  rw [List.length_append, headE_len]
  omega
end Go.Proofs.Ytpbloplbpkedcaa
