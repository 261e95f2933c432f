/- A value that reads as bytes: a slice, nil or not, below some block. -/
import Derived.Shelf.Bytes.SlSmallAll
import Derived.Test.YthjhbnfedelniaaBase
import Derived.Shelf.Bytes.SlEqualAll
import Derived.Laws.AppendOwnNone
namespace Go.Proofs.Ythjhbnfedelniaa
open Go Go.RowKit

theorem SrcIs.kept {w w' : World} {B B' q : Nat} {bytes : List Nat} {p : Nat} {T : Nat → Bool} (h : SrcIs w B q bytes p) (hk : Kept B' T w w') (h1 : T 84 = false) (h2 : T 5 = false) : SrcIs w' B q bytes p := by
  obtain ⟨v, hq, ho⟩ := h.row
  exact ⟨h.from_, h.len, h.at_, h.small, v, hk.typed _ _ _ _ hq h1, hk.ownsRow ho h2⟩
theorem SrcIs.below {w w' : World} {B B' q : Nat} {bytes : List Nat} {p : Nat} (h : SrcIs w B q bytes p) (hb : Below B' w w') (hB : w.heap.size ≤ B') : SrcIs w' B q bytes p := by
  obtain ⟨v, hq, ho⟩ := h.row
  exact ⟨h.from_, h.len, h.at_, h.small, v, by rw [hb.block q (by have := lt_of_block hq; omega)]; exact hq, ownsRow_below ho hb hB⟩
end Go.Proofs.Ythjhbnfedelniaa
namespace Go.Proofs.Ythjhbnfedelniaa
open Go Go.RowKit

/-- In w the value v is a slice of the bytes, which lie below block B. -/
structure Bv (w : World) (B : Nat) (v : Value) (bytes : List Nat) : Prop where
  small : ∀ c ∈ bytes, c < 256
  len : bytes.length ≤ 140737488355328
  row : ∃ ao cap, v = .slice ao bytes.length cap ∧ bytes.length ≤ cap ∧ cap ≤ 9223372036854775807 ∧ (ao = none → cap = 0) ∧ (0 < bytes.length → ∃ b o, ao = some ⟨b, o, none⟩ ∧ b < B ∧ ∀ j, j < bytes.length → w.cell? ⟨b, o + j, none⟩ = some (.int .u8 ((bytes.getD j 0 : Nat) : Int)))

theorem Bv.keep {w w' : World} {B : Nat} {v : Value} {bytes : List Nat} (h : Bv w B v bytes) (hk : ∀ b o, b < B → w'.cell? ⟨b, o, none⟩ = w.cell? ⟨b, o, none⟩) : Bv w' B v bytes := by
  obtain ⟨ao, cap, h1, h2, h2', h2n, h3⟩ := h.row
  refine ⟨h.small, h.len, ao, cap, h1, h2, h2', h2n, fun hn => ?_⟩
  obtain ⟨b, o, h4, h5, h6⟩ := h3 hn
  exact ⟨b, o, h4, h5, fun j hj => (hk _ _ h5).trans (h6 j hj)⟩
theorem Bv.below {w w' : World} {B B' : Nat} {v : Value} {bytes : List Nat} (h : Bv w B v bytes) (hb : Below B' w w') (hB : B ≤ B') : Bv w' B v bytes :=
  h.keep fun _ _ hlt => hb.cell (Nat.lt_of_lt_of_le hlt hB)
theorem Bv.mono {w : World} {B B' : Nat} {v : Value} {bytes : List Nat} (h : Bv w B v bytes) (hB : B ≤ B') : Bv w B' v bytes := by
  obtain ⟨ao, cap, h1, h2, h2', h2n, h3⟩ := h.row
  refine ⟨h.small, h.len, ao, cap, h1, h2, h2', h2n, fun hn => ?_⟩
  obtain ⟨b, o, h4, h5, h6⟩ := h3 hn
  exact ⟨b, o, h4, Nat.lt_of_lt_of_le h5 hB, h6⟩
theorem Bv.bytesIn {w : World} {B : Nat} {ao : Option Addr} {n cap : Nat} {bytes : List Nat} (h : Bv w B (.slice ao n cap) bytes) : n = bytes.length ∧ Lib.BytesIn w ao n (bytes.map fun x : Nat => (x : Int)) := by
  obtain ⟨ao', cap', h1, h2, h2', h2n, h3⟩ := h.row
  simp only [Value.slice.injEq] at h1
  obtain ⟨rfl, rfl, rfl⟩ := h1
  refine ⟨rfl, fun hn => ?_⟩
  obtain ⟨b, o, h4, h5, h6⟩ := h3 hn
  refine ⟨b, o, h4, fun i hi => ?_⟩
  rw [h6 i hi]
  simp [List.getD, hi]
theorem Bv.bytesAt {w : World} {B : Nat} {ao : Option Addr} {n cap : Nat} {bytes : List Nat} (h : Bv w B (.slice ao n cap) bytes) (hao : ao = none → n = 0) (hsp : n = 0 → ao = none) : BytesAt w ao bytes := by
  obtain ⟨ao', cap', h1, h2, h2', h2n, h3⟩ := h.row
  simp only [Value.slice.injEq] at h1
  obtain ⟨rfl, rfl, rfl⟩ := h1
  refine ⟨hao, fun a ha j hj => ?_⟩
  obtain ⟨b, o, h4, h5, h6⟩ := h3 (by omega)
  rw [h4] at ha
  simp only [Option.some.injEq] at ha
  subst ha
  have : (⟨b, o, none⟩ : Addr).add j = ⟨b, o + j, none⟩ := by unfold Addr.add; split <;> simp_all
  rw [this]; exact h6 j hj
theorem add_spot (b o j : Nat) : (⟨b, o, none⟩ : Addr).add j = ⟨b, o + j, none⟩ := by unfold Addr.add; split <;> simp_all
theorem Bv.bytesAt' {w : World} {B : Nat} {ao : Option Addr} {n cap : Nat} {bytes : List Nat} (h : Bv w B (.slice ao n cap) bytes) : BytesAt w ao bytes := by
  obtain ⟨ao', cap', h1, h2, h2', h2n, h3⟩ := h.row
  simp only [Value.slice.injEq] at h1
  obtain ⟨rfl, rfl, rfl⟩ := h1
  refine ⟨fun ha => ?_, fun a ha j hj => ?_⟩
  · rcases Nat.eq_zero_or_pos bytes.length with h0 | h0
    · exact h0
    · obtain ⟨b, o, h4, _⟩ := h3 h0
      rw [ha] at h4; cases h4
  · obtain ⟨b, o, h4, h5, h6⟩ := h3 (by omega)
    rw [h4] at ha
    simp only [Option.some.injEq] at ha
    subst ha
    rw [add_spot]; exact h6 j hj
theorem Bv.shape {w : World} {B : Nat} {v : Value} {bytes : List Nat} (h : Bv w B v bytes) : ∃ ao cap, v = .slice ao bytes.length cap := by
  obtain ⟨ao, cap, h1, _⟩ := h.row
  exact ⟨ao, cap, h1⟩
/-- Bytes of the call's own. -/
theorem Bv.of_own {w : World} {B : Nat} {v : Value} {bytes : List Nat} (h : w.ownsRow B 5 1 v bytes.length (byteVs bytes)) (hs : ∀ c ∈ bytes, c < 256) (hl : bytes.length ≤ 140737488355328) : Bv w w.heap.size v bytes := by
  rcases h.2 with ⟨hv, hn0⟩ | ⟨g, cap, cur, hv, hg, hgg, hgn, hcapm, hcsz, htake⟩
  · exact ⟨hs, hl, none, 0, by rw [hv, hn0], by omega, by omega, fun _ => rfl, fun hn => by omega⟩
  · have hc : bytes.length ≤ cap ∧ cap ≤ 9223372036854775807 := by
      refine ⟨?_, ?_⟩ <;> first | assumption | (unfold maxLen at *; omega)
    refine ⟨hs, hl, some ⟨g, 0, none⟩, cap, hv, hc.1, hc.2, (fun h => by cases h), fun hn => ⟨g, 0, rfl, lt_of_block hgg, fun j hj => ?_⟩⟩
    subst hv
    have := h.cells (g := g) rfl j (.int .u8 ((bytes.getD j 0 : Nat) : Int)) (by simp [byteVs, hj])
    rw [add_off] at this
    rw [Nat.zero_add]; exact this
theorem Bv.nil (w : World) (B : Nat) : Bv w B (.slice none 0 0) [] := ⟨by simp, by simp, none, 0, rfl, by simp, by simp, fun _ => rfl, fun h => by simp at h⟩

/-- A string of bytes; what Equal tells. -/
def strN (bytes : List Nat) : ByteArray := strOfNums (bytes.map fun x : Nat => (x : Int))
theorem Bv.convert {w : World} {B : Nat} {ao : Option Addr} {n cap : Nat} {bytes : List Nat} (h : Bv w B (.slice ao n cap) bytes) : (convert 82 9 (.slice ao n cap)).run Try.prog w = .ok (.string (strN bytes)) w :=
  h.bytesIn.2.convert (by rw [List.length_map]; exact h.bytesIn.1.symm) cap _ _ _ Try.underlying82 Try.underlying5 Try.underlying9
theorem ofNat_inj {a b : Nat} (ha : a < 256) (hb : b < 256) (h : UInt8.ofNat a = UInt8.ofNat b) : a = b := by
  have := congrArg UInt8.toNat h
  simpa [Nat.mod_eq_of_lt ha, Nat.mod_eq_of_lt hb] using this
theorem bytesOf_inj : ∀ {a b : List Nat}, (∀ c ∈ a, c < 256) → (∀ c ∈ b, c < 256) → Lib.bytesOf (a.map fun x : Nat => (x : Int)) = Lib.bytesOf (b.map fun x : Nat => (x : Int)) → a = b
  | [], [], _, _, _ => rfl
  | [], _ :: _, _, _, h => by simp [Lib.bytesOf] at h
  | _ :: _, [], _, _, h => by simp [Lib.bytesOf] at h
  | x :: a, y :: b, ha, hb, h => by
    simp only [Lib.bytesOf, List.map_cons, List.cons.injEq] at h
    have h1 : x = y := ofNat_inj (ha x (by simp)) (hb y (by simp)) (by simpa using h.1)
    have h2 : a = b := bytesOf_inj (fun c hc => ha c (by simp [hc])) (fun c hc => hb c (by simp [hc])) h.2
    rw [h1, h2]
theorem bytesOf_eq {a b : List Nat} (ha : ∀ c ∈ a, c < 256) (hb : ∀ c ∈ b, c < 256) : (Lib.bytesOf (a.map fun x : Nat => (x : Int)) == Lib.bytesOf (b.map fun x : Nat => (x : Int))) = decide (a = b) := by
  by_cases h : a = b
  · subst h; simp
  · rw [decide_eq_false h]
    exact beq_false_of_ne fun h2 => h (bytesOf_inj ha hb h2)
theorem strN_list (a : List Nat) : (strN a).data.toList = Lib.bytesOf (a.map fun x : Nat => (x : Int)) := by simp [strN, strOfNums, Lib.bytesOf]
theorem strN_inj {a b : List Nat} (ha : ∀ c ∈ a, c < 256) (hb : ∀ c ∈ b, c < 256) (h : strN a = strN b) : a = b := by
  refine bytesOf_inj ha hb ?_
  rw [← strN_list, ← strN_list, h]
/-- append(row of the call's own, bytes..). -/
theorem wpList_append_bv {w : World} {ops : Array Oper} {rest : List Oper} {o : Oper} {a : Act} {Q : Exit → Act → World → Prop} (hgd : o.guard = none) (s x : Operand)
    (ho : o.op = .call { callee := .builtin .append, args := #[s, x], argTypes := #[82, 82] }) (base : Nat) (v : Value) (n : Nat) (xs : List Value) (hs : a.eval s = v) (hown : w.ownsRow base 5 1 v n xs)
    (B : Nat) (ao : Option Addr) (m c : Nat) (bytes : List Nat) (hx : a.eval x = .slice ao m c) (hb : Bv w B (.slice ao m c) bytes) (hsum : n + m ≤ 140737488355328) (hbase : base ≤ w.heap.size)
    (h : ∀ v' w', w'.ownsRow base 5 1 v' (n + m) (xs ++ byteVs bytes) → w.grownBy w' v.ownBlock → wpList Try.prog ops Q rest (a.put o.dst v') w') : wpList Try.prog ops Q (o :: rest) a w := by
  obtain ⟨i0, hi, hz0, hz1, hz2⟩ := info_parts Try.info5
  have hat := hb.bytesAt'
  have hm := hb.bytesIn.1
  cases ao with
  | none =>
    have hm0 := hat.1 rfl
    obtain ⟨ao', cap', h1, h2, h2', h2n, h3⟩ := hb.row
    simp only [Value.slice.injEq] at h1
    obtain ⟨rfl, h4, rfl⟩ := h1
    obtain rfl : bytes = [] := List.length_eq_zero_iff.1 hm0
    have hc0 := h2n rfl
    subst hc0
    simp only [List.length_nil] at h4
    subst h4
    exact wpList_append_own_none hgd s x 82 ho base 5 i0 1 Try.underlying82 hi v n xs hs hown hx (h v w (by simpa [byteVs] using hown) (World.grownBy.refl w _))
  | some ad =>
    refine wpList_append_own w hgd s x 82 ho base 5 i0 (.int .u8 0) 1 1 Try.underlying82 hi hz0 hz1 hz2 rfl (by decide) v n xs hs hown ad m c (byteVs bytes) hx (by rw [byteVs_length, Nat.mul_one]; exact hm.symm) (fun j u hj => ?_) (byteVs_one _) (by unfold maxLen; omega) (by omega) hbase (fun v' w' h1 h2 _ => h v' w' h1 h2)
    have hjl : j < bytes.length := by
      rcases Nat.lt_or_ge j bytes.length with h5 | h5
      · exact h5
      · rw [List.getElem?_eq_none (by rw [byteVs_length]; exact h5)] at hj; cases hj
    rw [hat.2 ad rfl j hjl, ← hj]
    simp [byteVs, hjl]

end Go.Proofs.Ythjhbnfedelniaa
