/- Contract of unquote: what stands between quotes. -/
import Derived.Test.YthmdnlcinlmjkaaDoorFi
import Derived.Lib.SmallJoins
namespace Go.Proofs.YthmdnlcinlmjkaaDoor
open Go Go.RowKit

theorem row_below {B : Nat} {e : TypeId} {k : Nat} {v : Value} {n : Nat} {xs : List Value} {w w' : World} (h : w.ownsRow B e k v n xs) (hb : Below w.heap.size w w') : w'.ownsRow B e k v n xs :=
  h.kept (row := none) ⟨hb.os, hb.tape, hb.output, hb.size, fun j hj _ => hb.block j hj⟩ (by cases hv : v.ownBlock <;> simp)
def strLen : Value → Nat | .string x => x.size | _ => 0
/-- How a reading of a body stands: what was read, what is left. -/
structure Left (body acc l : List UInt8) : Prop where
  len : acc.length + l.length ≤ body.length
  all : ∀ t' : List UInt8, body = t'.flatMap escL → ∃ t2, t' = acc ++ t2 ∧ l = t2.flatMap escL
theorem Left.start (l : List UInt8) : Left l [] l := ⟨by simp, fun t' h => ⟨t', rfl, h⟩⟩
theorem Left.none {body acc l : List UInt8} (h : Left body acc l) (hl : l ≠ []) {c : UInt8} (hf : firstL l = (c, 0)) (t' : List UInt8) : body ≠ t'.flatMap escL := by
  intro hb
  obtain ⟨t2, _, h2⟩ := h.all t' hb
  cases t2 with
  | nil => exact hl h2
  | cons c' t3 =>
    rw [List.flatMap_cons] at h2
    rw [h2, firstL_esc] at hf
    have := (escL_len c').1
    have := congrArg Prod.snd hf
    simp only at this
    omega
theorem Left.step {body acc l : List UInt8} (h : Left body acc l) (hl : l ≠ []) {c : UInt8} {n : Nat} (hf : firstL l = (c, n)) (hn : n ≠ 0) : Left body (acc ++ [c]) (l.drop n) := by
  have hlen := (firstL_len l).1
  rw [hf] at hlen
  simp only at hlen
  refine ⟨?_, ?_⟩
  · have := h.len
    simp only [List.length_append, List.length_cons, List.length_nil, List.length_drop]
    omega
  · intro t' hb
    obtain ⟨t2, h1, h2⟩ := h.all t' hb
    cases t2 with
    | nil => exact absurd h2 hl
    | cons c' t3 =>
      rw [List.flatMap_cons] at h2
      rw [h2, firstL_esc] at hf
      obtain ⟨rfl, rfl⟩ := Prod.mk.inj hf
      exact ⟨t3, by rw [h1]; simp, by rw [h2]; simp⟩
theorem Left.done {body acc : List UInt8} (h : Left body acc []) (t' : List UInt8) (hb : body = t'.flatMap escL) : acc = t' := by
  obtain ⟨t2, h1, h2⟩ := h.all t' hb
  have := (flat_len t2).1
  rw [← h2] at this
  have : t2 = [] := by cases t2 with | nil => rfl | cons _ _ => simp at this
  rw [h1, this, List.append_nil]

/-- What unquote may answer of a text behind its first quote. -/
def UnqPost (x : List UInt8) (e : Ending) : Prop := ∃ (t : ByteArray) (ok : Bool), e = .returned (.tuple #[.string t, .bool ok]) ∧ t.size ≤ x.length ∧ ∀ t' : List UInt8, x = t'.flatMap escL ++ [34] → t.data.toList = t' ∧ ok = true

set_option maxHeartbeats 4000000 in
set_option maxRecDepth 100000 in
theorem vUnquote_any (s : ByteArray) (h0 : 0 < s.size) (hmax : s.size ≤ 140737488355328) (w : World) (hE : ErrV w) :
    Calls Tryd.prog 22 #[.string s] w fun e w' => UnqPost (s.data.toList.drop 1) e ∧ Below w.heap.size w w' := by
  obtain ⟨i0, hi, hz0, hz1, hz2⟩ := info_parts infoByte
  have hC := Tryd.strings_CutSuffix (s.extract 1 s.size) ⟨#[34]⟩ w (by simp; omega)
  have hx : (s.extract 1 s.size).data.toList = s.data.toList.drop 1 := by
    rw [← Lib.toList_data, Lib.extract_toList, List.take_of_length_le (by simp)]
  rw [hx] at hC
  have hxl : (s.data.toList.drop 1).length + 1 = s.size := by simp; omega
  generalize s.data.toList.drop 1 = x at hC hxl ⊢
  cases hs : Lib.hasSuffix x [34] with
  | false =>
    have hC := hC
    simp only [hs] at hC
    generalize Lib.trimSuffix x [34] = y at hC
    have hno : ∀ t' : List UInt8, x ≠ t'.flatMap escL ++ [34] := by
      intro t' h
      rw [h] at hs
      have h2 : Lib.hasSuffix (t'.flatMap escL ++ [34]) [34] = true := List.isSuffixOf_iff_suffix.2 ⟨_, rfl⟩
      rw [h2] at hs; cases hs
    have HN := Lib.hid hno
    clear hno hs hx hE
    go_enter Tryd.func22, Tryd.ntmps22
    go_wp2_with (go_at_call 31; (with_reducible refine hC.mono ?_); rintro e w' ⟨rfl, rfl⟩)
    go_ret2
    exact ⟨⟨⟨#[]⟩, false, rfl, Nat.zero_le _, fun t' h => absurd h (HN.out t')⟩, Below.refl _ _⟩
  | true =>
    simp only [hs] at hC
    obtain ⟨body, hxb⟩ : ∃ body, x = body ++ [34] := by
      have h := List.isSuffixOf_iff_suffix.1 hs
      obtain ⟨b, hb⟩ := h
      exact ⟨b, hb.symm⟩
    have ht : Lib.trimSuffix x [34] = body := by
      unfold Lib.trimSuffix
      rw [if_pos hs, hxb]; simp
    rw [ht] at hC
    have hbl : body.length + 2 = s.size := by rw [hxb] at hxl; simp at hxl; omega
    have HX := Lib.hid hxb
    clear ht hs hx hxb
    obtain ⟨rs, hrs⟩ : ∃ rs : ByteArray, rs = ⟨body.toArray⟩ := ⟨_, rfl⟩
    have hrl : rs.data.toList = body := by rw [hrs]
    rw [← hrs] at hC
    clear hrs
    have HL : Hid (Left body [] rs.data.toList) := Lib.hid (by rw [hrl]; exact Left.start _)
    have hrz : rs.size ≤ body.length := by rw [← hrl]; simp
    clear hrl
    have HE := Lib.hid hE
    clear hE
    go_enter Tryd.func22, Tryd.ntmps22
    go_wp2_with (go_at_call 31; (with_reducible refine hC.mono ?_); rintro e w' ⟨rfl, hw⟩; obtain rfl := hw.symm)
    go_loopw [4, 6] (fun r b wr => ∃ (rs : ByteArray) (acc : List UInt8), r = .string rs ∧ wr.ownsRow w.heap.size 5 1 b acc.length (Lib.byteCells acc) ∧ Below w.heap.size w wr ∧ Hid (Left body acc rs.data.toList)) (fun r _ _ => strLen r)
    case atStart => exact ⟨rs, [], rfl, World.ownsRow_nil _ _ _ _, Below.refl _ _, HL⟩
    case round =>
      obtain ⟨l, acc, rfl, hown, hb, hl⟩ := hrel
      have HO := hide hown; have HB := hide hb
      have HK : Hid (acc.length + l.size ≤ body.length) := Lib.hid (by have := hl.out.len; rw [Lib.size_eq]; exact this)
      have HErr : Hid (ErrV wr) := Lib.hid (HE.out.keep hb)
      clear hown hb HL hrz hC
      by_cases hz : l.size = 0
      · have he : l.toList.isEmpty = true := by
          rw [Lib.toList_data]
          have : l.data.toList = [] := List.eq_nil_of_length_eq_zero (by rw [← Lib.size_eq]; exact hz)
          rw [this]; rfl
        have hln : l.data.toList = [] := List.eq_nil_of_length_eq_zero (by rw [← Lib.size_eq]; exact hz)
        have HD : Hid (Left body acc []) := Lib.hid (by rw [← hln]; exact hl.out)
        have hcv := conv_cells HO.out rfl
        clear hl hln hz
        go_wp2
        go_ret2
        refine ⟨⟨⟨acc.toArray⟩, true, rfl, ?_, ?_⟩, HB.out⟩
        · have h1 := HK.out
          have h2 := HX.out
          rw [h2]
          show acc.toArray.size ≤ _
          simp only [List.size_toArray, List.length_append, List.length_cons, List.length_nil]
          omega
        · intro t' h
          rw [HX.out] at h
          have h3 := List.append_inj_left' h rfl
          exact ⟨HD.out.done t' h3, rfl⟩
      · have he : l.toList.isEmpty = false := by
          rw [Lib.toList_data]
          cases hq : l.data.toList with
          | nil => exact absurd (by rw [Lib.size_eq, hq]; rfl) hz
          | cons _ _ => rfl
        have hne : l.data.toList ≠ [] := by intro h; exact hz (by rw [Lib.size_eq, h]; rfl)
        have hF := vFirst_any l (by omega) (by have := HK.out; unfold maxLen; omega) wr HErr.out
        obtain ⟨⟨c, n⟩, hfn⟩ : ∃ p, firstL l.data.toList = p := ⟨_, rfl⟩
        rw [hfn] at hF
        unfold firstT at hF
        simp only at hF
        have hnl := firstL_len l.data.toList
        rw [hfn] at hnl
        simp only at hnl
        by_cases hn : n = 0
        · subst hn
          have HN := Lib.hid (hl.out.none hne hfn)
          clear hfn hnl hl hne hz
          go_wp2_with (go_at_call 32; (with_reducible refine hF.mono ?_); rintro e w1 ⟨rfl, hb1⟩)
          go_ret2
          refine ⟨⟨⟨#[]⟩, false, rfl, Nat.zero_le _, fun t' h => ?_⟩, HB.out.trans (hb1.mono HB.out.size)⟩
          rw [HX.out] at h
          exact absurd (List.append_inj_left' h rfl) (HN.out t')
        · have HS := Lib.hid (hl.out.step hne hfn hn)
          have hnn : n ≤ l.size := by rw [Lib.size_eq]; exact hnl.1
          have bn : ((n : Int) == 0) = false := by simp; omega
          have hds : (l.extract n l.size).data.toList = l.data.toList.drop n := by
            rw [← Lib.toList_data, Lib.extract_toList, List.take_of_length_le (by simp)]
          have HDS := Lib.hid hds
          clear hfn hnl hl hne hz hds
          go_wp2_with (first
            | (go_at_call 32; (with_reducible refine hF.mono ?_); rintro e w1 ⟨rfl, hb1⟩; have HB1 := hide hb1; clear hb1)
            | (at_builtin; refine wpList_append_own _ rfl (.tmp 26) (.tmp 28) 40 rfl w.heap.size 5 i0 (.int .u8 0) 1 1 Tryd.underlying40 hi hz0 hz1 hz2 rfl (by decide) _ acc.length (Lib.byteCells acc) rfl ((row_below HO.out HB1.out).alloc _) ⟨w1.heap.size, 0, none⟩ 1 1 (Lib.byteCells [c]) rfl rfl (World.news_of_block (heap_alloc_new _ _)) (byteCells_one _) (by have := HK.out; unfold maxLen; omega) (by have := HK.out; omega) (by have := HB.out.size; have := HB1.out.size; simp; omega) ?_; intro v2 w2 hown2 hgrow2 hnil2; clear hnil2; have HO2 := hide hown2; have HB2 := hide (((HB.out.trans (HB1.out.mono HB.out.size)).alloc (by have := HB.out.size; have := HB1.out.size; omega) _).grown hgrow2 (by have := HB.out.size; have := HB1.out.size; simp; omega) (fun k h => (HO.out.lt k h).1)); clear hown2 hgrow2))
          go_roundw
          case rel => exact ⟨l.extract n l.size, acc ++ [c], rfl, by rw [byteCells_append, List.length_append]; exact HO2.out, HB2.out, Lib.hid (by rw [HDS.out]; exact HS.out)⟩
          case measure => simp [strLen]; omega
end Go.Proofs.YthmdnlcinlmjkaaDoor
