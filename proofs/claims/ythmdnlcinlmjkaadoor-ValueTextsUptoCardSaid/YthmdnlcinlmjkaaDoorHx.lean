/- Contract of ParseUint of two bytes at base 16, as a byte. -/
import Derived.Test.YthmdnlcinlmjkaaDoorTm
import Derived.Test.YthmdnlcinlmjkaaDoorShelf2
import Derived.Test.YthmdnlcinlmjkaaDoorLaw
import Derived.WalkKit
import Derived.Lib.Hide
import Derived.Lib.ParseIntBMem
import Derived.Laws.BitsAll
import Derived.Deep.DeepFit
namespace Go.Proofs.YthmdnlcinlmjkaaDoor
open Go Go.RowKit

/-- The value of a digit of sixteen. -/
def hexV (c : UInt8) : Option Nat :=
  if 48 ≤ c.toNat ∧ c.toNat ≤ 57 then some (c.toNat - 48) else if 97 ≤ c.toNat ∧ c.toNat ≤ 102 then some (c.toNat - 87) else if 65 ≤ c.toNat ∧ c.toNat ≤ 70 then some (c.toNat - 55) else none
def hexF (acc : Nat) : List UInt8 → Option Nat
  | [] => some acc
  | c :: r => match hexV c with | some d => hexF (acc * 16 + d) r | none => none
theorem hexV_lt {c : UInt8} {d : Nat} (h : hexV c = some d) : d < 16 := by
  unfold hexV at h
  split at h
  · simp only [Option.some.injEq] at h; omega
  · split at h
    · simp only [Option.some.injEq] at h; omega
    · split at h
      · simp only [Option.some.injEq] at h; omega
      · cases h
theorem hexV_hx : ∀ i : Fin 16, hexV (hxD i.val) = some i.val := by decide
theorem hexF_two (x y : Nat) (hx : x < 16) (hy : y < 16) : hexF 0 [hxD x, hxD y] = some (16 * x + y) := by
  have h1 := hexV_hx ⟨x, hx⟩
  have h2 := hexV_hx ⟨y, hy⟩
  simp only at h1 h2
  simp only [hexF, h1, h2]
  congr 1; omega
theorem low_fin : ∀ c : Fin 256, (97 ≤ c.val → c.val ≤ 102 → bits .or .u8 (c.val : Int) 32 = (c.val : Int)) ∧ (65 ≤ c.val → c.val ≤ 70 → bits .or .u8 (c.val : Int) 32 = (c.val : Int) + 32) ∧
    (¬ (97 ≤ c.val ∧ c.val ≤ 102) → ¬ (65 ≤ c.val ∧ c.val ≤ 70) → bits .or .u8 (c.val : Int) 32 < 97 ∨ 102 < bits .or .u8 (c.val : Int) 32) := by decide +kernel
def hexT (o : Option Nat) : Value := match o with | some u => .tuple #[.int .u64 (u : Int), .nilIface] | none => .tuple #[.int .u64 0, .iface 67 (.int .i64 2)]

set_option maxHeartbeats 32000000 in
set_option maxRecDepth 100000 in
theorem iParseUint_hex (t : ByteArray) (h2 : t.size = 2) (w : World) :
    Calls Tryd.prog 43 #[.string t, .int .i64 16, .int .i64 8] w fun e w' => e = .returned (hexT (hexF 0 t.data.toList)) ∧ w' = Lib.bytesWorld w 5 t := by
  have hemp : t.toList.isEmpty = false := by
    rw [Lib.toList_data]
    have : t.data.toList.length = 2 := by rw [← h2]; simp
    cases hl : t.data.toList with
    | nil => rw [hl] at this; cases this
    | cons _ _ => rfl
  have hcv := Lib.run_convert_string_bytes (P := Tryd.prog) w 9 40 5 t (u := .string) Tryd.underlying9 Tryd.underlying40 Tryd.underlying5
  have hB : ∀ j, j < t.size → (Lib.bytesWorld w 5 t).cell? ⟨w.heap.size, j, none⟩ = some (.int .u8 (t.data.toList.getD j 0).toNat) := fun j hj => Lib.bytesWorld_cell w 5 t j hj
  obtain ⟨W1, hW1⟩ : ∃ W1, W1 = Lib.bytesWorld w 5 t := ⟨_, rfl⟩
  rw [← hW1] at hcv hB ⊢
  clear hW1
  obtain ⟨bs, hL⟩ : ∃ bs, bs = t.data.toList := ⟨_, rfl⟩
  have hLn : bs.length = t.size := by rw [hL, Lib.size_eq]
  rw [← hL] at hB ⊢
  clear hL
  have HLn := Lib.hid hLn; have H2 := Lib.hid h2
  have h22 : t.size ≤ 2 := by omega
  clear hLn h2
  have hmv : IntKind.u64.wrap (IntKind.u64.wrap 256 - 1) = 255 := by
    rw [IntKind.wrap_u64, IntKind.wrap_u64]
    decide
  go_enter Tryd.func43, Tryd.ntmps43
  go_wp2
  go_loop [12, 13, 101] (fun vu vn vi => ∃ (k acc : Nat) (a : Int), vu = .bool false ∧ vn = .int .u64 a ∧ vi = .int .i64 k ∧ k ≤ t.size ∧ Hid (a = (acc : Int) ∧ acc < 16 ^ k ∧ hexF 0 bs = hexF acc (bs.drop k)))
    (fun _ _ vi => t.size - (intOf vi).toNat)
  case atStart => exact ⟨0, 0, 0, rfl, rfl, rfl, by omega, rfl, by simp, rfl⟩
  case round =>
    obtain ⟨k, acc, a, rfl, rfl, rfl, hk, hh⟩ := hrel
    obtain ⟨ha, hacc, hdec⟩ := hh.out
    clear hh
    by_cases hkn : k < t.size
    · have hk1 : acc < 16 := by
        have : k = 0 ∨ k = 1 := by omega
        rcases this with rfl | rfl <;> simp at hacc <;> omega
      have a0 : 0 ≤ a := by omega
      have a1 : a ≤ 15 := by omega
      have hc := hB k hkn
      have hlt := HLn.out
      have hdrop : bs.drop k = bs[k]'(by omega) :: bs.drop (k + 1) := List.drop_eq_getElem_cons (by omega)
      have hget : bs.getD k 0 = bs[k]'(by omega) := by simp [List.getD, List.getElem?_eq_getElem (show k < bs.length by omega)]
      rw [hdrop] at hdec
      rw [hget] at hc
      generalize bs[k]'(by omega) = c at hc hdec
      have hc256 : c.toNat < 256 := c.toNat_lt
      clear hB hdrop hget hlt
      obtain ⟨l1, l2, l3⟩ := low_fin ⟨c.toNat, hc256⟩
      simp only at l1 l2 l3
      cases hv : hexV c with
      | some d =>
        have hd16 := hexV_lt hv
        have hF : hexF acc (c :: bs.drop (k + 1)) = hexF (acc * 16 + d) (bs.drop (k + 1)) := by simp [hexF, hv]
        have HN : Hid (a * 16 + (d : Int) = ((acc * 16 + d : Nat) : Int) ∧ acc * 16 + d < 16 ^ (k + 1) ∧ hexF 0 bs = hexF (acc * 16 + d) (bs.drop (k + 1))) := Lib.hid ⟨by omega, by rw [Nat.pow_succ]; omega, hdec.trans hF⟩
        clear hF hdec ha hacc hk1 l3
        unfold hexV at hv
        by_cases hdig : 48 ≤ c.toNat ∧ c.toNat ≤ 57
        · obtain ⟨hd0, hd1⟩ := hdig
          rw [if_pos ⟨hd0, hd1⟩] at hv
          have he : (d : Int) = (c.toNat : Int) - 48 := by simp only [Option.some.injEq] at hv; omega
          rw [he] at HN
          clear hv he l1 l2 hd16
          go_wp2
          refine ⟨⟨k + 1, acc * 16 + d, a * 16 + ((c.toNat : Int) - 48), rfl, (by first | rfl | (congr 1; omega)), (by first | rfl | (congr 1; omega)), by omega, HN⟩, by simp [intOf]; omega⟩
        · rw [if_neg hdig] at hv
          by_cases hlo : 97 ≤ c.toNat ∧ c.toNat ≤ 102
          · obtain ⟨hd0, hd1⟩ := hlo
            rw [if_pos ⟨hd0, hd1⟩] at hv
            have he : (d : Int) = (c.toNat : Int) - 87 := by simp only [Option.some.injEq] at hv; omega
            rw [he] at HN
            have hlow : ∀ w, Calls Tryd.prog 55 #[.int .u8 (c.toNat : Int)] w fun e w' => e = .returned (.int .u8 (c.toNat : Int)) ∧ w' = w := fun w => by
              have h := Tryd.internal_strconv_lower (c.toNat : Int) w
              rw [l1 hd0 hd1] at h
              exact h
            clear hv he l1 l2 hd16 hdig
            go_wp2_with (go_at_call 55; (with_reducible refine (hlow _).mono ?_); rintro e w' ⟨rfl, rfl⟩)
            refine ⟨⟨k + 1, acc * 16 + d, a * 16 + ((c.toNat : Int) - 87), rfl, (by first | rfl | (congr 1; omega)), (by first | rfl | (congr 1; omega)), by omega, HN⟩, by simp [intOf]; omega⟩
          · rw [if_neg hlo] at hv
            by_cases hup : 65 ≤ c.toNat ∧ c.toNat ≤ 70
            · obtain ⟨hd0, hd1⟩ := hup
              rw [if_pos ⟨hd0, hd1⟩] at hv
              have he : (d : Int) = (c.toNat : Int) - 55 := by simp only [Option.some.injEq] at hv; omega
              rw [he] at HN
              have hlow : ∀ w, Calls Tryd.prog 55 #[.int .u8 (c.toNat : Int)] w fun e w' => e = .returned (.int .u8 ((c.toNat : Int) + 32)) ∧ w' = w := fun w => by
                have h := Tryd.internal_strconv_lower (c.toNat : Int) w
                rw [l2 hd0 hd1] at h
                exact h
              clear hv he l1 l2 hd16 hdig hlo
              go_wp2_with (go_at_call 55; (with_reducible refine (hlow _).mono ?_); rintro e w' ⟨rfl, rfl⟩)
              refine ⟨⟨k + 1, acc * 16 + d, a * 16 + ((c.toNat : Int) - 55), rfl, (by first | rfl | (congr 1; omega)), (by first | rfl | (congr 1; omega)), by omega, HN⟩, by simp [intOf]; omega⟩
            · rw [if_neg hup] at hv; cases hv
      | none =>
        have hF : hexF acc (c :: bs.drop (k + 1)) = none := by simp [hexF, hv]
        rw [hF] at hdec
        have HD := Lib.hid hdec
        have hn : ¬ (48 ≤ c.toNat ∧ c.toNat ≤ 57) ∧ ¬ (97 ≤ c.toNat ∧ c.toNat ≤ 102) ∧ ¬ (65 ≤ c.toNat ∧ c.toNat ≤ 70) := by
          unfold hexV at hv
          split at hv
          · cases hv
          · split at hv
            · cases hv
            · split at hv
              · cases hv
              · exact ⟨by assumption, by assumption, by assumption⟩
        obtain ⟨hdig, hn2, hn3⟩ := hn
        have l4 := l3 hn2 hn3
        have hv0 := bits_lo_u8 .or (c.toNat : Int) 32
        have hv1 := bits_hi_u8 .or (c.toNat : Int) 32
        clear hF hdec ha hacc hk1 l1 l2 l3 hv hn2 hn3
        by_cases h95 : (c.toNat : Int) = 95
        · rw [h95] at hc
          have hlow : ∀ w, Calls Tryd.prog 55 #[.int .u8 95] w fun e w' => e = .returned (.int .u8 127) ∧ w' = w := fun w => Tryd.internal_strconv_lower 95 w
          clear l4 hv0 hv1 h95 hdig hc256
          go_wp2_with (go_at_call 55; (with_reducible refine (hlow _).mono ?_); rintro e w' ⟨rfl, rfl⟩)
          go_ret2
          exact ⟨by rw [HD.out]; rfl, rfl⟩
        · have b95 : ((c.toNat : Int) == 95) = false := by simpa using h95
          have hlow : ∀ w, Calls Tryd.prog 55 #[.int .u8 (c.toNat : Int)] w fun e w' => e = .returned (.int .u8 (bits .or .u8 (c.toNat : Int) 32)) ∧ w' = w := fun w => Tryd.internal_strconv_lower (c.toNat : Int) w
          generalize bits .or .u8 (c.toNat : Int) 32 = lo at hlow l4 hv0 hv1
          by_cases hlz : 97 ≤ lo ∧ lo ≤ 122
          · obtain ⟨hz0, hz1⟩ := hlz
            have hz2 : 102 < lo := by omega
            clear l4
            go_wp2_with (go_at_call 55; (with_reducible refine (hlow _).mono ?_); rintro e w' ⟨rfl, rfl⟩)
            all_goals go_ret2
            all_goals exact ⟨by rw [HD.out]; rfl, rfl⟩
          · go_wp2_with (go_at_call 55; (with_reducible refine (hlow _).mono ?_); rintro e w' ⟨rfl, rfl⟩)
            all_goals go_ret2
            all_goals exact ⟨by rw [HD.out]; rfl, rfl⟩
    · have hkk : k = t.size := by omega
      have hF : hexF acc (bs.drop k) = some acc := by rw [List.drop_eq_nil_of_le (by have := HLn.out; omega)]; rfl
      rw [hF] at hdec
      have HD := Lib.hid hdec
      subst ha
      clear hdec hacc hF hkk
      go_wp2
      go_ret2
      exact ⟨by rw [HD.out]; rfl, rfl⟩
end Go.Proofs.YthmdnlcinlmjkaaDoor
