/- Contracts of the program's run and outline. -/
import Derived.Test.YtdmdakkibgjffaaDoorLo
import Derived.Shelf.Strings.SlTrimAscii
namespace Go.Proofs.YtdmdakkibgjffaaDoor
open Go Go.RowKit

def lettersL : List UInt8 := [65, 66, 67, 68, 69, 70, 71, 72, 73, 74, 75, 76, 77, 78, 79, 80, 81, 82, 83, 84, 85, 86, 87, 88, 89, 90, 97, 98, 99, 100, 101, 102, 103, 104, 105, 106, 107, 108, 109, 110, 111, 112, 113, 114, 115, 116, 117, 118, 119, 120, 121, 122, 95]
def digitsL : List UInt8 := [48, 49, 50, 51, 52, 53, 54, 55, 56, 57]
def lettersA : ByteArray := ⟨#[65, 66, 67, 68, 69, 70, 71, 72, 73, 74, 75, 76, 77, 78, 79, 80, 81, 82, 83, 84, 85, 86, 87, 88, 89, 90, 97, 98, 99, 100, 101, 102, 103, 104, 105, 106, 107, 108, 109, 110, 111, 112, 113, 114, 115, 116, 117, 118, 119, 120, 121, 122, 95]⟩
def digitsA : ByteArray := ⟨#[48, 49, 50, 51, 52, 53, 54, 55, 56, 57]⟩
def ldA : ByteArray := ⟨#[65, 66, 67, 68, 69, 70, 71, 72, 73, 74, 75, 76, 77, 78, 79, 80, 81, 82, 83, 84, 85, 86, 87, 88, 89, 90, 97, 98, 99, 100, 101, 102, 103, 104, 105, 106, 107, 108, 109, 110, 111, 112, 113, 114, 115, 116, 117, 118, 119, 120, 121, 122, 95, 48, 49, 50, 51, 52, 53, 54, 55, 56, 57]⟩
theorem byte_all {p : UInt8 → Bool} (h : ∀ i : Fin 256, p (UInt8.ofNat i.val) = true) (c : UInt8) : p c = true := by
  have := h ⟨c.toNat, c.toNat_lt⟩
  rwa [UInt8.ofNat_toNat] at this
theorem letters_let (c : UInt8) : decide (0 ≤ Lib.indexByte lettersA.data.toList c) = letB c :=
  eq_of_beq (byte_all (p := fun c => decide (0 ≤ Lib.indexByte lettersA.data.toList c) == letB c) (by decide +kernel) c)
theorem digits_dig (c : UInt8) : decide (0 ≤ Lib.indexByte digitsA.data.toList c) = digB c :=
  eq_of_beq (byte_all (p := fun c => decide (0 ≤ Lib.indexByte digitsA.data.toList c) == digB c) (by decide +kernel) c)
theorem digits_has : (fun c => digitsA.data.toList.contains c) = digB :=
  funext fun c => eq_of_beq (byte_all (p := fun c => digitsA.data.toList.contains c == digB c) (by decide +kernel) c)
theorem ld_has : (fun c => ldA.data.toList.contains c) = ldB :=
  funext fun c => eq_of_beq (byte_all (p := fun c => ldA.data.toList.contains c == ldB c) (by decide +kernel) c)

set_option maxRecDepth 100000 in
theorem lRun_any (s cs : ByteArray) (hs : s.size ≤ 140737488355328) (hcs : cs.size < 4294967281) (hascii : ∀ (j : Nat) b, cs.data.toList[j]? = some b → b.toNat < 128) (w : World) :
    Calls Tryd.prog 48 #[.string s, .string cs] w fun e w' => e = .returned (.int .i64 (runN (fun c => cs.data.toList.contains c) s.data.toList : Nat)) ∧ Below w.heap.size w w' := by
  have HC : Hid (∀ w, Calls Tryd.prog 61 #[.string s, .string cs] w fun e w' => e = .returned (.string ⟨(Lib.trimLeftS s.data.toList cs.data.toList).toArray⟩) ∧ Below w.heap.size w w') := Lib.hid (fun w => Any.strings_TrimLeft_laid Tryd.lays161 (by kernel_rfl) s cs w hcs hascii)
  have hx : (⟨(Lib.trimLeftS s.data.toList cs.data.toList).toArray⟩ : ByteArray).size = s.size - runN (fun c => cs.data.toList.contains c) s.data.toList := by
    rw [Lib.size_eq]; show (Lib.trimLeftS _ _).length = _; unfold Lib.trimLeftS; rw [dropWhile_len, Lib.size_eq]
  have hle := runN_le (fun c => cs.data.toList.contains c) s.data.toList
  rw [← Lib.size_eq] at hle
  generalize runN (fun c => cs.data.toList.contains c) s.data.toList = n at hx hle ⊢
  generalize (⟨(Lib.trimLeftS s.data.toList cs.data.toList).toArray⟩ : ByteArray) = x at hx HC
  clear hcs hascii
  go_enter Tryd.func48, Tryd.ntmps48
  go_wp2_with (go_at_call 61; (with_reducible refine (HC.out _).mono ?_); rintro e w' ⟨rfl, hb⟩)
  go_ret
  have hz : ((s.size : Int) - ((s.size - n : Nat) : Int)) = (n : Int) := by omega
  exact ⟨by rw [← hz]; rfl, hb⟩

theorem outl_cons (c : UInt8) (r : List UInt8) : outl (c :: r) = if letB c then ((1 : Int), 1 + runN ldB r) else if c = 45 ∨ digB c = true then (2, 1 + runN digB r)
    else if c = 34 then (3, match clo r with | some n => 1 + n | none => 1 + r.length)
    else (4, match r with | [] => 1 | d :: _ => if symB [c, d] then 2 else 1) := rfl
theorem ascii_dig : ∀ (j : Nat) b, digitsA.data.toList[j]? = some b → b.toNat < 128 := ascii_of_all (by decide)
theorem ascii_ld : ∀ (j : Nat) b, ldA.data.toList[j]? = some b → b.toNat < 128 := ascii_of_all (by decide)
theorem lRunD_any (s : ByteArray) (hs : s.size ≤ 140737488355328) (w : World) :
    Calls Tryd.prog 48 #[.string s, .string ⟨#[48, 49, 50, 51, 52, 53, 54, 55, 56, 57]⟩] w fun e w' => e = .returned (.int .i64 (runN digB s.data.toList : Nat)) ∧ Below w.heap.size w w' := by
  rw [← digits_has]; exact lRun_any s digitsA hs (by decide) ascii_dig w
theorem lRunL_any (s : ByteArray) (hs : s.size ≤ 140737488355328) (w : World) :
    Calls Tryd.prog 48 #[.string s, .string ⟨#[65, 66, 67, 68, 69, 70, 71, 72, 73, 74, 75, 76, 77, 78, 79, 80, 81, 82, 83, 84, 85, 86, 87, 88, 89, 90, 97, 98, 99, 100, 101, 102, 103, 104, 105, 106, 107, 108, 109, 110, 111, 112, 113, 114, 115, 116, 117, 118, 119, 120, 121, 122, 95, 48, 49, 50, 51, 52, 53, 54, 55, 56, 57]⟩] w fun e w' => e = .returned (.int .i64 (runN ldB s.data.toList : Nat)) ∧ Below w.heap.size w w' := by
  rw [← ld_has]; exact lRun_any s ldA hs (by decide) ascii_ld w
theorem inLet_any (c : UInt8) (w : World) :
    Calls Tryd.prog 39 #[.string ⟨#[65, 66, 67, 68, 69, 70, 71, 72, 73, 74, 75, 76, 77, 78, 79, 80, 81, 82, 83, 84, 85, 86, 87, 88, 89, 90, 97, 98, 99, 100, 101, 102, 103, 104, 105, 106, 107, 108, 109, 110, 111, 112, 113, 114, 115, 116, 117, 118, 119, 120, 121, 122, 95]⟩, .int .u8 (c.toNat : Int)] w fun e w' => (∃ n : Int, e = .returned (.int .i64 n) ∧ decide (0 ≤ n) = letB c) ∧ w = w' :=
  (Tryd.strings_IndexByte lettersA (c.toNat : Int) w).mono fun e w' ⟨he, hw⟩ => ⟨⟨_, he, by rw [← letters_let, Int.toNat_natCast, show c.toNat.toUInt8 = c from UInt8.ofNat_toNat]⟩, hw.symm⟩
theorem inDig_any (c : UInt8) (w : World) :
    Calls Tryd.prog 39 #[.string ⟨#[48, 49, 50, 51, 52, 53, 54, 55, 56, 57]⟩, .int .u8 (c.toNat : Int)] w fun e w' => (∃ n : Int, e = .returned (.int .i64 n) ∧ decide (0 ≤ n) = digB c) ∧ w = w' :=
  (Tryd.strings_IndexByte digitsA (c.toNat : Int) w).mono fun e w' ⟨he, hw⟩ => ⟨⟨_, he, by rw [← digits_dig, Int.toNat_natCast, show c.toNat.toUInt8 = c from UInt8.ofNat_toNat]⟩, hw.symm⟩

set_option maxRecDepth 100000 in
set_option maxHeartbeats 2000000 in
theorem lOutline_any (s : ByteArray) (hs : s.size ≤ 140737488355328) (h0 : 0 < s.size) (w : World) :
    Calls Tryd.prog 36 #[.string s] w fun e w' => e = .returned (.tuple #[.int .i64 (outl s.data.toList).1, .int .i64 ((outl s.data.toList).2 : Nat)]) ∧ Below w.heap.size w w' := by
  have hl : s.data.toList = s[0]'h0 :: s.data.toList.drop 1 := by
    have a := list_at s 0 h0
    rwa [List.drop_zero] at a
  have hx : (s.extract 1 s.size).data.toList = s.data.toList.drop 1 := ext_list s 1
  have HD := Lib.hid (fun w => lRunD_any (s.extract 1 s.size) (by rw [ext_size]; omega) w)
  have HL := Lib.hid (fun w => lRunL_any s hs w)
  have HQ := Lib.hid (fun w => lQuoted_any s hs w)
  have HS := Lib.hid (fun w => lSym1_any s hs w)
  rw [hx] at HD
  have e : ∀ d : UInt8, (((s[0]'h0).toNat : Int) == (d.toNat : Int)) = ((s[0]'h0) == d) := fun d => by
    rw [Bool.eq_iff_iff]; simp only [beq_iff_eq]
    exact ⟨fun h => UInt8.toNat_inj.1 (by omega), fun h => by rw [h]⟩
  have e1 := e 45; have e2 := e 34
  simp only [show ((45 : UInt8).toNat : Int) = 45 from rfl, show ((34 : UInt8).toNat : Int) = 34 from rfl] at e1 e2
  have hr2 : runN digB (s.data.toList.drop 1) ≤ s.size := by have := runN_le digB (s.data.toList.drop 1); rw [List.length_drop, ← Lib.size_eq] at this; omega
  cases hlet : letB (s[0]'h0) with
  | true =>
    have HE : Hid (outl s.data.toList = (1, runN ldB s.data.toList)) := by
      show _ = _
      have h2 : runN ldB s.data.toList = 1 + runN ldB (s.data.toList.drop 1) := by
        conv => lhs; rw [hl]
        unfold runN; rw [List.takeWhile_cons_of_pos (by unfold ldB; rw [hlet]; rfl)]; simp; omega
      rw [h2]
      conv => lhs; rw [hl]
      rw [outl_cons, if_pos hlet]
    clear hl hx e e1 e2 HD HQ HS
    go_enter Tryd.func36, Tryd.ntmps36
    go_wp2_with (first
      | (go_at_call 39; (with_reducible refine (inLet_any _ _).mono ?_); rintro e w' ⟨⟨n, rfl, hn⟩, rfl⟩; rw [hlet] at hn; have hn' := of_decide_eq_true hn; clear hn)
      | (go_at_call 48; (with_reducible refine (HL.out _).mono ?_); rintro e w' ⟨rfl, hb⟩))
    go_ret2
    exact ⟨by rw [HE.out]; rfl, hb⟩
  | false =>
    cases hdig : ((s[0]'h0) == 45 || digB (s[0]'h0)) with
    | true =>
      have HE : Hid (outl s.data.toList = (2, 1 + runN digB (s.data.toList.drop 1))) := by
        show _ = _
        conv => lhs; rw [hl]
        rw [outl_cons, if_neg (by rw [hlet]; simp), if_pos (by simpa using hdig)]
      generalize runN digB (s.data.toList.drop 1) = rr at HD HE hr2
      clear hl hx HL HQ HS e e2
      cases hm : (s[0]'h0) == 45 with
      | true =>
        rw [hm] at e1
        go_enter Tryd.func36, Tryd.ntmps36
        go_wp2_with (first
          | (go_at_call 39; (with_reducible refine (inLet_any _ _).mono ?_); rintro e w' ⟨⟨n, rfl, hn⟩, rfl⟩; rw [hlet] at hn; have hn' := of_decide_eq_false hn; clear hn)
          | (go_at_call 48; (with_reducible refine (HD.out _).mono ?_); rintro e w' ⟨rfl, hb⟩))
        go_ret2
        exact ⟨by rw [HE.out]; first | rfl | (simp; done) | simp [wrap64_in (1 + (rr : Int)) (by omega)], hb⟩
      | false =>
        rw [hm] at e1 hdig
        have hdig' : digB (s[0]'h0) = true := hdig
        clear hdig
        go_enter Tryd.func36, Tryd.ntmps36
        go_wp2_with (first
          | (go_at_call 39; (with_reducible refine (inLet_any _ _).mono ?_); rintro e w' ⟨⟨n, rfl, hn⟩, rfl⟩; rw [hlet] at hn; have hn' := of_decide_eq_false hn; clear hn)
          | (go_at_call 39; (with_reducible refine (inDig_any _ _).mono ?_); rintro e w' ⟨⟨n2, rfl, hm2⟩, rfl⟩; rw [hdig'] at hm2; have hm2' := of_decide_eq_true hm2; clear hm2)
          | (go_at_call 48; (with_reducible refine (HD.out _).mono ?_); rintro e w' ⟨rfl, hb⟩))
        go_ret2
        exact ⟨by rw [HE.out]; first | rfl | (simp; done) | simp [wrap64_in (1 + (rr : Int)) (by omega)], hb⟩
    | false =>
      have hm : ((s[0]'h0) == 45) = false := by cases h : (s[0]'h0) == 45 <;> simp [h] at hdig ⊢
      have hdig' : digB (s[0]'h0) = false := by cases h : digB (s[0]'h0) <;> simp [h] at hdig ⊢
      have hno : ¬ ((s[0]'h0) = 45 ∨ digB (s[0]'h0) = true) := by simpa using hdig
      rw [hm] at e1
      clear hdig
      cases hq : (s[0]'h0) == 34 with
      | true =>
        have HE : Hid (outl s.data.toList = (3, quoN s.data.toList)) := by
          show _ = _
          have h34 : (s[0]'h0) = 34 := by simpa using hq
          have h5 : s.data.toList.length = 1 + (s.data.toList.drop 1).length := by rw [List.length_drop, ← Lib.size_eq]; omega
          unfold quoN
          rw [h5]
          conv => lhs; rw [hl]
          rw [outl_cons, if_neg (by rw [hlet]; simp), if_neg hno, if_pos h34]; rfl
        rw [hq] at e2
        clear hl hx e HD HL HS hno
        go_enter Tryd.func36, Tryd.ntmps36
        go_wp2_with (first
          | (go_at_call 39; (with_reducible refine (inLet_any _ _).mono ?_); rintro e w' ⟨⟨n, rfl, hn⟩, rfl⟩; rw [hlet] at hn; have hn' := of_decide_eq_false hn; clear hn)
          | (go_at_call 39; (with_reducible refine (inDig_any _ _).mono ?_); rintro e w' ⟨⟨n2, rfl, hm2⟩, rfl⟩; rw [hdig'] at hm2; have hm2' := of_decide_eq_false hm2; clear hm2)
          | (go_at_call 49; (with_reducible refine (HQ.out _).mono ?_); rintro e w' ⟨rfl, rfl⟩))
        go_ret2
        exact ⟨by rw [HE.out]; rfl, Below.refl _ _⟩
      | false =>
        have HE : Hid (outl s.data.toList = (4, symN s.data.toList)) := by
          show _ = _
          have h34 : ¬ (s[0]'h0) = 34 := by simpa using hq
          conv => lhs; rw [hl]
          conv => rhs; rw [hl]
          rw [outl_cons, if_neg (by rw [hlet]; simp), if_neg hno, if_neg h34]
          cases s.data.toList.drop 1 <;> rfl
        rw [hq] at e2
        clear hl hx e HD HL HQ hno
        go_enter Tryd.func36, Tryd.ntmps36
        go_wp2_with (first
          | (go_at_call 39; (with_reducible refine (inLet_any _ _).mono ?_); rintro e w' ⟨⟨n, rfl, hn⟩, rfl⟩; rw [hlet] at hn; have hn' := of_decide_eq_false hn; clear hn)
          | (go_at_call 39; (with_reducible refine (inDig_any _ _).mono ?_); rintro e w' ⟨⟨n2, rfl, hm2⟩, rfl⟩; rw [hdig'] at hm2; have hm2' := of_decide_eq_false hm2; clear hm2)
          | (go_at_call 50; (with_reducible refine (HS.out _).mono ?_); rintro e w' ⟨rfl, rfl⟩))
        go_ret2
        exact ⟨by rw [HE.out]; rfl, Below.refl _ _⟩
end Go.Proofs.YtdmdakkibgjffaaDoor
