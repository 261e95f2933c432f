/- Contract: Form of the document. -/
import Derived.Test.YtiljekpfkkocnaaFla4
import Derived.Test.YtiljekpfkkocnaaPut4
namespace Go.Proofs.Ytiljekpfkkocnaa
open Go Go.RowKit

set_option maxRecDepth 100000 in
set_option maxHeartbeats 6400000 in
theorem r4Form_nat (S Q T : Nat) (ty : ByteArray) (ats : List At) (B : Nat) (ao : Option Addr) (n cap : Nat) (w : World) (hB : B ≤ w.heap.size)
    (hv : Av w B (.slice ao n cap) ats) (hok : EvOk ⟨S, Q, T, ty, ats⟩) (hn : ∀ x ∈ ats, (Lit.int .i64 x.n).wf = true) (hle : (evBits ⟨S, Q, T, ty, ats⟩).length ≤ 8192) :
    Calls Try.prog 25 #[.agg #[.int .i64 (S : Int), .int .i64 (Q : Int), .int .i64 (T : Int), .string ty, .slice ao n cap]] w
      fun e w' => ∃ v, e = .returned v ∧ Flags w' w.heap.size v (evBits ⟨S, Q, T, ty, ats⟩) ∧ Below w.heap.size w w' := by
  obtain ⟨P, hP⟩ : ∃ P, P = w.heap.size := ⟨_, rfl⟩
  obtain ⟨W, hW⟩ : ∃ W, W = w.alloc (.cells #[.int .i64 (S : Int), .int .i64 (Q : Int), .int .i64 (T : Int), .string ty, .slice ao n cap] 26) := ⟨_, rfl⟩
  obtain ⟨ev, hev⟩ : ∃ ev : Array Value, ev = #[.int .i64 (S : Int), .int .i64 (Q : Int), .int .i64 (T : Int), .string ty, .slice ao n cap] := ⟨_, rfl⟩
  have h0 : He w P [] (.slice ao n cap) ats w (.slice none 0 0) [] := ⟨Below.refl _ _, by omega, fun p hp => (by cases hp), hv.mono (by omega), World.ownsRow_nil _ _ _ _⟩
  have h1 := h0.box #[.int .i64 (S : Int), .int .i64 (Q : Int), .int .i64 (T : Int), .string ty, .slice ao n cap] 26 (by decide)
  rw [← hW, ← hP] at h1
  have HD := hide h1
  obtain ⟨hnx, hn63⟩ := hv.num
  have hn8 : n ≤ 8 := by have := hok.ats; simp only at this; omega
  have hS := hok.src; have hQ := hok.seq; have hT := hok.time; have hty := hok.ty
  simp only at hS hQ hT hty
  have hS16 : S < 16 := by omega
  have hQ40 : Q ≤ 1099511627776 := by omega
  have hT40 : T ≤ 1099511627776 := by omega
  have CS : ∀ w, Calls Try.prog 24 #[.int .u64 (S : Int), .int .i64 4] w fun e w' => ∃ v, e = .returned v ∧ Flags w' w.heap.size v (bitsOf S 4) ∧ Below w.heap.size w w' := fun w => rLow_any S 4 w (by omega) (by omega)
  have CQ : ∀ w, Calls Try.prog 75 #[.int .u64 (Q : Int)] w fun e w' => ∃ v, e = .returned v ∧ Flags w' w.heap.size v (natBits Q) ∧ Below w.heap.size w w' := fun w => rNat_any Q w (by omega)
  have CT : ∀ w, Calls Try.prog 75 #[.int .u64 (T : Int)] w fun e w' => ∃ v, e = .returned v ∧ Flags w' w.heap.size v (natBits T) ∧ Below w.heap.size w w' := fun w => rNat_any T w (by omega)
  have CX : ∀ w, Calls Try.prog 76 #[.string ty] w fun e w' => ∃ v, e = .returned v ∧ Flags w' w.heap.size v (textBits ty.data.toList) ∧ Below w.heap.size w w' := fun w => rText_any ty w (by omega)
  have CN : ∀ w, Calls Try.prog 24 #[.int .u64 (n : Int), .int .i64 4] w fun e w' => ∃ v, e = .returned v ∧ Flags w' w.heap.size v (bitsOf n 4) ∧ Below w.heap.size w w' := fun w => rLow_any n 4 w (by omega) (by omega)
  have eS : IntKind.u64.wrap (S : Int) = S := by rw [IntKind.wrap_u64]; omega
  have eQ : IntKind.u64.wrap (Q : Int) = Q := by rw [IntKind.wrap_u64]; omega
  have eT : IntKind.u64.wrap (T : Int) = T := by rw [IntKind.wrap_u64]; omega
  have eN : IntKind.u64.wrap (n : Int) = n := by rw [IntKind.wrap_u64]; omega
  have ES := hide eS; have EQ := hide eQ; have ET := hide eT; have EN := hide eN
  have HW := hide hW; have HP := hide hP
  have hql := ahd_small4 Q hQ40; have htl := ahd_small4 T hT40; have hyl := ahd_text ty.size (by omega)
  have HQL := hide hql; have HTL := hide htl; have HYL := hide hyl; have HTY := hide hty
  have HTX := hide (textBits_len ty)
  have HNX := hide hnx
  have HOK := hide hok; have HWF := hide hn; have HLE := hide hle
  rw [← hP]
  clear hW hP h0 h1 hev hS hQ hT eS eQ eT eN hql htl hyl hok hn hv hB hle hty hQ40 hT40 hnx
  obtain ⟨c0, c1, c2, c3, c4⟩ := cell_of_five (HD.out.boxes _ (List.mem_cons_self ..)).1
  go_enter Try.func25, Try.ntmps25
  go_wp2_with fail
  rw [← HW.out, ← HP.out]
  have eS := ES.out; have eQ := EQ.out
  go_region_held3 (fun w' => w'.cell? ⟨P, 0, none⟩ = some (.int .i64 (S : Int)) ∧ w'.cell? ⟨P, 1, none⟩ = some (.int .i64 (Q : Int))) (first | exact ⟨c0, c1⟩ | go_keep)
    (first
      | (go_at_call 24; (with_reducible refine (CS _).mono ?_); rintro e w2 ⟨v1, rfl, hf, hb⟩; obtain ⟨g1, cap1, rfl⟩ := flags_pos hf (by rw [bitsOf_length]; decide); have HD := hide (HD.out.drew.fresh hb hf); clear c0 c1 c2 c3 c4; obtain ⟨c0, c1, c2, c3, c4⟩ := cell_of_five (HD.out.boxes _ (List.mem_cons_self ..)).1; clear hf hb)
      | (go_at_call 75; (with_reducible refine (CQ _).mono ?_); rintro e w3 ⟨v2, rfl, hf, hb⟩; obtain ⟨g2, cap2, rfl⟩ := flags_pos hf (by rw [natBits_length]; omega); have HN := hide hf; have HD := hide (HD.out.call hb); clear c0 c1 c2 c3 c4; obtain ⟨c0, c1, c2, c3, c4⟩ := cell_of_five (HD.out.boxes _ (List.mem_cons_self ..)).1; clear hf hb)
      | (refine step_append_flags (by rfl) (.tmp 10) (.tmp 15) (by rfl) _ _ _ _ _ _ (by simp [Act.eval]) (by simp [Act.eval]) HD.out.flags HN.out (by have := HQL.out; simp [bitsOf_length, natBits_length]; omega) HD.out.size (by rw [natBits_length]; omega) ?_; intro g3 cap3 ng3 w4 hf hg; have HD := hide (HD.out.grow hg hf); clear c0 c1 c2 c3 c4; obtain ⟨c0, c1, c2, c3, c4⟩ := cell_of_five (HD.out.boxes _ (List.mem_cons_self ..)).1; clear hf hg))
  clear eS eQ
  go_wp2_with fail
  have eT := ET.out
  go_region_held3 (fun w' => w'.cell? ⟨P, 2, none⟩ = some (.int .i64 (T : Int)) ∧ w'.cell? ⟨P, 3, none⟩ = some (.string ty)) (first | exact ⟨c2, c3⟩ | go_keep)
    (first
      | (go_at_call 75; (with_reducible refine (CT _).mono ?_); rintro e w5 ⟨v1, rfl, hf, hb⟩; obtain ⟨g1, cap1, rfl⟩ := flags_pos hf (by rw [natBits_length]; omega); have HN := hide hf; have HD := hide (HD.out.drew.call hb); clear c0 c1 c2 c3 c4; obtain ⟨c0, c1, c2, c3, c4⟩ := cell_of_five (HD.out.boxes _ (List.mem_cons_self ..)).1; clear hf hb)
      | (go_at_call 76; (with_reducible refine (CX _).mono ?_); rintro e w6 ⟨v2, rfl, hf, hb⟩; obtain ⟨g2, cap2, rfl⟩ := flags_pos hf (by rw [HTX.out]; omega); have HNA := hide hf; have HLt := hide (own_lt_new HD.out.flags); (try have HN := hide (HN.out.below hb (Nat.le_refl _))); have HD := hide (HD.out.call hb); clear c0 c1 c2 c3 c4; obtain ⟨c0, c1, c2, c3, c4⟩ := cell_of_five (HD.out.boxes _ (List.mem_cons_self ..)).1; clear hf hb)
      | (refine step_append_flags (by rfl) (.tmp 17) (.tmp 21) (by rfl) _ _ _ _ _ _ (by simp [Act.eval]) (by simp [Act.eval]) HD.out.flags HN.out (by have := HQL.out; have := HTL.out; simp [bitsOf_length, natBits_length]; omega) HD.out.size (by rw [natBits_length]; omega) ?_; intro g3 cap3 ng3 w7 hf hg; (try have HNA := hide (HNA.out.other HD.out.flags HLt.out hg)); have HD := hide (HD.out.grow hg hf); clear c0 c1 c2 c3 c4; obtain ⟨c0, c1, c2, c3, c4⟩ := cell_of_five (HD.out.boxes _ (List.mem_cons_self ..)).1; clear hf hg)
      | (refine step_append_flags (by rfl) (.tmp 22) (.tmp 25) (by rfl) _ _ _ _ _ _ (by simp [Act.eval]) (by simp [Act.eval]) HD.out.flags HNA.out (by have := HQL.out; have := HTL.out; have := HYL.out; have := HTY.out; rw [HTX.out]; simp [bitsOf_length, natBits_length]; omega) HD.out.size (by rw [HTX.out]; omega) ?_; intro g4 cap4 ng4 w8 hf hg; have HD := hide (HD.out.grow hg hf); clear c0 c1 c2 c3 c4; obtain ⟨c0, c1, c2, c3, c4⟩ := cell_of_five (HD.out.boxes _ (List.mem_cons_self ..)).1; clear hf hg))
  clear eT
  have eN := EN.out
  go_wp2_with (first
      | (go_at_call 24; (with_reducible refine (CN _).mono ?_); rintro e w9 ⟨v1, rfl, hf, hb⟩; obtain ⟨g1, cap1, rfl⟩ := flags_pos hf (by rw [bitsOf_length]; decide); have HN := hide hf; have HD := hide (HD.out.call hb); clear c0 c1 c2 c3 c4; obtain ⟨c0, c1, c2, c3, c4⟩ := cell_of_five (HD.out.boxes _ (List.mem_cons_self ..)).1; clear hf hb)
      | (at_builtin; refine wpList_append_flags rfl (.tmp 27) (.tmp 32) rfl _ _ _ _ _ _ (by simp [Act.eval]) (by simp [Act.eval]) HD.out.flags HN.out (by have := HQL.out; have := HTL.out; have := HYL.out; have := HTY.out; simp [HTX.out, bitsOf_length, natBits_length]; omega) HD.out.size (by rw [bitsOf_length]; decide) ?_; intro g3 cap3 ng3 w10 hf hg; have HD := hide (HD.out.grow hg hf); clear c0 c1 c2 c3 c4; obtain ⟨c0, c1, c2, c3, c4⟩ := cell_of_five (HD.out.boxes _ (List.mem_cons_self ..)).1; clear hf hg))
  have HHD : Hid (bitsOf S 4 ++ natBits Q ++ natBits T ++ textBits ty.data.toList ++ bitsOf n 4 = headE ⟨S, Q, T, ty, ats⟩) := by
    rw [HNX.out]; rfl
  have hd0 := HD.out
  simp only [List.append_assoc] at hd0
  have hhd := HHD.out
  simp only [List.append_assoc] at hhd
  rw [hhd] at hd0
  have HD := hide hd0
  have HHL := hide (show (headE ⟨S, Q, T, ty, ats⟩).length + (ats.flatMap atBits).length ≤ 8192 by have := HLE.out; unfold evBits at this; rw [List.length_append] at this; exact this)
  obtain ⟨hd, hhd2⟩ : ∃ hd, hd = headE ⟨S, Q, T, ty, ats⟩ := ⟨_, rfl⟩
  rw [← hhd2] at HD HHL
  have HHDV := hide hhd2
  clear hd0 hhd hhd2 eN c0 c1 c2 c3 c4
  go_loopw [3, 4] (fun v i wr => ∃ (k : Nat) (g c m : Nat), k ≤ n ∧ i = .int .i64 k ∧ v = .slice (some ⟨g, 0, none⟩) m c ∧ Hid (He w P [(P, #[.int .i64 (S : Int), .int .i64 (Q : Int), .int .i64 (T : Int), .string ty, .slice ao n cap], 26)] (.slice ao n cap) ats wr (.slice (some ⟨g, 0, none⟩) m c) (hd ++ (ats.take k).flatMap atBits))) (fun _ i _ => n - (intOf i).toNat)
  case atStart => exact ⟨0, _, _, _, Nat.zero_le _, rfl, rfl, by simpa using HD⟩
  case round =>
    obtain ⟨k, g, c, m, hk, rfl, rfl, HD⟩ := hrel
    obtain ⟨c0, c1, c2, c3, c4⟩ := cell_of_five (HD.out.boxes _ (List.mem_cons_self ..)).1
    by_cases hlt : k < n
    · have hkl : k < ats.length := by rw [← HNX.out]; exact hlt
      obtain ⟨b, o, rfl, hb, hnn, _, hcap, hcell⟩ := HD.out.body.at (by omega)
      obtain ⟨x, hx⟩ : ∃ x, x = ats[k]! := ⟨_, rfl⟩
      obtain ⟨b0, b1, b2, b3⟩ := four_cells (w := wr) (b := b) (a := o + k * 4) (x := x) (fun i u hu => hcell k hkl i u (by rw [← hx]; exact hu))
      have hxo := HOK.out.each x (by rw [hx, getElem!_pos ats k hkl]; exact List.getElem_mem _)
      have hxw := HWF.out x (by rw [hx, getElem!_pos ats k hkl]; exact List.getElem_mem _)
      have hfl := take_flat_le ats k hkl
      have hft := take_flat ats k hkl
      rw [← hx] at hfl hft
      rw [atBits_len] at hfl
      have htl := textBits_len x.name
      have hkz : (0 : Int) ≤ (k : Int) := by omega
      have HHL2 := HHL.out
      have hll : (hd ++ (ats.take k).flatMap atBits).length + (textBits x.name.data.toList).length + 2 + (valBitsA x).length ≤ 8192 := by rw [List.length_append]; omega
      obtain ⟨nm, xk, xn, xs⟩ := x
      simp only at b0 b1 b2 b3 hxo hxw htl hll
      have HD1 := HD.out.box #[.string nm, .int .i64 xk, .int .i64 xn, .string xs] 91 (by decide)
      have CX : ∀ w, Calls Try.prog 76 #[.string nm] w fun e w' => ∃ v, e = .returned v ∧ Flags w' w.heap.size v (textBits nm.data.toList) ∧ Below w.heap.size w w' := fun w => rText_any nm w (by omega)
      have hpt : 0 < (textBits nm.data.toList).length := by omega
      have HD := hide HD1
      have HCX := hide CX; have HPT := hide hpt; have HLL := hide hll; have HFT := hide hft
      clear hcell hx hkl hb hnn hfl hft htl HHL2 HD1 CX hpt hll
      obtain ⟨a0, a1, a2, a3⟩ := cell_of_four4 (HD.out.boxes _ (List.mem_cons_self ..)).1
      obtain ⟨hx1, hx2⟩ := hxo
      obtain ⟨K, rfl⟩ : ∃ K : Nat, xk = (K : Int) := ⟨xk.toNat, by omega⟩
      have hK : K = 1 ∨ K = 2 := by omega
      have CK : ∀ w, Calls Try.prog 24 #[.int .u64 (K : Int), .int .i64 2] w fun e w' => ∃ v, e = .returned v ∧ Flags w' w.heap.size v (bitsOf K 2) ∧ Below w.heap.size w w' := fun w => rLow_any K 2 w (by omega) (by omega)
      have HCK := hide CK
      have eK : IntKind.u64.wrap (K : Int) = K := by rw [IntKind.wrap_u64]; omega
      obtain ⟨tn, htn⟩ : ∃ tn, tn = textBits nm.data.toList := ⟨_, rfl⟩
      obtain ⟨l0, hl0⟩ : ∃ l0, l0 = hd ++ (ats.take k).flatMap atBits := ⟨_, rfl⟩
      have hd1 := HD.out
      have hcx := HCX.out; have hpt := HPT.out; have hll := HLL.out
      rw [← hl0] at hd1 hll
      rw [← htn] at hcx hpt hll
      have HA1 := hide (show l0.length + tn.length ≤ 1048576 by omega)
      have HA2 := hide (show (l0 ++ tn).length + (bitsOf K 2).length ≤ 1048576 by rw [List.length_append, bitsOf_length]; omega)
      have HA3 := hide (show (l0 ++ tn ++ bitsOf K 2).length + (valBitsA ⟨nm, K, xn, xs⟩).length ≤ 1048576 by rw [List.length_append, List.length_append, bitsOf_length]; omega)
      have HP2 := hide (show 0 < (bitsOf K 2).length by rw [bitsOf_length]; omega)
      have HD := hide hd1; have HCX := hide hcx; have HPT := hide hpt
      have HBITS : Hid (hd ++ (ats.take (k + 1)).flatMap atBits = l0 ++ tn ++ bitsOf K 2 ++ valBitsA ⟨nm, K, xn, xs⟩) := by
        rw [HFT.out, hl0, htn]; simp only [atBits, List.append_assoc]; rfl
      have HKK := hide hK
      have HX2 := hide hx2
      clear CK hx1 hx2 hl0 htn hd1 hcx hpt hll hK HLL HFT
      go_wp2_with fail
      go_region_held3 (fun w' => w'.cell? ⟨wr.heap.size, 0, none⟩ = some (.string nm) ∧ w'.cell? ⟨wr.heap.size, 1, none⟩ = some (.int .i64 (K : Int))) (first | exact ⟨a0, a1⟩ | go_keep)
        (first
          | (go_at_call 76; (with_reducible refine (HCX.out _).mono ?_); rintro e w2 ⟨v1, rfl, hf, hb⟩; obtain ⟨g1, cap1, rfl⟩ := flags_pos hf HPT.out; have HN := hide hf; have HD := hide (HD.out.drew.call hb); clear c0 c1 c2 c3 c4 a0 a1 a2 a3; obtain ⟨c0, c1, c2, c3, c4⟩ := cell_of_five (HD.out.boxes _ (List.mem_cons_of_mem _ (List.mem_cons_self ..))).1; obtain ⟨a0, a1, a2, a3⟩ := cell_of_four4 (HD.out.boxes _ (List.mem_cons_self ..)).1; clear hf hb)
          | (go_at_call 24; (with_reducible refine (HCK.out _).mono ?_); rintro e w3 ⟨v2, rfl, hf, hb⟩; obtain ⟨g2, cap2, rfl⟩ := flags_pos hf HP2.out; have HNA := hide hf; have HLt := hide (own_lt_new HD.out.flags); (try have HN := hide (HN.out.below hb (Nat.le_refl _))); have HD := hide (HD.out.call hb); clear c0 c1 c2 c3 c4 a0 a1 a2 a3; obtain ⟨c0, c1, c2, c3, c4⟩ := cell_of_five (HD.out.boxes _ (List.mem_cons_of_mem _ (List.mem_cons_self ..))).1; obtain ⟨a0, a1, a2, a3⟩ := cell_of_four4 (HD.out.boxes _ (List.mem_cons_self ..)).1; clear hf hb)
          | (refine step_append_flags (by rfl) (.tmp 46) (.tmp 49) (by rfl) _ _ _ _ _ _ (by simp [Act.eval]) (by simp [Act.eval]) HD.out.flags HN.out HA1.out HD.out.size HPT.out ?_; intro g3 cap3 ng3 w7 hf hg; (try have HNA := hide (HNA.out.other HD.out.flags HLt.out hg)); have HD := hide (HD.out.grow hg hf); clear c0 c1 c2 c3 c4 a0 a1 a2 a3; obtain ⟨c0, c1, c2, c3, c4⟩ := cell_of_five (HD.out.boxes _ (List.mem_cons_of_mem _ (List.mem_cons_self ..))).1; obtain ⟨a0, a1, a2, a3⟩ := cell_of_four4 (HD.out.boxes _ (List.mem_cons_self ..)).1; clear hf hg)
          | (refine step_append_flags (by rfl) (.tmp 50) (.tmp 55) (by rfl) _ _ _ _ _ _ (by simp [Act.eval]) (by simp [Act.eval]) HD.out.flags HNA.out HA2.out HD.out.size HP2.out ?_; intro g4 cap4 ng4 w8 hf hg; have HD := hide (HD.out.grow hg hf); clear c0 c1 c2 c3 c4 a0 a1 a2 a3; obtain ⟨c0, c1, c2, c3, c4⟩ := cell_of_five (HD.out.boxes _ (List.mem_cons_of_mem _ (List.mem_cons_self ..))).1; obtain ⟨a0, a1, a2, a3⟩ := cell_of_four4 (HD.out.boxes _ (List.mem_cons_self ..)).1; clear hf hg))
      clear eK
      rcases HKK.out with rfl | rfl
      · have CV : ∀ w, Calls Try.prog 77 #[.int .i64 xn] w fun e w' => ∃ v, e = .returned v ∧ Flags w' w.heap.size v (valBitsA ⟨nm, (1 : Nat), xn, xs⟩) ∧ Below w.heap.size w w' := fun w => rNum_any xn w hxw
        have HCV := hide CV
        have HPV := hide (show 0 < (valBitsA ⟨nm, (1 : Nat), xn, xs⟩).length by show 0 < (natBits (zigN xn)).length; rw [natBits_length]; omega)
        clear CV hxw
        go_wp2_with (first
            | (go_at_call 77; (with_reducible refine (HCV.out _).mono ?_); rintro e w9 ⟨v1, rfl, hf, hb⟩; obtain ⟨g1, cap1, rfl⟩ := flags_pos hf HPV.out; have HN := hide hf; have HD := hide (HD.out.call hb); clear c0 c1 c2 c3 c4 a0 a1 a2 a3; obtain ⟨c0, c1, c2, c3, c4⟩ := cell_of_five (HD.out.boxes _ (List.mem_cons_of_mem _ (List.mem_cons_self ..))).1; obtain ⟨a0, a1, a2, a3⟩ := cell_of_four4 (HD.out.boxes _ (List.mem_cons_self ..)).1; clear hf hb)
            | (at_builtin; refine wpList_append_flags rfl (.tmp 61) (.tmp 65) rfl _ _ _ _ _ _ (by simp [Act.eval]) (by simp [Act.eval]) HD.out.flags HN.out HA3.out HD.out.size HPV.out ?_; intro g3 cap3 ng3 w10 hf hg; have HD := hide (HD.out.grow hg hf); clear c0 c1 c2 c3 c4 a0 a1 a2 a3; obtain ⟨c0, c1, c2, c3, c4⟩ := cell_of_five (HD.out.boxes _ (List.mem_cons_of_mem _ (List.mem_cons_self ..))).1; obtain ⟨a0, a1, a2, a3⟩ := cell_of_four4 (HD.out.boxes _ (List.mem_cons_self ..)).1; clear hf hg))
        go_roundw
        case rel => exact ⟨k + 1, _, _, _, by omega, by go_num, rfl, by rw [HBITS.out]; exact HD.out.unbox⟩
        case measure => simp [intOf]; omega
      · have CV : ∀ w, Calls Try.prog 76 #[.string xs] w fun e w' => ∃ v, e = .returned v ∧ Flags w' w.heap.size v (valBitsA ⟨nm, (2 : Nat), xn, xs⟩) ∧ Below w.heap.size w w' := fun w => rText_any xs w (by have := HX2.out; omega)
        have HCV := hide CV
        have HPV := hide (show 0 < (valBitsA ⟨nm, (2 : Nat), xn, xs⟩).length by show 0 < (textBits xs.data.toList).length; rw [textBits_len]; omega)
        clear CV hxw
        go_wp2_with (first
            | (go_at_call 76; (with_reducible refine (HCV.out _).mono ?_); rintro e w9 ⟨v1, rfl, hf, hb⟩; obtain ⟨g1, cap1, rfl⟩ := flags_pos hf HPV.out; have HN := hide hf; have HD := hide (HD.out.call hb); clear c0 c1 c2 c3 c4 a0 a1 a2 a3; obtain ⟨c0, c1, c2, c3, c4⟩ := cell_of_five (HD.out.boxes _ (List.mem_cons_of_mem _ (List.mem_cons_self ..))).1; obtain ⟨a0, a1, a2, a3⟩ := cell_of_four4 (HD.out.boxes _ (List.mem_cons_self ..)).1; clear hf hb)
            | (at_builtin; refine wpList_append_flags rfl (.tmp 67) (.tmp 71) rfl _ _ _ _ _ _ (by simp [Act.eval]) (by simp [Act.eval]) HD.out.flags HN.out HA3.out HD.out.size HPV.out ?_; intro g3 cap3 ng3 w10 hf hg; have HD := hide (HD.out.grow hg hf); clear c0 c1 c2 c3 c4 a0 a1 a2 a3; obtain ⟨c0, c1, c2, c3, c4⟩ := cell_of_five (HD.out.boxes _ (List.mem_cons_of_mem _ (List.mem_cons_self ..))).1; obtain ⟨a0, a1, a2, a3⟩ := cell_of_four4 (HD.out.boxes _ (List.mem_cons_self ..)).1; clear hf hg))
        go_roundw
        case rel => exact ⟨k + 1, _, _, _, by omega, by go_num, rfl, by rw [HBITS.out]; exact HD.out.unbox⟩
        case measure => simp [intOf]; omega
    · go_wp2
      go_ret
      obtain rfl : k = n := by omega
      have h2 := HD.out
      rw [List.take_of_length_le (by rw [HNX.out]; exact Nat.le_refl _), HHDV.out] at h2
      exact ⟨_, rfl, h2.flags, h2.below⟩
end Go.Proofs.Ytiljekpfkkocnaa
