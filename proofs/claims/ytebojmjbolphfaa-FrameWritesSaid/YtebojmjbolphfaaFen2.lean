/- Contract: Encode of the program. -/
import Derived.Test.YtebojmjbolphfaaFenc
import Derived.Test.YtebojmjbolphfaaSums
namespace Go.Proofs.Ytebojmjbolphfaa
open Go Go.RowKit Crc

/-- What Encode gives: the form, or nothing. -/
def encN (f t k s a : Int) (x : List Nat) : List Nat := if ckB f t k s a x.length then formN f.toNat t.toNat k.toNat s.toNat a.toNat x else []
theorem encN_no {f t k s a : Int} {x : List Nat} (h : ckB f t k s a x.length = false) : encN f t k s a x = [] := by unfold encN; rw [h]; rfl
theorem encN_ok {F T K S A : Nat} {x : List Nat} (h : ckB F T K S A x.length = true) : encN F T K S A x = formN F T K S A x := by unfold encN; rw [h]; rfl

theorem be32_vs (sm : Nat) : byteVs (be32 sm) = [.int .u8 ((sm : Int) / 16777216), .int .u8 ((sm : Int) / 65536 % 256), .int .u8 ((sm : Int) / 256 % 256), .int .u8 ((sm : Int) % 256)] := by simp [byteVs, be32]
theorem four_news {w : World} {g t : Nat} {a b c d : Value} (h : w.heap[g]? = some (.cells #[a, b, c, d] t (0, 0))) : ∀ j u, [a, b, c, d][j]? = some u → w.cell? ((⟨g, 0, none⟩ : Addr).add j) = some u := by
  obtain ⟨h0, h1, h2, h3⟩ := cell_of_four h
  intro j u hj
  rw [add_off]
  match j, hj with
  | 0, hj => simp at hj; rw [h0, hj]
  | 1, hj => simp at hj; rw [h1, hj]
  | 2, hj => simp at hj; rw [h2, hj]
  | 3, hj => simp at hj; rw [h3, hj]
  | k + 4, hj => simp at hj

theorem fPut_any (B q F T K S A : Nat) (ao : Option Addr) (n cap : Nat) (x : List Nat) (w : World) (hs : SinkIs w B q []) (hx : Bv w B (.slice ao n cap) x) (hB : B ≤ w.heap.size)
    (hF : F < 16) (hT : T < 16) (hK : K = 1 ∨ K = 2) (hS : S ≤ 1099511627776) (hA : A ≤ 1099511627776) (hn : n ≤ 16384) :
    Calls Try.prog 32 #[.pointer (some ⟨q, 0, none⟩), .agg #[.int .i64 (F : Int), .int .i64 (T : Int), .int .i64 (K : Int), .int .i64 (S : Int), .int .i64 (A : Int), .slice ao n cap]] w
      fun e w' => e = .returned (.tuple #[]) ∧ SinkIs w' B q (formBits F T K S A x) ∧ Below B w w' := by
  rcases hK with rfl | rfl
  · exact fPut_data B q F T S A ao n cap x w hs hx hB hF hT hS hA hn
  · exact fPut_ack B q F T S A ao n cap w hs hB hF hT hA

set_option maxRecDepth 100000 in
set_option maxHeartbeats 1600000 in
theorem fEncode_no (f t k s a : Int) (ao : Option Addr) (n cap : Nat) (w : World) (hn : n ≤ 140737488355328) (hc : ckB f t k s a n = false) :
    Calls Try.prog 16 #[.agg #[.int .i64 f, .int .i64 t, .int .i64 k, .int .i64 s, .int .i64 a, .slice ao n cap]] w
      fun e w' => e = .returned (.tuple #[.slice none 0 0, .int .i64 21]) ∧ Below w.heap.size w w' := by
  have C := fCheck_any f t k s a ao n cap (w.alloc (.cells #[.int .i64 f, .int .i64 t, .int .i64 k, .int .i64 s, .int .i64 a, .slice ao n cap] 24)) hn
  rw [ckErr_no hc] at C
  have HB := hide ((Below.refl w.heap.size w).alloc (Nat.le_refl _) (.cells #[.int .i64 f, .int .i64 t, .int .i64 k, .int .i64 s, .int .i64 a, .slice ao n cap] 24))
  clear hc hn
  go_enter Try.func16, Try.ntmps16
  go_wp2_with fail
  refine C.mono ?_
  clear C
  rintro e w1 ⟨rfl, hb⟩
  have HB1 := hide (HB.out.trans (hb.mono (by simp))); clear hb
  go_wp2
  go_ret2
  exact ⟨rfl, HB1.out⟩

set_option maxRecDepth 100000 in
set_option maxHeartbeats 3200000 in
theorem fEncode_ok (F T K S A : Nat) (ao : Option Addr) (n cap B : Nat) (x : List Nat) (w : World) (hx : Bv w B (.slice ao n cap) x) (hB : B ≤ w.heap.size) (hc : ckB F T K S A n = true)
    (hF : F < 16) (hT : T < 16) (hK : K = 1 ∨ K = 2) (hS : S ≤ 1099511627776) (hA : A ≤ 1099511627776) (hn : n ≤ 16384) :
    Calls Try.prog 16 #[.agg #[.int .i64 (F : Int), .int .i64 (T : Int), .int .i64 (K : Int), .int .i64 (S : Int), .int .i64 (A : Int), .slice ao n cap]] w
      fun e w' => ∃ v, e = .returned (.tuple #[v, .int .i64 0]) ∧ w'.ownsRow w.heap.size 5 1 v (formN F T K S A x).length (byteVs (formN F T K S A x)) ∧ Below w.heap.size w w' := by
  obtain ⟨i0, hi, hz0, hz1, hz2⟩ := info_parts Try.info5
  obtain ⟨H0, hH0⟩ : ∃ H0, H0 = w.heap.size := ⟨_, rfl⟩
  have HH := hide hH0
  obtain ⟨W, hW⟩ : ∃ W, W = w.alloc (.cells #[.int .i64 (F : Int), .int .i64 (T : Int), .int .i64 (K : Int), .int .i64 (S : Int), .int .i64 (A : Int), .slice ao n cap] 24) := ⟨_, rfl⟩
  have C := fCheck_any F T K S A ao n cap W (by omega)
  rw [ckErr_ok hc] at C
  have HB0 := hide (by rw [hW, hH0]; exact (Below.refl _ w).alloc (Nat.le_refl _) _ : Below H0 w W)
  have HX0 := hide (hx.below HB0.out (by rw [hH0]; exact hB))
  have HP0 := hide (by rw [hW, hH0]; exact heap_alloc_new w _ : W.heap[H0]? = some (.cells #[.int .i64 (F : Int), .int .i64 (T : Int), .int .i64 (K : Int), .int .i64 (S : Int), .int .i64 (A : Int), .slice ao n cap] 24 (0, 0)))
  have hszW : H0 < W.heap.size := by rw [hW, hH0]; simp
  have HszW := hide hszW
  have HW := hide hW
  have hBH : B ≤ H0 := by rw [hH0]; exact hB
  have hle : (formBits F T K S A x).length ≤ 131275 := formBits_le F T K S A x hS hA (by rw [← hx.bytesIn.1]; exact hn)
  have HLE := hide hle
  have HPUT := hide (fun (B' q : Nat) (w' : World) (h1 : SinkIs w' B' q []) (h2 : Bv w' B' (.slice ao n cap) x) (h3 : B' ≤ w'.heap.size) => fPut_any B' q F T K S A ao n cap x w' h1 h2 h3 hF hT hK hS hA hn)
  rw [← hH0]
  obtain ⟨bs, hbs⟩ : ∃ bs, bs = formBits F T K S A x := ⟨_, rfl⟩
  rw [← hbs] at HLE HPUT
  have HBS := hide hbs
  clear hx hB hc hF hT hK hS hA hn hW hszW hH0 hle hbs
  go_enter Try.func16, Try.ntmps16
  go_wp2_with fail
  rw [← HW.out, ← HH.out]
  refine C.mono ?_
  clear C
  rintro e w1 ⟨rfl, b1⟩
  have hp1 := (b1.block H0 HszW.out).trans HP0.out
  have HB1 := hide (HB0.out.trans (b1.mono (Nat.le_of_lt HszW.out)))
  have HX1 := hide (HX0.out.below b1 (by have := HszW.out; omega))
  have hsz1 : W.heap.size ≤ w1.heap.size := b1.size
  have Hsz1 := hide hsz1
  have HP1 := hide hp1
  clear b1 hp1 hsz1
  go_wp2_with fail
  refine (newSink_any w1).mono ?_
  obtain ⟨H1, hH1⟩ : ∃ H1, H1 = w1.heap.size := ⟨_, rfl⟩
  rw [← hH1]
  have HH1 := hide hH1
  rintro e w2 ⟨rfl, hs2, k2⟩
  have h01 : H0 < H1 := by rw [hH1]; have := Hsz1.out; have := HszW.out; omega
  have hp2 := (k2.below.block H0 h01).trans HP1.out
  obtain ⟨c0, c1, c2, c3, c4, c5⟩ := cell_of_six hp2
  have HX2 := hide ((HX1.out.below k2.below (by omega)).mono (Nat.le_trans hBH (Nat.le_of_lt h01)))
  have HB2 := hide (HB1.out.trans (k2.below.mono (Nat.le_of_lt h01)))
  have HS2 := hide hs2
  have h2sz : H1 ≤ w2.heap.size := Nat.le_of_lt hs2.lt
  have H2sz := hide h2sz
  have H01 := hide h01
  clear hs2 k2 hp2 h2sz hH1 h01
  go_wp2_with fail
  refine (HPUT.out H1 H1 w2 HS2.out HX2.out H2sz.out).mono ?_
  rintro e w3 ⟨rfl, hs3, b3⟩
  have HS3 := hide hs3
  have HB3 := hide (HB2.out.trans (b3.mono (Nat.le_of_lt H01.out)))
  clear hs3 b3 c0 c1 c2 c3 c4 c5
  go_wp2_with fail
  refine (kOut_any H1 H1 bs w3 HS3.out).mono ?_
  obtain ⟨pb, hpb⟩ : ∃ pb, pb = packed bs := ⟨_, rfl⟩
  rw [← hpb]
  have hpl : pb.length ≤ 131072 := by rw [hpb, packed_length]; have := HLE.out; omega
  have hps : ∀ c ∈ pb, c < 256 := by rw [hpb]; exact packed_small bs
  have HPL := hide hpl; have HPS := hide hps; have HPB := hide hpb
  clear hpl hps hpb
  rintro e w4 ⟨v4, rfl, ho4, b4⟩
  obtain ⟨ao4, cap4, rfl⟩ := own_slice ho4
  have h03 : H0 ≤ w3.heap.size := HB3.out.size |> fun h => by rw [HH.out]; exact h
  have HB4 := hide (HB3.out.trans (b4.mono h03))
  have HO4 := hide (ownsRow_lower ho4 h03)
  have HV4 := hide (Bv.of_own ho4 HPS.out (by have := HPL.out; omega))
  have h04 : H0 ≤ w4.heap.size := Nat.le_trans h03 b4.size
  have H04 := hide h04
  clear ho4 b4 h03 h04
  obtain ⟨pn, hpn⟩ : ∃ pn, pn = pb.length := ⟨_, rfl⟩
  have HPN := hide hpn
  rw [← hpn] at HO4 HV4 HPL ⊢
  clear hpn
  have CS := sum_any w4.heap.size 1 [(.slice ao4 pn cap4, pb)] (w4.alloc (.cells #[.slice ao4 pn cap4] 22)) (fun j hj => by
    simp at hj; subst hj
    exact ⟨cell_alloc_one _ _ rfl _ _, _, HV4.out.below ((Below.refl _ _).alloc (Nat.le_refl _) _) (Nat.le_refl _)⟩) (by simp)
  rw [show [(Value.slice ao4 pn cap4, pb)].flatMap (·.2) = pb by simp] at CS
  have hsl := sumN_lt pb
  obtain ⟨sm, hsm⟩ : ∃ sm, sm = sumN pb := ⟨_, rfl⟩
  rw [← hsm] at CS hsl
  have HSM := hide hsm
  clear hsm
  go_wp2_with fail
  refine CS.mono ?_
  clear CS
  rintro e w' ⟨rfl, rfl⟩
  have HOW := hide (HO4.out.alloc (.cells #[.slice ao4 pn cap4] 22))
  have HBW := hide (HB4.out.alloc H04.out (.cells #[.slice ao4 pn cap4] 22))
  go_wp2_with (at_builtin; refine wpList_append_own _ rfl (.tmp 22) (.tmp 34) 22 rfl H0 5 i0 (.int .u8 0) 1 1 Try.underlying22 hi hz0 hz1 hz2 rfl (by decide) (.slice ao4 pn cap4) pn (byteVs pb) rfl (HOW.out.alloc _) ⟨w4.heap.size + 1, 0, none⟩ 4 4 (byteVs (be32 sm)) rfl rfl (by rw [be32_vs]; exact four_news (heap_alloc_at (by simp) rfl)) (byteVs_one _) (by have := HPL.out; unfold maxLen; omega) (by have := HPL.out; omega) (by have := H04.out; simp <;> omega) ?_; intro v5 w5 hown5 hgrow5 hnil5; clear hnil5; have HO5 := hide hown5; have HB5 := hide ((HBW.out.alloc (by have := H04.out; simp <;> omega) _).grown hgrow5 (by have := H04.out; simp <;> omega) (fun k h => (HOW.out.lt k h).1)); clear hown5 hgrow5)
  go_ret2
  refine ⟨_, rfl, ?_, HB5.out⟩
  have hf : formN F T K S A x = pb ++ be32 sm := by unfold formN sealed headN; rw [← HBS.out, ← HPB.out, ← HSM.out]
  have h5 := HO5.out
  rw [hf, byteVs_append, List.length_append, show (be32 sm).length = 4 from rfl, ← HPN.out]
  exact h5

theorem fEncode_any (f t k s a : Int) (ao : Option Addr) (n cap B : Nat) (x : List Nat) (w : World) (hx : Bv w B (.slice ao n cap) x) (hB : B ≤ w.heap.size) :
    Calls Try.prog 16 #[.agg #[.int .i64 f, .int .i64 t, .int .i64 k, .int .i64 s, .int .i64 a, .slice ao n cap]] w
      fun e w' => ∃ v, e = .returned (.tuple #[v, .int .i64 (ckErr f t k s a n)]) ∧ w'.ownsRow w.heap.size 5 1 v (encN f t k s a x).length (byteVs (encN f t k s a x)) ∧ Below w.heap.size w w' := by
  have hn := hx.bytesIn.1
  cases hc : ckB f t k s a n with
  | false =>
    rw [ckErr_no hc, encN_no (by rw [← hn]; exact hc)]
    exact (fEncode_no f t k s a ao n cap w (by have := hx.len; omega) hc).mono fun e w' ⟨h1, h2⟩ => ⟨_, h1, World.ownsRow_nil _ _ _ _, h2⟩
  | true =>
    obtain ⟨F, T, K, S, A, rfl, rfl, rfl, rfl, rfl, hF, hT, _, hK, hS, hA, hn2, _⟩ := ck_nat hc
    rw [ckErr_ok hc, encN_ok (by rw [← hn]; exact hc)]
    exact fEncode_ok F T K S A ao n cap B x w hx hB hc hF hT hK hS hA hn2
end Go.Proofs.Ytebojmjbolphfaa
