/- Contract: Decode of the program. -/
import Derived.Test.YtebojmjbolphfaaDec
namespace Go.Proofs.Ytebojmjbolphfaa
open Go Go.RowKit Crc

/-- What Decode tells of bytes: the fields, all 0 beside an error. -/
def decF (b : List Nat) : Int := if decErr b = 0 then (((r3 (bitsAll (told b))).1 : Nat) : Int) else 0
def decT (b : List Nat) : Int := if decErr b = 0 then (((r4 (bitsAll (told b))).1 : Nat) : Int) else 0
def decK (b : List Nat) : Int := if decErr b = 0 then (((r1 (bitsAll (told b))).1 : Nat) : Int) else 0
def decS (b : List Nat) : Int := if decErr b = 0 then dS (bitsAll (told b)) else 0
def decA (b : List Nat) : Int := if decErr b = 0 then wrap64 (((r5 (bitsAll (told b))).1 : Nat) : Int) else 0
def decX (b : List Nat) : List Nat := if decErr b = 0 then dX (bitsAll (told b)) else []
def DecPost (b : List Nat) (w : World) (e : Ending) (w' : World) : Prop :=
  ∃ v : Value, e = .returned (.tuple #[.agg #[.int .i64 (decF b), .int .i64 (decT b), .int .i64 (decK b), .int .i64 (decS b), .int .i64 (decA b), v], .int .i64 ((decErr b : Nat) : Int)]) ∧ w'.ownsRow w.heap.size 5 1 v (decX b).length (byteVs (decX b)) ∧ Below w.heap.size w w'
theorem DecPost.bad {b : List Nat} {w w' : World} {n : Nat} (h : decErr b = n) (hn : n ≠ 0) (hb : Below w.heap.size w w') : DecPost b w (.returned (.tuple #[.agg #[.int .i64 0, .int .i64 0, .int .i64 0, .int .i64 0, .int .i64 0, .slice none 0 0], .int .i64 (n : Int)])) w' := by
  have h0 : ¬ decErr b = 0 := by omega
  unfold DecPost decF decT decK decS decA decX
  simp only [if_neg h0]
  rw [h]
  exact ⟨_, rfl, World.ownsRow_nil _ _ _ _, hb⟩

set_option maxRecDepth 100000 in
set_option maxHeartbeats 3200000 in
theorem fDecode_any (B : Nat) (v : Value) (b : List Nat) (w : World) (hb : Bv w B v b) (hB : B ≤ w.heap.size) :
    Calls Try.prog 22 #[v] w (DecPost b w) := by
  obtain ⟨P, hP⟩ : ∃ P, P = w.heap.size := ⟨_, rfl⟩
  obtain ⟨W, hW⟩ : ∃ W, W = w.alloc (.cells #[.int .i64 0, .int .i64 0, .int .i64 0, .int .i64 0, .int .i64 0, .slice none 0 0] 24) := ⟨_, rfl⟩
  have hbW : Below P w W := by rw [hW, hP]; exact (Below.refl _ _).alloc (Nat.le_refl _) _
  have hqW : W.heap[P]? = some (.cells #[.int .i64 0, .int .i64 0, .int .i64 0, .int .i64 0, .int .i64 0, .slice none 0 0] 24 (0, 0)) := by rw [hW, hP]; exact heap_alloc_new w _
  have hPW : P < W.heap.size := lt_of_block hqW
  have C : Calls Try.prog 37 #[v] W (OpenPost b W) := by
    have hbv := (hb.below hbW (by rw [hP]; exact hB))
    have hBW : B ≤ W.heap.size := by omega
    by_cases h6 : b.length < 6
    · exact fOpen_short B v b W hbv h6
    · exact fOpen_long B v b W hbv hBW (by omega)
  obtain ⟨ao0, c0, rfl⟩ := hb.shape
  have HW := hide hW; have HP := hide hP; have HBW := hide hbW; have HQW := hide hqW; have HPW := hide hPW
  obtain ⟨nb, hnb⟩ : ∃ nb, nb = b.length := ⟨_, rfl⟩
  rw [← hnb] at C ⊢
  clear hb hB hW hP hbW hqW hPW hnb
  go_enter Try.func22, Try.ntmps22
  go_wp2_with fail
  rw [← HW.out, ← HP.out]
  refine C.mono ?_
  clear C
  rintro e w1 ⟨f, t, k, s, a, v1, x, rfl, ho1, b1, hxl, hval⟩
  obtain ⟨ao, c, rfl⟩ := own_slice ho1
  have hq1 := (b1.block P HPW.out).trans HQW.out
  have HVal := hide hval; have HO1 := hide ho1; have HB1 := hide b1; have HQ1 := hide hq1
  have HQ2 := hide (heap_alloc_keeps hq1 (.cells #[.int .i64 f, .int .i64 t, .int .i64 k, .int .i64 s, .int .i64 a, .slice ao x.length c] 24))
  have HB2 := hide (HBW.out.trans ((b1.alloc b1.size (.cells #[.int .i64 f, .int .i64 t, .int .i64 k, .int .i64 s, .int .i64 a, .slice ao x.length c] 24)).mono (Nat.le_of_lt HPW.out)))
  have HO2 := hide (ho1.alloc (.cells #[.int .i64 f, .int .i64 t, .int .i64 k, .int .i64 s, .int .i64 a, .slice ao x.length c] 24))
  have HN2 := hide (heap_alloc_new w1 (.cells #[.int .i64 f, .int .i64 t, .int .i64 k, .int .i64 s, .int .i64 a, .slice ao x.length c] 24))
  have Hne := hide (show ¬ P = w1.heap.size by have := b1.size; have := HPW.out; omega)
  obtain ⟨er, her⟩ : ∃ er, er = openErr b := ⟨_, rfl⟩
  have HEr := hide her
  rw [← her]
  clear hval ho1 b1 hq1 her
  by_cases h0 : er = 0
  · subst h0
    have C := fCheck_any f t k s a ao x.length c (w1.alloc (.cells #[.int .i64 f, .int .i64 t, .int .i64 k, .int .i64 s, .int .i64 a, .slice ao x.length c] 24)) (by omega)
    obtain ⟨ck, hck⟩ : ∃ ck, ck = ckB f t k s a x.length := ⟨_, rfl⟩
    have hdec : decErr b = if ck then 0 else 21 := by
      obtain ⟨e1, e2, e3, e4, e5, e6⟩ := HVal.out HEr.out.symm
      unfold decErr
      rw [if_neg (by have := HEr.out; omega), hck, e1, e2, e3, e4, e5, e6]; rfl
    have hce : ckErr f t k s a x.length = if ck then 0 else 21 := by unfold ckErr; rw [← hck]
    rw [hce] at C
    have HDec := hide hdec
    clear hck hce hdec
    have hn2 := HN2.out
    go_wp2_with fail
    refine C.mono ?_
    clear C
    rintro e w3 ⟨rfl, b3⟩
    obtain ⟨d0, d1, d2, d3, d4, d5⟩ := cell_of_six ((b3.block w1.heap.size (lt_of_block HN2.out)).trans HN2.out)
    have hq3 := (b3.block P (lt_of_block HQ2.out)).trans HQ2.out
    obtain ⟨x0, x1, x2, x3, x4, x5⟩ := cell_of_six hq3
    obtain ⟨y0, y1, y2, y3, y4, y5⟩ := free_of_six hq3
    have HQ3 := hide hq3
    have HB3 := hide (HB2.out.trans (b3.mono (Nat.le_of_lt (lt_of_block HQ2.out))))
    have HO3 := hide (ownsRow_below HO2.out b3 (Nat.le_refl _))
    clear b3 hq3 hn2
    cases ck with
    | true =>
      have HD := hide (show decErr b = 0 from HDec.out)
      go_wp2
      have hz := cell_of_six (six_set HQ3.out (.int .i64 f) (.int .i64 t) (.int .i64 k) (.int .i64 s) (.int .i64 a) (.slice ao x.length c))
      refine bodyPost_ret (v := .tuple #[.agg #[.int .i64 f, .int .i64 t, .int .i64 k, .int .i64 s, .int .i64 a, .slice ao x.length c], .int .i64 0]) (by simp [results, Try.results22, go_sem, hz]) rfl ?_
      have hown := own_six (ownsRow_lower HO3.out (Nat.le_of_lt HPW.out)) HQ3.out (by decide) (.int .i64 f) (.int .i64 t) (.int .i64 k) (.int .i64 s) (.int .i64 a) (.slice ao x.length c)
      have hbel := below_six HB3.out (Nat.le_refl _) (.int .i64 f) (.int .i64 t) (.int .i64 k) (.int .i64 s) (.int .i64 a) (.slice ao x.length c)
      obtain ⟨e1, e2, e3, e4, e5, e6⟩ := HVal.out HEr.out.symm
      unfold DecPost decF decT decK decS decA decX
      simp only [HD.out]
      rw [← e1, ← e2, ← e3, ← e4, ← e5, ← e6, ← HP.out]
      exact ⟨_, rfl, hown, hbel⟩
    | false =>
      have HD := hide (show decErr b = 21 from HDec.out)
      go_wp2
      have hz := cell_of_six (six_set HQ3.out (.int .i64 0) (.int .i64 0) (.int .i64 0) (.int .i64 0) (.int .i64 0) (.slice none 0 0))
      refine bodyPost_ret (v := .tuple #[.agg #[.int .i64 0, .int .i64 0, .int .i64 0, .int .i64 0, .int .i64 0, .slice none 0 0], .int .i64 21]) (by simp [results, Try.results22, go_sem, hz]) rfl ?_
      exact DecPost.bad HD.out (by decide) (by rw [← HP.out]; exact below_six HB3.out (Nat.le_refl _) (.int .i64 0) (.int .i64 0) (.int .i64 0) (.int .i64 0) (.int .i64 0) (.slice none 0 0))
  · have hne : ((er : Int) != 0) = true := by simp; omega
    have HD := hide (show decErr b = er by rw [decErr_open (by rw [← HEr.out]; exact h0), HEr.out])
    have H0 := hide h0
    have hq2 := HQ2.out
    obtain ⟨x0, x1, x2, x3, x4, x5⟩ := cell_of_six hq2
    obtain ⟨y0, y1, y2, y3, y4, y5⟩ := free_of_six hq2
    clear h0 hq2
    go_wp2
    have hz := cell_of_six (six_set HQ2.out (.int .i64 0) (.int .i64 0) (.int .i64 0) (.int .i64 0) (.int .i64 0) (.slice none 0 0))
    refine bodyPost_ret (v := .tuple #[.agg #[.int .i64 0, .int .i64 0, .int .i64 0, .int .i64 0, .int .i64 0, .slice none 0 0], .int .i64 (er : Int)]) (by simp [results, Try.results22, go_sem, hz]) rfl ?_
    exact DecPost.bad HD.out H0.out (by rw [← HP.out]; exact below_six HB2.out (Nat.le_refl _) (.int .i64 0) (.int .i64 0) (.int .i64 0) (.int .i64 0) (.int .i64 0) (.slice none 0 0))
end Go.Proofs.Ytebojmjbolphfaa
