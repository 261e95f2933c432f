/- Contracts: Split and what it hands on: the program's calls. -/
import Derived.Test.YtpbloplbpkedcaaSp9
namespace Go.Proofs.Ytpbloplbpkedcaa
open Go Go.RowKit Go.Sort Go.Maps Go.WideMaps

theorem lawS9 : Keyed Try.prog 9 := string_keyed Try.underlying9
theorem zeroU9 (w : World) : (zeroValue 133).run Try.prog w = .ok (.agg #[]) w := by kernel_rfl
theorem hasPut9 {D : DataW Unit} (hD : IsMap D) {x : Nm} {S : List Nm} (h : ∀ y, Maps.has D (.string y) = decide (y ∈ S)) (y : Nm) : Maps.has (D.put (.string x) (.agg [])) (.string y) = decide (y ∈ S ++ [x]) := by
  by_cases e : y = x
  · subst e
    rw [Maps.has_put_same hD (by first | exact trivial | simp [WideAt.IsKeyLit])]
    simp
  · rw [Maps.has_put_other (by intro hh; exact e (by cases hh; rfl)), h y]
    simp [e]
/-- In w block q is a box of a set that holds the names l. -/
def SetAt (w : World) (q : Nat) (l : List Nm) : Prop :=
  ∃ (b n : Nat) (D : DataW Unit), w.heap[q]? = some (.cells #[.map (some b)] 132 (0, 0)) ∧ w.ownsMap Try.prog 9 (unitElem (H := Unit)) b n D ∧ ∀ x, Maps.has D (.string x) = decide (x ∈ l)
theorem SetAt.below {w w' : World} {q : Nat} {l : List Nm} (h : SetAt w q l) (hb : Below w.heap.size w w') : SetAt w' q l := by
  obtain ⟨b, n, D, h1, h2, h3⟩ := h
  obtain ⟨es, c, h4, h5⟩ := h2
  exact ⟨b, n, D, (hb.block q (lt_of_block h1)).trans h1, ⟨es, c, (hb.block b (lt_of_block h4)).trans h4, h5⟩, h3⟩
set_option maxRecDepth 100000 in
theorem pAmong1_any (x : ByteArray) (q : Nat) (l : List Nm) (w : World) (h : SetAt w q l) (hx : x.size ≤ maxLen) :
    Calls Try.prog 84 #[.string x, .pointer (some ⟨q, 0, none⟩)] w fun e w' => e = .returned (.bool (decide (nb x ∈ l))) ∧ Below w.heap.size w w' := by
  obtain ⟨b, n, D, h1, hown, h3⟩ := h
  have c0 := cell_of_one h1
  have hkey : keyOf Try.prog 9 (.string x) = some (.string (nb x)) := keyOf_string_mk Try.underlying9 hx
  have hh := h3 (nb x)
  clear h1 h3 hx
  go_enter Try.func84, Try.ntmps84
  go_wp2_with (first
    | (at_lookup; refine wpList_lookup_own_unit _ rfl _ _ 132 rfl 9 133 lawS9 Try.underlying132 (zeroU9 _) b n D rfl hown _ _ rfl hkey ?_; rw [hh]))
  go_ret
  exact ⟨rfl, by first | exact Below.refl _ _ | exact (Below.refl _ _).alloc (Nat.le_refl _) _⟩
set_option maxRecDepth 100000 in
set_option maxHeartbeats 2000000 in
theorem pAmong_any (ao : Option Addr) (cap : Nat) (l : List Nm) (w : World) (h : SsV w (fun b => b < w.heap.size) (.slice ao l.length cap) l) (hn : l.length ≤ 140737488355328) (hw : ∀ x ∈ l, x.length ≤ maxLen) :
    Calls Try.prog 49 #[.slice ao l.length cap] w fun e w' => ∃ q, e = .returned (.func (.func 84) #[] #[.pointer (some ⟨q, 0, none⟩)]) ∧ SetAt w' q l ∧ Below w.heap.size w w' := by
  obtain ⟨P, hP⟩ : ∃ P, P = w.heap.size := ⟨_, rfl⟩
  obtain ⟨W1, hW1⟩ : ∃ W1, W1 = w.alloc (.map #[] 0) := ⟨_, rfl⟩
  obtain ⟨W, hW⟩ : ∃ W, W = W1.alloc (.cells #[.map (some P)] 132) := ⟨_, rfl⟩
  have hz1 : W1.heap.size = P + 1 := by rw [hW1, hP]; simp
  have hq : W.heap[P + 1]? = some (.cells #[.map (some P)] 132 (0, 0)) := by rw [hW, ← hz1]; exact heap_alloc_new _ _
  have hz : W.heap.size = P + 2 := by rw [hW]; simp [hz1]
  have hb1 : Below P w W1 := by rw [hW1, hP]; exact (Below.refl _ _).alloc (Nat.le_refl _) _
  have hb : Below P w W := by rw [hW]; exact hb1.alloc (by omega) _
  have hown1 : W1.ownsMap Try.prog 9 (unitElem (H := Unit)) P 0 (.map []) := by rw [hW1, hP]; exact World.ownsMap_made w Try.prog 9 (unitElem (H := Unit))
  have hown : W.ownsMap Try.prog 9 (unitElem (H := Unit)) P 0 (.map []) := by
    obtain ⟨es, c, h4, h5⟩ := hown1
    exact ⟨es, c, by rw [hW, heap_alloc_old _ _ (by omega)]; exact h4, h5⟩
  have HS := Lib.hid (fun (u : World) (hu : Below P w u) => h.keep (fun b hbb => hu.block b (by omega)))
  have HL := Lib.hid hn; have HWD := Lib.hid hw
  have HW1 := Lib.hid hW1; have HW := Lib.hid hW; have HP := Lib.hid hP; have HQ := Lib.hid hq; have HB := Lib.hid hb; have HO := Lib.hid hown; have HPW := Lib.hid (Nat.le_of_eq hP)
  clear h hn hw hW1 hW hP hq hz hz1 hb hb1 hown hown1
  have hmm := @run_makeMap Try.prog
  go_enter Try.func49, Try.ntmps49
  go_wp2_with fail
  rw [← HP.out, ← HW1.out, ← HW.out]
  go_loopw [9] (fun iv wr => ∃ (k n : Nat) (D : DataW Unit), k ≤ l.length ∧ iv = .int .i64 k ∧ wr.ownsMap Try.prog 9 (unitElem (H := Unit)) P n D ∧ Hid (n = k) ∧ Hid (∀ x, Maps.has D (.string x) = decide (x ∈ l.take k)) ∧ Hid (wr.heap[P + 1]? = some (.cells #[.map (some P)] 132 (0, 0))) ∧ Hid (Below P w wr)) (fun iv _ => l.length - (intOf iv).toNat)
  case atStart => exact ⟨0, 0, _, Nat.zero_le _, rfl, HO.out, Lib.hid rfl, Lib.hid (fun x => by simp [Maps.has]), HQ, HB⟩
  case round =>
    obtain ⟨k, n, D, hk, rfl, hown, HNK, HD, HQr, HBr⟩ := hrel
    by_cases hlt : k < l.length
    · have hlti : (k : Int) < (l.length : Int) := by omega
      have hls := wr7 hlt (by have := HL.out; omega)
      obtain ⟨ao', cap', he, hh⟩ := HS.out _ HBr.out
      simp only [Value.slice.injEq, true_and] at he
      obtain ⟨rfl, rfl⟩ := he
      obtain ⟨b, o, rfl, _, hc⟩ := hh (fun h => by rw [h] at hlt; exact absurd hlt (Nat.not_lt_zero _))
      have d0 := hc k _ (List.getElem?_eq_getElem hlt)
      have hsz : (ba l[k]).size ≤ maxLen := by have := HWD.out _ (List.getElem_mem hlt); simpa [ba, ByteArray.size] using this
      have HTK := Lib.hid (List.take_succ_eq_append_getElem hlt)
      generalize l[k] = x at d0 hsz HTK
      have hkey : keyOf Try.prog 9 (.string (ba x)) = some (.string x) := by have := keyOf_string_mk (P := Try.prog) (k := 9) Try.underlying9 hsz; rw [show (ba x).data.toList = x from nb_ba x] at this; exact this
      have hnl : n < maxLen := by have := HNK.out; have := HL.out; unfold maxLen; omega
      have c0 := cell_of_one HQr.out
      have HLT := Lib.hid hlt
      have HIM := Lib.hid hown.isMap
      have hPl := hown.lt
      clear hh hc hsz hlt hk
      go_wp2_with (first
        | (at_mapUpdate; refine wpList_mapUpdate_own _ rfl _ _ _ 132 rfl 9 133 lawS9 Try.underlying132 (unitElem (H := Unit)) P n D rfl hown hnl _ _ _ rfl rfl hkey _ [] unitElem_mk ?_; intro w1 hown1 hgrow1)
        | go_in)
      have HN1 := Lib.hid hown1
      have HQ1 := Lib.hid ((hgrow1.block (P + 1) (lt_of_block HQr.out) (fun e => by simp at e)).trans HQr.out)
      have HB1 := Lib.hid (HBr.out.grown hgrow1 (by have := HBr.out.size; have := HPW.out; omega) (fun k hk => by cases hk; exact Nat.le_refl _))
      clear hown1 hgrow1
      go_roundw
      all_goals first
        | exact ⟨k + 1, n + 1, _, HLT.out, by go_num, HN1.out, Lib.hid (by rw [HNK.out]), Lib.hid (by rw [HTK.out]; exact hasPut9 HIM.out HD.out), HQ1, HB1⟩
        | exact meas7 HLT.out
        | (rw [hls]; exact meas7 HLT.out)
    · obtain rfl : k = l.length := by omega
      have hnl : ¬ ((l.length : Int) < (l.length : Int)) := by omega
      have hd := HD.out
      rw [List.take_length] at hd
      have HDD := Lib.hid hd; have HOO := Lib.hid hown
      clear hlt hk hd
      go_wp2
      go_ret
      exact ⟨_, rfl, ⟨P, n, D, HQr.out, HOO.out, HDD.out⟩, by rw [← HP.out]; exact HBr.out⟩
set_option maxRecDepth 100000 in
theorem pSplit1_any (c : Cnd) (ao : Option Addr) (cap : Nat) (l : List Nm) (q : Nat) (w : World) (h : SsV w (fun b => b < w.heap.size) (.slice ao l.length cap) l) (hn : l.length ≤ 9223372036854775807)
    (hq : w.heap[q]? = some (.cells #[.slice ao l.length cap] 49 (0, 0))) :
    Calls Try.prog 47 #[cdV c, .pointer (some ⟨q, 0, none⟩)] w fun e w' => e = .returned (.bool (readyB c l)) ∧ Below w.heap.size w w' := by
  obtain ⟨W, hW⟩ : ∃ W, W = w.alloc (.cells #[.string c.left.var, .string c.left.attr, .int .i64 c.left.vk, .int .i64 c.left.vn, .string c.left.vs, .int .i64 c.rel, .string c.right.var, .string c.right.attr, .int .i64 c.right.vk, .int .i64 c.right.vn, .string c.right.vs] 27) := ⟨_, rfl⟩
  have hb : Below w.heap.size w W := by rw [hW]; exact (Below.refl _ _).alloc (Nat.le_refl _) _
  have hql := lt_of_block hq
  have d0 := cell_of_one hq
  have hne : q ≠ w.heap.size := by omega
  have HC := Lib.hid (pReady_any c ao cap l W ((h.keep (fun b hbb => hb.block b hbb)).mono (fun b hbb => Nat.lt_of_lt_of_le hbb hb.size)) hn)
  have HB := Lib.hid hb
  rw [hW] at HC HB
  unfold cdV at HC ⊢
  clear h hb hW hq hn
  go_enter Try.func47, Try.ntmps47
  go_wp2_with (first | (go_at_call 48; (with_reducible refine HC.out.mono ?_); rintro e u2 ⟨rfl, hb2⟩))
  go_ret
  exact ⟨rfl, HB.out.trans (hb2.mono HB.out.size)⟩
set_option maxRecDepth 100000 in
theorem pSplit2_any (c : Cnd) (l : List Nm) (s q : Nat) (w : World) (h : SetAt w s l) (hwd : wdC c)
    (hq : w.heap[q]? = some (.cells #[.func (.func 84) #[] #[.pointer (some ⟨s, 0, none⟩)]] 95 (0, 0))) :
    Calls Try.prog 50 #[cdV c, .pointer (some ⟨q, 0, none⟩)] w fun e w' => e = .returned (.bool (readyB c l)) ∧ Below w.heap.size w w' := by
  obtain ⟨W, hW⟩ : ∃ W, W = w.alloc (.cells #[.string c.left.var, .string c.left.attr, .int .i64 c.left.vk, .int .i64 c.left.vn, .string c.left.vs, .int .i64 c.rel, .string c.right.var, .string c.right.attr, .int .i64 c.right.vk, .int .i64 c.right.vn, .string c.right.vs] 27) := ⟨_, rfl⟩
  have hb : Below w.heap.size w W := by rw [hW]; exact (Below.refl _ _).alloc (Nat.le_refl _) _
  have hql := lt_of_block hq
  have d0 := cell_of_one hq
  have hne : q ≠ w.heap.size := by omega
  have eg := enters_of Try.func84 (by kernel_rfl) rfl
  have hK : ∀ u, Below W.heap.size W u → SetAt u s l := fun u hu => (h.below hb).below hu
  have HC := Lib.hid (pKnown_any 84 (.pointer (some ⟨s, 0, none⟩)) (fun x => decide (nb x ∈ l)) c W eg (fun u hu => pAmong1_any _ s l u (hK u hu) hwd.1.1) (fun u hu => pAmong1_any _ s l u (hK u hu) hwd.2.1))
  have HB := Lib.hid hb
  rw [hW] at HC HB
  rw [← rdy_in]
  unfold cdV at HC ⊢
  clear h hb hW hq hwd hK eg
  go_enter Try.func50, Try.ntmps50
  go_wp2_with (first | (go_at_call 51; (with_reducible refine HC.out.mono ?_); rintro e u2 ⟨rfl, hb2⟩))
  go_ret
  exact ⟨rfl, HB.out.trans (hb2.mono HB.out.size)⟩
set_option maxRecDepth 100000 in
set_option maxHeartbeats 2000000 in
theorem pSplit_any (cl : List Cnd) (ta : Option Addr) (tc : Nat) (ao : Option Addr) (cap : Nat) (l : List Nm) (w : World) (hs : SsV w (fun b => b < w.heap.size) (.slice ao l.length cap) l) (hn : l.length ≤ 140737488355328) (hwl : ∀ x ∈ l, x.length ≤ maxLen)
    (hc : CdV w (fun x => x < w.heap.size) (.slice ta cl.length tc) cl) (hcl : cl.length * 136 ≤ 140737488355328) (hwc : ∀ c ∈ cl, wdC c) :
    Calls Try.prog 19 #[.slice ta cl.length tc, .slice ao l.length cap] w fun e w' => ∃ va vb, e = .returned (.tuple #[va, vb]) ∧ Two9 w' w.heap.size va vb (cl.filter fun c => readyB c l) (cl.filter fun c => !readyB c l) ∧ Below w.heap.size w w' := by
  obtain ⟨P, hP⟩ : ∃ P, P = w.heap.size := ⟨_, rfl⟩
  obtain ⟨W, hW⟩ : ∃ W, W = w.alloc (.cells #[.slice ao l.length cap] 49) := ⟨_, rfl⟩
  have hq : W.heap[P]? = some (.cells #[.slice ao l.length cap] 49 (0, 0)) := by rw [hW, hP]; exact heap_alloc_new _ _
  have hb : Below P w W := by rw [hW, hP]; exact (Below.refl _ _).alloc (Nat.le_refl _) _
  have hsz : P + 1 ≤ W.heap.size := lt_of_block hq
  have hsW : ∀ u, Below W.heap.size W u → SsV u (fun b => b < u.heap.size) (.slice ao l.length cap) l := fun u hu => (hs.keep (fun b hbb => (hu.block b (by omega)).trans (hb.block b (by omega)))).mono (fun b hbb => by have := hu.size; omega)
  have hcW : ∀ u, Below W.heap.size W u → CdV u (fun b => b < u.heap.size) (.slice ta cl.length tc) cl := fun u hu => (hc.keep (fun b hbb => (hu.block b (by omega)).trans (hb.block b (by omega)))).mono (fun b hbb => by have := hu.size; omega)
  have two_mono : ∀ (u : World) (base : Nat) (va vb : Value) (la lb : List Cnd), P ≤ base → Two9 u base va vb la lb → Two9 u P va vb la lb := fun u base va vb la lb hp h => ⟨own7_mono h.a hp, own7_mono h.b hp, h.ne⟩
  have HTM := Lib.hid two_mono
  have c0 := cell_of_one hq
  rw [← hP]
  by_cases h16 : cl.length ≤ 16
  · have f1 : ((cl.length : Nat) : Int) ≤ 16 := by omega
    have f2 : decide (((cl.length : Nat) : Int) ≤ 16) = true := decide_eq_true f1
    have eg := enters_of Try.func47 (by kernel_rfl) rfl
    have HE := Lib.hid (pPart_cap 47 (.pointer (some ⟨P, 0, none⟩)) (fun c => readyB c l) cl ta tc W eg hcl (hcW W (Below.refl _ _)) (fun c _ u hu => pSplit1_any c ao cap l P u (hsW u hu) (by omega) ((hu.block P (by omega)).trans hq)))
    have HP := Lib.hid hP; have HW := Lib.hid hW; have HB := Lib.hid hb; have HS := Lib.hid hsz
    clear hs hn hwl hc hcl hwc hP hW hq hb hsz hsW hcW two_mono h16
    go_enter Try.func19, Try.ntmps19
    go_wp2_with fail
    rw [← HW.out, ← HP.out]
    go_wp2_with (first | (go_at_call 46; (with_reducible refine HE.out.mono ?_); rintro e u2 ⟨va, vb, rfl, ht, hb2⟩; have HT := Lib.hid ht; clear ht))
    go_ret2
    exact ⟨_, _, rfl, HTM.out _ _ _ _ _ _ (by have := HS.out; omega) HT.out, HB.out.trans (hb2.mono (by have := HS.out; omega))⟩
  · have f1 : ¬ ((cl.length : Nat) : Int) ≤ 16 := by omega
    have f2 : decide (((cl.length : Nat) : Int) ≤ 16) = false := decide_eq_false f1
    have eg := enters_of Try.func50 (by kernel_rfl) rfl
    have HA := Lib.hid (pAmong_any ao cap l W (hsW W (Below.refl _ _)) hn hwl)
    have HE := Lib.hid (fun (u : World) (q s : Nat) (hu : Below W.heap.size W u) (hset : SetAt u s l) (hqq : u.heap[q]? = some (.cells #[.func (.func 84) #[] #[.pointer (some ⟨s, 0, none⟩)]] 95 (0, 0))) =>
      pPart_cap 50 (.pointer (some ⟨q, 0, none⟩)) (fun c => readyB c l) cl ta tc u eg hcl (hcW u hu) (fun c hm u' hu' => pSplit2_any c l s q u' (hset.below hu') (hwc c hm) ((hu'.block q (lt_of_block hqq)).trans hqq)))
    have HP := Lib.hid hP; have HW := Lib.hid hW; have HB := Lib.hid hb; have HS := Lib.hid hsz
    clear hs hn hwl hc hcl hwc hP hW hq hb hsz hsW hcW two_mono h16
    go_enter Try.func19, Try.ntmps19
    go_wp2_with fail
    rw [← HW.out, ← HP.out]
    go_wp2_with (first
      | (go_at_call 49; (with_reducible refine HA.out.mono ?_); rintro e u1 ⟨s, rfl, hset, hb1⟩; have HBU := Lib.hid (hb1.alloc hb1.size (.cells #[.func (.func 84) #[] #[.pointer (some ⟨s, 0, none⟩)]] 95)); have HST := Lib.hid (hset.below ((Below.refl u1.heap.size u1).alloc (Nat.le_refl _) (.cells #[.func (.func 84) #[] #[.pointer (some ⟨s, 0, none⟩)]] 95))); have HQQ := Lib.hid (heap_alloc_new u1 (.cells #[.func (.func 84) #[] #[.pointer (some ⟨s, 0, none⟩)]] 95)); clear hset hb1 c0)
      | (go_at_call 46; (with_reducible refine (HE.out _ u1.heap.size s HBU.out HST.out HQQ.out).mono ?_); rintro e u2 ⟨va, vb, rfl, ht, hb2⟩; have HT := Lib.hid ht; clear ht))
    go_ret2
    exact ⟨_, _, rfl, HTM.out _ _ _ _ _ _ (by have := HS.out; have := HBU.out.size; omega) HT.out, HB.out.trans ((HBU.out.trans (hb2.mono HBU.out.size)).mono (by have := HS.out; omega))⟩
end Go.Proofs.Ytpbloplbpkedcaa
