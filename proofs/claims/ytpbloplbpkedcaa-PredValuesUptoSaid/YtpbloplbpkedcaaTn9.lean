/- Contracts: conditions through the index: a term of many tests, many conditions of bound events. -/
import Derived.Test.YtpbloplbpkedcaaIy9
import Derived.Test.YtpbloplbpkedcaaTm9
import Derived.Test.YtpbloplbpkedcaaCo9
namespace Go.Proofs.Ytpbloplbpkedcaa
open Go Go.RowKit Go.Sort Go.Maps Go.WideMaps

/-- A condition without its variables. -/
def cE (c : Cnd) : Cnd := { c with left := { c.left with var := em }, right := { c.right with var := em } }
theorem val_one {o : Opd} {b : Bd} (hv : o.var = em) (hb : b.var = em) : valL o [b] = some (ownL o b.ats) := by
  unfold valL ownL
  by_cases h : o.attr = em
  · rw [if_pos h, if_pos h]
  · rw [if_neg h, if_neg h]
    have hi : isVar o.var b = true := by unfold isVar; rw [hv, hb]; simp
    rw [List.find?_cons_of_pos hi]
    simp [ownL, h]
theorem cond_one (c : Cnd) (b : Bd) (hb : b.var = em) : condB (cE c) [b] = testB c b.ats := by
  unfold condB testB
  rw [val_one (o := (cE c).left) rfl hb, val_one (o := (cE c).right) rfl hb]
  rfl
theorem BsV.strs {w : World} {B : Nat} {ao : Option Addr} {n cap : Nat} {bs : List Bd} (h : BsV w B (.slice ao n cap) bs) : ∀ s ∈ strsB bs, s.length ≤ maxLen := by
  intro s hs
  obtain ⟨x, hx, hs⟩ := List.mem_flatMap.1 hs
  obtain ⟨y, hy, rfl⟩ := List.mem_map.1 hs
  obtain ⟨k, hk⟩ := List.mem_iff_getElem?.1 hx
  obtain ⟨b, o, aa, ac, _, _, _, _, _, hav⟩ := h.at hk
  have := (hav.wide y hy).2
  show y.s.data.toList.length ≤ maxLen
  rw [Array.length_toList]; exact this
theorem pHolds_is (c : Cnd) (M1 M2 : Nat) (bs : List Bd) (w : World) (h : IdxAt w M1 M2 (idxOf bs).1 (idxOf bs).2) (hwd : wdC c) (hT : (strsB bs).length ≤ 1048576) :
    Calls Try.prog 43 #[.agg #[.map (some M1), .map (some M2)], cdV c] w fun e w' => e = .returned (.bool (condB c bs)) ∧ Below w.heap.size w w' :=
  (pHolds_any c M1 M2 _ _ w h hwd).mono fun e w' ⟨b, he, hp, hb⟩ => ⟨by rw [he, hold_index hT hp.out], hb⟩

set_option maxRecDepth 100000 in
set_option maxHeartbeats 2000000 in
theorem pTerm2_any (c : Cnd) (M1 M2 : Nat) (bs : List Bd) (q : Nat) (w : World) (h : IdxAt w M1 M2 (idxOf bs).1 (idxOf bs).2) (hwd : wdC c) (hT : (strsB bs).length ≤ 1048576)
    (hq : w.heap[q]? = some (.cells #[.map (some M1), .map (some M2)] 88 (0, 0))) :
    Calls Try.prog 42 #[cdV c, .pointer (some ⟨q, 0, none⟩)] w fun e w' => e = .returned (.bool (condB (cE c) bs)) ∧ Below w.heap.size w w' := by
  obtain ⟨W, hW⟩ : ∃ W, W = w.alloc (.cells #[.string em, .string c.left.attr, .int .i64 c.left.vk, .int .i64 c.left.vn, .string c.left.vs, .int .i64 c.rel, .string em, .string c.right.attr, .int .i64 c.right.vk, .int .i64 c.right.vn, .string c.right.vs] 27) := ⟨_, rfl⟩
  have hb : Below w.heap.size w W := by rw [hW]; exact (Below.refl _ _).alloc (Nat.le_refl _) _
  have hql := lt_of_block hq
  obtain ⟨i0, i1⟩ := cell_of_two9 hq
  have hne : q ≠ w.heap.size := by omega
  have he : em.size ≤ maxLen := by decide
  have hwd2 : wdC (cE c) := ⟨⟨he, hwd.1.2⟩, ⟨he, hwd.2.2⟩⟩
  have hc := pHolds_is (cE c) M1 M2 bs W (h.below hb) hwd2 hT
  rw [show cdV (cE c) = .agg #[.string em, .string c.left.attr, .int .i64 c.left.vk, .int .i64 c.left.vn, .string c.left.vs, .int .i64 c.rel, .string em, .string c.right.attr, .int .i64 c.right.vk, .int .i64 c.right.vn, .string c.right.vs] from rfl] at hc
  have HC := Lib.hid hc
  have HB := Lib.hid hb
  rw [hW] at HC HB
  unfold em at HC HB
  unfold cdV
  clear h hwd hwd2 hT hb hW hq hc he
  go_enter Try.func42, Try.ntmps42
  go_wp2_with (first | (go_at_call 43; (with_reducible refine HC.out.mono ?_); rintro e u2 ⟨rfl, hb2⟩))
  go_ret
  exact ⟨rfl, HB.out.trans (hb2.mono HB.out.size)⟩

/-- An event as a row of one bound. -/
theorem one_bsv {w : World} {B : Nat} {src seq time : Int} {ty : ByteArray} {ao : Option Addr} {n cap : Nat} {xs : List At} (h : Av w B (.slice ao n cap) xs) (hB : B ≤ w.heap.size) :
    BsV (w.alloc (.cells #[.string ⟨#[]⟩, .int .i64 src, .int .i64 seq, .int .i64 time, .string ty, .slice ao n cap] 91)) (w.heap.size + 1) (.slice (some ⟨w.heap.size, 0, none⟩) 1 1) [⟨⟨#[]⟩, src, seq, time, ty, xs⟩] := by
  have hn : n = xs.length := by
    obtain ⟨_, _, he, _⟩ := h.row
    simp only [Value.slice.injEq] at he
    exact he.2.1
  subst hn
  have hb := (Below.refl w.heap.size w).alloc (Nat.le_refl _) (.cells #[.string ⟨#[]⟩, .int .i64 src, .int .i64 seq, .int .i64 time, .string ty, .slice ao xs.length cap] 91)
  refine ⟨_, 1, rfl, Nat.le_refl _, ⟨by omega, fun e => by cases e⟩, fun _ => ⟨w.heap.size, 0, rfl, Nat.lt_succ_self _, ⟨ao, cap, fun j u hu => ?_, (h.below hb (by omega)).mono (by omega)⟩, trivial⟩⟩
  obtain ⟨⟨a0, a1, a2, a3, a4, a5⟩, _⟩ := cell_of_six9 (heap_alloc_new w (.cells #[.string ⟨#[]⟩, .int .i64 src, .int .i64 seq, .int .i64 time, .string ty, .slice ao xs.length cap] 91))
  rw [Nat.zero_add]
  match j, hu with
  | 0, hu => simp only [encB, List.getElem?_cons_zero, Option.some.injEq] at hu; subst hu; exact a0
  | 1, hu => simp only [encB, List.getElem?_cons_succ, List.getElem?_cons_zero, Option.some.injEq] at hu; subst hu; exact a1
  | 2, hu => simp only [encB, List.getElem?_cons_succ, List.getElem?_cons_zero, Option.some.injEq] at hu; subst hu; exact a2
  | 3, hu => simp only [encB, List.getElem?_cons_succ, List.getElem?_cons_zero, Option.some.injEq] at hu; subst hu; exact a3
  | 4, hu => simp only [encB, List.getElem?_cons_succ, List.getElem?_cons_zero, Option.some.injEq] at hu; subst hu; exact a4
  | 5, hu => simp only [encB, List.getElem?_cons_succ, List.getElem?_cons_zero, Option.some.injEq] at hu; subst hu; exact a5
  | j + 6, hu => simp [encB] at hu

set_option maxRecDepth 100000 in
set_option maxHeartbeats 2000000 in
theorem pTerm_many (d : Nt) (ta : Option Addr) (tc : Nat) (kv : Value) (src seq time : Int) (ty : ByteArray) (B : Nat) (ao : Option Addr) (n cap : Nat) (xs : List At) (w : World) (h : Av w B (.slice ao n cap) xs) (hB : B ≤ w.heap.size)
    (hc : CdV w (fun x => x < w.heap.size) (.slice ta d.tests.length tc) d.tests) (hf : 16 < d.tests.length) (hl : d.tests.length ≤ 140737488355328) (hwd : ∀ c ∈ d.tests, wdC c) (hx : xs.length + 1 ≤ 1048576) :
    Calls Try.prog 11 #[.agg #[.int .i64 d.kind, .string d.var, .string d.ty, .slice ta d.tests.length tc, kv], .agg #[.int .i64 src, .int .i64 seq, .int .i64 time, .string ty, .slice ao n cap]] w fun e w' => e = .returned (.bool (termB d ty xs)) ∧ Below w.heap.size w w' := by
  obtain ⟨P, hP⟩ : ∃ P, P = w.heap.size := ⟨_, rfl⟩
  obtain ⟨W, hW⟩ : ∃ W, W = (w.alloc (.cells #[.int .i64 d.kind, .string d.var, .string d.ty, .slice ta d.tests.length tc, kv] 31)).alloc (.cells #[.int .i64 src, .int .i64 seq, .int .i64 time, .string ty, .slice ao n cap] 36) := ⟨_, rfl⟩
  have hX : Box2 w P d ta tc kv src seq time ty (.slice ao n cap) W := by
    rw [hW, hP]
    refine ⟨?_, ?_, ?_, ?_⟩
    · rw [heap_alloc_old _ _ (by simp)]; exact heap_alloc_new _ _
    · have := heap_alloc_new (w.alloc (.cells #[.int .i64 d.kind, .string d.var, .string d.ty, .slice ta d.tests.length tc, kv] 31)) (.cells #[.int .i64 src, .int .i64 seq, .int .i64 time, .string ty, .slice ao n cap] 36)
      simpa using this
    · simp
    · exact ((Below.refl _ _).alloc (Nat.le_refl _) _).alloc (by simp) _
  have hcW := fun (u : World) (hu : Below w.heap.size w u) => (show CdV u (fun x => x < u.heap.size) (.slice ta d.tests.length tc) d.tests from (hc.keep (fun b hb => hu.block b hb)).mono (fun x hx => by have := hu.size; omega))
  by_cases hk : d.kind = 1
  case neg =>
    rw [termB_kind hk]
    obtain ⟨g1, g2⟩ := neq_i hk
    clear h hc hB hX hcW hW hk
    go_enter Try.func11, Try.ntmps11
    go_wp2_with fail
    go_ret
    exact ⟨rfl, ((Below.refl _ _).alloc (Nat.le_refl _) _).alloc (by simp) _⟩
  obtain ⟨g1, g2⟩ := eq_i hk
  by_cases ht : d.ty = ty
  case neg =>
    rw [termB_ty ht]
    obtain ⟨t1, t2⟩ := neq_s ht
    clear h hc hB hX hcW hW hk ht
    go_enter Try.func11, Try.ntmps11
    go_wp2_with fail
    go_ret
    exact ⟨rfl, ((Below.refl _ _).alloc (Nat.le_refl _) _).alloc (by simp) _⟩
  obtain ⟨t1, t2⟩ := eq_s ht
  rw [termB_ok hk ht]
  have hAW := h.below hX.low (by omega)
  have hbv := one_bsv (src := src) (seq := seq) (time := time) (ty := ty) hAW (Nat.le_trans hB hX.low.size)
  have hWs : W.heap.size = P + 1 + 1 := by rw [hW, hP]; simp
  rw [hWs] at hbv
  obtain ⟨bs, hbs⟩ : ∃ bs : List Bd, bs = [⟨⟨#[]⟩, src, seq, time, ty, xs⟩] := ⟨_, rfl⟩
  rw [← hbs] at hbv
  have hat : attrsB bs ≤ 1048576 := by rw [hbs]; simpa [attrsB] using hx
  have hvs : ∀ b ∈ bs, b.var.size ≤ maxLen := by rw [hbs]; intro b hb; rw [List.mem_singleton.1 hb]; exact Nat.zero_le _
  have hTT : (strsB bs).length ≤ 1048576 := by have := strsB_len bs; omega
  have HI := Lib.hid (pIndexed_any (P + 1 + 1 + 1) (some ⟨P + 1 + 1, 0, none⟩) 1 1 bs _ hbv (by simp; omega) hat hvs hbv.strs)
  have HALL : Hid (d.tests.all (fun c => testB c xs) = d.tests.all (fun c => condB (cE c) bs)) := Lib.hid (by
    have e : (fun c => condB (cE c) bs) = fun c => testB c xs := by funext c; rw [hbs]; exact cond_one c _ rfl
    rw [e])
  have eg := enters_of Try.func42 (by kernel_rfl) rfl
  have HE := Lib.hid (fun (M1 M2 q : Nat) (u : World) (hu : Below w.heap.size w u) (hi : IdxAt u M1 M2 (idxOf bs).1 (idxOf bs).2) (hq : u.heap[q]? = some (.cells #[.map (some M1), .map (some M2)] 88 (0, 0))) =>
    pEvery_cap 42 (.pointer (some ⟨q, 0, none⟩)) (fun c => condB (cE c) bs) d.tests ta tc u eg hl (hcW u hu) (fun c hcm u' hu' => pTerm2_any c M1 M2 bs q u' (hi.below hu') (hwd c hcm) hTT ((hu'.block q (lt_of_block hq)).trans hq)))
  have f1 : ¬ ((d.tests.length : Nat) : Int) ≤ 16 := by omega
  have f2 : decide (((d.tests.length : Nat) : Int) ≤ 16) = false := decide_eq_false f1
  have HP := Lib.hid hP; have HW := Lib.hid hW; have HX := Lib.hid hX
  rw [HALL.out]
  clear h hc hB hX hcW hAW hW hk ht hf hP hbv hbs hat hvs hTT hl hwd hx HALL hWs
  go_enter Try.func11, Try.ntmps11
  go_wp2_with fail
  rw [← HW.out, ← HP.out]
  obtain ⟨⟨c0, c1, c2, c3, c4⟩, ⟨d0, d1, d2, d3, d4⟩, l0, l1⟩ := HX.out.cells
  go_wp2_with (first
    | (go_at_call 41; (with_reducible refine HI.out.mono ?_); rintro e u2 ⟨M1, M2, rfl, hi2, hb2⟩; have hX2 := (HX.out.below ((Below.refl W.heap.size W).alloc (Nat.le_refl _) (.cells #[.string ⟨#[]⟩, .int .i64 src, .int .i64 seq, .int .i64 time, .string ty, .slice ao n cap] 91))).below hb2; have hX3 := Lib.hid (hX2.below ((Below.refl u2.heap.size u2).alloc (Nat.le_refl _) (.cells #[.map (some M1), .map (some M2)] 88))); have HI3 := Lib.hid (hi2.below ((Below.refl u2.heap.size u2).alloc (Nat.le_refl _) (.cells #[.map (some M1), .map (some M2)] 88))); have HQ3 := Lib.hid (heap_alloc_new u2 (.cells #[.map (some M1), .map (some M2)] 88)); clear hb2 hi2 c0 c1 c2 c3 c4 d0 d1 d2 d3 d4 l0 l1; obtain ⟨⟨c0, c1, c2, c3, c4⟩, ⟨d0, d1, d2, d3, d4⟩, l0, l1⟩ := hX2.cells; clear hX2)
    | (go_at_call 39; go_loud ((with_reducible refine (HE.out _ _ _ _ (by rw [← HP.out]; exact hX3.out.low) HI3.out HQ3.out).mono ?_)); rintro e u4 ⟨rfl, hb4⟩))
  go_ret
  rw [← HP.out]
  exact ⟨rfl, hX3.out.low.trans (hb4.mono (by have := hX3.out.2.2.1; omega))⟩

set_option maxRecDepth 100000 in
set_option maxHeartbeats 2000000 in
theorem pAll_many (l : List Cnd) (ta : Option Addr) (tc : Nat) (B : Nat) (ao : Option Addr) (n cap : Nat) (bs : List Bd) (w : World) (h : BsV w B (.slice ao n cap) bs) (hB : B ≤ w.heap.size)
    (hc : CdV w (fun x => x < w.heap.size) (.slice ta l.length tc) l) (hf : 16 < l.length) (hl : l.length ≤ 140737488355328) (hwd : ∀ c ∈ l, wdC c) (hat : attrsB bs ≤ 1048576) (hvs : ∀ b ∈ bs, b.var.size ≤ maxLen) :
    Calls Try.prog 17 #[.slice ta l.length tc, .agg #[.slice ao n cap]] w fun e w' => e = .returned (.bool (allB l bs)) ∧ Below w.heap.size w w' := by
  obtain ⟨P, hP⟩ : ∃ P, P = w.heap.size := ⟨_, rfl⟩
  obtain ⟨W, hW⟩ : ∃ W, W = w.alloc (.cells #[.slice ao n cap] 43) := ⟨_, rfl⟩
  have hq : W.heap[P]? = some (.cells #[.slice ao n cap] 43 (0, 0)) := by rw [hW, hP]; exact heap_alloc_new _ _
  have hb : Below P w W := by rw [hW, hP]; exact (Below.refl _ _).alloc (Nat.le_refl _) _
  have hs : P + 1 ≤ W.heap.size := lt_of_block hq
  have hcW := fun (u : World) (hu : Below w.heap.size w u) => (show CdV u (fun x => x < u.heap.size) (.slice ta l.length tc) l from (hc.keep (fun b hb => hu.block b hb)).mono (fun x hx => by have := hu.size; omega))
  have hTT : (strsB bs).length ≤ 1048576 := by have := strsB_len bs; omega
  have hbW := h.below (hP ▸ hb) hB
  have HI := Lib.hid (pIndexed_any B ao n cap bs W hbW (by omega) hat hvs hbW.strs)
  have eg := enters_of Try.func43 (by kernel_rfl) rfl
  have HE := Lib.hid (fun (M1 M2 : Nat) (u : World) (hu : Below w.heap.size w u) (hi : IdxAt u M1 M2 (idxOf bs).1 (idxOf bs).2) =>
    pEvery_bnd 43 (.agg #[.map (some M1), .map (some M2)]) (fun c => condB c bs) l ta tc u eg hl (hcW u hu) (fun c hcm u' hu' => pHolds_is c M1 M2 bs u' (hi.below hu') (hwd c hcm) hTT))
  have f1 : ¬ ((l.length : Nat) : Int) ≤ 16 := by omega
  have f2 : decide (((l.length : Nat) : Int) ≤ 16) = false := decide_eq_false f1
  have c0 := cell_of_one hq
  have HP := Lib.hid hP; have HW := Lib.hid hW; have HB := Lib.hid hb; have HS := Lib.hid hs
  clear h hB hc hcW hf hP hb hs hq hW hTT hbW hat hvs hl hwd
  go_enter Try.func17, Try.ntmps17
  go_wp2_with fail
  rw [← HW.out, ← HP.out]
  go_wp2_with (first
    | (go_at_call 41; (with_reducible refine HI.out.mono ?_); rintro e u2 ⟨M1, M2, rfl, hi2, hb2⟩; have HB2 := Lib.hid (HB.out.trans (hb2.mono (by have := HS.out; omega))); have HI2 := Lib.hid hi2; clear hb2 hi2 c0)
    | (go_at_call 39; (with_reducible refine (HE.out _ _ _ (by rw [← HP.out]; exact HB2.out) HI2.out).mono ?_); rintro e u4 ⟨rfl, hb4⟩))
  go_ret
  rw [← HP.out]
  exact ⟨rfl, HB2.out.trans (hb4.mono (by rw [HP.out]; exact HB2.out.size))⟩
end Go.Proofs.Ytpbloplbpkedcaa
