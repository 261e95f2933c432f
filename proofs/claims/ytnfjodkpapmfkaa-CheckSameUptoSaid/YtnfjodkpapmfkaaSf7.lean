/- Contracts: fits, within, or of eyrielaw07; slices.ContainsFunc over nodes; the mathematics of CheckSure. -/
import Derived.Test.YtnfjodkpapmfkaaRt7
import Derived.Test.YtnfjodkpapmfkaaSp7
import Derived.Test.YtnfjodkpapmfkaaSu7
import Derived.Test.YtnfjodkpapmfkaaPt7
import Derived.Test.YtnfjodkpapmfkaaEq7
import Derived.Test.YtnfjodkpapmfkaaLi7
import Derived.Deep.RegionHeld3
namespace Go.Proofs.Ytnfjodkpapmfkaa
open Go Go.RowKit

theorem sure1_len {P : Nm → Prop} [DecidablePred P] : ∀ (l out : List Nm), (l.foldl (fun out x => if P x then putL out x else out) out).length ≤ out.length + l.length
  | [], out => Nat.le_refl _
  | s :: r, out => by
    have h1 := sure1_len (P := P) r (if P s then putL out s else out)
    have h2 : (if P s then putL out s else out).length ≤ out.length + 1 := by
      split
      · exact putL_len out s
      · omega
    rw [List.foldl_cons, List.length_cons]
    omega
theorem sure2_len {P : Nm → Prop} [DecidablePred P] : ∀ (L : List (List Nm)) (out : List Nm), (L.foldl (fun out l => l.foldl (fun out x => if P x then putL out x else out) out) out).length ≤ out.length + (L.map List.length).sum
  | [], out => Nat.le_refl _
  | l :: r, out => by
    have h1 := sure2_len (P := P) r (l.foldl (fun out x => if P x then putL out x else out) out)
    have h2 := sure1_len (P := P) l out
    rw [List.foldl_cons, List.map_cons, List.sum_cons]
    omega
theorem sureOf_len (o : Bool) (L : List (List Nm)) : (sureOf o L).length ≤ (L.map List.length).sum := by
  have := sure2_len (P := fun x => o = true → ∀ m ∈ L, x ∈ m) L []
  rw [List.length_nil, Nat.zero_add] at this
  exact this
theorem v0_szD (d : Nt) : (v0 d).length ≤ szD d := by
  have := v0_len d
  simp only [szD]; omega
theorem sureL_sum : ∀ f : Fo, ((sureL f).map List.length).sum ≤ szF f
  | .nil => Nat.le_refl _
  | .cons d k n => by
    have h1 := sureL_sum k
    have h2 := sureL_sum n
    have h3 : (sureN d k).length ≤ szD d + szF k := by
      unfold sureN
      split
      · have := v0_szD d; omega
      · have := sureOf_len (decide (d.kind = 4)) (sureL k); omega
    rw [sureL_cons, List.map_cons, List.sum_cons]
    simp only [szF]
    omega
theorem sureN_len (d : Nt) (k : Fo) : (sureN d k).length ≤ szD d + szF k := by
  have h1 := sureL_sum k
  unfold sureN
  split
  · have := v0_szD d; omega
  · have := sureOf_len (decide (d.kind = 4)) (sureL k); omega

/-- Whether an Or stands in a tree. -/
def orF : Fo → Bool
  | .nil => false
  | .cons d k n => (decide (d.kind = 4) || orF k) || orF n
def orN (d : Nt) (k : Fo) : Bool := decide (d.kind = 4) || orF k
theorem v0_none {d : Nt} (h : d.var = em) : v0 d = [] := by unfold v0; rw [h]; rfl
theorem nodeE_var {d : Nt} {n : Nat} (h : nodeE d n = 0) (hn : 0 < n) : v0 d = [] := by
  unfold nodeE at h
  split at h
  · rw [if_pos (.inl hn)] at h; cases h
  · split at h
    · split at h
      · rename_i hh; exact v0_none hh.2.1
      · cases h
    · cases h
theorem len_pos {k : Fo} (h : k.isNil = false) : 0 < k.len := by cases k with
  | nil => cases h
  | cons => simp [Fo.len]
theorem nodeF_zero {d : Nt} {k n : Fo} (h : nodeF (.cons d k n) = 0) : nodeE d k.len = 0 ∧ nodeF k = 0 ∧ nodeF n = 0 := by
  simp only [nodeF] at h
  split at h
  · rename_i h1; exact absurd h h1
  · rename_i h1
    split at h
    · rename_i h2; exact absurd h h2
    · rename_i h2; exact ⟨Classical.not_not.1 h1, Classical.not_not.1 h2, h⟩
theorem sure_all : ∀ (f : Fo), nodeF f = 0 → orF f = false → ∀ x, inF x f → ∃ m ∈ sureL f, x ∈ m
  | .nil, _, _, x, h => h.elim
  | .cons d k n, h0, hor, x, hx => by
    obtain ⟨h1, h2, h3⟩ := nodeF_zero h0
    simp only [orF, Bool.or_eq_false_iff] at hor
    obtain ⟨⟨o1, o2⟩, o3⟩ := hor
    have i1 := sure_all k h2 o2
    have i2 := sure_all n h3 o3
    rw [sureL_cons]
    simp only [inF] at hx
    cases hk : k.isNil with
    | true =>
      have hkn : k = .nil := by cases k with
        | nil => rfl
        | cons => cases hk
      subst hkn
      rcases hx with hx | hx | hx
      · exact ⟨_, List.mem_cons_self, hx⟩
      · exact hx.elim
      · obtain ⟨m, hm, hh⟩ := i2 x hx
        exact ⟨m, List.mem_cons_of_mem _ hm, hh⟩
    | false =>
      rcases hx with hx | hx | hx
      · rw [nodeE_var h1 (len_pos hk)] at hx; cases hx
      · refine ⟨_, List.mem_cons_self, ?_⟩
        unfold sureN
        rw [hk, if_neg (by simp), mem_sureOf, o1]
        exact ⟨i1 x hx, fun h => by cases h⟩
      · obtain ⟨m, hm, hh⟩ := i2 x hx
        exact ⟨m, List.mem_cons_of_mem _ hm, hh⟩
/-- What is surely bound stands in the tree; where no Or stands, all is. -/
theorem sure_sub {d : Nt} {k : Fo} : ∀ x ∈ sureN d k, x ∈ varsN d k := fun x hx => by
  have := sure_vars (.cons d k .nil) x ⟨_, by rw [sureL_cons]; exact List.mem_cons_self, hx⟩
  rw [inF_cons] at this
  exact this.elim id (fun h => h.elim)
theorem shape_zero {d : Nt} {k : Fo} (h : shapeN d k = 0) : nodeE d k.len = 0 ∧ nodeF k = 0 := by
  unfold shapeN at h
  split at h
  · cases h
  · split at h
    · rename_i h1; exact absurd h h1
    · rename_i h1
      have hn := Classical.not_not.1 h1
      unfold nodeN at hn
      split at hn
      · rename_i h2; exact absurd hn h2
      · rename_i h2; exact ⟨Classical.not_not.1 h2, hn⟩
theorem sure_eq {d : Nt} {k : Fo} (h : shapeN d k = 0) (ho : orN d k = false) : sureN d k = varsN d k := by
  obtain ⟨h1, h2⟩ := shape_zero h
  refine rising_ext (sureN_rising d k) (varsN_rising d k) (fun x => ⟨sure_sub x, fun hx => ?_⟩)
  have h3 : nodeF (.cons d k .nil) = 0 := by simp only [nodeF]; rw [if_neg (by simpa using h1), if_neg (by simpa using h2)]
  obtain ⟨m, hm, hh⟩ := sure_all (.cons d k .nil) h3 (by unfold orN at ho; simp only [orF, Bool.or_false]; exact ho) x (inF_cons.2 (.inl hx))
  rw [sureL_cons] at hm
  rcases List.mem_cons.1 hm with rfl | hm
  · exact hh
  · cases hm

def fitsN (k : Fo) : Bool := decide (termsN k ≤ 200) && decide (deepF k + 1 ≤ 50)
set_option maxRecDepth 100000 in
set_option maxHeartbeats 1000000 in
theorem fits7_any (d : Nt) (k : Fo) (v : Value) (w : World) (hv : NdV w (fun x => x < w.heap.size) d k v) (hsz : szD d + szF k ≤ 1048576) :
    Calls Try.prog 11 #[v] w fun e w' => e = .returned (.bool (fitsN k)) ∧ Below w.heap.size w w' := by
  obtain ⟨ta, tc, ka, kc, rfl⟩ := hv.shape
  obtain ⟨W, hW⟩ : ∃ W, W = w.alloc (.cells #[.int .i64 d.kind, .string d.var, .string d.ty, .slice ta d.tests.length tc, .slice ka k.len kc] 25) := ⟨_, rfl⟩
  have hq := heap_alloc_new w (.cells #[.int .i64 d.kind, .string d.var, .string d.ty, .slice ta d.tests.length tc, .slice ka k.len kc] 25)
  have hb0 : Below w.heap.size w W := by rw [hW]; exact (Below.refl _ _).alloc (Nat.le_refl _) _
  rw [← hW] at hq
  have hz : W.heap.size = w.heap.size + 1 := by rw [hW]; simp
  obtain ⟨P, hP⟩ : ∃ P, P = w.heap.size := ⟨_, rfl⟩
  have hkv : ∀ u, Below W.heap.size W u → NdV u (fun x => x < u.heap.size) d k (.agg #[.int .i64 d.kind, .string d.var, .string d.ty, .slice ta d.tests.length tc, .slice ka k.len kc]) := fun u hu =>
    (hv.keep (fun x hx => (hu.block x (Nat.lt_of_lt_of_le hx hb0.size)).trans (hb0.block x hx))).mono (fun x hx => Nat.lt_of_lt_of_le hx (Nat.le_trans hb0.size hu.size))
  have HT := Lib.hid (fun (u : World) (hu : Below W.heap.size W u) => r7Terms_any d k u _ (hkv u hu) hsz)
  have HD := Lib.hid (fun (u : World) (hu : Below W.heap.size W u) => r7Deep_any d k u _ (hkv u hu) hsz)
  have HX := Lib.hid (fun (u : World) (hu : Below W.heap.size W u) => (by
    have := (hu.block P (by omega)).trans (hP ▸ hq)
    simp [World.cell?, this] : u.cell? ⟨P, 0, none⟩ = some (.int .i64 d.kind) ∧ u.cell? ⟨P, 1, none⟩ = some (.string d.var) ∧ u.cell? ⟨P, 2, none⟩ = some (.string d.ty) ∧ u.cell? ⟨P, 3, none⟩ = some (.slice ta d.tests.length tc) ∧ u.cell? ⟨P, 4, none⟩ = some (.slice ka k.len kc)))
  have HE := Lib.hid (fun (u : World) (hu : Below W.heap.size W u) => hb0.trans (hu.mono hb0.size))
  have HW := Lib.hid hW; have HP := Lib.hid hP
  have HR := Lib.hid (Below.refl W.heap.size W)
  clear hv hsz hq hb0 hz hkv hW hP
  unfold fitsN
  by_cases h1 : termsN k ≤ 200
  · have i1 : (termsN k : Int) ≤ 200 := by omega
    have i1' : ¬ (200 : Int) < (termsN k : Int) := by omega
    rw [decide_eq_true h1, Bool.true_and]
    by_cases h2 : deepF k + 1 ≤ 50
    · have i2 : ((deepF k + 1 : Nat) : Int) ≤ 50 := by omega
      have i2' : ¬ (50 : Int) < ((deepF k + 1 : Nat) : Int) := by omega
      rw [decide_eq_true h2]
      clear h1 h2
      generalize ((deepF k + 1 : Nat) : Int) = D at *
      go_enter Try.func11, Try.ntmps11
      go_wp2_with fail
      rw [← HW.out, ← HP.out]
      obtain ⟨x0, x1, x2, x3, x4⟩ := HX.out _ HR.out
      go_wp2_with (first
        | (go_at_call 50; (with_reducible refine (HT.out _ HR.out).mono ?_); rintro e u1 ⟨rfl, hb⟩; have HU1 := Lib.hid (HR.out.trans (hb.mono HR.out.size)); clear hb x0 x1 x2 x3 x4; obtain ⟨x0, x1, x2, x3, x4⟩ := HX.out _ HU1.out)
        | (go_at_call 51; (with_reducible refine (HD.out _ HU1.out).mono ?_); rintro e u2 ⟨rfl, hb⟩; have HU2 := Lib.hid (HU1.out.trans (hb.mono HU1.out.size)); clear hb))
      go_ret
      exact ⟨rfl, by first | exact HE.out _ HU2.out | (rw [HP.out]; exact HE.out _ HU2.out)⟩
    · have i2 : ¬ ((deepF k + 1 : Nat) : Int) ≤ 50 := by omega
      have i2' : (50 : Int) < ((deepF k + 1 : Nat) : Int) := by omega
      rw [decide_eq_false h2]
      clear h1 h2
      generalize ((deepF k + 1 : Nat) : Int) = D at *
      go_enter Try.func11, Try.ntmps11
      go_wp2_with fail
      rw [← HW.out, ← HP.out]
      obtain ⟨x0, x1, x2, x3, x4⟩ := HX.out _ HR.out
      go_wp2_with (first
        | (go_at_call 50; (with_reducible refine (HT.out _ HR.out).mono ?_); rintro e u1 ⟨rfl, hb⟩; have HU1 := Lib.hid (HR.out.trans (hb.mono HR.out.size)); clear hb x0 x1 x2 x3 x4; obtain ⟨x0, x1, x2, x3, x4⟩ := HX.out _ HU1.out)
        | (go_at_call 51; (with_reducible refine (HD.out _ HU1.out).mono ?_); rintro e u2 ⟨rfl, hb⟩; have HU2 := Lib.hid (HU1.out.trans (hb.mono HU1.out.size)); clear hb))
      go_ret
      refine ⟨?_, by first | exact HE.out _ HU2.out | (rw [HP.out]; exact HE.out _ HU2.out)⟩
      show Ending.returned (Value.bool (decide (D ≤ 50))) = _
      rw [decide_eq_false (by omega)]
  · have i1 : ¬ (termsN k : Int) ≤ 200 := by omega
    have i1' : (200 : Int) < (termsN k : Int) := by omega
    rw [decide_eq_false h1, Bool.false_and]
    go_enter Try.func11, Try.ntmps11
    go_wp2_with fail
    rw [← HW.out, ← HP.out]
    obtain ⟨x0, x1, x2, x3, x4⟩ := HX.out _ HR.out
    go_wp2_with (first
      | (go_at_call 50; (with_reducible refine (HT.out _ HR.out).mono ?_); rintro e u1 ⟨rfl, hb⟩; have HU1 := Lib.hid (HR.out.trans (hb.mono HR.out.size)); clear hb x0 x1 x2 x3 x4))
    go_ret
    exact ⟨rfl, by first | exact HE.out _ HU1.out | (rw [HP.out]; exact HE.out _ HU1.out)⟩

/-- Each of the first names stands among the second. -/
theorem meas7w {k n : Nat} (h : k < n) : n - ((k : Int) + 1).toNat < n - ((k : Nat) : Int).toNat := by omega
set_option maxRecDepth 100000 in
set_option maxHeartbeats 1000000 in
theorem within7_any (a b : List Nm) (G : Nat → Prop) (ao bo : Option Addr) (ac bc : Nat) (w : World) (ha : SsV w G (.slice ao a.length ac) a) (hb : SsV w G (.slice bo b.length bc) b) (hla : a.length ≤ 1048576) (hlb : b.length ≤ 1048576) (hs : ∀ x ∈ a, x ∈ b) :
    Calls Try.prog 20 #[.slice ao a.length ac, .slice bo b.length bc] w fun e w' => e = .returned (.bool true) ∧ w = w' := by
  have HA := Lib.hid ha
  have HC := Lib.hid (fun x => ContainsStr_any w G bo bc b x hb (by omega))
  have HL := Lib.hid hla
  have HS := Lib.hid hs
  clear ha hb hla hlb hs
  go_enter Try.func20, Try.ntmps20
  go_wp2_with fail
  go_loopw [9] (fun iv wr => ∃ k : Nat, k ≤ a.length ∧ iv = .int .i64 k ∧ wr = w) (fun iv _ => a.length - (intOf iv).toNat)
  case atStart => exact ⟨0, Nat.zero_le _, rfl, rfl⟩
  case round =>
    obtain ⟨k, hk, rfl, rfl⟩ := hrel
    by_cases hlt : k < a.length
    · have hlti : (k : Int) < (a.length : Int) := by omega
      have hls := wr7t hlt HL.out
      have hne : a ≠ [] := fun h => by rw [h] at hlt; exact absurd hlt (Nat.not_lt_zero _)
      obtain ⟨ao', cap', he, hh⟩ := HA.out
      simp only [Value.slice.injEq, true_and] at he
      obtain ⟨rfl, rfl⟩ := he
      obtain ⟨g, o, rfl, _, hc⟩ := hh hne
      have c0 := hc k _ (List.getElem?_eq_getElem hlt)
      have hcall := HC.out (ba a[k])
      rw [nb_ba, decide_eq_true (HS.out _ (List.getElem_mem _))] at hcall
      clear hh hc hne hk
      generalize a[k] = y at c0 hcall
      go_wp2_with (first | (go_at_call 47; (with_reducible refine hcall.mono ?_); rintro e w2 ⟨rfl, rfl⟩))
      go_roundw
      all_goals first
        | exact ⟨k + 1, hlt, by go_num, trivial⟩
        | exact ⟨k + 1, hlt, by go_num, rfl⟩
        | exact meas7w hlt
        | (rw [hls]; exact meas7w hlt)
    · obtain rfl : k = a.length := by omega
      have hnl : ¬ ((a.length : Int) < (a.length : Int)) := by omega
      clear hlt hk
      go_wp2
      go_ret
      exact ⟨rfl, rfl⟩

/-- Some node of a row. -/
def anyF (q : Nt → Fo → Bool) : Fo → Bool
  | .nil => false
  | .cons d k n => q d k || anyF q n
theorem anyF_or : ∀ f : Fo, anyF orN f = orF f
  | .nil => rfl
  | .cons d k n => by show (orN d k || anyF orN n) = _; rw [anyF_or n]; rfl
set_option maxRecDepth 100000 in
set_option maxHeartbeats 1000000 in
theorem IndexFNd_any (gf : Nat) (q : Nt → Fo → Bool) (K : Fo) (v : Value) (w : World) (hv : KdV w (fun x => x < w.heap.size) v K) (hlen : K.len ≤ 1048576) (eg : ∀ args w, (callFunc gf args).run Try.prog w = .ok (.enter gf args) w)
    (hp : Fo.All (fun d k => ∀ (u : World) (x : Value), Below w.heap.size w u → NdV u (fun y => y < u.heap.size) d k x → Calls Try.prog gf #[x] u fun e w' => e = .returned (.bool (q d k)) ∧ Below u.heap.size u w') K) :
    Calls Try.prog 93 #[v, .func (.func gf) #[] #[]] w fun e w' => ∃ r : Int, e = .returned (.int .i64 r) ∧ decide (0 ≤ r) = anyF q K ∧ Below w.heap.size w w' := by
  obtain ⟨ka, kc, rfl, hk⟩ := hv
  have HK := Lib.hid (fun (i : Nat) (hi : i < K.len) => (by
    obtain ⟨b, o, e, hb, hf⟩ := hk (nil_of_len hi)
    obtain ⟨d2, k2, hd⟩ := Fo.drop_cons hi
    refine ⟨b, o, d2, k2, e, hd, fun u hu => ?_⟩
    obtain ⟨ta, tc, ka, kc, c0, c1, c2, c3, c4, hv2⟩ := kid_val hf hb hu hd
    have h1 := Fo.All.drop i hp
    rw [hd] at h1
    exact ⟨ta, tc, ka, kc, c0, c1, c2, c3, c4, (h1.1 u _ hu hv2).mono (fun e w' h => ⟨h.1, hu.trans (h.2.mono hu.size)⟩)⟩ :
      ∃ b o d2 k2, ka = some ⟨b, o, none⟩ ∧ K.drop i = .cons d2 k2 (K.drop (i + 1)) ∧ ∀ u, Below w.heap.size w u → ∃ ta tc ka kc, u.cell? ⟨b, o + i * 5, none⟩ = some (.int .i64 d2.kind) ∧ u.cell? ⟨b, o + i * 5 + 1, none⟩ = some (.string d2.var) ∧ u.cell? ⟨b, o + i * 5 + 2, none⟩ = some (.string d2.ty) ∧
      u.cell? ⟨b, o + i * 5 + 3, none⟩ = some (.slice ta d2.tests.length tc) ∧ u.cell? ⟨b, o + i * 5 + 4, none⟩ = some (.slice ka k2.len kc) ∧ Calls Try.prog gf #[.agg #[.int .i64 d2.kind, .string d2.var, .string d2.ty, .slice ta d2.tests.length tc, .slice ka k2.len kc]] u (fun e w' => e = .returned (.bool (q d2 k2)) ∧ Below w.heap.size w w')))
  have HLEN := Lib.hid hlen
  have HR := Lib.hid (Below.refl w.heap.size w)
  clear hk hp hlen
  go_enter Try.func93, Try.ntmps93
  go_wp2_with fail
  go_loopw [5, 8] (fun _ iv wr => ∃ i : Nat, i ≤ K.len ∧ iv = .int .i64 (i : Int) ∧ Hid (Below w.heap.size w wr) ∧ Hid (anyF q K = anyF q (K.drop i))) (fun _ iv _ => K.len - (intOf iv).toNat)
  case atStart => exact ⟨0, Nat.zero_le _, rfl, HR, Lib.hid (by rw [Fo.drop_zero])⟩
  case round =>
    obtain ⟨i, hi, rfl, HB, HV⟩ := hrel
    by_cases hlt : i < K.len
    · have hlti : (i : Int) < (K.len : Int) := by omega
      have hlti' := decide_eq_true hlti
      have hls := wr7t hlt HLEN.out
      obtain ⟨b, o, d2, k2, rfl, hd, hc⟩ := HK.out i hlt
      obtain ⟨ta2, tc2, ka2, kc2, c0, c1, c2, c3, c4, hcall⟩ := hc _ HB.out
      have hd' : anyF q (K.drop i) = (q d2 k2 || anyF q (K.drop (i + 1))) := by rw [hd]; rfl
      have HD := Lib.hid hd'
      clear hd hd' hc hi
      cases hq : q d2 k2 with
      | true =>
        rw [hq] at hcall HD
        have HC := Lib.hid hcall; clear hcall
        go_wp2_with (first | (go_at_fn gf; (with_reducible refine HC.out.mono ?_); rintro e u2 ⟨rfl, hb⟩; have HB2 := Lib.hid hb; clear hb c0 c1 c2 c3 c4))
        go_ret
        exact ⟨(i : Int), rfl, by rw [HV.out, HD.out]; simp, HB2.out⟩
      | false =>
        rw [hq] at hcall HD
        have HC := Lib.hid hcall; clear hcall
        go_wp2_with (first | (go_at_fn gf; (with_reducible refine HC.out.mono ?_); rintro e u2 ⟨rfl, hb⟩; have HB2 := Lib.hid hb; clear hb c0 c1 c2 c3 c4))
        go_roundw
        all_goals first
          | exact ⟨i + 1, hlt, by go_num, HB2, Lib.hid (by rw [HV.out, HD.out, Bool.false_or])⟩
          | exact meas7w hlt
          | (rw [hls]; exact meas7w hlt)
    · obtain rfl : i = K.len := by omega
      have hnl : ¬ ((K.len : Int) < (K.len : Int)) := by omega
      clear hlt hi
      go_wp2
      go_ret
      exact ⟨-1, rfl, by rw [HV.out, Fo.drop_end (Nat.le_refl _)]; rfl, HB.out⟩
set_option maxRecDepth 100000 in
theorem ContainsNd_any (gf : Nat) (q : Nt → Fo → Bool) (K : Fo) (v : Value) (w : World) (hv : KdV w (fun x => x < w.heap.size) v K) (hlen : K.len ≤ 1048576) (eg : ∀ args w, (callFunc gf args).run Try.prog w = .ok (.enter gf args) w)
    (hp : Fo.All (fun d k => ∀ (u : World) (x : Value), Below w.heap.size w u → NdV u (fun y => y < u.heap.size) d k x → Calls Try.prog gf #[x] u fun e w' => e = .returned (.bool (q d k)) ∧ Below u.heap.size u w') K) :
    Calls Try.prog 44 #[v, .func (.func gf) #[] #[]] w fun e w' => e = .returned (.bool (anyF q K)) ∧ Below w.heap.size w w' := by
  have HC := Lib.hid (IndexFNd_any gf q K v w hv hlen eg hp)
  obtain ⟨ka, kc, rfl, _⟩ := hv
  clear hlen hp
  go_enter Try.func44, Try.ntmps44
  go_wp2_with (first | (go_at_call 93; (with_reducible refine HC.out.mono ?_); rintro e u2 ⟨r, rfl, hr, hb⟩; have HR := Lib.hid hr; have HB2 := Lib.hid hb; clear hr hb))
  go_ret
  exact ⟨by rw [← HR.out]; rfl, HB2.out⟩

set_option maxRecDepth 100000 in
set_option maxHeartbeats 1000000 in
theorem or7_any (d : Nt) (k : Fo) : ∀ (w : World) (v : Value), NdV w (fun x => x < w.heap.size) d k v → szD d + szF k ≤ 1048576 → Calls Try.prog 21 #[v] w fun e w' => e = .returned (.bool (orN d k)) ∧ Below w.heap.size w w' := by
  revert d k
  refine Fo.node_ind (p := fun d k => ∀ (w : World) (v : Value), NdV w (fun x => x < w.heap.size) d k v → szD d + szF k ≤ 1048576 → Calls Try.prog 21 #[v] w fun e w' => e = .returned (.bool (orN d k)) ∧ Below w.heap.size w w') ?_
  intro d K ih w v hv hsz
  obtain ⟨ta, tc, ka, kc, rfl⟩ := hv.shape
  obtain ⟨_, hk⟩ := hv.inj
  obtain ⟨W, hW⟩ : ∃ W, W = w.alloc (.cells #[.int .i64 d.kind, .string d.var, .string d.ty, .slice ta d.tests.length tc, .slice ka K.len kc] 25) := ⟨_, rfl⟩
  have hq := heap_alloc_new w (.cells #[.int .i64 d.kind, .string d.var, .string d.ty, .slice ta d.tests.length tc, .slice ka K.len kc] 25)
  have hb0 : Below w.heap.size w W := by rw [hW]; exact (Below.refl _ _).alloc (Nat.le_refl _) _
  rw [← hW] at hq
  have hz : W.heap.size = w.heap.size + 1 := by rw [hW]; simp
  obtain ⟨P, hP⟩ : ∃ P, P = w.heap.size := ⟨_, rfl⟩
  have hlen : K.len ≤ 1048576 := by have := szF_len K; omega
  have hall : ∀ f : Fo, szF f ≤ 1048576 → Fo.All (fun d k => ∀ (w : World) (v : Value), NdV w (fun x => x < w.heap.size) d k v → szD d + szF k ≤ 1048576 → Calls Try.prog 21 #[v] w fun e w' => e = .returned (.bool (orN d k)) ∧ Below w.heap.size w w') f →
      Fo.All (fun d k => ∀ (u : World) (x : Value), Below W.heap.size W u → NdV u (fun y => y < u.heap.size) d k x → Calls Try.prog 21 #[x] u fun e w' => e = .returned (.bool (orN d k)) ∧ Below u.heap.size u w') f := by
    intro f
    induction f with
    | nil => exact fun _ _ => trivial
    | cons d' k' n' _ ihn =>
      intro h1 h2
      simp only [szF] at h1
      exact ⟨fun u x _ hx => h2.1 u x hx (by omega), ihn (by omega) h2.2⟩
  have HC := Lib.hid (ContainsNd_any 21 orN K (.slice ka K.len kc) W ⟨ka, kc, rfl, fun hn => by
    obtain ⟨b, o, e, hb, hf⟩ := hk hn
    exact ⟨b, o, e, Nat.lt_of_lt_of_le hb hb0.size, (FoAt.keep (Keep.of_below hb0) hb hf).mono (fun x hx => Nat.lt_of_lt_of_le hx hb0.size)⟩⟩ hlen (enters_of Try.func21 (by kernel_rfl) rfl) (hall K (by omega) ih))
  rw [anyF_or] at HC
  have hX : W.cell? ⟨P, 0, none⟩ = some (.int .i64 d.kind) ∧ W.cell? ⟨P, 4, none⟩ = some (.slice ka K.len kc) := by
    rw [← hP] at hq
    simp [World.cell?, hq]
  have HB0 := Lib.hid hb0; have HW := Lib.hid hW; have HP := Lib.hid hP
  have HE := Lib.hid (fun (u : World) (hu : Below W.heap.size W u) => hb0.trans (hu.mono hb0.size))
  have HX := Lib.hid hX
  clear hk ih hv hsz hq hb0 hz hW hP hlen hall hX
  unfold orN
  by_cases h4 : d.kind = 4
  · have h4' : (d.kind == 4) = true := beq_iff_eq.2 h4
    rw [decide_eq_true h4, Bool.true_or]
    go_enter Try.func21, Try.ntmps21
    go_wp2_with fail
    go_ret
    exact ⟨rfl, (Below.refl _ _).alloc (Nat.le_refl _) _⟩
  · have h4' : (d.kind == 4) = false := beq_eq_false_iff_ne.2 h4
    rw [decide_eq_false h4, Bool.false_or]
    go_enter Try.func21, Try.ntmps21
    go_wp2_with fail
    rw [← HW.out, ← HP.out]
    obtain ⟨x0, x4⟩ := HX.out
    go_wp2_with (first | (go_at_call 44; (with_reducible refine HC.out.mono ?_); rintro e u2 ⟨rfl, hb⟩; have HB2 := Lib.hid (HE.out _ hb); clear hb))
    go_ret
    exact ⟨rfl, by first | exact HB2.out | (rw [HP.out]; exact HB2.out)⟩
end Go.Proofs.Ytnfjodkpapmfkaa
