/- Contract: find: what the index tells of an operand. -/
import Derived.Test.YtpbloplbpkedcaaFe9
namespace Go.Proofs.Ytpbloplbpkedcaa
open Go Go.RowKit Go.Sort Go.Maps Go.WideMaps

/-- An index in memory: its two maps. -/
structure IdxAt (w : World) (M1 M2 : Nat) (F : Nm → Option Nat) (G : Nat → ByteArray → Option (Vl × Vl)) : Prop where
  bounds : ∃ n D, w.ownsMap Try.prog 9 (plainElem (H := Unit) Try.prog 3) M1 n D ∧ MapF D F
  attrs : ∃ n D, w.ownsMap Try.prog 125 fndE M2 n D ∧ MapG D G
  small : ∀ v i, F v = some i → i ≤ 140737488355328
theorem owns_below9 {H : Type} {w w' : World} {k : TypeId} {R : Value → Option (DataW H × List MemPlace)} {b n : Nat} {D : DataW H} (h : w.ownsMap Try.prog k R b n D) (hb : w'.heap[b]? = w.heap[b]?) : w'.ownsMap Try.prog k R b n D := by
  obtain ⟨es, c, h4, h5⟩ := h
  exact ⟨es, c, hb.trans h4, h5⟩
theorem IdxAt.below {w w' : World} {M1 M2 : Nat} {F : Nm → Option Nat} {G : Nat → ByteArray → Option (Vl × Vl)} (h : IdxAt w M1 M2 F G) (hb : Below w.heap.size w w') : IdxAt w' M1 M2 F G := by
  obtain ⟨⟨n, D, h1, h2⟩, ⟨n', D', h3, h4⟩, h5⟩ := h
  exact ⟨⟨n, D, owns_below9 h1 (hb.block _ h1.lt), h2⟩, ⟨n', D', owns_below9 h3 (hb.block _ h3.lt), h4⟩, h5⟩
theorem cell_of_two9 {w : World} {q : Nat} {c0 c1 : Value} {t : Nat} (h : w.heap[q]? = some (.cells #[c0, c1] t (0, 0))) : w.cell? ⟨q, 0, none⟩ = some c0 ∧ w.cell? ⟨q, 1, none⟩ = some c1 := by simp [World.cell?, h]
theorem cell_of_six9 {w : World} {q : Nat} {c0 c1 c2 c3 c4 c5 : Value} {t : Nat} (h : w.heap[q]? = some (.cells #[c0, c1, c2, c3, c4, c5] t (0, 0))) :
    (w.cell? ⟨q, 0, none⟩ = some c0 ∧ w.cell? ⟨q, 1, none⟩ = some c1 ∧ w.cell? ⟨q, 2, none⟩ = some c2 ∧ w.cell? ⟨q, 3, none⟩ = some c3 ∧ w.cell? ⟨q, 4, none⟩ = some c4 ∧ w.cell? ⟨q, 5, none⟩ = some c5) ∧
    (w.frozen? ⟨q, 0, none⟩ = false ∧ w.frozen? ⟨q, 1, none⟩ = false ∧ w.frozen? ⟨q, 2, none⟩ = false ∧ w.frozen? ⟨q, 3, none⟩ = false ∧ w.frozen? ⟨q, 4, none⟩ = false ∧ w.frozen? ⟨q, 5, none⟩ = false) := by simp [World.cell?, World.frozen?, h]
theorem zeroI (w : World) : (zeroValue 3).run Try.prog w = .ok (.int .i64 0) w := by kernel_rfl
theorem atKey_no {D : DataW Unit} (hD : IsMap D) {k : Lit} (h : Maps.has D k = false) (z : DataW Unit) : D.atKey k z = z := by
  obtain ⟨es, rfl⟩ := hD
  have : es.find? (fun p => p.1.sameKey k) = none := by
    rw [List.find?_eq_none]
    intro p hp hh
    have h2 : es.any (fun p => p.1.sameKey k) = true := List.any_eq_true.2 ⟨p, hp, hh⟩
    have h3 : es.any (fun p => p.1.sameKey k) = false := h
    rw [h2] at h3; cases h3
  simp [DataW.atKey, this]
/-- 'v := m[k]' at a map of one's own, whatever its elements. -/
theorem look_no9 {H : Type} {P : Program} {k e t : TypeId} {w : World} {R : Value → Option (DataW H × List MemPlace)} {b n : Nat} {D : DataW H} (hown : w.ownsMap P k R b n D) (K : Keyed P k) (ht : P.underlying t = some (.map k e)) {z : Value} (hz : (zeroValue e).run P w = .ok z w)
    {zd : DataW H} {zp : List MemPlace} (hzd : R z = some (zd, zp)) {key : Value} {kl : Lit} (hkey : keyOf P k key = some kl) :
    ∃ v ps, (Instr.lookup t (.map (some b)) key false).run P w = .ok v w ∧ R v = some (D.atKey kl zd, ps) := by
  obtain ⟨es, clock, hb, F, _, rfl⟩ := hown
  rcases Maps.fit_look false K ht hz hb F hkey with ⟨hrun, _, hat⟩ | ⟨e0, y, _, _, hrun, hRv, hat, _⟩
  · exact ⟨z, zp, hrun, by rw [hat zd]; exact hzd⟩
  · exact ⟨e0.val, y.2, hrun, by rw [hat zd]; exact hRv⟩
theorem wpList_lookup_no9 {H : Type} {P : Program} (w : World) {ops : Array Oper} {rest : List Oper} {o : Oper} {a : Act} {Q : Exit → Act → World → Prop}
    (hg : o.guard = none) (m x : Operand) (t : TypeId) (hop : o.op = Op.lookup t m x false)
    (k e : TypeId) (K : Keyed P k) (ht : P.underlying t = some (.map k e)) (R : Value → Option (DataW H × List MemPlace)) {z : Value} (hz : (zeroValue e).run P w = .ok z w) (zd : DataW H) (zp : List MemPlace) (hzd : R z = some (zd, zp)) (b n : Nat) (D : DataW H)
    (hm : a.eval m = .map (some b)) (hown : w.ownsMap P k R b n D) (key : Value) (kl : Lit) (hx : a.eval x = key) (hkey : keyOf P k key = some kl) (val : Value) (hval : ∀ v ps, R v = some (D.atKey kl zd, ps) → v = val)
    (hK : wpList P ops Q rest (a.put o.dst val) w) : wpList P ops Q (o :: rest) a w := by
  refine wpList_plain hg fun K' hK' => ?_
  obtain ⟨v, ps, hrun, hv⟩ := look_no9 hown K ht hz hzd hkey
  obtain rfl := hval v ps hv
  unfold Oper.wp
  simp [execOp, hop, hm, hx, hrun, Result.andThen]
  exact hK' _ _ hK
/-- What find tells: the pair, and whether the operand's variable is bound. -/
def FindP (o : Opd) (F : Nm → Option Nat) (G : Nat → ByteArray → Option (Vl × Vl)) (p : Vl × Vl) (ok : Bool) : Prop :=
  if o.attr = em then p = (constL o, zeroL) ∧ ok = true else match F (nb o.var) with
    | some i => p = (G i o.attr).getD (zeroL, zeroL) ∧ ok = true
    | none => ok = false
theorem find_const {o : Opd} {F : Nm → Option Nat} {G : Nat → ByteArray → Option (Vl × Vl)} (h : o.attr = em) : FindP o F G (constL o, zeroL) true := by unfold FindP; rw [if_pos h]; exact ⟨rfl, rfl⟩
theorem find_some {o : Opd} {F : Nm → Option Nat} {G : Nat → ByteArray → Option (Vl × Vl)} {i : Nat} (h : o.attr ≠ em) (hF : F (nb o.var) = some i) : FindP o F G ((G i o.attr).getD (zeroL, zeroL)) true := by unfold FindP; rw [if_neg h, hF]; exact ⟨rfl, rfl⟩
theorem find_none {o : Opd} {F : Nm → Option Nat} {G : Nat → ByteArray → Option (Vl × Vl)} (p : Vl × Vl) (h : o.attr ≠ em) (hF : F (nb o.var) = none) : FindP o F G p false := by unfold FindP; rw [if_neg h, hF]
theorem lit_inj9 {x c : Int} (h : (DataW.lit (H := Unit) (.int .i64 x)) = .lit (.int .i64 c)) : x = c := by simpa using h
theorem idx_some9 {w : World} {M1 M2 : Nat} {F : Nm → Option Nat} {G : Nat → ByteArray → Option (Vl × Vl)} (h : IdxAt w M1 M2 F G) {v : Nm} {i : Nat} (hF : F v = some i) {a : ByteArray} (ha : a.size ≤ maxLen) {x y : Vl} (hxy : (G i a).getD (zeroL, zeroL) = (x, y)) :
    ∃ n1 D1 n2 D2, w.ownsMap Try.prog 9 (plainElem (H := Unit) Try.prog 3) M1 n1 D1 ∧ Maps.has D1 (.string v) = true ∧ D1.atKey (.string v) (.lit (.int .i64 0)) = .lit (.int .i64 (i : Int)) ∧ w.ownsMap Try.prog 125 fndE M2 n2 D2 ∧
      ∀ v' ps, fndE v' = some (D2.atKey (.string (keyBytes [.int .i64 (i : Int), .string (nb a)])) (fndD zeroL zeroL), ps) → v' = fndV x y := by
  obtain ⟨⟨n1, D1, h1, h2⟩, ⟨n2, D2, h3, h4⟩, h5⟩ := h
  refine ⟨n1, D1, n2, D2, h1, by rw [(h2.2 v).1, hF]; rfl, (h2.2 v).2 i hF, h3, fun v' ps hh => ?_⟩
  have e := (h4.2 i a (h5 _ _ hF) ha).2
  rw [hxy] at e
  have e2 : D2.atKey (.string (keyBytes [.int .i64 (i : Int), .string (nb a)])) (fndD zeroL zeroL) = fndD x y := e
  rw [e2] at hh
  exact fndE_inv hh
theorem idx_none9 {w : World} {M1 M2 : Nat} {F : Nm → Option Nat} {G : Nat → ByteArray → Option (Vl × Vl)} (h : IdxAt w M1 M2 F G) {v : Nm} (hF : F v = none) {a : ByteArray} (ha : a.size ≤ maxLen) {x y : Vl} (hxy : (G 0 a).getD (zeroL, zeroL) = (x, y)) :
    ∃ n1 D1 n2 D2, w.ownsMap Try.prog 9 (plainElem (H := Unit) Try.prog 3) M1 n1 D1 ∧ Maps.has D1 (.string v) = false ∧ D1.atKey (.string v) (.lit (.int .i64 0)) = .lit (.int .i64 0) ∧ w.ownsMap Try.prog 125 fndE M2 n2 D2 ∧
      ∀ v' ps, fndE v' = some (D2.atKey (.string (keyBytes [.int .i64 0, .string (nb a)])) (fndD zeroL zeroL), ps) → v' = fndV x y := by
  obtain ⟨⟨n1, D1, h1, h2⟩, ⟨n2, D2, h3, h4⟩, h5⟩ := h
  have hno : Maps.has D1 (.string v) = false := by rw [(h2.2 v).1, hF]; rfl
  refine ⟨n1, D1, n2, D2, h1, hno, atKey_no h2.1 hno _, h3, fun v' ps hh => ?_⟩
  have e := (h4.2 0 a (Nat.zero_le _) ha).2
  rw [hxy] at e
  have e2 : D2.atKey (.string (keyBytes [.int .i64 0, .string (nb a)])) (fndD zeroL zeroL) = fndD x y := e
  rw [e2] at hh
  exact fndE_inv hh
set_option maxRecDepth 100000 in
set_option maxHeartbeats 4000000 in
theorem pFind_any (o : Opd) (M1 M2 : Nat) (F : Nm → Option Nat) (G : Nat → ByteArray → Option (Vl × Vl)) (w : World) (h : IdxAt w M1 M2 F G) (hv : o.var.size ≤ maxLen) (ha : o.attr.size ≤ maxLen) :
    Calls Try.prog 81 #[.agg #[.map (some M1), .map (some M2)], opV o] w fun e w' => ∃ p ok, e = .returned (.tuple #[fndV p.1 p.2, .bool ok]) ∧ FindP o F G p ok ∧ Below w.heap.size w w' := by
  obtain ⟨v, a, k, m, s⟩ := o
  unfold opV
  simp only at hv ha ⊢
  obtain ⟨P, hP⟩ : ∃ P, P = w.heap.size := ⟨_, rfl⟩
  obtain ⟨W, hW⟩ : ∃ W, W = ((w.alloc (.cells #[.map (some M1), .map (some M2)] 88)).alloc (.cells #[.string v, .string a, .int .i64 k, .int .i64 m, .string s] 25)).alloc (.cells #[.int .i64 0, .int .i64 0, .string ⟨#[]⟩, .int .i64 0, .int .i64 0, .string ⟨#[]⟩] 127) := ⟨_, rfl⟩
  have hq0 : W.heap[P]? = some (.cells #[.map (some M1), .map (some M2)] 88 (0, 0)) := by
    rw [hW, hP, heap_alloc_old _ _ (by simp; omega), heap_alloc_old _ _ (by simp)]; exact heap_alloc_new _ _
  have hq1 : W.heap[P + 1]? = some (.cells #[.string v, .string a, .int .i64 k, .int .i64 m, .string s] 25 (0, 0)) := by
    rw [hW, hP, heap_alloc_old _ _ (by simp)]
    have := heap_alloc_new (w.alloc (.cells #[.map (some M1), .map (some M2)] 88)) (.cells #[.string v, .string a, .int .i64 k, .int .i64 m, .string s] 25)
    simpa using this
  have hq2 : W.heap[P + 1 + 1]? = some (.cells #[.int .i64 0, .int .i64 0, .string ⟨#[]⟩, .int .i64 0, .int .i64 0, .string ⟨#[]⟩] 127 (0, 0)) := by
    rw [hW, hP]
    have := heap_alloc_new ((w.alloc (.cells #[.map (some M1), .map (some M2)] 88)).alloc (.cells #[.string v, .string a, .int .i64 k, .int .i64 m, .string s] 25)) (.cells #[.int .i64 0, .int .i64 0, .string ⟨#[]⟩, .int .i64 0, .int .i64 0, .string ⟨#[]⟩] 127)
    simpa using this
  have hb : Below P w W := by rw [hW, hP]; exact (((Below.refl _ _).alloc (Nat.le_refl _) _).alloc (by simp) _).alloc (by simp; omega) _
  have hz : P + 3 ≤ W.heap.size := lt_of_block hq2
  have HX := Lib.hid (fun (u : World) (hu : Below W.heap.size W u) => (⟨cell_of_two9 ((hu.block P (by omega)).trans hq0), cell_of_five ((hu.block (P + 1) (by omega)).trans hq1), cell_of_six9 ((hu.block (P + 1 + 1) (by omega)).trans hq2), by have := hu.size; omega⟩ : _ ∧ _ ∧ _ ∧ (P < u.heap.size ∧ P + 1 < u.heap.size ∧ P + 1 + 1 < u.heap.size)))
  have HI := Lib.hid (fun (u : World) (hu : Below W.heap.size W u) => h.below (hP ▸ (hb.trans (hu.mono (by omega)))))
  have HC0 := Lib.hid (fun u : World => pConst_any v a k m s u)
  have HB := Lib.hid hb; have HP := Lib.hid hP; have HW := Lib.hid hW; have HZ := Lib.hid hz
  have B2 := Lib.hid (Below.refl W.heap.size W)
  clear h hq0 hq1 hq2 hb hz hP hW
  by_cases hae : a = em
  · have HFC := Lib.hid (find_const (o := ⟨v, a, k, m, s⟩) (F := F) (G := G) hae)
    subst hae
    simp only [decide_true] at HC0
    unfold em at *
    go_enter Try.func81, Try.ntmps81
    go_wp2_with fail
    rw [← HW.out, ← HP.out]
    obtain ⟨⟨i0', i1'⟩, ⟨c0, c1, c2, c3, c4⟩, ⟨⟨z0, z1, z2, z3, z4, z5⟩, f0, f1, f2, f3, f4, f5⟩, l0, l1, l2⟩ := HX.out _ B2.out
    go_wp2_with (go_at_call 44; (with_reducible refine (HC0.out _).mono ?_); rintro e u ⟨rfl, hb⟩; have B2 := Lib.hid hb; clear hb i0' i1' c0 c1 c2 c3 c4 z0 z1 z2 z3 z4 z5 f0 f1 f2 f3 f4 f5 l0 l1 l2; obtain ⟨⟨i0', i1'⟩, ⟨c0, c1, c2, c3, c4⟩, ⟨⟨z0, z1, z2, z3, z4, z5⟩, f0, f1, f2, f3, f4, f5⟩, l0, l1, l2⟩ := HX.out _ B2.out)
    refine bodyPost_ret (v := .tuple #[fndV (constL ⟨v, ⟨#[]⟩, k, m, s⟩) zeroL, .bool true]) (by simp [results, Try.results81, go_sem, constL, fndV, zeroL, z0, z1, z2, z3, z4, z5, l2]) rfl ⟨_, _, rfl, HFC.out, ?_⟩
    have hb := HB.out.trans (B2.out.mono (by have := HZ.out; omega))
    rw [← HP.out]
    repeat (first | (with_reducible exact hb) | (with_reducible refine Below.setCell ?_ (by show P ≤ P + 1 + 1; omega) _))
  · have n1 := ne_em2 hae; have n2 := ne_em3 hae
    simp only [decide_eq_false hae] at HC0
    have hkey : keyOf Try.prog 9 (.string v) = some (.string (nb v)) := keyOf_string_mk Try.underlying9 hv
    cases hF : F (nb v) with
    | some i =>
      have hi : i ≤ 140737488355328 := (HI.out W (Below.refl _ _)).small _ _ hF
      have hkey2 := spot_key (wf_small hi) ha
      obtain ⟨x, y, hxy⟩ : ∃ x y, (G i a).getD (zeroL, zeroL) = (x, y) := ⟨_, _, rfl⟩
      have HFC : Hid (FindP ⟨v, a, k, m, s⟩ F G (x, y) true) := Lib.hid (by have := find_some (o := ⟨v, a, k, m, s⟩) (G := G) hae hF; rw [hxy] at this; exact this)
      have HIU := Lib.hid (fun (u : World) (hu : Below W.heap.size W u) => idx_some9 (HI.out u hu) hF ha hxy)
      unfold fndV at HIU
      clear hae hF hxy hi HI hv ha
      go_enter Try.func81, Try.ntmps81
      go_wp2_with fail
      rw [← HW.out, ← HP.out]
      obtain ⟨⟨i0', i1'⟩, ⟨c0, c1, c2, c3, c4⟩, ⟨⟨z0, z1, z2, z3, z4, z5⟩, f0, f1, f2, f3, f4, f5⟩, l0, l1, l2⟩ := HX.out _ B2.out
      go_wp2_with (first
        | (go_at_call 44; (with_reducible refine (HC0.out _).mono ?_); rintro e u ⟨rfl, hb⟩; have B2 := Lib.hid hb; clear hb i0' i1' c0 c1 c2 c3 c4 z0 z1 z2 z3 z4 z5 f0 f1 f2 f3 f4 f5 l0 l1 l2; obtain ⟨⟨i0', i1'⟩, ⟨c0, c1, c2, c3, c4⟩, ⟨⟨z0, z1, z2, z3, z4, z5⟩, f0, f1, f2, f3, f4, f5⟩, l0, l1, l2⟩ := HX.out _ B2.out; obtain ⟨n1, D1, n2, D2, hown1, hh, hat, hown2, hv4⟩ := HIU.out u B2.out)
        | (at_lookup; refine wpList_lookup_own_ok_int _ rfl _ _ 85 rfl 9 3 .i64 lawS9 Try.underlying85 Try.underlying3 (zeroI _) M1 n1 D1 rfl hown1 _ _ rfl hkey ?_; intro c hc hwc; rw [hat] at hc; obtain rfl := lit_inj9 hc; rw [hh])
        | (at_lookup; refine wpList_lookup_no9 _ rfl _ _ 86 rfl 125 127 spotLaw Try.underlying86 fndE (zeroF _) _ _ (fndE_mk zeroL zeroL) M2 n2 D2 rfl hown2 _ _ rfl hkey2 _ hv4 ?_))
      refine bodyPost_ret (v := .tuple #[fndV x y, .bool true]) (by simp [results, Try.results81, go_sem, fndV, z0, z1, z2, z3, z4, z5, l2]) rfl ?_
      refine ⟨x, y, .inr ⟨rfl, HFC.out, ?_⟩⟩
      have hb := HB.out.trans (B2.out.mono (by have := HZ.out; omega))
      rw [← HP.out]
      repeat (first | (with_reducible exact hb) | (with_reducible refine Below.setCell ?_ (by show P ≤ P + 1 + 1; omega) _))
    | none =>
      have hkey2 := spot_key (i := (0 : Int)) (by decide) ha
      obtain ⟨x, y, hxy⟩ : ∃ x y, (G 0 a).getD (zeroL, zeroL) = (x, y) := ⟨_, _, rfl⟩
      have HFC : Hid (FindP ⟨v, a, k, m, s⟩ F G (x, y) false) := Lib.hid (find_none (o := ⟨v, a, k, m, s⟩) (x, y) hae hF)
      have HIU := Lib.hid (fun (u : World) (hu : Below W.heap.size W u) => idx_none9 (HI.out u hu) hF ha hxy)
      unfold fndV at HIU
      clear hae hF hxy HI hv ha
      go_enter Try.func81, Try.ntmps81
      go_wp2_with fail
      rw [← HW.out, ← HP.out]
      obtain ⟨⟨i0', i1'⟩, ⟨c0, c1, c2, c3, c4⟩, ⟨⟨z0, z1, z2, z3, z4, z5⟩, f0, f1, f2, f3, f4, f5⟩, l0, l1, l2⟩ := HX.out _ B2.out
      go_wp2_with (first
        | (go_at_call 44; (with_reducible refine (HC0.out _).mono ?_); rintro e u ⟨rfl, hb⟩; have B2 := Lib.hid hb; clear hb i0' i1' c0 c1 c2 c3 c4 z0 z1 z2 z3 z4 z5 f0 f1 f2 f3 f4 f5 l0 l1 l2; obtain ⟨⟨i0', i1'⟩, ⟨c0, c1, c2, c3, c4⟩, ⟨⟨z0, z1, z2, z3, z4, z5⟩, f0, f1, f2, f3, f4, f5⟩, l0, l1, l2⟩ := HX.out _ B2.out; obtain ⟨n1, D1, n2, D2, hown1, hh, hat, hown2, hv4⟩ := HIU.out u B2.out)
        | (at_lookup; refine wpList_lookup_own_ok_int _ rfl _ _ 85 rfl 9 3 .i64 lawS9 Try.underlying85 Try.underlying3 (zeroI _) M1 n1 D1 rfl hown1 _ _ rfl hkey ?_; intro c hc hwc; rw [hat] at hc; obtain rfl := lit_inj9 hc; rw [hh])
        | (at_lookup; refine wpList_lookup_no9 _ rfl _ _ 86 rfl 125 127 spotLaw Try.underlying86 fndE (zeroF _) _ _ (fndE_mk zeroL zeroL) M2 n2 D2 rfl hown2 _ _ rfl hkey2 _ hv4 ?_))
      refine bodyPost_ret (v := .tuple #[fndV x y, .bool false]) (by simp [results, Try.results81, go_sem, fndV, z0, z1, z2, z3, z4, z5, l2]) rfl ?_
      refine ⟨x, y, .inl ⟨rfl, HFC.out, ?_⟩⟩
      have hb := HB.out.trans (B2.out.mono (by have := HZ.out; omega))
      rw [← HP.out]
      repeat (first | (with_reducible exact hb) | (with_reducible refine Below.setCell ?_ (by show P ≤ P + 1 + 1; omega) _))
end Go.Proofs.Ytpbloplbpkedcaa
