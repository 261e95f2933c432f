/- Trees in memory of their own: rows of nodes as lists of cells, with the blocks that stand below them. -/
import Derived.Test.YtnfjodkpapmfkaaFo7
import Derived.Test.YtnfjodkpapmfkaaChg6
import Derived.Laws.OwnMore
namespace Go.Proofs.Ytnfjodkpapmfkaa
open Go Go.RowKit

/-- A node's five cells. -/
def nd5 (d : Nt) (ta : Option Addr) (tc : Nat) (ka : Option Addr) (kl kc : Nat) : List Value := [.int .i64 d.kind, .string d.var, .string d.ty, .slice ta d.tests.length tc, .slice ka kl kc]
theorem nd5_len (d : Nt) (ta : Option Addr) (tc : Nat) (ka : Option Addr) (kl kc : Nat) : (nd5 d ta tc ka kl kc).length = 5 := rfl
/-- Conditions in a row of one's own. -/
def CdO (w : World) (T : Nat → Prop) (ao : Option Addr) (l : List Cnd) : Prop :=
  l ≠ [] → ∃ b cs, ao = some ⟨b, 0, none⟩ ∧ T b ∧ w.heap[b]? = some (.cells cs 37 (0, 0)) ∧ 11 * l.length ≤ cs.size ∧ CdAt w l b 0
/-- What stands below a node: its conditions, the row of its kids. -/
def BlO (w : World) (d : Nt) (R : List Value → (Nat → Prop) → Prop) (kl : Nat) (M : Nat → Prop) (ta ka : Option Addr) : Prop :=
  ∃ T K : Nat → Prop, (∀ x, T x → M x) ∧ (∀ x, K x → M x) ∧ (∀ x, T x → ¬ K x) ∧ CdO w T ta d.tests ∧
    (0 < kl → ∃ b cs, ka = some ⟨b, 0, none⟩ ∧ K b ∧ w.heap[b]? = some (.cells cs 25 (0, 0)) ∧ 5 * kl ≤ cs.size ∧ R (cs.toList.take (5 * kl)) (fun x => K x ∧ x ≠ b))
/-- A row of nodes as cells; what stands below lies in blocks of S, each node's apart from the others'. -/
def VF (w : World) : Fo → List Value → (Nat → Prop) → Prop
  | .nil, xs, _ => xs = []
  | .cons d k n, xs, S => ∃ (M N : Nat → Prop) (ta : Option Addr) (tc : Nat) (ka : Option Addr) (kc : Nat) (rest : List Value), xs = nd5 d ta tc ka k.len kc ++ rest ∧
      (∀ x, M x → S x) ∧ (∀ x, N x → S x) ∧ (∀ x, M x → ¬ N x) ∧ BlO w d (VF w k) k.len M ta ka ∧ VF w n rest N
/-- A row of nodes as cells, whatever memory stands below. -/
def SF (w : World) (G : Nat → Prop) : Fo → List Value → Prop
  | .nil, xs => xs = []
  | .cons d k n, xs => ∃ (ta : Option Addr) (tc : Nat) (ka : Option Addr) (kc : Nat) (rest : List Value), xs = nd5 d ta tc ka k.len kc ++ rest ∧ CdV w G (.slice ta d.tests.length tc) d.tests ∧
      (k.isNil = false → ∃ b o, ka = some ⟨b, o, none⟩ ∧ G b ∧ FoAt w G k b o) ∧ SF w G n rest

theorem CdAt.same {w w' : World} {b : Nat} (h : w'.heap[b]? = w.heap[b]?) {l : List Cnd} {o : Nat} (hc : CdAt w l b o) : CdAt w' l b o :=
  CdAt.keep (G := fun x => x = b) (fun x hx => by rw [hx]; exact h) rfl hc
theorem CdO.keep {w w' : World} {T : Nat → Prop} {ao : Option Addr} {l : List Cnd} (h : CdO w T ao l) (hk : Keep T w w') : CdO w' T ao l := fun hl => by
  obtain ⟨b, cs, e, hT, hb, hs, hc⟩ := h hl
  exact ⟨b, cs, e, hT, (hk b hT).trans hb, hs, hc.same (hk b hT)⟩
theorem CdO.mono {w : World} {T T' : Nat → Prop} {ao : Option Addr} {l : List Cnd} (h : CdO w T ao l) (hk : ∀ x, T x → T' x) : CdO w T' ao l := fun hl => by
  obtain ⟨b, cs, e, hT, hb, hs, hc⟩ := h hl
  exact ⟨b, cs, e, hk b hT, hb, hs, hc⟩
theorem CdO.cdv {w : World} {T : Nat → Prop} {ao : Option Addr} {l : List Cnd} (h : CdO w T ao l) (tc : Nat) : CdV w T (.slice ao l.length tc) l :=
  ⟨ao, tc, rfl, fun hl => by
    obtain ⟨b, cs, e, hT, _, _, hc⟩ := h hl
    exact ⟨b, 0, e, hT, hc⟩⟩
theorem BlO.keep {w w' : World} {d : Nt} {R R' : List Value → (Nat → Prop) → Prop} {kl : Nat} {M : Nat → Prop} {ta ka : Option Addr} (h : BlO w d R kl M ta ka) (hk : Keep M w w')
    (hR : ∀ ys S, Keep S w w' → R ys S → R' ys S) : BlO w' d R' kl M ta ka := by
  obtain ⟨T, K, hT, hK, hd, hc, hr⟩ := h
  refine ⟨T, K, hT, hK, hd, hc.keep (hk.mono hT), fun hl => ?_⟩
  obtain ⟨b, cs, e, hKb, hb, hs, hv⟩ := hr hl
  exact ⟨b, cs, e, hKb, (hk b (hK b hKb)).trans hb, hs, hR _ _ (hk.mono (fun x hx => hK x hx.1)) hv⟩
theorem BlO.mono {w : World} {d : Nt} {R : List Value → (Nat → Prop) → Prop} {kl : Nat} {M M' : Nat → Prop} {ta ka : Option Addr} (h : BlO w d R kl M ta ka) (hk : ∀ x, M x → M' x) : BlO w d R kl M' ta ka := by
  obtain ⟨T, K, hT, hK, r⟩ := h
  exact ⟨T, K, fun x hx => hk x (hT x hx), fun x hx => hk x (hK x hx), r⟩
theorem VF.keep {w w' : World} : ∀ {f : Fo} {xs : List Value} {S : Nat → Prop}, Keep S w w' → VF w f xs S → VF w' f xs S
  | .nil, _, _, _, h => h
  | .cons d k n, xs, S, hk, ⟨M, N, ta, tc, ka, kc, rest, e, hM, hN, hd, hb, hv⟩ =>
    ⟨M, N, ta, tc, ka, kc, rest, e, hM, hN, hd, hb.keep (hk.mono hM) (fun _ _ hk' h => VF.keep hk' h), VF.keep (hk.mono hN) hv⟩
theorem BlO.keepV {w w' : World} {d : Nt} {k : Fo} {kl : Nat} {M : Nat → Prop} {ta ka : Option Addr} (h : BlO w d (VF w k) kl M ta ka) (hk : Keep M w w') : BlO w' d (VF w' k) kl M ta ka :=
  h.keep hk (fun _ _ hk' h => VF.keep hk' h)
theorem VF.mono {w : World} : ∀ {f : Fo} {xs : List Value} {S S' : Nat → Prop}, (∀ x, S x → S' x) → VF w f xs S → VF w f xs S'
  | .nil, _, _, _, _, h => h
  | .cons _ _ _, _, _, _, hk, ⟨M, N, ta, tc, ka, kc, rest, e, hM, hN, r⟩ => ⟨M, N, ta, tc, ka, kc, rest, e, fun x hx => hk x (hM x hx), fun x hx => hk x (hN x hx), r⟩
theorem VF.len {w : World} : ∀ {f : Fo} {xs : List Value} {S : Nat → Prop}, VF w f xs S → xs.length = 5 * f.len
  | .nil, _, _, h => by rw [show _ = _ from h]; rfl
  | .cons d k n, xs, S, ⟨M, N, ta, tc, ka, kc, rest, e, hM, hN, hd, hb, hv⟩ => by
    have := VF.len hv
    rw [e, List.length_append, nd5_len, this]; simp only [Fo.len]; omega
theorem SF.len {w : World} {G : Nat → Prop} : ∀ {f : Fo} {xs : List Value}, SF w G f xs → xs.length = 5 * f.len
  | .nil, _, h => by rw [show _ = _ from h]; rfl
  | .cons d k n, xs, ⟨ta, tc, ka, kc, rest, e, _, _, hv⟩ => by
    have := SF.len hv
    rw [e, List.length_append, nd5_len, this]; simp only [Fo.len]; omega
theorem nd5_one (d : Nt) (ta : Option Addr) (tc : Nat) (ka : Option Addr) (kl kc : Nat) : ∀ u ∈ nd5 d ta tc ka kl kc, u.oneCell' = true := by
  intro u hu
  simp only [nd5, List.mem_cons, List.not_mem_nil, or_false] at hu
  rcases hu with rfl | rfl | rfl | rfl | rfl <;> rfl
theorem SF.one {w : World} {G : Nat → Prop} : ∀ {f : Fo} {xs : List Value}, SF w G f xs → ∀ u ∈ xs, u.oneCell' = true
  | .nil, _, h => by rw [show _ = _ from h]; intro u hu; cases hu
  | .cons d k n, xs, ⟨ta, tc, ka, kc, rest, e, _, _, hv⟩ => by
    intro u hu
    rw [e, List.mem_append] at hu
    exact hu.elim (nd5_one _ _ _ _ _ _ u) (SF.one hv u)
theorem VF.one {w : World} : ∀ {f : Fo} {xs : List Value} {S : Nat → Prop}, VF w f xs S → ∀ u ∈ xs, u.oneCell' = true
  | .nil, _, _, h => by rw [show _ = _ from h]; intro u hu; cases hu
  | .cons d k n, xs, S, ⟨M, N, ta, tc, ka, kc, rest, e, hM, hN, hd, hb, hv⟩ => by
    intro u hu
    rw [e, List.mem_append] at hu
    exact hu.elim (nd5_one _ _ _ _ _ _ u) (VF.one hv u)
theorem SF.keep {w w' : World} {G : Nat → Prop} (hk : Keep G w w') : ∀ {f : Fo} {xs : List Value}, SF w G f xs → SF w' G f xs
  | .nil, _, h => h
  | .cons d k n, xs, ⟨ta, tc, ka, kc, rest, e, ht, hkk, hv⟩ => ⟨ta, tc, ka, kc, rest, e, ht.keep hk, fun hh => by
      obtain ⟨b, o, e, hb, hf⟩ := hkk hh
      exact ⟨b, o, e, hb, FoAt.keep hk hb hf⟩, SF.keep hk hv⟩
theorem FoAt.list {w : World} {G : Nat → Prop} : ∀ {f : Fo} {b o : Nat}, FoAt w G f b o → ∃ xs, SF w G f xs ∧ ∀ j u, xs[j]? = some u → w.cell? ⟨b, o + j, none⟩ = some u
  | .nil, _, _, _ => ⟨[], rfl, fun _ _ h => by simp at h⟩
  | .cons d k n, b, o, ⟨⟨ta, tc, ka, kc, c0, c1, c2, c3, c4, ht, hk⟩, hn⟩ => by
    obtain ⟨ys, hv, hc⟩ := FoAt.list hn
    refine ⟨nd5 d ta tc ka k.len kc ++ ys, ⟨ta, tc, ka, kc, ys, rfl, ht, hk, hv⟩, fun j u hj => ?_⟩
    match j, hj with
    | 0, hj => cases hj; exact c0
    | 1, hj => cases hj; exact c1
    | 2, hj => cases hj; exact c2
    | 3, hj => cases hj; exact c3
    | 4, hj => cases hj; exact c4
    | j + 5, hj =>
      have := hc j u (by simpa [nd5] using hj)
      rwa [show o + (j + 5) = o + 5 + j by omega]
theorem SF.drop {w : World} {G : Nat → Prop} : ∀ {f : Fo} {xs : List Value} (i : Nat), SF w G f xs → SF w G (f.drop i) (xs.drop (5 * i))
  | f, xs, 0, h => by rw [Fo.drop_zero]; exact h
  | .nil, xs, i + 1, h => by rw [show xs = [] from h]; simp [Fo.drop, SF]
  | .cons d k n, xs, i + 1, ⟨ta, tc, ka, kc, rest, e, _, _, hv⟩ => by
    rw [e, show 5 * (i + 1) = 5 + 5 * i by omega, ← List.drop_drop]
    exact SF.drop i hv
theorem SF.foAt {w : World} {G : Nat → Prop} : ∀ {f : Fo} {xs : List Value} {b o : Nat}, SF w G f xs → (∀ j u, xs[j]? = some u → w.cell? ⟨b, o + j, none⟩ = some u) → FoAt w G f b o
  | .nil, _, _, _, _, _ => trivial
  | .cons d k n, xs, b, o, ⟨ta, tc, ka, kc, rest, e, ht, hk, hv⟩, hc => by
    subst e
    refine ⟨⟨ta, tc, ka, kc, hc 0 _ rfl, hc 1 _ rfl, hc 2 _ rfl, hc 3 _ rfl, hc 4 _ rfl, ht, hk⟩, SF.foAt hv (fun j u hj => ?_)⟩
    have := hc (5 + j) u (by rw [List.getElem?_append_right (by simp [nd5_len])]; simpa [nd5_len] using hj)
    rwa [show o + 5 + j = o + (5 + j) by omega]
/-- What is told of a tree of one's own is told of a tree. -/
theorem cells_of_take {w : World} {b : Nat} {cs : Array Value} {t : TypeId} (hb : w.heap[b]? = some (.cells cs t (0, 0))) (n : Nat) : ∀ j u, (cs.toList.take n)[j]? = some u → w.cell? ⟨b, 0 + j, none⟩ = some u := fun j u hj => by
  rw [List.getElem?_take] at hj
  split at hj
  · rw [Nat.zero_add, cell_of_row w b j cs t (0, 0) hb]
    simpa using hj
  · cases hj
theorem VF.sf {w : World} : ∀ {f : Fo} {xs : List Value} {S : Nat → Prop}, VF w f xs S → SF w S f xs
  | .nil, _, _, h => h
  | .cons d k n, xs, S, ⟨M, N, ta, tc, ka, kc, rest, e, hM, hN, hd, ⟨T, K, hT, hK, hdd, hc, hr⟩, hv⟩ => by
    refine ⟨ta, tc, ka, kc, rest, e, (hc.cdv tc).mono (fun x hx => hM x (hT x hx)), fun hh => ?_, ?_⟩
    · obtain ⟨b, cs, e, hKb, hb, hs, hvk⟩ := hr (by rw [Fo.isNil_len] at hh; exact Nat.pos_of_ne_zero (of_decide_eq_false hh))
      exact ⟨b, 0, e, hM b (hK b hKb), FoAt.mono (fun x hx => hM x (hK x hx.1)) ((VF.sf hvk).foAt (cells_of_take hb _))⟩
    · have := VF.sf hv
      exact SF.mono' hN this
where
  SF.mono' {w : World} {G H : Nat → Prop} (hk : ∀ x, G x → H x) : ∀ {f : Fo} {xs : List Value}, SF w G f xs → SF w H f xs
    | .nil, _, h => h
    | .cons d k n, xs, ⟨ta, tc, ka, kc, rest, e, ht, hkk, hv⟩ => ⟨ta, tc, ka, kc, rest, e, ht.mono hk, fun hh => by
        obtain ⟨b, o, e, hb, hf⟩ := hkk hh
        exact ⟨b, o, e, hk b hb, FoAt.mono hk hf⟩, SF.mono' hk hv⟩
theorem BlO.kdv {w : World} {d : Nt} {k : Fo} {M : Nat → Prop} {ta ka : Option Addr} (h : BlO w d (VF w k) k.len M ta ka) (tc kc : Nat) : CdV w M (.slice ta d.tests.length tc) d.tests ∧ (k.isNil = false → ∃ b o, ka = some ⟨b, o, none⟩ ∧ M b ∧ FoAt w M k b o) := by
  obtain ⟨T, K, hT, hK, hdd, hc, hr⟩ := h
  refine ⟨(hc.cdv tc).mono hT, fun hh => ?_⟩
  obtain ⟨b, cs, e, hKb, hb, hs, hvk⟩ := hr (by rw [Fo.isNil_len] at hh; exact Nat.pos_of_ne_zero (of_decide_eq_false hh))
  exact ⟨b, 0, e, hK b hKb, FoAt.mono (fun x hx => hK x hx.1) (hvk.sf.foAt (cells_of_take hb _))⟩
theorem BlO.ndv {w : World} {d : Nt} {k : Fo} {M : Nat → Prop} {ta ka : Option Addr} (h : BlO w d (VF w k) k.len M ta ka) (tc kc : Nat) : NdV w M d k (.agg #[.int .i64 d.kind, .string d.var, .string d.ty, .slice ta d.tests.length tc, .slice ka k.len kc]) :=
  ⟨_, _, rfl, (h.kdv tc kc).1, ka, kc, rfl, (h.kdv tc kc).2⟩

/-- Rows one behind the other. -/
def Fo.app : Fo → Fo → Fo
  | .nil, g => g
  | .cons d k n, g => .cons d k (n.app g)
def Fo.take : Fo → Nat → Fo
  | _, 0 => .nil
  | .nil, _ + 1 => .nil
  | .cons d k n, i + 1 => .cons d k (n.take i)
theorem Fo.take_zero (f : Fo) : f.take 0 = .nil := by cases f <;> rfl
theorem Fo.take_len : ∀ f : Fo, f.take f.len = f
  | .nil => rfl
  | .cons d k n => by show Fo.cons d k (n.take n.len) = _; rw [Fo.take_len n]
theorem Fo.take_snoc : ∀ {f : Fo} {i : Nat} {d : Nt} {k n : Fo}, f.drop i = .cons d k n → f.take (i + 1) = (f.take i).app (.cons d k .nil)
  | .nil, 0, _, _, _, h => by simp [Fo.drop_zero] at h
  | .cons d' k' n', 0, d, k, n, h => by
    simp only [Fo.drop_zero, Fo.cons.injEq] at h
    obtain ⟨rfl, rfl, rfl⟩ := h
    simp [Fo.take, Fo.take_zero, Fo.app]
  | .nil, i + 1, _, _, _, h => by simp [Fo.drop] at h
  | .cons d' k' n', i + 1, d, k, n, h => by
    show Fo.cons d' k' (n'.take (i + 1)) = Fo.cons d' k' ((n'.take i).app _)
    rw [Fo.take_snoc (f := n') (i := i) h]
theorem Fo.app_len : ∀ f g : Fo, (f.app g).len = f.len + g.len
  | .nil, g => by simp [Fo.app, Fo.len]
  | .cons d k n, g => by simp only [Fo.app, Fo.len, Fo.app_len n g]; omega
theorem Fo.app_nil : ∀ f : Fo, f.app .nil = f
  | .nil => rfl
  | .cons d k n => by simp only [Fo.app, Fo.app_nil n]
theorem Fo.app_assoc : ∀ f g h : Fo, (f.app g).app h = f.app (g.app h)
  | .nil, g, h => rfl
  | .cons d k n, g, h => by simp only [Fo.app, Fo.app_assoc n g h]
theorem VF.app {w : World} : ∀ {f g : Fo} {xs ys : List Value} {S S' U : Nat → Prop}, VF w f xs S → VF w g ys S' → (∀ x, S x → ¬ S' x) → (∀ x, S x → U x) → (∀ x, S' x → U x) → VF w (f.app g) (xs ++ ys) U
  | .nil, g, xs, ys, S, S', U, h, hg, _, _, h2 => by rw [show xs = [] from h]; exact hg.mono h2
  | .cons d k n, g, xs, ys, S, S', U, ⟨M, N, ta, tc, ka, kc, rest, e, hM, hN, hd, hb, hv⟩, hg, hdis, h1, h2 => by
    subst e
    exact ⟨M, fun x => N x ∨ S' x, ta, tc, ka, kc, rest ++ ys, by rw [List.append_assoc], fun x hx => h1 x (hM x hx), fun x hx => hx.elim (fun hx => h1 x (hN x hx)) (h2 x),
      fun x hx hh => hh.elim (hd x hx) (hdis x (hM x hx)), hb, VF.app hv hg (fun x hx => hdis x (hN x hx)) (fun _ => .inl) (fun _ => .inr)⟩
theorem VF.nil (w : World) (S : Nat → Prop) : VF w .nil [] S := rfl
theorem VF.single {w : World} {d : Nt} {k : Fo} {M : Nat → Prop} {ta ka : Option Addr} (h : BlO w d (VF w k) k.len M ta ka) (tc kc : Nat) : VF w (.cons d k .nil) (nd5 d ta tc ka k.len kc) M :=
  ⟨M, fun _ => False, ta, tc, ka, kc, [], by simp, fun _ h => h, fun _ h => h.elim, fun _ _ h => h, h, rfl⟩
theorem SF.mono {w : World} {G H : Nat → Prop} (hk : ∀ x, G x → H x) {f : Fo} {xs : List Value} (h : SF w G f xs) : SF w H f xs := VF.sf.SF.mono' hk h
/-- Five cells of a row that is cells and more cells. -/
theorem set5 {cs : Array Value} {ys rest : List Value} {a b c e g : Value} {o : Nat} (h : cs.toList = ys ++ a :: b :: c :: e :: g :: rest) (hl : ys.length = o) (u v : Value) :
    ((cs.setIfInBounds (o + 3) u).setIfInBounds (o + 4) v).toList = ys ++ a :: b :: c :: u :: v :: rest := by
  rw [Array.toList_setIfInBounds, Array.toList_setIfInBounds, h, List.set_append_right _ _ (by omega), List.set_append_right _ _ (by omega), hl, show o + 3 - o = 3 by omega, show o + 4 - o = 4 by omega]
  rfl
theorem at5 {cs : Array Value} {ys rest zs : List Value} {o : Nat} (h : cs.toList = ys ++ (zs ++ rest)) (hl : ys.length = o) : ∀ j u, zs[j]? = some u → cs[o + j]? = some u := fun j u hj => by
  have hlt := (List.getElem?_eq_some_iff.1 hj).1
  rw [← Array.getElem?_toList, h, List.getElem?_append_right (by omega), hl, show o + j - o = j by omega, List.getElem?_append_left hlt]
  exact hj
end Go.Proofs.Ytnfjodkpapmfkaa
