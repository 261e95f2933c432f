/- The program's streams and the document's in one world: how they stand, and what each call makes of it. -/
import Derived.Test.YthjhbnfedelniaaAk4
import Derived.Test.YthjhbnfedelniaaCl4
import Derived.Test.YthjhbnfedelniaaRi4a
import Derived.Test.YthjhbnfedelniaaCls
namespace Go.Proofs.Ythjhbnfedelniaa
open Go Go.RowKit

/-- The program's streams in block qx, all of theirs in F; the document's in block qr, all else of theirs in G; nothing below B has turned. -/
structure T2 (B : Nat) (W : World) (k qx : Nat) (F : Nat → Prop) (sd : List Sd) (evs : List Ev) (qr : Nat) (G : Nat → Prop) (evr : List Ev) (vs : List Value) (gone : List Bool) (w : World) : Prop where
  base : Below B W w
  st : StIs w F qx k sd evs
  rs : RsAt w G qr k evr vs gone
  fB : ∀ b, F b → B ≤ b
  gB : ∀ b, G b → B ≤ b
  qB : B ≤ qr
  fg : ∀ b, F b → ¬ G b
  fq : ¬ F qr
  bz : B ≤ w.heap.size
theorem T2.call {B : Nat} {W : World} {k qx : Nat} {F : Nat → Prop} {sd : List Sd} {evs : List Ev} {qr : Nat} {G : Nat → Prop} {evr : List Ev} {vs : List Value} {gone : List Bool} {w w' : World} (h : T2 B W k qx F sd evs qr G evr vs gone w) (hb : Below w.heap.size w w') : T2 B W k qx F sd evs qr G evr vs gone w' :=
  ⟨h.base.trans (hb.mono h.bz), h.st.below hb, h.rs.below hb, h.fB, h.gB, h.qB, h.fg, h.fq, Nat.le_trans h.bz hb.size⟩
theorem T2.drew {B : Nat} {W : World} {k qx : Nat} {F : Nat → Prop} {sd : List Sd} {evs : List Ev} {qr : Nat} {G : Nat → Prop} {evr : List Ev} {vs : List Value} {gone : List Bool} {w : World} (h : T2 B W k qx F sd evs qr G evr vs gone w) : T2 B W k qx F sd evs qr G evr vs gone w.drew := h.call (Below.refl _ _).drew
/-- The program's streams turned. -/
theorem T2.prog {B : Nat} {W : World} {k qx qx' : Nat} {F F' : Nat → Prop} {sd sd' : List Sd} {evs evs' : List Ev} {qr : Nat} {G : Nat → Prop} {evr : List Ev} {vs : List Value} {gone : List Bool} {w w' : World} (h : T2 B W k qx F sd evs qr G evr vs gone w)
    (hst : StIs w' F' qx' k sd' evs') (hc : Chg F w w') (hF : ∀ b, F' b → F b ∨ w.heap.size ≤ b) : T2 B W k qx' F' sd' evs' qr G evr vs gone w' :=
  ⟨h.base.trans (hc.below h.bz h.fB), hst, h.rs.chg hc (fun b hg hf => h.fg b hf hg) h.fq, fun b hb => (hF b hb).elim (h.fB b) (fun hh => Nat.le_trans h.bz hh), h.gB, h.qB,
    fun b hb hg => (hF b hb).elim (fun hf => h.fg b hf hg) (fun hh => by have := h.rs.glt b hg; omega), fun hb => (hF qr hb).elim h.fq (fun hh => by have := h.rs.qlt; omega), Nat.le_trans h.bz hc.size⟩
/-- The document's streams turned. -/
theorem T2.ref {B : Nat} {W : World} {k qx : Nat} {F : Nat → Prop} {sd : List Sd} {evs : List Ev} {qr : Nat} {G G' : Nat → Prop} {evr evr' : List Ev} {vs vs' : List Value} {gone gone' : List Bool} {w w' : World} (h : T2 B W k qx F sd evs qr G evr vs gone w)
    (hrs : RsAt w' G' qr k evr' vs' gone') (hc : Chg (fun b => b = qr) w w') (hG : ∀ b, G' b → G b ∨ w.heap.size ≤ b) : T2 B W k qx F sd evs qr G' evr' vs' gone' w' :=
  ⟨h.base.trans (hc.below h.bz (fun b hb => by rw [hb]; exact h.qB)), h.st.chg hc (fun b hf hq => h.fq (hq ▸ hf)), hrs, h.fB, fun b hb => (hG b hb).elim (h.gB b) (fun hh => Nat.le_trans h.bz hh), h.qB,
    fun b hf hg => (hG b hg).elim (h.fg b hf) (fun hh => by have := h.st.flt b hf; omega), h.fq, Nat.le_trans h.bz hc.size⟩

/-- Accept, either's. -/
theorem sAccept_two (B : Nat) (W : World) (k qx : Nat) (F : Nat → Prop) (sd : List Sd) (evs : List Ev) (qr : Nat) (G : Nat → Prop) (evr : List Ev) (vs : List Value) (gone : List Bool) (w : World) (h : T2 B W k qx F sd evs qr G evr vs gone w)
    (ev : Ev) (ao : Option Addr) (n cap : Nat) (hv : Av W B (.slice ao n cap) ev.ats) (hty : ev.ty.size ≤ maxLen) :
    Calls Try.prog 8 #[.pointer (some ⟨qx, 0, none⟩), evV ev (.slice ao n cap)] w fun e w' => e = .returned (.int .i64 (accErr k sd evs.length ev)) ∧ ∃ F', T2 B W k qx F' (if accErr k sd evs.length ev = 0 then accSd sd ev else sd) (if accErr k sd evs.length ev = 0 then evs ++ [ev] else evs) qr G evr vs gone w' ∧ Chg F w w' ∧ (∀ b, F' b → F b ∨ w.heap.size ≤ b) := by
  have hvw := hv.below h.base (Nat.le_refl _)
  by_cases he : accErr k sd evs.length ev = 0
  · rw [if_pos he, if_pos he]
    refine (sAccept_ok F qx k sd evs ev B ao n cap w h.st hvw h.bz hty (fun a ha hn hf => ?_) he).mono fun e w' ⟨h1, h2⟩ => ⟨by rw [he]; exact h1, _, h.prog h2.1 h2.2 (fun b hb => hb.imp id (fun hh => hh.1)), h2.2, fun b hb => hb.imp id (fun hh => hh.1)⟩
    obtain ⟨b1, q1, e1, e2, _⟩ := hvw.at hn
    rw [ha] at e1
    simp only [Option.some.injEq] at e1
    have := h.fB _ hf
    rw [e1] at this
    simp only at this
    omega
  · rw [if_neg he, if_neg he]
    exact (sAccept_err F qx k sd evs ev B ao n cap w h.st hvw h.bz hty he).mono fun e w' ⟨h1, h2⟩ => ⟨h1, F, h.call h2, Chg.of_below h2, fun b hb => .inl hb⟩
theorem r4Accept_two (B : Nat) (W : World) (k qx : Nat) (F : Nat → Prop) (sd : List Sd) (evs : List Ev) (qr : Nat) (G : Nat → Prop) (evr : List Ev) (vs : List Value) (gone : List Bool) (w : World) (h : T2 B W k qx F sd evs qr G evr vs gone w)
    (ev : Ev) (ao : Option Addr) (n cap : Nat) (hv : Av W B (.slice ao n cap) ev.ats) (hty : ev.ty.size ≤ maxLen) (hnil : ao = none → cap = 0) :
    Calls Try.prog 9 #[.pointer (some ⟨qr, 0, none⟩), evV ev (.slice ao n cap)] w fun e w' => e = .returned (.int .i64 (rAccErr k evr gone ev)) ∧ ∃ G' vs', T2 B W k qx F sd evs qr G' (if rAccErr k evr gone ev = 0 then evr ++ [ev] else evr) vs' gone w' ∧ Chg (fun b => b = qr) w w' := by
  have hvw := hv.below h.base (Nat.le_refl _)
  obtain ⟨s, sq, tm, ty, ats⟩ := ev
  simp only at hvw hty
  unfold evV
  simp only
  have done : ∀ {c : Int}, c ≠ 0 → (Calls Try.prog 9 #[.pointer (some ⟨qr, 0, none⟩), .agg #[.int .i64 s, .int .i64 sq, .int .i64 tm, .string ty, .slice ao n cap]] w fun e w' => e = .returned (.int .i64 c) ∧ Below w.heap.size w w') → rAccErr k evr gone ⟨s, sq, tm, ty, ats⟩ = c →
      Calls Try.prog 9 #[.pointer (some ⟨qr, 0, none⟩), .agg #[.int .i64 s, .int .i64 sq, .int .i64 tm, .string ty, .slice ao n cap]] w fun e w' => e = .returned (.int .i64 (rAccErr k evr gone ⟨s, sq, tm, ty, ats⟩)) ∧ ∃ G' vs', T2 B W k qx F sd evs qr G' (if rAccErr k evr gone ⟨s, sq, tm, ty, ats⟩ = 0 then evr ++ [⟨s, sq, tm, ty, ats⟩] else evr) vs' gone w' ∧ Chg (fun b => b = qr) w w' := fun {c} hc hh he => by
    rw [he, if_neg hc]
    exact hh.mono fun e w' ⟨h1, h2⟩ => ⟨h1, G, vs, h.call h2, Chg.of_below h2⟩
  by_cases hck : ckE ⟨s, sq, tm, ty, ats⟩ = 0
  case neg => exact done hck (r4Acc1 G qr k evr vs gone s sq tm ty ats B ao n cap w h.rs hvw h.bz hty hck) (by unfold rAccErr; rw [if_pos hck])
  cases hh : hasB k s with
  | false => exact done (by decide) (r4Acc2 G qr k evr vs gone s sq tm ty ats B ao n cap w h.rs hvw h.bz hty hck hh) (by unfold rAccErr; simp only [hck, hh]; simp)
  | true =>
    cases hg : gone[s.toNat]! with
    | true => exact done (by decide) (r4Acc3 G qr k evr vs gone s sq tm ty ats B ao n cap w h.rs hvw h.bz hty hck hh hg) (by unfold rAccErr; simp only [hck, hh, hg]; simp)
    | false =>
      by_cases hsq : sq = (cntL evr s : Int)
      case neg => exact done (by decide) (r4Acc4 G qr k evr vs gone s sq tm ty ats B ao n cap w h.rs hvw h.bz hty hck hh hg hsq) (by unfold rAccErr; simp only [hck, hh, hg]; simp [hsq])
      by_cases htm : tm < rMark k evr gone s
      · exact done (by decide) (r4Acc5 G qr k evr vs gone s sq tm ty ats B ao n cap w h.rs hvw h.bz hty hck hh hg hsq htm) (by unfold rAccErr; simp only [hck, hh, hg]; simp [hsq, htm])
      by_cases hl : 65536 ≤ evr.length
      · exact done (by decide) (r4Acc6 G qr k evr vs gone s sq tm ty ats B ao n cap w h.rs hvw h.bz hty hck hh hg hsq htm hl) (by unfold rAccErr; simp only [hck, hh, hg]; simp [hsq, htm, hl])
      · have he : rAccErr k evr gone ⟨s, sq, tm, ty, ats⟩ = 0 := by unfold rAccErr; simp only [hck, hh, hg]; simp [hsq, htm, hl]
        rw [he, if_pos rfl]
        exact (r4Acc7 G qr k evr vs gone s sq tm ty ats B ao n cap w h.rs hvw h.bz hty hck hh hg hsq htm (by omega) hnil).mono fun e w' ⟨h1, v5, h2, h3⟩ => ⟨h1, _, _, h.ref h2 h3 (fun b hb => hb.imp id (fun hh => hh.1)), h3⟩
end Go.Proofs.Ythjhbnfedelniaa
