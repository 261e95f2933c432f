/- The walk of MatchChecks. -/
import Derived.Test.YtppacelaeaaodaaBe0
import Derived.Test.YtppacelaeaaodaaSr0
import Derived.Test.YtppacelaeaaodaaOr0
import Derived.Test.YtppacelaeaaodaaGt0
import Derived.Test.YtppacelaeaaodaaWp0
namespace Go.Proofs.Ytppacelaeaaodaa
open Go Go.RowKit

theorem Bx.start2' (w : World) {va vb : Value} {a b : List Bd} (ha : BsV w w.heap.size va a) (hb : BsV w w.heap.size vb b) :
    Bx w w.heap.size [(w.heap.size + 1, vb, b), (w.heap.size, va, a)] ((w.alloc (.cells #[va] 24)).alloc (.cells #[vb] 24)) := by
  have h1 := (Bx.nil (w := w)).new (v := va) (bs := a) (.inl ha)
  have h2 := h1.new (v := vb) (bs := b) (.inl (hb.below h1.below (Nat.le_refl _)))
  simpa using h2
theorem AvN.z {w : World} {B n ac : Nat} {aa : Option Addr} {ats : List At} (h : AvN w B (.slice aa n ac) ats) (e : aa = none) : ac = 0 := h.2 n ac (by rw [e])
/-- An event in a box. -/
structure EvB (q : Nat) (E : Ev) (v : Value) (u : World) : Prop where
  box : u.heap[q]? = some (.cells #[.int .i64 E.src, .int .i64 E.seq, .int .i64 E.time, .string E.ty, v] 29 (0, 0))
  av : AvN u u.heap.size v E.ats
theorem EvB.call {q : Nat} {E : Ev} {v : Value} {u u' : World} (h : EvB q E v u) (hb : Below u.heap.size u u') : EvB q E v u' :=
  ⟨(hb.block q (lt_of_block h.box)).trans h.box, (h.av.below hb (Nat.le_refl _)).mono hb.size⟩
theorem EvB.new {E : Ev} {v : Value} {u : World} (h : AvN u u.heap.size v E.ats) : EvB u.heap.size E v (u.alloc (.cells #[.int .i64 E.src, .int .i64 E.seq, .int .i64 E.time, .string E.ty, v] 29)) :=
  have hb := (Below.refl u.heap.size u).alloc (Nat.le_refl _) (.cells #[.int .i64 E.src, .int .i64 E.seq, .int .i64 E.time, .string E.ty, v] 29)
  ⟨heap_alloc_new _ _, (h.below hb (Nat.le_refl _)).mono hb.size⟩
theorem sameX (E : Ev) (aa : Option Addr) (ac : Nat) (aa2 : Option Addr) (ac2 : Nat) (u : World) (h1 : AvN u u.heap.size (.slice aa E.ats.length ac) E.ats) (h2 : AvN u u.heap.size (.slice aa2 E.ats.length ac2) E.ats) (ht : E.ty.size ≤ maxLen) :
    Calls Try.prog 16 #[.agg #[.slice (some ⟨u.heap.size, 0, none⟩) 1 1], .agg #[.slice (some ⟨u.heap.size + 1, 0, none⟩) 1 1]] ((u.alloc (.cells #[.string ⟨#[]⟩, .int .i64 E.src, .int .i64 E.seq, .int .i64 E.time, .string E.ty, .slice aa E.ats.length ac] 39)).alloc (.cells #[.string ⟨#[]⟩, .int .i64 E.src, .int .i64 E.seq, .int .i64 E.time, .string E.ty, .slice aa2 E.ats.length ac2] 39)) fun e w' => e = .returned (.bool true) ∧ Below u.heap.size u w' := by
  obtain ⟨U, hU⟩ : ∃ U, U = (u.alloc (.cells #[.string ⟨#[]⟩, .int .i64 E.src, .int .i64 E.seq, .int .i64 E.time, .string E.ty, .slice aa E.ats.length ac] 39)).alloc (.cells #[.string ⟨#[]⟩, .int .i64 E.src, .int .i64 E.seq, .int .i64 E.time, .string E.ty, .slice aa2 E.ats.length ac2] 39) := ⟨_, rfl⟩
  have hb : Below u.heap.size u U := by rw [hU]; exact ((Below.refl _ _).alloc (Nat.le_refl _) _).alloc (by simp) _
  have g1 : U.heap[u.heap.size]? = some (.cells #[.string ⟨#[]⟩, .int .i64 E.src, .int .i64 E.seq, .int .i64 E.time, .string E.ty, .slice aa E.ats.length ac] 39 (0, 0)) := by rw [hU]; exact heap_alloc_keeps (heap_alloc_new _ _) _
  have g2 : U.heap[u.heap.size + 1]? = some (.cells #[.string ⟨#[]⟩, .int .i64 E.src, .int .i64 E.seq, .int .i64 E.time, .string E.ty, .slice aa2 E.ats.length ac2] 39 (0, 0)) := by rw [hU]; exact heap_alloc_at (by simp) rfl
  have b1 := BsV.single (x := ⟨⟨#[]⟩, E⟩) g1 (h1.1.below hb (Nat.le_refl _)) h1.z hb.size (Nat.zero_le _) ht
  have b2 := BsV.single (x := ⟨⟨#[]⟩, E⟩) g2 (h2.1.below hb (Nat.le_refl _)) h2.z hb.size (Nat.zero_le _) ht
  rw [← hU]
  refine (r10Same_any U.heap.size U.heap.size _ 1 1 _ 1 1 _ _ U b1 b2 (Nat.le_refl _) (Nat.le_refl _)).mono ?_
  rintro e w' ⟨rfl, hw⟩
  exact ⟨by rw [decide_eq_true rfl], hb.trans (hw.mono hb.size)⟩

theorem sameY (E : Ev) (aa : Option Addr) (ac : Nat) (aa2 : Option Addr) (ac2 : Nat) (u : World) (h1 : AvN u u.heap.size (.slice aa E.ats.length ac) E.ats) (h2 : AvN u u.heap.size (.slice aa2 E.ats.length ac2) E.ats) (ht : E.ty.size ≤ maxLen) :
    Calls Try.prog 16 #[.agg #[.slice (some ⟨u.heap.size + 1, 0, none⟩) 1 1], .agg #[.slice (some ⟨u.heap.size, 0, none⟩) 1 1]] ((u.alloc (.cells #[.string ⟨#[]⟩, .int .i64 E.src, .int .i64 E.seq, .int .i64 E.time, .string E.ty, .slice aa2 E.ats.length ac2] 39)).alloc (.cells #[.string ⟨#[]⟩, .int .i64 E.src, .int .i64 E.seq, .int .i64 E.time, .string E.ty, .slice aa E.ats.length ac] 39)) fun e w' => e = .returned (.bool true) ∧ Below u.heap.size u w' := by
  obtain ⟨U, hU⟩ : ∃ U, U = (u.alloc (.cells #[.string ⟨#[]⟩, .int .i64 E.src, .int .i64 E.seq, .int .i64 E.time, .string E.ty, .slice aa2 E.ats.length ac2] 39)).alloc (.cells #[.string ⟨#[]⟩, .int .i64 E.src, .int .i64 E.seq, .int .i64 E.time, .string E.ty, .slice aa E.ats.length ac] 39) := ⟨_, rfl⟩
  have hb : Below u.heap.size u U := by rw [hU]; exact ((Below.refl _ _).alloc (Nat.le_refl _) _).alloc (by simp) _
  have g2 : U.heap[u.heap.size]? = some (.cells #[.string ⟨#[]⟩, .int .i64 E.src, .int .i64 E.seq, .int .i64 E.time, .string E.ty, .slice aa2 E.ats.length ac2] 39 (0, 0)) := by rw [hU]; exact heap_alloc_keeps (heap_alloc_new _ _) _
  have g1 : U.heap[u.heap.size + 1]? = some (.cells #[.string ⟨#[]⟩, .int .i64 E.src, .int .i64 E.seq, .int .i64 E.time, .string E.ty, .slice aa E.ats.length ac] 39 (0, 0)) := by rw [hU]; exact heap_alloc_at (by simp) rfl
  have b1 := BsV.single (x := ⟨⟨#[]⟩, E⟩) g1 (h1.1.below hb (Nat.le_refl _)) h1.z hb.size (Nat.zero_le _) ht
  have b2 := BsV.single (x := ⟨⟨#[]⟩, E⟩) g2 (h2.1.below hb (Nat.le_refl _)) h2.z hb.size (Nat.zero_le _) ht
  rw [← hU]
  refine (r10Same_any U.heap.size U.heap.size _ 1 1 _ 1 1 _ _ U b1 b2 (Nat.le_refl _) (Nat.le_refl _)).mono ?_
  rintro e w' ⟨rfl, hw⟩
  exact ⟨by rw [decide_eq_true rfl], hb.trans (hw.mono hb.size)⟩

set_option maxRecDepth 100000 in
set_option maxHeartbeats 40000000 in
theorem checks_walk (a b : List Bd) (nm : ByteArray) (win : Int) (aoa : Option Addr) (na capa : Nat) (aob : Option Addr) (nb capb : Nat) (w : World) (ha : BsV w w.heap.size (.slice aoa na capa) a) (hb : BsV w w.heap.size (.slice aob nb capb) b) (hnm : nm.size ≤ maxLen) :
    Calls Try.prog 3 #[.agg #[.slice aoa na capa], .agg #[.slice aob nb capb], .string nm, .int .i64 win] w fun e w' => e = .returned (.bool true) ∧ Below w.heap.size w w' := by
  have hk := Bx.start2' w ha hb
  obtain ⟨P, hP⟩ : ∃ P, P = w.heap.size := ⟨_, rfl⟩
  obtain ⟨W, hW⟩ : ∃ W, W = (w.alloc (.cells #[.slice aoa na capa] 24)).alloc (.cells #[.slice aob nb capb] 24) := ⟨_, rfl⟩
  rw [← hP, ← hW] at hk
  rw [← hP]
  have HK := Lib.hid hk
  have l0 := hk.cell (.tail _ (.head _))
  rw [hW] at l0
  have HP := Lib.hid hP; have HW := Lib.hid hW
  have HTY := Lib.hid (getE_wide (v := nm) ha.wide)
  have HG1 := Lib.hid (fun (u : World) (h : BsV u u.heap.size (.slice aoa na capa) a) => mGet_any nm u.heap.size aoa na capa a u h (Nat.le_refl _))
  have HG2 := Lib.hid (fun (u : World) (h : BsV u u.heap.size (.slice aoa na capa) a) => r10Get_any nm u.heap.size aoa na capa a u h (Nat.le_refl _))
  have HC1 := Lib.hid (fun (u : World) (h : BsV u u.heap.size (.slice aoa na capa) a) => mCheck_any u.heap.size aoa na capa a u h (Nat.le_refl _))
  have HC2 := Lib.hid (fun (u : World) (h : BsV u u.heap.size (.slice aoa na capa) a) => r10Check_any u.heap.size aoa na capa a u h (Nat.le_refl _))
  have HT1 := Lib.hid (fun (u : World) (h : BsV u u.heap.size (.slice aoa na capa) a) => mBegin_any u.heap.size aoa na capa a u h (Nat.le_refl _))
  have HT2 := Lib.hid (fun (u : World) (h : BsV u u.heap.size (.slice aoa na capa) a) => r10Begin_any u.heap.size aoa na capa a u h (Nat.le_refl _))
  have HT3 := Lib.hid (fun (u : World) (h : BsV u u.heap.size (.slice aoa na capa) a) => mEnd_any u.heap.size aoa na capa a u h (Nat.le_refl _))
  have HT4 := Lib.hid (fun (u : World) (h : BsV u u.heap.size (.slice aoa na capa) a) => r10End_any u.heap.size aoa na capa a u h (Nat.le_refl _))
  have HT5 := Lib.hid (fun (u : World) (h : BsV u u.heap.size (.slice aoa na capa) a) => mWithin_any win u.heap.size aoa na capa a u h (Nat.le_refl _))
  have HT6 := Lib.hid (fun (u : World) (h : BsV u u.heap.size (.slice aoa na capa) a) => r10Within_any win u.heap.size aoa na capa a u h (Nat.le_refl _))
  have HM1 := Lib.hid (fun (u : World) (h : BsV u u.heap.size (.slice aoa na capa) a) (h2 : BsV u u.heap.size (.slice aob nb capb) b) => mCompare_any u.heap.size u.heap.size aoa na capa aob nb capb a b u h h2 (Nat.le_refl _) (Nat.le_refl _))
  have HM2 := Lib.hid (fun (u : World) (h : BsV u u.heap.size (.slice aoa na capa) a) (h2 : BsV u u.heap.size (.slice aob nb capb) b) => r10Compare_any u.heap.size u.heap.size aoa na capa aob nb capb a b u h h2 (Nat.le_refl _) (Nat.le_refl _))
  have HS1 := Lib.hid (fun (u : World) (h : BsV u u.heap.size (.slice aoa na capa) a) (h2 : BsV u u.heap.size (.slice aob nb capb) b) => mSame_any u.heap.size u.heap.size aoa na capa aob nb capb a b u h h2 (Nat.le_refl _) (Nat.le_refl _))
  have HS2 := Lib.hid (fun (u : World) (h : BsV u u.heap.size (.slice aoa na capa) a) (h2 : BsV u u.heap.size (.slice aob nb capb) b) => r10Same_any u.heap.size u.heap.size aoa na capa aob nb capb a b u h h2 (Nat.le_refl _) (Nat.le_refl _))
  have HCL := Lib.hid (fun (u : World) (h : BsV u u.heap.size (.slice aoa na capa) a) => mClone_any u.heap.size aoa na capa a u h (Nat.le_refl _))
  have HSR := Lib.hid (fun (m : List Bd) (n n2 : Nat) (ao : Option Addr) (cap : Nat) (ao2 : Option Addr) (cap2 : Nat) (u : World) (h : BsV u u.heap.size (.slice ao n cap) m) (h2 : BsV u u.heap.size (.slice ao2 n2 cap2) m) => (show Calls Try.prog 16 #[.agg #[.slice ao n cap], .agg #[.slice ao2 n2 cap2]] u fun e w' => e = .returned (.bool true) ∧ Below u.heap.size u w' by
    have := r10Same_any u.heap.size u.heap.size ao n cap ao2 n2 cap2 m m u h h2 (Nat.le_refl _) (Nat.le_refl _)
    rwa [decide_eq_true rfl] at this))
  generalize getE a nm = E at HG1 HG2 HTY
  generalize hasE a nm = F at HG1 HG2
  have HO1 := Lib.hid (fun (u : World) (aa : Option Addr) (ac : Nat) (h : AvN u u.heap.size (.slice aa E.ats.length ac) E.ats) => mOf_any ⟨nm, E⟩ u.heap.size aa E.ats.length ac u h.1 h.z (Nat.le_refl _) hnm HTY.out)
  have HO2 := Lib.hid (fun (u : World) (aa : Option Addr) (ac : Nat) (h : AvN u u.heap.size (.slice aa E.ats.length ac) E.ats) => r10Of_any ⟨nm, E⟩ u.heap.size aa E.ats.length ac u h.1 h.z (Nat.le_refl _) hnm HTY.out)
  unfold evV at HO1 HO2
  simp only at HO1 HO2
  generalize ckP [⟨nm, E⟩] = ce at HO1 HO2
  generalize ofL ⟨nm, E⟩ = L3 at HO1 HO2
  obtain ⟨N3, hN3⟩ : ∃ N, L3.length = N := ⟨_, rfl⟩
  have HN3 := Lib.hid hN3
  generalize ckP a = ca at HC1 HC2
  generalize begT a = tb at HT1 HT2
  generalize endT a = te at HT3 HT4
  generalize wnB a win = wv at HT5 HT6
  generalize cmpL a b = cv at HM1 HM2
  generalize decide (a = b) = sv at HS1 HS2
  clear hk hP hW ha hb hN3 hnm
  go_enter Try.func3, Try.ntmps3
  go_wp2_with fail
  rw [← HW.out, ← HP.out]
  clear l0
  have hv := HK.out.bsv (.tail _ (.head _))
  (with_reducible refine (HG1.out _ hv).mono ?_)
  clear hv
  rintro e w1 ⟨aa1, ac1, rfl, hav, hb⟩
  have HK := Lib.hid (HK.out.call hb)
  clear hb
  have hba := (Below.refl w1.heap.size w1).alloc (Nat.le_refl _) (.cells #[.int .i64 E.src, .int .i64 E.seq, .int .i64 E.time, .string E.ty, .slice aa1 E.ats.length ac1] 29)
  have HE1 := Lib.hid (EvB.new hav)
  have HK := Lib.hid (HK.out.call hba)
  clear hba hav
  have l0 := HK.out.cell (.tail _ (.head _))
  go_wp2_with fail
  clear l0
  generalize hW1 : w1.alloc (.cells #[.int .i64 E.src, .int .i64 E.seq, .int .i64 E.time, .string E.ty, .slice aa1 E.ats.length ac1] 29) = W1 at HK HE1 ⊢
  clear hW1
  generalize hq1 : w1.heap.size = q1 at HE1 ⊢
  clear hq1
  have hv := HK.out.bsv (.tail _ (.head _))
  (with_reducible refine (HG2.out _ hv).mono ?_)
  clear hv
  rintro e w2 ⟨aa2, ac2, rfl, hav, hb⟩
  have HK := Lib.hid (HK.out.call hb)
  have HE1 := Lib.hid (HE1.out.call hb)
  clear hb
  have hba := (Below.refl w2.heap.size w2).alloc (Nat.le_refl _) (.cells #[.int .i64 E.src, .int .i64 E.seq, .int .i64 E.time, .string E.ty, .slice aa2 E.ats.length ac2] 29)
  have HE2 := Lib.hid (EvB.new hav)
  have HE1 := Lib.hid (HE1.out.call hba)
  have HK := Lib.hid (HK.out.call hba)
  clear hba hav
  obtain ⟨m0, m1, m2, m3, m4⟩ := cell_of_five HE1.out.box
  go_wp2_with fail
  clear m0 m1 m2 m3 m4
  generalize hW2 : w2.alloc (.cells #[.int .i64 E.src, .int .i64 E.seq, .int .i64 E.time, .string E.ty, .slice aa2 E.ats.length ac2] 29) = W2 at HK HE1 HE2 ⊢
  clear hW2
  generalize hq2 : w2.heap.size = q2 at HE2 ⊢
  clear hq2
  (with_reducible refine (HO1.out _ _ _ HE1.out.av).mono ?_)
  rintro e w3 ⟨v', rfl, ho, hb⟩
  obtain ⟨a3, k3, rfl⟩ := ho.shape
  rw [HN3.out] at ho ⊢
  have hba := (Below.refl w3.heap.size w3).alloc (Nat.le_refl _) (.cells #[.slice a3 N3 k3] 24)
  have HE1 := Lib.hid ((HE1.out.call hb).call hba)
  have HE2 := Lib.hid ((HE2.out.call hb).call hba)
  have HK := Lib.hid ((HK.out.call hb).new (.inr (ho.lower HK.out.sz)))
  clear ho hb hba
  obtain ⟨m0, m1, m2, m3, m4⟩ := cell_of_five HE1.out.box
  go_wp2_with fail
  clear m0 m1 m2 m3 m4
  generalize hW3 : w3.alloc (.cells #[.slice a3 N3 k3] 24) = W3 at HK HE1 HE2 ⊢
  clear hW3
  generalize hq3 : w3.heap.size = q3 at HK ⊢
  clear hq3
  (with_reducible refine (HO2.out _ _ _ HE1.out.av).mono ?_)
  rintro e w4 ⟨v', rfl, ho, hb⟩
  obtain ⟨a4, k4, rfl⟩ := ho.shape
  rw [HN3.out] at ho ⊢
  have hba := (Below.refl w4.heap.size w4).alloc (Nat.le_refl _) (.cells #[.slice a4 N3 k4] 24)
  have HE1 := Lib.hid ((HE1.out.call hb).call hba)
  have HE2 := Lib.hid ((HE2.out.call hb).call hba)
  have HK := Lib.hid ((HK.out.call hb).new (.inr (ho.lower HK.out.sz)))
  clear ho hb hba
  go_wp2_with fail
  generalize hW4 : w4.alloc (.cells #[.slice a4 N3 k4] 24) = W4 at HK HE1 HE2 ⊢
  clear hW4
  generalize hq4 : w4.heap.size = q4 at HK ⊢
  clear hq4
  have HSS := Lib.hid (fun (u : World) (hk : Bx w P [(q4, .slice a4 N3 k4, L3), (q3, .slice a3 N3 k3, L3), (P + 1, .slice aob nb capb, b), (P, .slice aoa na capa, a)] u) (h1 : EvB q1 E (.slice aa1 E.ats.length ac1) u) (h2 : EvB q2 E (.slice aa2 E.ats.length ac2) u) => (show u.cell? ⟨P, 0, none⟩ = some (.slice aoa na capa) ∧ u.cell? ⟨P + 1, 0, none⟩ = some (.slice aob nb capb) ∧ u.cell? ⟨q3, 0, none⟩ = some (.slice a3 N3 k3) ∧ u.cell? ⟨q4, 0, none⟩ = some (.slice a4 N3 k4) ∧ u.cell? ⟨q1, 0, none⟩ = some (.int .i64 E.src) ∧ u.cell? ⟨q1, 1, none⟩ = some (.int .i64 E.seq) ∧ u.cell? ⟨q1, 2, none⟩ = some (.int .i64 E.time) ∧ u.cell? ⟨q1, 3, none⟩ = some (.string E.ty) ∧ u.cell? ⟨q1, 4, none⟩ = some (.slice aa1 E.ats.length ac1) ∧ u.cell? ⟨q2, 0, none⟩ = some (.int .i64 E.src) ∧ u.cell? ⟨q2, 1, none⟩ = some (.int .i64 E.seq) ∧ u.cell? ⟨q2, 2, none⟩ = some (.int .i64 E.time) ∧ u.cell? ⟨q2, 3, none⟩ = some (.string E.ty) ∧ u.cell? ⟨q2, 4, none⟩ = some (.slice aa2 E.ats.length ac2) from by
    obtain ⟨m0, m1, m2, m3, m4⟩ := cell_of_five h1.box
    obtain ⟨n0, n1, n2, n3, n4⟩ := cell_of_five h2.box
    exact ⟨hk.cell (.tail _ (.tail _ (.tail _ (.head _)))), hk.cell (.tail _ (.tail _ (.head _))), hk.cell (.tail _ (.head _)), hk.cell (.head _), m0, m1, m2, m3, m4, n0, n1, n2, n3, n4⟩))
  have hbd := (Below.refl W4.heap.size W4).drew
  have HK := Lib.hid (HK.out.call hbd); have HE1 := Lib.hid (HE1.out.call hbd); have HE2 := Lib.hid (HE2.out.call hbd)
  clear hbd
  have SF := HSS.out _ HK.out HE1.out HE2.out
  have HA1 := Lib.hid (HK.out.bsv (.tail _ (.tail _ (.tail _ (.head _)))))
  have HA2 := Lib.hid (HK.out.bsv (.tail _ (.tail _ (.head _))))
  have HA3 := Lib.hid (HK.out.bsv (.tail _ (.head _)))
  have HA4 := Lib.hid (HK.out.bsv (.head _))
  have HXY := Lib.hid (fun (u : World) (h1 : AvN u u.heap.size (.slice aa1 E.ats.length ac1) E.ats) (h2 : AvN u u.heap.size (.slice aa2 E.ats.length ac2) E.ats) => sameX E aa1 ac1 aa2 ac2 u h1 h2 HTY.out)
  have HYX := Lib.hid (fun (u : World) (h1 : AvN u u.heap.size (.slice aa1 E.ats.length ac1) E.ats) (h2 : AvN u u.heap.size (.slice aa2 E.ats.length ac2) E.ats) => sameY E aa1 ac1 aa2 ac2 u h1 h2 HTY.out)
  simp only [List.append_eq, List.cons_append, List.nil_append]
  refine wp_region_held_drew (S := (fun w' => w'.cell? ⟨P, 0, none⟩ = some (.slice aoa na capa) ∧ w'.cell? ⟨P + 1, 0, none⟩ = some (.slice aob nb capb) ∧ w'.cell? ⟨q3, 0, none⟩ = some (.slice a3 N3 k3) ∧ w'.cell? ⟨q4, 0, none⟩ = some (.slice a4 N3 k4) ∧ w'.cell? ⟨q1, 0, none⟩ = some (.int .i64 E.src) ∧ w'.cell? ⟨q1, 1, none⟩ = some (.int .i64 E.seq) ∧ w'.cell? ⟨q1, 2, none⟩ = some (.int .i64 E.time) ∧ w'.cell? ⟨q1, 3, none⟩ = some (.string E.ty) ∧ w'.cell? ⟨q1, 4, none⟩ = some (.slice aa1 E.ats.length ac1) ∧ w'.cell? ⟨q2, 0, none⟩ = some (.int .i64 E.src) ∧ w'.cell? ⟨q2, 1, none⟩ = some (.int .i64 E.seq) ∧ w'.cell? ⟨q2, 2, none⟩ = some (.int .i64 E.time) ∧ w'.cell? ⟨q2, 3, none⟩ = some (.string E.ty) ∧ w'.cell? ⟨q2, 4, none⟩ = some (.slice aa2 E.ats.length ac2))) (by kernel_rfl) SF (fun _ => ?_)
  refine oneR (i := 0) rfl (by as_aux_lemma => kernel_rfl) (fun K hK => ?_)
  go_simp
  (with_reducible refine (begun10_any _).mono ?_)
  rintro e w1 ⟨rfl, hb⟩
  have HK := Lib.hid (HK.out.call hb)
  have HE1 := Lib.hid (HE1.out.call hb)
  have HE2 := Lib.hid (HE2.out.call hb)
  clear hb SF HA1 HA2 HA3 HA4
  have SF := HSS.out _ HK.out HE1.out HE2.out
  have HA1 := Lib.hid (HK.out.bsv (.tail _ (.tail _ (.tail _ (.head _)))))
  have HA2 := Lib.hid (HK.out.bsv (.tail _ (.tail _ (.head _))))
  have HA3 := Lib.hid (HK.out.bsv (.tail _ (.head _)))
  have HA4 := Lib.hid (HK.out.bsv (.head _))
  refine hK.out _ _ SF (fun _ => ?_)
  clear hK K
  try simp only [Act.put, List.setIfInBounds_toArray, List.set_cons_zero, List.set_cons_succ]
  refine takeR (i := 1) (v := ?_) rfl (by as_aux_lemma => kernel_rfl) (by as_aux_lemma => kernel_rfl) (by as_aux_lemma => kernel_rfl) (fun _ _ _ h => h) (by rfl) ?_ (by assumption) ?_
  rotate_left
  · (intro w hSw; (try dsimp only at hSw); go_simp <;> with_reducible rfl)
  try simp only [Act.put, List.setIfInBounds_toArray, List.set_cons_zero, List.set_cons_succ]
  refine takeR (i := 2) (v := ?_) rfl (by as_aux_lemma => kernel_rfl) (by as_aux_lemma => kernel_rfl) (by as_aux_lemma => kernel_rfl) (fun _ _ _ h => h) (by rfl) ?_ (by assumption) ?_
  rotate_left
  · (intro w hSw; (try dsimp only at hSw); go_simp <;> with_reducible rfl)
  try simp only [Act.put, List.setIfInBounds_toArray, List.set_cons_zero, List.set_cons_succ]
  refine takeR (i := 4) (v := ?_) rfl (by as_aux_lemma => kernel_rfl) (by as_aux_lemma => kernel_rfl) (by as_aux_lemma => kernel_rfl) (fun _ _ _ h => h) (by rfl) ?_ (by assumption) ?_
  rotate_left
  · (intro w hSw; (try dsimp only at hSw); go_simp <;> with_reducible rfl)
  try simp only [Act.put, List.setIfInBounds_toArray, List.set_cons_zero, List.set_cons_succ]
  refine oneR (i := 3) rfl (by as_aux_lemma => kernel_rfl) (fun K hK => ?_)
  go_simp
  (with_reducible refine (HC1.out _ HA1.out).mono ?_)
  rintro e w1 ⟨rfl, hb⟩
  have HK := Lib.hid (HK.out.call hb)
  have HE1 := Lib.hid (HE1.out.call hb)
  have HE2 := Lib.hid (HE2.out.call hb)
  clear hb SF HA1 HA2 HA3 HA4
  have SF := HSS.out _ HK.out HE1.out HE2.out
  have HA1 := Lib.hid (HK.out.bsv (.tail _ (.tail _ (.tail _ (.head _)))))
  have HA2 := Lib.hid (HK.out.bsv (.tail _ (.tail _ (.head _))))
  have HA3 := Lib.hid (HK.out.bsv (.tail _ (.head _)))
  have HA4 := Lib.hid (HK.out.bsv (.head _))
  refine hK.out _ _ SF (fun _ => ?_)
  clear hK K
  try simp only [Act.put, List.setIfInBounds_toArray, List.set_cons_zero, List.set_cons_succ]
  refine oneR (i := 5) rfl (by as_aux_lemma => kernel_rfl) (fun K hK => ?_)
  go_simp
  (with_reducible refine (HC2.out _ HA1.out).mono ?_)
  rintro e w1 ⟨rfl, hb⟩
  have HK := Lib.hid (HK.out.call hb)
  have HE1 := Lib.hid (HE1.out.call hb)
  have HE2 := Lib.hid (HE2.out.call hb)
  clear hb SF HA1 HA2 HA3 HA4
  have SF := HSS.out _ HK.out HE1.out HE2.out
  have HA1 := Lib.hid (HK.out.bsv (.tail _ (.tail _ (.tail _ (.head _)))))
  have HA2 := Lib.hid (HK.out.bsv (.tail _ (.tail _ (.head _))))
  have HA3 := Lib.hid (HK.out.bsv (.tail _ (.head _)))
  have HA4 := Lib.hid (HK.out.bsv (.head _))
  refine hK.out _ _ SF (fun _ => ?_)
  clear hK K
  try simp only [Act.put, List.setIfInBounds_toArray, List.set_cons_zero, List.set_cons_succ]
  refine takeR (i := 6) (v := ?_) rfl (by as_aux_lemma => kernel_rfl) (by as_aux_lemma => kernel_rfl) (by as_aux_lemma => kernel_rfl) (fun _ _ _ h => h) (by rfl) ?_ (by assumption) ?_
  rotate_left
  · (intro w hSw; (try dsimp only at hSw); go_simp <;> with_reducible rfl)
  try simp only [Act.put, List.setIfInBounds_toArray, List.set_cons_zero, List.set_cons_succ]
  refine takeR (i := 7) (v := ?_) rfl (by as_aux_lemma => kernel_rfl) (by as_aux_lemma => kernel_rfl) (by as_aux_lemma => kernel_rfl) (fun _ _ _ h => h) (by rfl) ?_ (by assumption) ?_
  rotate_left
  · (intro w hSw; (try dsimp only at hSw); go_simp <;> with_reducible rfl)
  try simp only [Act.put, List.setIfInBounds_toArray, List.set_cons_zero, List.set_cons_succ]
  refine takeR (i := 8) (v := ?_) rfl (by as_aux_lemma => kernel_rfl) (by as_aux_lemma => kernel_rfl) (by as_aux_lemma => kernel_rfl) (fun _ _ _ h => h) (by rfl) ?_ (by assumption) ?_
  rotate_left
  · (intro w hSw; (try dsimp only at hSw); go_simp <;> with_reducible rfl)
  try simp only [Act.put, List.setIfInBounds_toArray, List.set_cons_zero, List.set_cons_succ]
  refine takeR (i := 9) (v := ?_) rfl (by as_aux_lemma => kernel_rfl) (by as_aux_lemma => kernel_rfl) (by as_aux_lemma => kernel_rfl) (fun _ _ _ h => h) (by rfl) ?_ (by assumption) ?_
  rotate_left
  · (intro w hSw; (try dsimp only at hSw); go_simp <;> with_reducible rfl)
  try simp only [Act.put, List.setIfInBounds_toArray, List.set_cons_zero, List.set_cons_succ]
  refine takeR (i := 10) (v := ?_) rfl (by as_aux_lemma => kernel_rfl) (by as_aux_lemma => kernel_rfl) (by as_aux_lemma => kernel_rfl) (fun _ _ _ h => h) (by rfl) ?_ (by assumption) ?_
  rotate_left
  · (intro w hSw; (try dsimp only at hSw); go_simp <;> with_reducible rfl)
  try simp only [Act.put, List.setIfInBounds_toArray, List.set_cons_zero, List.set_cons_succ]
  refine takeR (i := 11) (v := ?_) rfl (by as_aux_lemma => kernel_rfl) (by as_aux_lemma => kernel_rfl) (by as_aux_lemma => kernel_rfl) (fun _ _ _ h => h) (by rfl) ?_ (by assumption) ?_
  rotate_left
  · (intro w hSw; (try dsimp only at hSw); go_simp <;> with_reducible rfl)
  try simp only [Act.put, List.setIfInBounds_toArray, List.set_cons_zero, List.set_cons_succ]
  refine takeR (i := 12) (v := ?_) rfl (by as_aux_lemma => kernel_rfl) (by as_aux_lemma => kernel_rfl) (by as_aux_lemma => kernel_rfl) (fun _ _ _ h => h) (by rfl) ?_ (by assumption) ?_
  rotate_left
  · (intro w hSw; (try dsimp only at hSw); go_simp <;> with_reducible rfl)
  try simp only [Act.put, List.setIfInBounds_toArray, List.set_cons_zero, List.set_cons_succ]
  refine takeR (i := 13) (v := ?_) rfl (by as_aux_lemma => kernel_rfl) (by as_aux_lemma => kernel_rfl) (by as_aux_lemma => kernel_rfl) (fun _ _ _ h => h) (by rfl) ?_ (by assumption) ?_
  rotate_left
  · (intro w hSw; (try dsimp only at hSw); go_simp <;> with_reducible rfl)
  try simp only [Act.put, List.setIfInBounds_toArray, List.set_cons_zero, List.set_cons_succ]
  refine takeR (i := 14) (v := ?_) rfl (by as_aux_lemma => kernel_rfl) (by as_aux_lemma => kernel_rfl) (by as_aux_lemma => kernel_rfl) (fun _ _ _ h => h) (by rfl) ?_ (by assumption) ?_
  rotate_left
  · (intro w hSw; (try dsimp only at hSw); go_simp <;> with_reducible rfl)
  try simp only [Act.put, List.setIfInBounds_toArray, List.set_cons_zero, List.set_cons_succ]
  refine takeR (i := 15) (v := ?_) rfl (by as_aux_lemma => kernel_rfl) (by as_aux_lemma => kernel_rfl) (by as_aux_lemma => kernel_rfl) (fun _ _ _ h => h) (by rfl) ?_ (by assumption) ?_
  rotate_left
  · (intro w hSw; (try dsimp only at hSw); go_simp <;> with_reducible rfl)
  try simp only [Act.put, List.setIfInBounds_toArray, List.set_cons_zero, List.set_cons_succ]
  refine takeR (i := 18) (v := ?_) rfl (by as_aux_lemma => kernel_rfl) (by as_aux_lemma => kernel_rfl) (by as_aux_lemma => kernel_rfl) (fun _ _ _ h => h) (by rfl) ?_ (by assumption) ?_
  rotate_left
  · (intro w hSw; (try dsimp only at hSw); go_simp <;> with_reducible rfl)
  try simp only [Act.put, List.setIfInBounds_toArray, List.set_cons_zero, List.set_cons_succ]
  refine takeR (i := 19) (v := ?_) rfl (by as_aux_lemma => kernel_rfl) (by as_aux_lemma => kernel_rfl) (by as_aux_lemma => kernel_rfl) (fun _ _ _ h => h) (by rfl) ?_ (by assumption) ?_
  rotate_left
  · (intro w hSw; (try dsimp only at hSw); go_simp <;> with_reducible rfl)
  try simp only [Act.put, List.setIfInBounds_toArray, List.set_cons_zero, List.set_cons_succ]
  have hb1 := (Below.refl w1.heap.size w1).alloc (Nat.le_refl _) (.cells #[.string ⟨#[]⟩, .int .i64 E.src, .int .i64 E.seq, .int .i64 E.time, .string E.ty, .slice aa1 E.ats.length ac1] 39)
  have SX := HSS.out _ (HK.out.call hb1) (HE1.out.call hb1) (HE2.out.call hb1)
  clear hb1
  have hb1 := (Below.refl w1.heap.size w1).alloc (Nat.le_refl _) (.cells #[.string ⟨#[]⟩, .int .i64 E.src, .int .i64 E.seq, .int .i64 E.time, .string E.ty, .slice aa2 E.ats.length ac2] 39)
  have SY := HSS.out _ (HK.out.call hb1) (HE1.out.call hb1) (HE2.out.call hb1)
  clear hb1
  have hb1 := ((Below.refl w1.heap.size w1).alloc (Nat.le_refl _) (.cells #[.string ⟨#[]⟩, .int .i64 E.src, .int .i64 E.seq, .int .i64 E.time, .string E.ty, .slice aa1 E.ats.length ac1] 39)).alloc (by simp) (.cells #[.string ⟨#[]⟩, .int .i64 E.src, .int .i64 E.seq, .int .i64 E.time, .string E.ty, .slice aa2 E.ats.length ac2] 39)
  have SXY := HSS.out _ (HK.out.call hb1) (HE1.out.call hb1) (HE2.out.call hb1)
  clear hb1
  have hb1 := ((Below.refl w1.heap.size w1).alloc (Nat.le_refl _) (.cells #[.string ⟨#[]⟩, .int .i64 E.src, .int .i64 E.seq, .int .i64 E.time, .string E.ty, .slice aa2 E.ats.length ac2] 39)).alloc (by simp) (.cells #[.string ⟨#[]⟩, .int .i64 E.src, .int .i64 E.seq, .int .i64 E.time, .string E.ty, .slice aa1 E.ats.length ac1] 39)
  have SYX := HSS.out _ (HK.out.call hb1) (HE1.out.call hb1) (HE2.out.call hb1)
  clear hb1
  refine twoR (i := 16) (j := 20) rfl rfl (by as_aux_lemma => kernel_rfl) (fun K hK => ?_) (fun K hK => ?_)
  · go_simp
    refine hK.out _ _ SX (fun _ => ?_)
    clear hK K
    try simp only [Act.put, List.setIfInBounds_toArray, List.set_cons_zero, List.set_cons_succ]
    refine takeR (i := 17) (v := ?_) rfl (by as_aux_lemma => kernel_rfl) (by as_aux_lemma => kernel_rfl) (by as_aux_lemma => kernel_rfl) (fun _ _ _ h => h) (by rfl) ?_ (by assumption) ?_
    rotate_left
    · (intro w hSw; (try dsimp only at hSw); go_simp <;> with_reducible rfl)
    try simp only [Act.put, List.setIfInBounds_toArray, List.set_cons_zero, List.set_cons_succ]
    refine oneR (i := 20) rfl (by as_aux_lemma => kernel_rfl) (fun K hK => ?_)
    go_simp
    refine hK.out _ _ SXY (fun _ => ?_)
    clear hK K
    try simp only [Act.put, List.setIfInBounds_toArray, List.set_cons_zero, List.set_cons_succ]
    refine takeR (i := 21) (v := ?_) rfl (by as_aux_lemma => kernel_rfl) (by as_aux_lemma => kernel_rfl) (by as_aux_lemma => kernel_rfl) (fun _ _ _ h => h) (by rfl) ?_ (by assumption) ?_
    rotate_left
    · (intro w hSw; (try dsimp only at hSw); go_simp <;> with_reducible rfl)
    try simp only [Act.put, List.setIfInBounds_toArray, List.set_cons_zero, List.set_cons_succ]
    refine oneR (i := 22) rfl (by as_aux_lemma => kernel_rfl) (fun K hK => ?_)
    go_simp
    (with_reducible refine (HXY.out _ HE1.out.av HE2.out.av).mono ?_)
    rintro e w1 ⟨rfl, hb⟩
    have HK := Lib.hid (HK.out.call hb)
    have HE1 := Lib.hid (HE1.out.call hb)
    have HE2 := Lib.hid (HE2.out.call hb)
    clear hb SF HA1 HA2 HA3 HA4
    have SF := HSS.out _ HK.out HE1.out HE2.out
    have HA1 := Lib.hid (HK.out.bsv (.tail _ (.tail _ (.tail _ (.head _)))))
    have HA2 := Lib.hid (HK.out.bsv (.tail _ (.tail _ (.head _))))
    have HA3 := Lib.hid (HK.out.bsv (.tail _ (.head _)))
    have HA4 := Lib.hid (HK.out.bsv (.head _))
    refine hK.out _ _ SF (fun _ => ?_)
    clear hK K
    try simp only [Act.put, List.setIfInBounds_toArray, List.set_cons_zero, List.set_cons_succ]
    refine takeR (i := 23) (v := ?_) rfl (by as_aux_lemma => kernel_rfl) (by as_aux_lemma => kernel_rfl) (by as_aux_lemma => kernel_rfl) (fun _ _ _ h => h) (by rfl) ?_ (by assumption) ?_
    rotate_left
    · (intro w hSw; (try dsimp only at hSw); go_simp <;> with_reducible rfl)
    try simp only [Act.put, List.setIfInBounds_toArray, List.set_cons_zero, List.set_cons_succ]
    refine takeR (i := 24) (v := ?_) rfl (by as_aux_lemma => kernel_rfl) (by as_aux_lemma => kernel_rfl) (by as_aux_lemma => kernel_rfl) (fun _ _ _ h => h) (by rfl) ?_ (by assumption) ?_
    rotate_left
    · (intro w hSw; (try dsimp only at hSw); go_simp <;> with_reducible rfl)
    try simp only [Act.put, List.setIfInBounds_toArray, List.set_cons_zero, List.set_cons_succ]
    refine takeR (i := 25) (v := ?_) rfl (by as_aux_lemma => kernel_rfl) (by as_aux_lemma => kernel_rfl) (by as_aux_lemma => kernel_rfl) (fun _ _ _ h => h) (by rfl) ?_ (by assumption) ?_
    rotate_left
    · (intro w hSw; (try dsimp only at hSw); go_simp <;> with_reducible rfl)
    try simp only [Act.put, List.setIfInBounds_toArray, List.set_cons_zero, List.set_cons_succ]
    refine takeR (i := 26) (v := ?_) rfl (by as_aux_lemma => kernel_rfl) (by as_aux_lemma => kernel_rfl) (by as_aux_lemma => kernel_rfl) (fun _ _ _ h => h) (by rfl) ?_ (by assumption) ?_
    rotate_left
    · (intro w hSw; (try dsimp only at hSw); go_simp <;> with_reducible rfl)
    try simp only [Act.put, List.setIfInBounds_toArray, List.set_cons_zero, List.set_cons_succ]
    refine oneR (i := 27) rfl (by as_aux_lemma => kernel_rfl) (fun K hK => ?_)
    go_simp
    (with_reducible refine (HSR.out _ _ _ _ _ _ _ _ HA3.out HA4.out).mono ?_)
    rintro e w1 ⟨rfl, hb⟩
    have HK := Lib.hid (HK.out.call hb)
    have HE1 := Lib.hid (HE1.out.call hb)
    have HE2 := Lib.hid (HE2.out.call hb)
    clear hb SF HA1 HA2 HA3 HA4
    have SF := HSS.out _ HK.out HE1.out HE2.out
    have HA1 := Lib.hid (HK.out.bsv (.tail _ (.tail _ (.tail _ (.head _)))))
    have HA2 := Lib.hid (HK.out.bsv (.tail _ (.tail _ (.head _))))
    have HA3 := Lib.hid (HK.out.bsv (.tail _ (.head _)))
    have HA4 := Lib.hid (HK.out.bsv (.head _))
    refine hK.out _ _ SF (fun _ => ?_)
    clear hK K
    try simp only [Act.put, List.setIfInBounds_toArray, List.set_cons_zero, List.set_cons_succ]
    refine takeR (i := 28) (v := ?_) rfl (by as_aux_lemma => kernel_rfl) (by as_aux_lemma => kernel_rfl) (by as_aux_lemma => kernel_rfl) (fun _ _ _ h => h) (by rfl) ?_ (by assumption) ?_
    rotate_left
    · (intro w hSw; (try dsimp only at hSw); go_simp <;> with_reducible rfl)
    try simp only [Act.put, List.setIfInBounds_toArray, List.set_cons_zero, List.set_cons_succ]
    refine takeR (i := 29) (v := ?_) rfl (by as_aux_lemma => kernel_rfl) (by as_aux_lemma => kernel_rfl) (by as_aux_lemma => kernel_rfl) (fun _ _ _ h => h) (by rfl) ?_ (by assumption) ?_
    rotate_left
    · (intro w hSw; (try dsimp only at hSw); go_simp <;> with_reducible rfl)
    try simp only [Act.put, List.setIfInBounds_toArray, List.set_cons_zero, List.set_cons_succ]
    refine takeR (i := 30) (v := ?_) rfl (by as_aux_lemma => kernel_rfl) (by as_aux_lemma => kernel_rfl) (by as_aux_lemma => kernel_rfl) (fun _ _ _ h => h) (by rfl) ?_ (by assumption) ?_
    rotate_left
    · (intro w hSw; (try dsimp only at hSw); go_simp <;> with_reducible rfl)
    try simp only [Act.put, List.setIfInBounds_toArray, List.set_cons_zero, List.set_cons_succ]
    refine takeR (i := 31) (v := ?_) rfl (by as_aux_lemma => kernel_rfl) (by as_aux_lemma => kernel_rfl) (by as_aux_lemma => kernel_rfl) (fun _ _ _ h => h) (by rfl) ?_ (by assumption) ?_
    rotate_left
    · (intro w hSw; (try dsimp only at hSw); go_simp <;> with_reducible rfl)
    try simp only [Act.put, List.setIfInBounds_toArray, List.set_cons_zero, List.set_cons_succ]
    refine takeR (i := 32) (v := ?_) rfl (by as_aux_lemma => kernel_rfl) (by as_aux_lemma => kernel_rfl) (by as_aux_lemma => kernel_rfl) (fun _ _ _ h => h) (by rfl) ?_ (by assumption) ?_
    rotate_left
    · (intro w hSw; (try dsimp only at hSw); go_simp <;> with_reducible rfl)
    try simp only [Act.put, List.setIfInBounds_toArray, List.set_cons_zero, List.set_cons_succ]
    refine takeR (i := 33) (v := ?_) rfl (by as_aux_lemma => kernel_rfl) (by as_aux_lemma => kernel_rfl) (by as_aux_lemma => kernel_rfl) (fun _ _ _ h => h) (by rfl) ?_ (by assumption) ?_
    rotate_left
    · (intro w hSw; (try dsimp only at hSw); go_simp <;> with_reducible rfl)
    try simp only [Act.put, List.setIfInBounds_toArray, List.set_cons_zero, List.set_cons_succ]
    refine takeR (i := 34) (v := ?_) rfl (by as_aux_lemma => kernel_rfl) (by as_aux_lemma => kernel_rfl) (by as_aux_lemma => kernel_rfl) (fun _ _ _ h => h) (by rfl) ?_ (by assumption) ?_
    rotate_left
    · (intro w hSw; (try dsimp only at hSw); go_simp <;> with_reducible rfl)
    try simp only [Act.put, List.setIfInBounds_toArray, List.set_cons_zero, List.set_cons_succ]
    refine takeR (i := 35) (v := ?_) rfl (by as_aux_lemma => kernel_rfl) (by as_aux_lemma => kernel_rfl) (by as_aux_lemma => kernel_rfl) (fun _ _ _ h => h) (by rfl) ?_ (by assumption) ?_
    rotate_left
    · (intro w hSw; (try dsimp only at hSw); go_simp <;> with_reducible rfl)
    try simp only [Act.put, List.setIfInBounds_toArray, List.set_cons_zero, List.set_cons_succ]
    refine takeR (i := 37) (v := ?_) rfl (by as_aux_lemma => kernel_rfl) (by as_aux_lemma => kernel_rfl) (by as_aux_lemma => kernel_rfl) (fun _ _ _ h => h) (by rfl) ?_ (by assumption) ?_
    rotate_left
    · (intro w hSw; (try dsimp only at hSw); go_simp <;> with_reducible rfl)
    try simp only [Act.put, List.setIfInBounds_toArray, List.set_cons_zero, List.set_cons_succ]
    refine oneR (i := 36) rfl (by as_aux_lemma => kernel_rfl) (fun K hK => ?_)
    go_simp
    (with_reducible refine (HT1.out _ HA1.out).mono ?_)
    rintro e w1 ⟨rfl, hb⟩
    have HK := Lib.hid (HK.out.call hb)
    have HE1 := Lib.hid (HE1.out.call hb)
    have HE2 := Lib.hid (HE2.out.call hb)
    clear hb SF HA1 HA2 HA3 HA4
    have SF := HSS.out _ HK.out HE1.out HE2.out
    have HA1 := Lib.hid (HK.out.bsv (.tail _ (.tail _ (.tail _ (.head _)))))
    have HA2 := Lib.hid (HK.out.bsv (.tail _ (.tail _ (.head _))))
    have HA3 := Lib.hid (HK.out.bsv (.tail _ (.head _)))
    have HA4 := Lib.hid (HK.out.bsv (.head _))
    refine hK.out _ _ SF (fun _ => ?_)
    clear hK K
    try simp only [Act.put, List.setIfInBounds_toArray, List.set_cons_zero, List.set_cons_succ]
    refine oneR (i := 38) rfl (by as_aux_lemma => kernel_rfl) (fun K hK => ?_)
    go_simp
    (with_reducible refine (HT2.out _ HA1.out).mono ?_)
    rintro e w1 ⟨rfl, hb⟩
    have HK := Lib.hid (HK.out.call hb)
    have HE1 := Lib.hid (HE1.out.call hb)
    have HE2 := Lib.hid (HE2.out.call hb)
    clear hb SF HA1 HA2 HA3 HA4
    have SF := HSS.out _ HK.out HE1.out HE2.out
    have HA1 := Lib.hid (HK.out.bsv (.tail _ (.tail _ (.tail _ (.head _)))))
    have HA2 := Lib.hid (HK.out.bsv (.tail _ (.tail _ (.head _))))
    have HA3 := Lib.hid (HK.out.bsv (.tail _ (.head _)))
    have HA4 := Lib.hid (HK.out.bsv (.head _))
    refine hK.out _ _ SF (fun _ => ?_)
    clear hK K
    try simp only [Act.put, List.setIfInBounds_toArray, List.set_cons_zero, List.set_cons_succ]
    refine takeR (i := 39) (v := ?_) rfl (by as_aux_lemma => kernel_rfl) (by as_aux_lemma => kernel_rfl) (by as_aux_lemma => kernel_rfl) (fun _ _ _ h => h) (by rfl) ?_ (by assumption) ?_
    rotate_left
    · (intro w hSw; (try dsimp only at hSw); go_simp <;> with_reducible rfl)
    try simp only [Act.put, List.setIfInBounds_toArray, List.set_cons_zero, List.set_cons_succ]
    refine takeR (i := 40) (v := ?_) rfl (by as_aux_lemma => kernel_rfl) (by as_aux_lemma => kernel_rfl) (by as_aux_lemma => kernel_rfl) (fun _ _ _ h => h) (by rfl) ?_ (by assumption) ?_
    rotate_left
    · (intro w hSw; (try dsimp only at hSw); go_simp <;> with_reducible rfl)
    try simp only [Act.put, List.setIfInBounds_toArray, List.set_cons_zero, List.set_cons_succ]
    refine takeR (i := 41) (v := ?_) rfl (by as_aux_lemma => kernel_rfl) (by as_aux_lemma => kernel_rfl) (by as_aux_lemma => kernel_rfl) (fun _ _ _ h => h) (by rfl) ?_ (by assumption) ?_
    rotate_left
    · (intro w hSw; (try dsimp only at hSw); go_simp <;> with_reducible rfl)
    try simp only [Act.put, List.setIfInBounds_toArray, List.set_cons_zero, List.set_cons_succ]
    refine takeR (i := 42) (v := ?_) rfl (by as_aux_lemma => kernel_rfl) (by as_aux_lemma => kernel_rfl) (by as_aux_lemma => kernel_rfl) (fun _ _ _ h => h) (by rfl) ?_ (by assumption) ?_
    rotate_left
    · (intro w hSw; (try dsimp only at hSw); go_simp <;> with_reducible rfl)
    try simp only [Act.put, List.setIfInBounds_toArray, List.set_cons_zero, List.set_cons_succ]
    refine takeR (i := 44) (v := ?_) rfl (by as_aux_lemma => kernel_rfl) (by as_aux_lemma => kernel_rfl) (by as_aux_lemma => kernel_rfl) (fun _ _ _ h => h) (by rfl) ?_ (by assumption) ?_
    rotate_left
    · (intro w hSw; (try dsimp only at hSw); go_simp <;> with_reducible rfl)
    try simp only [Act.put, List.setIfInBounds_toArray, List.set_cons_zero, List.set_cons_succ]
    refine oneR (i := 43) rfl (by as_aux_lemma => kernel_rfl) (fun K hK => ?_)
    go_simp
    (with_reducible refine (HT3.out _ HA1.out).mono ?_)
    rintro e w1 ⟨rfl, hb⟩
    have HK := Lib.hid (HK.out.call hb)
    have HE1 := Lib.hid (HE1.out.call hb)
    have HE2 := Lib.hid (HE2.out.call hb)
    clear hb SF HA1 HA2 HA3 HA4
    have SF := HSS.out _ HK.out HE1.out HE2.out
    have HA1 := Lib.hid (HK.out.bsv (.tail _ (.tail _ (.tail _ (.head _)))))
    have HA2 := Lib.hid (HK.out.bsv (.tail _ (.tail _ (.head _))))
    have HA3 := Lib.hid (HK.out.bsv (.tail _ (.head _)))
    have HA4 := Lib.hid (HK.out.bsv (.head _))
    refine hK.out _ _ SF (fun _ => ?_)
    clear hK K
    try simp only [Act.put, List.setIfInBounds_toArray, List.set_cons_zero, List.set_cons_succ]
    refine oneR (i := 45) rfl (by as_aux_lemma => kernel_rfl) (fun K hK => ?_)
    go_simp
    (with_reducible refine (HT4.out _ HA1.out).mono ?_)
    rintro e w1 ⟨rfl, hb⟩
    have HK := Lib.hid (HK.out.call hb)
    have HE1 := Lib.hid (HE1.out.call hb)
    have HE2 := Lib.hid (HE2.out.call hb)
    clear hb SF HA1 HA2 HA3 HA4
    have SF := HSS.out _ HK.out HE1.out HE2.out
    have HA1 := Lib.hid (HK.out.bsv (.tail _ (.tail _ (.tail _ (.head _)))))
    have HA2 := Lib.hid (HK.out.bsv (.tail _ (.tail _ (.head _))))
    have HA3 := Lib.hid (HK.out.bsv (.tail _ (.head _)))
    have HA4 := Lib.hid (HK.out.bsv (.head _))
    refine hK.out _ _ SF (fun _ => ?_)
    clear hK K
    try simp only [Act.put, List.setIfInBounds_toArray, List.set_cons_zero, List.set_cons_succ]
    refine takeR (i := 46) (v := ?_) rfl (by as_aux_lemma => kernel_rfl) (by as_aux_lemma => kernel_rfl) (by as_aux_lemma => kernel_rfl) (fun _ _ _ h => h) (by rfl) ?_ (by assumption) ?_
    rotate_left
    · (intro w hSw; (try dsimp only at hSw); go_simp <;> with_reducible rfl)
    try simp only [Act.put, List.setIfInBounds_toArray, List.set_cons_zero, List.set_cons_succ]
    refine takeR (i := 47) (v := ?_) rfl (by as_aux_lemma => kernel_rfl) (by as_aux_lemma => kernel_rfl) (by as_aux_lemma => kernel_rfl) (fun _ _ _ h => h) (by rfl) ?_ (by assumption) ?_
    rotate_left
    · (intro w hSw; (try dsimp only at hSw); go_simp <;> with_reducible rfl)
    try simp only [Act.put, List.setIfInBounds_toArray, List.set_cons_zero, List.set_cons_succ]
    refine takeR (i := 48) (v := ?_) rfl (by as_aux_lemma => kernel_rfl) (by as_aux_lemma => kernel_rfl) (by as_aux_lemma => kernel_rfl) (fun _ _ _ h => h) (by rfl) ?_ (by assumption) ?_
    rotate_left
    · (intro w hSw; (try dsimp only at hSw); go_simp <;> with_reducible rfl)
    try simp only [Act.put, List.setIfInBounds_toArray, List.set_cons_zero, List.set_cons_succ]
    refine takeR (i := 49) (v := ?_) rfl (by as_aux_lemma => kernel_rfl) (by as_aux_lemma => kernel_rfl) (by as_aux_lemma => kernel_rfl) (fun _ _ _ h => h) (by rfl) ?_ (by assumption) ?_
    rotate_left
    · (intro w hSw; (try dsimp only at hSw); go_simp <;> with_reducible rfl)
    try simp only [Act.put, List.setIfInBounds_toArray, List.set_cons_zero, List.set_cons_succ]
    refine takeR (i := 50) (v := ?_) rfl (by as_aux_lemma => kernel_rfl) (by as_aux_lemma => kernel_rfl) (by as_aux_lemma => kernel_rfl) (fun _ _ _ h => h) (by rfl) ?_ (by assumption) ?_
    rotate_left
    · (intro w hSw; (try dsimp only at hSw); go_simp <;> with_reducible rfl)
    try simp only [Act.put, List.setIfInBounds_toArray, List.set_cons_zero, List.set_cons_succ]
    refine takeR (i := 52) (v := ?_) rfl (by as_aux_lemma => kernel_rfl) (by as_aux_lemma => kernel_rfl) (by as_aux_lemma => kernel_rfl) (fun _ _ _ h => h) (by rfl) ?_ (by assumption) ?_
    rotate_left
    · (intro w hSw; (try dsimp only at hSw); go_simp <;> with_reducible rfl)
    try simp only [Act.put, List.setIfInBounds_toArray, List.set_cons_zero, List.set_cons_succ]
    refine takeR (i := 53) (v := ?_) rfl (by as_aux_lemma => kernel_rfl) (by as_aux_lemma => kernel_rfl) (by as_aux_lemma => kernel_rfl) (fun _ _ _ h => h) (by rfl) ?_ (by assumption) ?_
    rotate_left
    · (intro w hSw; (try dsimp only at hSw); go_simp <;> with_reducible rfl)
    try simp only [Act.put, List.setIfInBounds_toArray, List.set_cons_zero, List.set_cons_succ]
    refine oneR (i := 51) rfl (by as_aux_lemma => kernel_rfl) (fun K hK => ?_)
    go_simp
    (with_reducible refine (HT5.out _ HA1.out).mono ?_)
    rintro e w1 ⟨rfl, hb⟩
    have HK := Lib.hid (HK.out.call hb)
    have HE1 := Lib.hid (HE1.out.call hb)
    have HE2 := Lib.hid (HE2.out.call hb)
    clear hb SF HA1 HA2 HA3 HA4
    have SF := HSS.out _ HK.out HE1.out HE2.out
    have HA1 := Lib.hid (HK.out.bsv (.tail _ (.tail _ (.tail _ (.head _)))))
    have HA2 := Lib.hid (HK.out.bsv (.tail _ (.tail _ (.head _))))
    have HA3 := Lib.hid (HK.out.bsv (.tail _ (.head _)))
    have HA4 := Lib.hid (HK.out.bsv (.head _))
    refine hK.out _ _ SF (fun _ => ?_)
    clear hK K
    try simp only [Act.put, List.setIfInBounds_toArray, List.set_cons_zero, List.set_cons_succ]
    refine oneR (i := 54) rfl (by as_aux_lemma => kernel_rfl) (fun K hK => ?_)
    go_simp
    (with_reducible refine (HT6.out _ HA1.out).mono ?_)
    rintro e w1 ⟨rfl, hb⟩
    have HK := Lib.hid (HK.out.call hb)
    have HE1 := Lib.hid (HE1.out.call hb)
    have HE2 := Lib.hid (HE2.out.call hb)
    clear hb SF HA1 HA2 HA3 HA4
    have SF := HSS.out _ HK.out HE1.out HE2.out
    have HA1 := Lib.hid (HK.out.bsv (.tail _ (.tail _ (.tail _ (.head _)))))
    have HA2 := Lib.hid (HK.out.bsv (.tail _ (.tail _ (.head _))))
    have HA3 := Lib.hid (HK.out.bsv (.tail _ (.head _)))
    have HA4 := Lib.hid (HK.out.bsv (.head _))
    refine hK.out _ _ SF (fun _ => ?_)
    clear hK K
    try simp only [Act.put, List.setIfInBounds_toArray, List.set_cons_zero, List.set_cons_succ]
    refine takeR (i := 55) (v := ?_) rfl (by as_aux_lemma => kernel_rfl) (by as_aux_lemma => kernel_rfl) (by as_aux_lemma => kernel_rfl) (fun _ _ _ h => h) (by rfl) ?_ (by assumption) ?_
    rotate_left
    · (intro w hSw; (try dsimp only at hSw); go_simp <;> with_reducible rfl)
    try simp only [Act.put, List.setIfInBounds_toArray, List.set_cons_zero, List.set_cons_succ]
    refine takeR (i := 56) (v := ?_) rfl (by as_aux_lemma => kernel_rfl) (by as_aux_lemma => kernel_rfl) (by as_aux_lemma => kernel_rfl) (fun _ _ _ h => h) (by rfl) ?_ (by assumption) ?_
    rotate_left
    · (intro w hSw; (try dsimp only at hSw); go_simp <;> with_reducible rfl)
    try simp only [Act.put, List.setIfInBounds_toArray, List.set_cons_zero, List.set_cons_succ]
    refine takeR (i := 57) (v := ?_) rfl (by as_aux_lemma => kernel_rfl) (by as_aux_lemma => kernel_rfl) (by as_aux_lemma => kernel_rfl) (fun _ _ _ h => h) (by rfl) ?_ (by assumption) ?_
    rotate_left
    · (intro w hSw; (try dsimp only at hSw); go_simp <;> with_reducible rfl)
    try simp only [Act.put, List.setIfInBounds_toArray, List.set_cons_zero, List.set_cons_succ]
    refine takeR (i := 58) (v := ?_) rfl (by as_aux_lemma => kernel_rfl) (by as_aux_lemma => kernel_rfl) (by as_aux_lemma => kernel_rfl) (fun _ _ _ h => h) (by rfl) ?_ (by assumption) ?_
    rotate_left
    · (intro w hSw; (try dsimp only at hSw); go_simp <;> with_reducible rfl)
    try simp only [Act.put, List.setIfInBounds_toArray, List.set_cons_zero, List.set_cons_succ]
    refine takeR (i := 59) (v := ?_) rfl (by as_aux_lemma => kernel_rfl) (by as_aux_lemma => kernel_rfl) (by as_aux_lemma => kernel_rfl) (fun _ _ _ h => h) (by rfl) ?_ (by assumption) ?_
    rotate_left
    · (intro w hSw; (try dsimp only at hSw); go_simp <;> with_reducible rfl)
    try simp only [Act.put, List.setIfInBounds_toArray, List.set_cons_zero, List.set_cons_succ]
    refine takeR (i := 61) (v := ?_) rfl (by as_aux_lemma => kernel_rfl) (by as_aux_lemma => kernel_rfl) (by as_aux_lemma => kernel_rfl) (fun _ _ _ h => h) (by rfl) ?_ (by assumption) ?_
    rotate_left
    · (intro w hSw; (try dsimp only at hSw); go_simp <;> with_reducible rfl)
    try simp only [Act.put, List.setIfInBounds_toArray, List.set_cons_zero, List.set_cons_succ]
    refine takeR (i := 62) (v := ?_) rfl (by as_aux_lemma => kernel_rfl) (by as_aux_lemma => kernel_rfl) (by as_aux_lemma => kernel_rfl) (fun _ _ _ h => h) (by rfl) ?_ (by assumption) ?_
    rotate_left
    · (intro w hSw; (try dsimp only at hSw); go_simp <;> with_reducible rfl)
    try simp only [Act.put, List.setIfInBounds_toArray, List.set_cons_zero, List.set_cons_succ]
    refine oneR (i := 60) rfl (by as_aux_lemma => kernel_rfl) (fun K hK => ?_)
    go_simp
    (with_reducible refine (HM1.out _ HA1.out HA2.out).mono ?_)
    rintro e w1 ⟨rfl, hb⟩
    have HK := Lib.hid (HK.out.call hb)
    have HE1 := Lib.hid (HE1.out.call hb)
    have HE2 := Lib.hid (HE2.out.call hb)
    clear hb SF HA1 HA2 HA3 HA4
    have SF := HSS.out _ HK.out HE1.out HE2.out
    have HA1 := Lib.hid (HK.out.bsv (.tail _ (.tail _ (.tail _ (.head _)))))
    have HA2 := Lib.hid (HK.out.bsv (.tail _ (.tail _ (.head _))))
    have HA3 := Lib.hid (HK.out.bsv (.tail _ (.head _)))
    have HA4 := Lib.hid (HK.out.bsv (.head _))
    refine hK.out _ _ SF (fun _ => ?_)
    clear hK K
    try simp only [Act.put, List.setIfInBounds_toArray, List.set_cons_zero, List.set_cons_succ]
    refine oneR (i := 63) rfl (by as_aux_lemma => kernel_rfl) (fun K hK => ?_)
    go_simp
    (with_reducible refine (HM2.out _ HA1.out HA2.out).mono ?_)
    rintro e w1 ⟨rfl, hb⟩
    have HK := Lib.hid (HK.out.call hb)
    have HE1 := Lib.hid (HE1.out.call hb)
    have HE2 := Lib.hid (HE2.out.call hb)
    clear hb SF HA1 HA2 HA3 HA4
    have SF := HSS.out _ HK.out HE1.out HE2.out
    have HA1 := Lib.hid (HK.out.bsv (.tail _ (.tail _ (.tail _ (.head _)))))
    have HA2 := Lib.hid (HK.out.bsv (.tail _ (.tail _ (.head _))))
    have HA3 := Lib.hid (HK.out.bsv (.tail _ (.head _)))
    have HA4 := Lib.hid (HK.out.bsv (.head _))
    refine hK.out _ _ SF (fun _ => ?_)
    clear hK K
    try simp only [Act.put, List.setIfInBounds_toArray, List.set_cons_zero, List.set_cons_succ]
    refine takeR (i := 64) (v := ?_) rfl (by as_aux_lemma => kernel_rfl) (by as_aux_lemma => kernel_rfl) (by as_aux_lemma => kernel_rfl) (fun _ _ _ h => h) (by rfl) ?_ (by assumption) ?_
    rotate_left
    · (intro w hSw; (try dsimp only at hSw); go_simp <;> with_reducible rfl)
    try simp only [Act.put, List.setIfInBounds_toArray, List.set_cons_zero, List.set_cons_succ]
    refine takeR (i := 65) (v := ?_) rfl (by as_aux_lemma => kernel_rfl) (by as_aux_lemma => kernel_rfl) (by as_aux_lemma => kernel_rfl) (fun _ _ _ h => h) (by rfl) ?_ (by assumption) ?_
    rotate_left
    · (intro w hSw; (try dsimp only at hSw); go_simp <;> with_reducible rfl)
    try simp only [Act.put, List.setIfInBounds_toArray, List.set_cons_zero, List.set_cons_succ]
    refine takeR (i := 66) (v := ?_) rfl (by as_aux_lemma => kernel_rfl) (by as_aux_lemma => kernel_rfl) (by as_aux_lemma => kernel_rfl) (fun _ _ _ h => h) (by rfl) ?_ (by assumption) ?_
    rotate_left
    · (intro w hSw; (try dsimp only at hSw); go_simp <;> with_reducible rfl)
    try simp only [Act.put, List.setIfInBounds_toArray, List.set_cons_zero, List.set_cons_succ]
    refine takeR (i := 67) (v := ?_) rfl (by as_aux_lemma => kernel_rfl) (by as_aux_lemma => kernel_rfl) (by as_aux_lemma => kernel_rfl) (fun _ _ _ h => h) (by rfl) ?_ (by assumption) ?_
    rotate_left
    · (intro w hSw; (try dsimp only at hSw); go_simp <;> with_reducible rfl)
    try simp only [Act.put, List.setIfInBounds_toArray, List.set_cons_zero, List.set_cons_succ]
    refine takeR (i := 68) (v := ?_) rfl (by as_aux_lemma => kernel_rfl) (by as_aux_lemma => kernel_rfl) (by as_aux_lemma => kernel_rfl) (fun _ _ _ h => h) (by rfl) ?_ (by assumption) ?_
    rotate_left
    · (intro w hSw; (try dsimp only at hSw); go_simp <;> with_reducible rfl)
    try simp only [Act.put, List.setIfInBounds_toArray, List.set_cons_zero, List.set_cons_succ]
    refine takeR (i := 70) (v := ?_) rfl (by as_aux_lemma => kernel_rfl) (by as_aux_lemma => kernel_rfl) (by as_aux_lemma => kernel_rfl) (fun _ _ _ h => h) (by rfl) ?_ (by assumption) ?_
    rotate_left
    · (intro w hSw; (try dsimp only at hSw); go_simp <;> with_reducible rfl)
    try simp only [Act.put, List.setIfInBounds_toArray, List.set_cons_zero, List.set_cons_succ]
    refine takeR (i := 71) (v := ?_) rfl (by as_aux_lemma => kernel_rfl) (by as_aux_lemma => kernel_rfl) (by as_aux_lemma => kernel_rfl) (fun _ _ _ h => h) (by rfl) ?_ (by assumption) ?_
    rotate_left
    · (intro w hSw; (try dsimp only at hSw); go_simp <;> with_reducible rfl)
    try simp only [Act.put, List.setIfInBounds_toArray, List.set_cons_zero, List.set_cons_succ]
    refine oneR (i := 69) rfl (by as_aux_lemma => kernel_rfl) (fun K hK => ?_)
    go_simp
    (with_reducible refine (HS1.out _ HA1.out HA2.out).mono ?_)
    rintro e w1 ⟨rfl, hb⟩
    have HK := Lib.hid (HK.out.call hb)
    have HE1 := Lib.hid (HE1.out.call hb)
    have HE2 := Lib.hid (HE2.out.call hb)
    clear hb SF HA1 HA2 HA3 HA4
    have SF := HSS.out _ HK.out HE1.out HE2.out
    have HA1 := Lib.hid (HK.out.bsv (.tail _ (.tail _ (.tail _ (.head _)))))
    have HA2 := Lib.hid (HK.out.bsv (.tail _ (.tail _ (.head _))))
    have HA3 := Lib.hid (HK.out.bsv (.tail _ (.head _)))
    have HA4 := Lib.hid (HK.out.bsv (.head _))
    refine hK.out _ _ SF (fun _ => ?_)
    clear hK K
    try simp only [Act.put, List.setIfInBounds_toArray, List.set_cons_zero, List.set_cons_succ]
    refine oneR (i := 72) rfl (by as_aux_lemma => kernel_rfl) (fun K hK => ?_)
    go_simp
    (with_reducible refine (HS2.out _ HA1.out HA2.out).mono ?_)
    rintro e w1 ⟨rfl, hb⟩
    have HK := Lib.hid (HK.out.call hb)
    have HE1 := Lib.hid (HE1.out.call hb)
    have HE2 := Lib.hid (HE2.out.call hb)
    clear hb SF HA1 HA2 HA3 HA4
    have SF := HSS.out _ HK.out HE1.out HE2.out
    have HA1 := Lib.hid (HK.out.bsv (.tail _ (.tail _ (.tail _ (.head _)))))
    have HA2 := Lib.hid (HK.out.bsv (.tail _ (.tail _ (.head _))))
    have HA3 := Lib.hid (HK.out.bsv (.tail _ (.head _)))
    have HA4 := Lib.hid (HK.out.bsv (.head _))
    refine hK.out _ _ SF (fun _ => ?_)
    clear hK K
    try simp only [Act.put, List.setIfInBounds_toArray, List.set_cons_zero, List.set_cons_succ]
    refine takeR (i := 73) (v := ?_) rfl (by as_aux_lemma => kernel_rfl) (by as_aux_lemma => kernel_rfl) (by as_aux_lemma => kernel_rfl) (fun _ _ _ h => h) (by rfl) ?_ (by assumption) ?_
    rotate_left
    · (intro w hSw; (try dsimp only at hSw); go_simp <;> with_reducible rfl)
    try simp only [Act.put, List.setIfInBounds_toArray, List.set_cons_zero, List.set_cons_succ]
    refine takeR (i := 74) (v := ?_) rfl (by as_aux_lemma => kernel_rfl) (by as_aux_lemma => kernel_rfl) (by as_aux_lemma => kernel_rfl) (fun _ _ _ h => h) (by rfl) ?_ (by assumption) ?_
    rotate_left
    · (intro w hSw; (try dsimp only at hSw); go_simp <;> with_reducible rfl)
    try simp only [Act.put, List.setIfInBounds_toArray, List.set_cons_zero, List.set_cons_succ]
    refine takeR (i := 75) (v := ?_) rfl (by as_aux_lemma => kernel_rfl) (by as_aux_lemma => kernel_rfl) (by as_aux_lemma => kernel_rfl) (fun _ _ _ h => h) (by rfl) ?_ (by assumption) ?_
    rotate_left
    · (intro w hSw; (try dsimp only at hSw); go_simp <;> with_reducible rfl)
    try simp only [Act.put, List.setIfInBounds_toArray, List.set_cons_zero, List.set_cons_succ]
    refine takeR (i := 76) (v := ?_) rfl (by as_aux_lemma => kernel_rfl) (by as_aux_lemma => kernel_rfl) (by as_aux_lemma => kernel_rfl) (fun _ _ _ h => h) (by rfl) ?_ (by assumption) ?_
    rotate_left
    · (intro w hSw; (try dsimp only at hSw); go_simp <;> with_reducible rfl)
    try simp only [Act.put, List.setIfInBounds_toArray, List.set_cons_zero, List.set_cons_succ]
    refine takeR (i := 78) (v := ?_) rfl (by as_aux_lemma => kernel_rfl) (by as_aux_lemma => kernel_rfl) (by as_aux_lemma => kernel_rfl) (fun _ _ _ h => h) (by rfl) ?_ (by assumption) ?_
    rotate_left
    · (intro w hSw; (try dsimp only at hSw); go_simp <;> with_reducible rfl)
    try simp only [Act.put, List.setIfInBounds_toArray, List.set_cons_zero, List.set_cons_succ]
    refine oneR (i := 77) rfl (by as_aux_lemma => kernel_rfl) (fun K hK => ?_)
    go_simp
    (with_reducible refine (HCL.out _ HA1.out).mono ?_)
    rintro e w1 ⟨v', rfl, ho, hb⟩
    obtain ⟨a9, k9, rfl⟩ := ho.shape
    have HV9 := Lib.hid ho.bsv; clear ho
    have HK := Lib.hid (HK.out.call hb)
    have HE1 := Lib.hid (HE1.out.call hb)
    have HE2 := Lib.hid (HE2.out.call hb)
    clear hb SF HA1 HA2 HA3 HA4
    have SF := HSS.out _ HK.out HE1.out HE2.out
    have HA1 := Lib.hid (HK.out.bsv (.tail _ (.tail _ (.tail _ (.head _)))))
    have HA2 := Lib.hid (HK.out.bsv (.tail _ (.tail _ (.head _))))
    have HA3 := Lib.hid (HK.out.bsv (.tail _ (.head _)))
    have HA4 := Lib.hid (HK.out.bsv (.head _))
    refine hK.out _ _ SF (fun _ => ?_)
    clear hK K
    try simp only [Act.put, List.setIfInBounds_toArray, List.set_cons_zero, List.set_cons_succ]
    refine oneR (i := 79) rfl (by as_aux_lemma => kernel_rfl) (fun K hK => ?_)
    go_simp
    (with_reducible refine (HSR.out _ _ _ _ _ _ _ _ HV9.out HA1.out).mono ?_)
    rintro e w1 ⟨rfl, hb⟩
    have HK := Lib.hid (HK.out.call hb)
    have HE1 := Lib.hid (HE1.out.call hb)
    have HE2 := Lib.hid (HE2.out.call hb)
    clear hb SF HA1 HA2 HA3 HA4
    have SF := HSS.out _ HK.out HE1.out HE2.out
    have HA1 := Lib.hid (HK.out.bsv (.tail _ (.tail _ (.tail _ (.head _)))))
    have HA2 := Lib.hid (HK.out.bsv (.tail _ (.tail _ (.head _))))
    have HA3 := Lib.hid (HK.out.bsv (.tail _ (.head _)))
    have HA4 := Lib.hid (HK.out.bsv (.head _))
    refine hK.out _ _ SF (fun _ => ?_)
    clear hK K
    try simp only [Act.put, List.setIfInBounds_toArray, List.set_cons_zero, List.set_cons_succ]
    refine takeR (i := 80) (v := ?_) rfl (by as_aux_lemma => kernel_rfl) (by as_aux_lemma => kernel_rfl) (by as_aux_lemma => kernel_rfl) (fun _ _ _ h => h) (by rfl) ?_ (by assumption) ?_
    rotate_left
    · (intro w hSw; (try dsimp only at hSw); go_simp <;> with_reducible rfl)
    try simp only [Act.put, List.setIfInBounds_toArray, List.set_cons_zero, List.set_cons_succ]
    refine takeR (i := 81) (v := ?_) rfl (by as_aux_lemma => kernel_rfl) (by as_aux_lemma => kernel_rfl) (by as_aux_lemma => kernel_rfl) (fun _ _ _ h => h) (by rfl) ?_ (by assumption) ?_
    rotate_left
    · (intro w hSw; (try dsimp only at hSw); go_simp <;> with_reducible rfl)
    try simp only [Act.put, List.setIfInBounds_toArray, List.set_cons_zero, List.set_cons_succ]
    refine wpAnyH_done (by kernel_rfl) ?_ _
    go_wp2
    go_ret
    exact ⟨rfl, HK.out.below⟩
  · go_simp
    refine hK.out _ _ SY (fun _ => ?_)
    clear hK K
    try simp only [Act.put, List.setIfInBounds_toArray, List.set_cons_zero, List.set_cons_succ]
    refine takeR (i := 21) (v := ?_) rfl (by as_aux_lemma => kernel_rfl) (by as_aux_lemma => kernel_rfl) (by as_aux_lemma => kernel_rfl) (fun _ _ _ h => h) (by rfl) ?_ (by assumption) ?_
    rotate_left
    · (intro w hSw; (try dsimp only at hSw); go_simp <;> with_reducible rfl)
    try simp only [Act.put, List.setIfInBounds_toArray, List.set_cons_zero, List.set_cons_succ]
    refine oneR (i := 16) rfl (by as_aux_lemma => kernel_rfl) (fun K hK => ?_)
    go_simp
    refine hK.out _ _ SYX (fun _ => ?_)
    clear hK K
    try simp only [Act.put, List.setIfInBounds_toArray, List.set_cons_zero, List.set_cons_succ]
    refine takeR (i := 17) (v := ?_) rfl (by as_aux_lemma => kernel_rfl) (by as_aux_lemma => kernel_rfl) (by as_aux_lemma => kernel_rfl) (fun _ _ _ h => h) (by rfl) ?_ (by assumption) ?_
    rotate_left
    · (intro w hSw; (try dsimp only at hSw); go_simp <;> with_reducible rfl)
    try simp only [Act.put, List.setIfInBounds_toArray, List.set_cons_zero, List.set_cons_succ]
    refine oneR (i := 22) rfl (by as_aux_lemma => kernel_rfl) (fun K hK => ?_)
    go_simp
    (with_reducible refine (HYX.out _ HE1.out.av HE2.out.av).mono ?_)
    rintro e w1 ⟨rfl, hb⟩
    have HK := Lib.hid (HK.out.call hb)
    have HE1 := Lib.hid (HE1.out.call hb)
    have HE2 := Lib.hid (HE2.out.call hb)
    clear hb SF HA1 HA2 HA3 HA4
    have SF := HSS.out _ HK.out HE1.out HE2.out
    have HA1 := Lib.hid (HK.out.bsv (.tail _ (.tail _ (.tail _ (.head _)))))
    have HA2 := Lib.hid (HK.out.bsv (.tail _ (.tail _ (.head _))))
    have HA3 := Lib.hid (HK.out.bsv (.tail _ (.head _)))
    have HA4 := Lib.hid (HK.out.bsv (.head _))
    refine hK.out _ _ SF (fun _ => ?_)
    clear hK K
    try simp only [Act.put, List.setIfInBounds_toArray, List.set_cons_zero, List.set_cons_succ]
    refine takeR (i := 23) (v := ?_) rfl (by as_aux_lemma => kernel_rfl) (by as_aux_lemma => kernel_rfl) (by as_aux_lemma => kernel_rfl) (fun _ _ _ h => h) (by rfl) ?_ (by assumption) ?_
    rotate_left
    · (intro w hSw; (try dsimp only at hSw); go_simp <;> with_reducible rfl)
    try simp only [Act.put, List.setIfInBounds_toArray, List.set_cons_zero, List.set_cons_succ]
    refine takeR (i := 24) (v := ?_) rfl (by as_aux_lemma => kernel_rfl) (by as_aux_lemma => kernel_rfl) (by as_aux_lemma => kernel_rfl) (fun _ _ _ h => h) (by rfl) ?_ (by assumption) ?_
    rotate_left
    · (intro w hSw; (try dsimp only at hSw); go_simp <;> with_reducible rfl)
    try simp only [Act.put, List.setIfInBounds_toArray, List.set_cons_zero, List.set_cons_succ]
    refine takeR (i := 25) (v := ?_) rfl (by as_aux_lemma => kernel_rfl) (by as_aux_lemma => kernel_rfl) (by as_aux_lemma => kernel_rfl) (fun _ _ _ h => h) (by rfl) ?_ (by assumption) ?_
    rotate_left
    · (intro w hSw; (try dsimp only at hSw); go_simp <;> with_reducible rfl)
    try simp only [Act.put, List.setIfInBounds_toArray, List.set_cons_zero, List.set_cons_succ]
    refine takeR (i := 26) (v := ?_) rfl (by as_aux_lemma => kernel_rfl) (by as_aux_lemma => kernel_rfl) (by as_aux_lemma => kernel_rfl) (fun _ _ _ h => h) (by rfl) ?_ (by assumption) ?_
    rotate_left
    · (intro w hSw; (try dsimp only at hSw); go_simp <;> with_reducible rfl)
    try simp only [Act.put, List.setIfInBounds_toArray, List.set_cons_zero, List.set_cons_succ]
    refine oneR (i := 27) rfl (by as_aux_lemma => kernel_rfl) (fun K hK => ?_)
    go_simp
    (with_reducible refine (HSR.out _ _ _ _ _ _ _ _ HA3.out HA4.out).mono ?_)
    rintro e w1 ⟨rfl, hb⟩
    have HK := Lib.hid (HK.out.call hb)
    have HE1 := Lib.hid (HE1.out.call hb)
    have HE2 := Lib.hid (HE2.out.call hb)
    clear hb SF HA1 HA2 HA3 HA4
    have SF := HSS.out _ HK.out HE1.out HE2.out
    have HA1 := Lib.hid (HK.out.bsv (.tail _ (.tail _ (.tail _ (.head _)))))
    have HA2 := Lib.hid (HK.out.bsv (.tail _ (.tail _ (.head _))))
    have HA3 := Lib.hid (HK.out.bsv (.tail _ (.head _)))
    have HA4 := Lib.hid (HK.out.bsv (.head _))
    refine hK.out _ _ SF (fun _ => ?_)
    clear hK K
    try simp only [Act.put, List.setIfInBounds_toArray, List.set_cons_zero, List.set_cons_succ]
    refine takeR (i := 28) (v := ?_) rfl (by as_aux_lemma => kernel_rfl) (by as_aux_lemma => kernel_rfl) (by as_aux_lemma => kernel_rfl) (fun _ _ _ h => h) (by rfl) ?_ (by assumption) ?_
    rotate_left
    · (intro w hSw; (try dsimp only at hSw); go_simp <;> with_reducible rfl)
    try simp only [Act.put, List.setIfInBounds_toArray, List.set_cons_zero, List.set_cons_succ]
    refine takeR (i := 29) (v := ?_) rfl (by as_aux_lemma => kernel_rfl) (by as_aux_lemma => kernel_rfl) (by as_aux_lemma => kernel_rfl) (fun _ _ _ h => h) (by rfl) ?_ (by assumption) ?_
    rotate_left
    · (intro w hSw; (try dsimp only at hSw); go_simp <;> with_reducible rfl)
    try simp only [Act.put, List.setIfInBounds_toArray, List.set_cons_zero, List.set_cons_succ]
    refine takeR (i := 30) (v := ?_) rfl (by as_aux_lemma => kernel_rfl) (by as_aux_lemma => kernel_rfl) (by as_aux_lemma => kernel_rfl) (fun _ _ _ h => h) (by rfl) ?_ (by assumption) ?_
    rotate_left
    · (intro w hSw; (try dsimp only at hSw); go_simp <;> with_reducible rfl)
    try simp only [Act.put, List.setIfInBounds_toArray, List.set_cons_zero, List.set_cons_succ]
    refine takeR (i := 31) (v := ?_) rfl (by as_aux_lemma => kernel_rfl) (by as_aux_lemma => kernel_rfl) (by as_aux_lemma => kernel_rfl) (fun _ _ _ h => h) (by rfl) ?_ (by assumption) ?_
    rotate_left
    · (intro w hSw; (try dsimp only at hSw); go_simp <;> with_reducible rfl)
    try simp only [Act.put, List.setIfInBounds_toArray, List.set_cons_zero, List.set_cons_succ]
    refine takeR (i := 32) (v := ?_) rfl (by as_aux_lemma => kernel_rfl) (by as_aux_lemma => kernel_rfl) (by as_aux_lemma => kernel_rfl) (fun _ _ _ h => h) (by rfl) ?_ (by assumption) ?_
    rotate_left
    · (intro w hSw; (try dsimp only at hSw); go_simp <;> with_reducible rfl)
    try simp only [Act.put, List.setIfInBounds_toArray, List.set_cons_zero, List.set_cons_succ]
    refine takeR (i := 33) (v := ?_) rfl (by as_aux_lemma => kernel_rfl) (by as_aux_lemma => kernel_rfl) (by as_aux_lemma => kernel_rfl) (fun _ _ _ h => h) (by rfl) ?_ (by assumption) ?_
    rotate_left
    · (intro w hSw; (try dsimp only at hSw); go_simp <;> with_reducible rfl)
    try simp only [Act.put, List.setIfInBounds_toArray, List.set_cons_zero, List.set_cons_succ]
    refine takeR (i := 34) (v := ?_) rfl (by as_aux_lemma => kernel_rfl) (by as_aux_lemma => kernel_rfl) (by as_aux_lemma => kernel_rfl) (fun _ _ _ h => h) (by rfl) ?_ (by assumption) ?_
    rotate_left
    · (intro w hSw; (try dsimp only at hSw); go_simp <;> with_reducible rfl)
    try simp only [Act.put, List.setIfInBounds_toArray, List.set_cons_zero, List.set_cons_succ]
    refine takeR (i := 35) (v := ?_) rfl (by as_aux_lemma => kernel_rfl) (by as_aux_lemma => kernel_rfl) (by as_aux_lemma => kernel_rfl) (fun _ _ _ h => h) (by rfl) ?_ (by assumption) ?_
    rotate_left
    · (intro w hSw; (try dsimp only at hSw); go_simp <;> with_reducible rfl)
    try simp only [Act.put, List.setIfInBounds_toArray, List.set_cons_zero, List.set_cons_succ]
    refine takeR (i := 37) (v := ?_) rfl (by as_aux_lemma => kernel_rfl) (by as_aux_lemma => kernel_rfl) (by as_aux_lemma => kernel_rfl) (fun _ _ _ h => h) (by rfl) ?_ (by assumption) ?_
    rotate_left
    · (intro w hSw; (try dsimp only at hSw); go_simp <;> with_reducible rfl)
    try simp only [Act.put, List.setIfInBounds_toArray, List.set_cons_zero, List.set_cons_succ]
    refine oneR (i := 36) rfl (by as_aux_lemma => kernel_rfl) (fun K hK => ?_)
    go_simp
    (with_reducible refine (HT1.out _ HA1.out).mono ?_)
    rintro e w1 ⟨rfl, hb⟩
    have HK := Lib.hid (HK.out.call hb)
    have HE1 := Lib.hid (HE1.out.call hb)
    have HE2 := Lib.hid (HE2.out.call hb)
    clear hb SF HA1 HA2 HA3 HA4
    have SF := HSS.out _ HK.out HE1.out HE2.out
    have HA1 := Lib.hid (HK.out.bsv (.tail _ (.tail _ (.tail _ (.head _)))))
    have HA2 := Lib.hid (HK.out.bsv (.tail _ (.tail _ (.head _))))
    have HA3 := Lib.hid (HK.out.bsv (.tail _ (.head _)))
    have HA4 := Lib.hid (HK.out.bsv (.head _))
    refine hK.out _ _ SF (fun _ => ?_)
    clear hK K
    try simp only [Act.put, List.setIfInBounds_toArray, List.set_cons_zero, List.set_cons_succ]
    refine oneR (i := 38) rfl (by as_aux_lemma => kernel_rfl) (fun K hK => ?_)
    go_simp
    (with_reducible refine (HT2.out _ HA1.out).mono ?_)
    rintro e w1 ⟨rfl, hb⟩
    have HK := Lib.hid (HK.out.call hb)
    have HE1 := Lib.hid (HE1.out.call hb)
    have HE2 := Lib.hid (HE2.out.call hb)
    clear hb SF HA1 HA2 HA3 HA4
    have SF := HSS.out _ HK.out HE1.out HE2.out
    have HA1 := Lib.hid (HK.out.bsv (.tail _ (.tail _ (.tail _ (.head _)))))
    have HA2 := Lib.hid (HK.out.bsv (.tail _ (.tail _ (.head _))))
    have HA3 := Lib.hid (HK.out.bsv (.tail _ (.head _)))
    have HA4 := Lib.hid (HK.out.bsv (.head _))
    refine hK.out _ _ SF (fun _ => ?_)
    clear hK K
    try simp only [Act.put, List.setIfInBounds_toArray, List.set_cons_zero, List.set_cons_succ]
    refine takeR (i := 39) (v := ?_) rfl (by as_aux_lemma => kernel_rfl) (by as_aux_lemma => kernel_rfl) (by as_aux_lemma => kernel_rfl) (fun _ _ _ h => h) (by rfl) ?_ (by assumption) ?_
    rotate_left
    · (intro w hSw; (try dsimp only at hSw); go_simp <;> with_reducible rfl)
    try simp only [Act.put, List.setIfInBounds_toArray, List.set_cons_zero, List.set_cons_succ]
    refine takeR (i := 40) (v := ?_) rfl (by as_aux_lemma => kernel_rfl) (by as_aux_lemma => kernel_rfl) (by as_aux_lemma => kernel_rfl) (fun _ _ _ h => h) (by rfl) ?_ (by assumption) ?_
    rotate_left
    · (intro w hSw; (try dsimp only at hSw); go_simp <;> with_reducible rfl)
    try simp only [Act.put, List.setIfInBounds_toArray, List.set_cons_zero, List.set_cons_succ]
    refine takeR (i := 41) (v := ?_) rfl (by as_aux_lemma => kernel_rfl) (by as_aux_lemma => kernel_rfl) (by as_aux_lemma => kernel_rfl) (fun _ _ _ h => h) (by rfl) ?_ (by assumption) ?_
    rotate_left
    · (intro w hSw; (try dsimp only at hSw); go_simp <;> with_reducible rfl)
    try simp only [Act.put, List.setIfInBounds_toArray, List.set_cons_zero, List.set_cons_succ]
    refine takeR (i := 42) (v := ?_) rfl (by as_aux_lemma => kernel_rfl) (by as_aux_lemma => kernel_rfl) (by as_aux_lemma => kernel_rfl) (fun _ _ _ h => h) (by rfl) ?_ (by assumption) ?_
    rotate_left
    · (intro w hSw; (try dsimp only at hSw); go_simp <;> with_reducible rfl)
    try simp only [Act.put, List.setIfInBounds_toArray, List.set_cons_zero, List.set_cons_succ]
    refine takeR (i := 44) (v := ?_) rfl (by as_aux_lemma => kernel_rfl) (by as_aux_lemma => kernel_rfl) (by as_aux_lemma => kernel_rfl) (fun _ _ _ h => h) (by rfl) ?_ (by assumption) ?_
    rotate_left
    · (intro w hSw; (try dsimp only at hSw); go_simp <;> with_reducible rfl)
    try simp only [Act.put, List.setIfInBounds_toArray, List.set_cons_zero, List.set_cons_succ]
    refine oneR (i := 43) rfl (by as_aux_lemma => kernel_rfl) (fun K hK => ?_)
    go_simp
    (with_reducible refine (HT3.out _ HA1.out).mono ?_)
    rintro e w1 ⟨rfl, hb⟩
    have HK := Lib.hid (HK.out.call hb)
    have HE1 := Lib.hid (HE1.out.call hb)
    have HE2 := Lib.hid (HE2.out.call hb)
    clear hb SF HA1 HA2 HA3 HA4
    have SF := HSS.out _ HK.out HE1.out HE2.out
    have HA1 := Lib.hid (HK.out.bsv (.tail _ (.tail _ (.tail _ (.head _)))))
    have HA2 := Lib.hid (HK.out.bsv (.tail _ (.tail _ (.head _))))
    have HA3 := Lib.hid (HK.out.bsv (.tail _ (.head _)))
    have HA4 := Lib.hid (HK.out.bsv (.head _))
    refine hK.out _ _ SF (fun _ => ?_)
    clear hK K
    try simp only [Act.put, List.setIfInBounds_toArray, List.set_cons_zero, List.set_cons_succ]
    refine oneR (i := 45) rfl (by as_aux_lemma => kernel_rfl) (fun K hK => ?_)
    go_simp
    (with_reducible refine (HT4.out _ HA1.out).mono ?_)
    rintro e w1 ⟨rfl, hb⟩
    have HK := Lib.hid (HK.out.call hb)
    have HE1 := Lib.hid (HE1.out.call hb)
    have HE2 := Lib.hid (HE2.out.call hb)
    clear hb SF HA1 HA2 HA3 HA4
    have SF := HSS.out _ HK.out HE1.out HE2.out
    have HA1 := Lib.hid (HK.out.bsv (.tail _ (.tail _ (.tail _ (.head _)))))
    have HA2 := Lib.hid (HK.out.bsv (.tail _ (.tail _ (.head _))))
    have HA3 := Lib.hid (HK.out.bsv (.tail _ (.head _)))
    have HA4 := Lib.hid (HK.out.bsv (.head _))
    refine hK.out _ _ SF (fun _ => ?_)
    clear hK K
    try simp only [Act.put, List.setIfInBounds_toArray, List.set_cons_zero, List.set_cons_succ]
    refine takeR (i := 46) (v := ?_) rfl (by as_aux_lemma => kernel_rfl) (by as_aux_lemma => kernel_rfl) (by as_aux_lemma => kernel_rfl) (fun _ _ _ h => h) (by rfl) ?_ (by assumption) ?_
    rotate_left
    · (intro w hSw; (try dsimp only at hSw); go_simp <;> with_reducible rfl)
    try simp only [Act.put, List.setIfInBounds_toArray, List.set_cons_zero, List.set_cons_succ]
    refine takeR (i := 47) (v := ?_) rfl (by as_aux_lemma => kernel_rfl) (by as_aux_lemma => kernel_rfl) (by as_aux_lemma => kernel_rfl) (fun _ _ _ h => h) (by rfl) ?_ (by assumption) ?_
    rotate_left
    · (intro w hSw; (try dsimp only at hSw); go_simp <;> with_reducible rfl)
    try simp only [Act.put, List.setIfInBounds_toArray, List.set_cons_zero, List.set_cons_succ]
    refine takeR (i := 48) (v := ?_) rfl (by as_aux_lemma => kernel_rfl) (by as_aux_lemma => kernel_rfl) (by as_aux_lemma => kernel_rfl) (fun _ _ _ h => h) (by rfl) ?_ (by assumption) ?_
    rotate_left
    · (intro w hSw; (try dsimp only at hSw); go_simp <;> with_reducible rfl)
    try simp only [Act.put, List.setIfInBounds_toArray, List.set_cons_zero, List.set_cons_succ]
    refine takeR (i := 49) (v := ?_) rfl (by as_aux_lemma => kernel_rfl) (by as_aux_lemma => kernel_rfl) (by as_aux_lemma => kernel_rfl) (fun _ _ _ h => h) (by rfl) ?_ (by assumption) ?_
    rotate_left
    · (intro w hSw; (try dsimp only at hSw); go_simp <;> with_reducible rfl)
    try simp only [Act.put, List.setIfInBounds_toArray, List.set_cons_zero, List.set_cons_succ]
    refine takeR (i := 50) (v := ?_) rfl (by as_aux_lemma => kernel_rfl) (by as_aux_lemma => kernel_rfl) (by as_aux_lemma => kernel_rfl) (fun _ _ _ h => h) (by rfl) ?_ (by assumption) ?_
    rotate_left
    · (intro w hSw; (try dsimp only at hSw); go_simp <;> with_reducible rfl)
    try simp only [Act.put, List.setIfInBounds_toArray, List.set_cons_zero, List.set_cons_succ]
    refine takeR (i := 52) (v := ?_) rfl (by as_aux_lemma => kernel_rfl) (by as_aux_lemma => kernel_rfl) (by as_aux_lemma => kernel_rfl) (fun _ _ _ h => h) (by rfl) ?_ (by assumption) ?_
    rotate_left
    · (intro w hSw; (try dsimp only at hSw); go_simp <;> with_reducible rfl)
    try simp only [Act.put, List.setIfInBounds_toArray, List.set_cons_zero, List.set_cons_succ]
    refine takeR (i := 53) (v := ?_) rfl (by as_aux_lemma => kernel_rfl) (by as_aux_lemma => kernel_rfl) (by as_aux_lemma => kernel_rfl) (fun _ _ _ h => h) (by rfl) ?_ (by assumption) ?_
    rotate_left
    · (intro w hSw; (try dsimp only at hSw); go_simp <;> with_reducible rfl)
    try simp only [Act.put, List.setIfInBounds_toArray, List.set_cons_zero, List.set_cons_succ]
    refine oneR (i := 51) rfl (by as_aux_lemma => kernel_rfl) (fun K hK => ?_)
    go_simp
    (with_reducible refine (HT5.out _ HA1.out).mono ?_)
    rintro e w1 ⟨rfl, hb⟩
    have HK := Lib.hid (HK.out.call hb)
    have HE1 := Lib.hid (HE1.out.call hb)
    have HE2 := Lib.hid (HE2.out.call hb)
    clear hb SF HA1 HA2 HA3 HA4
    have SF := HSS.out _ HK.out HE1.out HE2.out
    have HA1 := Lib.hid (HK.out.bsv (.tail _ (.tail _ (.tail _ (.head _)))))
    have HA2 := Lib.hid (HK.out.bsv (.tail _ (.tail _ (.head _))))
    have HA3 := Lib.hid (HK.out.bsv (.tail _ (.head _)))
    have HA4 := Lib.hid (HK.out.bsv (.head _))
    refine hK.out _ _ SF (fun _ => ?_)
    clear hK K
    try simp only [Act.put, List.setIfInBounds_toArray, List.set_cons_zero, List.set_cons_succ]
    refine oneR (i := 54) rfl (by as_aux_lemma => kernel_rfl) (fun K hK => ?_)
    go_simp
    (with_reducible refine (HT6.out _ HA1.out).mono ?_)
    rintro e w1 ⟨rfl, hb⟩
    have HK := Lib.hid (HK.out.call hb)
    have HE1 := Lib.hid (HE1.out.call hb)
    have HE2 := Lib.hid (HE2.out.call hb)
    clear hb SF HA1 HA2 HA3 HA4
    have SF := HSS.out _ HK.out HE1.out HE2.out
    have HA1 := Lib.hid (HK.out.bsv (.tail _ (.tail _ (.tail _ (.head _)))))
    have HA2 := Lib.hid (HK.out.bsv (.tail _ (.tail _ (.head _))))
    have HA3 := Lib.hid (HK.out.bsv (.tail _ (.head _)))
    have HA4 := Lib.hid (HK.out.bsv (.head _))
    refine hK.out _ _ SF (fun _ => ?_)
    clear hK K
    try simp only [Act.put, List.setIfInBounds_toArray, List.set_cons_zero, List.set_cons_succ]
    refine takeR (i := 55) (v := ?_) rfl (by as_aux_lemma => kernel_rfl) (by as_aux_lemma => kernel_rfl) (by as_aux_lemma => kernel_rfl) (fun _ _ _ h => h) (by rfl) ?_ (by assumption) ?_
    rotate_left
    · (intro w hSw; (try dsimp only at hSw); go_simp <;> with_reducible rfl)
    try simp only [Act.put, List.setIfInBounds_toArray, List.set_cons_zero, List.set_cons_succ]
    refine takeR (i := 56) (v := ?_) rfl (by as_aux_lemma => kernel_rfl) (by as_aux_lemma => kernel_rfl) (by as_aux_lemma => kernel_rfl) (fun _ _ _ h => h) (by rfl) ?_ (by assumption) ?_
    rotate_left
    · (intro w hSw; (try dsimp only at hSw); go_simp <;> with_reducible rfl)
    try simp only [Act.put, List.setIfInBounds_toArray, List.set_cons_zero, List.set_cons_succ]
    refine takeR (i := 57) (v := ?_) rfl (by as_aux_lemma => kernel_rfl) (by as_aux_lemma => kernel_rfl) (by as_aux_lemma => kernel_rfl) (fun _ _ _ h => h) (by rfl) ?_ (by assumption) ?_
    rotate_left
    · (intro w hSw; (try dsimp only at hSw); go_simp <;> with_reducible rfl)
    try simp only [Act.put, List.setIfInBounds_toArray, List.set_cons_zero, List.set_cons_succ]
    refine takeR (i := 58) (v := ?_) rfl (by as_aux_lemma => kernel_rfl) (by as_aux_lemma => kernel_rfl) (by as_aux_lemma => kernel_rfl) (fun _ _ _ h => h) (by rfl) ?_ (by assumption) ?_
    rotate_left
    · (intro w hSw; (try dsimp only at hSw); go_simp <;> with_reducible rfl)
    try simp only [Act.put, List.setIfInBounds_toArray, List.set_cons_zero, List.set_cons_succ]
    refine takeR (i := 59) (v := ?_) rfl (by as_aux_lemma => kernel_rfl) (by as_aux_lemma => kernel_rfl) (by as_aux_lemma => kernel_rfl) (fun _ _ _ h => h) (by rfl) ?_ (by assumption) ?_
    rotate_left
    · (intro w hSw; (try dsimp only at hSw); go_simp <;> with_reducible rfl)
    try simp only [Act.put, List.setIfInBounds_toArray, List.set_cons_zero, List.set_cons_succ]
    refine takeR (i := 61) (v := ?_) rfl (by as_aux_lemma => kernel_rfl) (by as_aux_lemma => kernel_rfl) (by as_aux_lemma => kernel_rfl) (fun _ _ _ h => h) (by rfl) ?_ (by assumption) ?_
    rotate_left
    · (intro w hSw; (try dsimp only at hSw); go_simp <;> with_reducible rfl)
    try simp only [Act.put, List.setIfInBounds_toArray, List.set_cons_zero, List.set_cons_succ]
    refine takeR (i := 62) (v := ?_) rfl (by as_aux_lemma => kernel_rfl) (by as_aux_lemma => kernel_rfl) (by as_aux_lemma => kernel_rfl) (fun _ _ _ h => h) (by rfl) ?_ (by assumption) ?_
    rotate_left
    · (intro w hSw; (try dsimp only at hSw); go_simp <;> with_reducible rfl)
    try simp only [Act.put, List.setIfInBounds_toArray, List.set_cons_zero, List.set_cons_succ]
    refine oneR (i := 60) rfl (by as_aux_lemma => kernel_rfl) (fun K hK => ?_)
    go_simp
    (with_reducible refine (HM1.out _ HA1.out HA2.out).mono ?_)
    rintro e w1 ⟨rfl, hb⟩
    have HK := Lib.hid (HK.out.call hb)
    have HE1 := Lib.hid (HE1.out.call hb)
    have HE2 := Lib.hid (HE2.out.call hb)
    clear hb SF HA1 HA2 HA3 HA4
    have SF := HSS.out _ HK.out HE1.out HE2.out
    have HA1 := Lib.hid (HK.out.bsv (.tail _ (.tail _ (.tail _ (.head _)))))
    have HA2 := Lib.hid (HK.out.bsv (.tail _ (.tail _ (.head _))))
    have HA3 := Lib.hid (HK.out.bsv (.tail _ (.head _)))
    have HA4 := Lib.hid (HK.out.bsv (.head _))
    refine hK.out _ _ SF (fun _ => ?_)
    clear hK K
    try simp only [Act.put, List.setIfInBounds_toArray, List.set_cons_zero, List.set_cons_succ]
    refine oneR (i := 63) rfl (by as_aux_lemma => kernel_rfl) (fun K hK => ?_)
    go_simp
    (with_reducible refine (HM2.out _ HA1.out HA2.out).mono ?_)
    rintro e w1 ⟨rfl, hb⟩
    have HK := Lib.hid (HK.out.call hb)
    have HE1 := Lib.hid (HE1.out.call hb)
    have HE2 := Lib.hid (HE2.out.call hb)
    clear hb SF HA1 HA2 HA3 HA4
    have SF := HSS.out _ HK.out HE1.out HE2.out
    have HA1 := Lib.hid (HK.out.bsv (.tail _ (.tail _ (.tail _ (.head _)))))
    have HA2 := Lib.hid (HK.out.bsv (.tail _ (.tail _ (.head _))))
    have HA3 := Lib.hid (HK.out.bsv (.tail _ (.head _)))
    have HA4 := Lib.hid (HK.out.bsv (.head _))
    refine hK.out _ _ SF (fun _ => ?_)
    clear hK K
    try simp only [Act.put, List.setIfInBounds_toArray, List.set_cons_zero, List.set_cons_succ]
    refine takeR (i := 64) (v := ?_) rfl (by as_aux_lemma => kernel_rfl) (by as_aux_lemma => kernel_rfl) (by as_aux_lemma => kernel_rfl) (fun _ _ _ h => h) (by rfl) ?_ (by assumption) ?_
    rotate_left
    · (intro w hSw; (try dsimp only at hSw); go_simp <;> with_reducible rfl)
    try simp only [Act.put, List.setIfInBounds_toArray, List.set_cons_zero, List.set_cons_succ]
    refine takeR (i := 65) (v := ?_) rfl (by as_aux_lemma => kernel_rfl) (by as_aux_lemma => kernel_rfl) (by as_aux_lemma => kernel_rfl) (fun _ _ _ h => h) (by rfl) ?_ (by assumption) ?_
    rotate_left
    · (intro w hSw; (try dsimp only at hSw); go_simp <;> with_reducible rfl)
    try simp only [Act.put, List.setIfInBounds_toArray, List.set_cons_zero, List.set_cons_succ]
    refine takeR (i := 66) (v := ?_) rfl (by as_aux_lemma => kernel_rfl) (by as_aux_lemma => kernel_rfl) (by as_aux_lemma => kernel_rfl) (fun _ _ _ h => h) (by rfl) ?_ (by assumption) ?_
    rotate_left
    · (intro w hSw; (try dsimp only at hSw); go_simp <;> with_reducible rfl)
    try simp only [Act.put, List.setIfInBounds_toArray, List.set_cons_zero, List.set_cons_succ]
    refine takeR (i := 67) (v := ?_) rfl (by as_aux_lemma => kernel_rfl) (by as_aux_lemma => kernel_rfl) (by as_aux_lemma => kernel_rfl) (fun _ _ _ h => h) (by rfl) ?_ (by assumption) ?_
    rotate_left
    · (intro w hSw; (try dsimp only at hSw); go_simp <;> with_reducible rfl)
    try simp only [Act.put, List.setIfInBounds_toArray, List.set_cons_zero, List.set_cons_succ]
    refine takeR (i := 68) (v := ?_) rfl (by as_aux_lemma => kernel_rfl) (by as_aux_lemma => kernel_rfl) (by as_aux_lemma => kernel_rfl) (fun _ _ _ h => h) (by rfl) ?_ (by assumption) ?_
    rotate_left
    · (intro w hSw; (try dsimp only at hSw); go_simp <;> with_reducible rfl)
    try simp only [Act.put, List.setIfInBounds_toArray, List.set_cons_zero, List.set_cons_succ]
    refine takeR (i := 70) (v := ?_) rfl (by as_aux_lemma => kernel_rfl) (by as_aux_lemma => kernel_rfl) (by as_aux_lemma => kernel_rfl) (fun _ _ _ h => h) (by rfl) ?_ (by assumption) ?_
    rotate_left
    · (intro w hSw; (try dsimp only at hSw); go_simp <;> with_reducible rfl)
    try simp only [Act.put, List.setIfInBounds_toArray, List.set_cons_zero, List.set_cons_succ]
    refine takeR (i := 71) (v := ?_) rfl (by as_aux_lemma => kernel_rfl) (by as_aux_lemma => kernel_rfl) (by as_aux_lemma => kernel_rfl) (fun _ _ _ h => h) (by rfl) ?_ (by assumption) ?_
    rotate_left
    · (intro w hSw; (try dsimp only at hSw); go_simp <;> with_reducible rfl)
    try simp only [Act.put, List.setIfInBounds_toArray, List.set_cons_zero, List.set_cons_succ]
    refine oneR (i := 69) rfl (by as_aux_lemma => kernel_rfl) (fun K hK => ?_)
    go_simp
    (with_reducible refine (HS1.out _ HA1.out HA2.out).mono ?_)
    rintro e w1 ⟨rfl, hb⟩
    have HK := Lib.hid (HK.out.call hb)
    have HE1 := Lib.hid (HE1.out.call hb)
    have HE2 := Lib.hid (HE2.out.call hb)
    clear hb SF HA1 HA2 HA3 HA4
    have SF := HSS.out _ HK.out HE1.out HE2.out
    have HA1 := Lib.hid (HK.out.bsv (.tail _ (.tail _ (.tail _ (.head _)))))
    have HA2 := Lib.hid (HK.out.bsv (.tail _ (.tail _ (.head _))))
    have HA3 := Lib.hid (HK.out.bsv (.tail _ (.head _)))
    have HA4 := Lib.hid (HK.out.bsv (.head _))
    refine hK.out _ _ SF (fun _ => ?_)
    clear hK K
    try simp only [Act.put, List.setIfInBounds_toArray, List.set_cons_zero, List.set_cons_succ]
    refine oneR (i := 72) rfl (by as_aux_lemma => kernel_rfl) (fun K hK => ?_)
    go_simp
    (with_reducible refine (HS2.out _ HA1.out HA2.out).mono ?_)
    rintro e w1 ⟨rfl, hb⟩
    have HK := Lib.hid (HK.out.call hb)
    have HE1 := Lib.hid (HE1.out.call hb)
    have HE2 := Lib.hid (HE2.out.call hb)
    clear hb SF HA1 HA2 HA3 HA4
    have SF := HSS.out _ HK.out HE1.out HE2.out
    have HA1 := Lib.hid (HK.out.bsv (.tail _ (.tail _ (.tail _ (.head _)))))
    have HA2 := Lib.hid (HK.out.bsv (.tail _ (.tail _ (.head _))))
    have HA3 := Lib.hid (HK.out.bsv (.tail _ (.head _)))
    have HA4 := Lib.hid (HK.out.bsv (.head _))
    refine hK.out _ _ SF (fun _ => ?_)
    clear hK K
    try simp only [Act.put, List.setIfInBounds_toArray, List.set_cons_zero, List.set_cons_succ]
    refine takeR (i := 73) (v := ?_) rfl (by as_aux_lemma => kernel_rfl) (by as_aux_lemma => kernel_rfl) (by as_aux_lemma => kernel_rfl) (fun _ _ _ h => h) (by rfl) ?_ (by assumption) ?_
    rotate_left
    · (intro w hSw; (try dsimp only at hSw); go_simp <;> with_reducible rfl)
    try simp only [Act.put, List.setIfInBounds_toArray, List.set_cons_zero, List.set_cons_succ]
    refine takeR (i := 74) (v := ?_) rfl (by as_aux_lemma => kernel_rfl) (by as_aux_lemma => kernel_rfl) (by as_aux_lemma => kernel_rfl) (fun _ _ _ h => h) (by rfl) ?_ (by assumption) ?_
    rotate_left
    · (intro w hSw; (try dsimp only at hSw); go_simp <;> with_reducible rfl)
    try simp only [Act.put, List.setIfInBounds_toArray, List.set_cons_zero, List.set_cons_succ]
    refine takeR (i := 75) (v := ?_) rfl (by as_aux_lemma => kernel_rfl) (by as_aux_lemma => kernel_rfl) (by as_aux_lemma => kernel_rfl) (fun _ _ _ h => h) (by rfl) ?_ (by assumption) ?_
    rotate_left
    · (intro w hSw; (try dsimp only at hSw); go_simp <;> with_reducible rfl)
    try simp only [Act.put, List.setIfInBounds_toArray, List.set_cons_zero, List.set_cons_succ]
    refine takeR (i := 76) (v := ?_) rfl (by as_aux_lemma => kernel_rfl) (by as_aux_lemma => kernel_rfl) (by as_aux_lemma => kernel_rfl) (fun _ _ _ h => h) (by rfl) ?_ (by assumption) ?_
    rotate_left
    · (intro w hSw; (try dsimp only at hSw); go_simp <;> with_reducible rfl)
    try simp only [Act.put, List.setIfInBounds_toArray, List.set_cons_zero, List.set_cons_succ]
    refine takeR (i := 78) (v := ?_) rfl (by as_aux_lemma => kernel_rfl) (by as_aux_lemma => kernel_rfl) (by as_aux_lemma => kernel_rfl) (fun _ _ _ h => h) (by rfl) ?_ (by assumption) ?_
    rotate_left
    · (intro w hSw; (try dsimp only at hSw); go_simp <;> with_reducible rfl)
    try simp only [Act.put, List.setIfInBounds_toArray, List.set_cons_zero, List.set_cons_succ]
    refine oneR (i := 77) rfl (by as_aux_lemma => kernel_rfl) (fun K hK => ?_)
    go_simp
    (with_reducible refine (HCL.out _ HA1.out).mono ?_)
    rintro e w1 ⟨v', rfl, ho, hb⟩
    obtain ⟨a9, k9, rfl⟩ := ho.shape
    have HV9 := Lib.hid ho.bsv; clear ho
    have HK := Lib.hid (HK.out.call hb)
    have HE1 := Lib.hid (HE1.out.call hb)
    have HE2 := Lib.hid (HE2.out.call hb)
    clear hb SF HA1 HA2 HA3 HA4
    have SF := HSS.out _ HK.out HE1.out HE2.out
    have HA1 := Lib.hid (HK.out.bsv (.tail _ (.tail _ (.tail _ (.head _)))))
    have HA2 := Lib.hid (HK.out.bsv (.tail _ (.tail _ (.head _))))
    have HA3 := Lib.hid (HK.out.bsv (.tail _ (.head _)))
    have HA4 := Lib.hid (HK.out.bsv (.head _))
    refine hK.out _ _ SF (fun _ => ?_)
    clear hK K
    try simp only [Act.put, List.setIfInBounds_toArray, List.set_cons_zero, List.set_cons_succ]
    refine oneR (i := 79) rfl (by as_aux_lemma => kernel_rfl) (fun K hK => ?_)
    go_simp
    (with_reducible refine (HSR.out _ _ _ _ _ _ _ _ HV9.out HA1.out).mono ?_)
    rintro e w1 ⟨rfl, hb⟩
    have HK := Lib.hid (HK.out.call hb)
    have HE1 := Lib.hid (HE1.out.call hb)
    have HE2 := Lib.hid (HE2.out.call hb)
    clear hb SF HA1 HA2 HA3 HA4
    have SF := HSS.out _ HK.out HE1.out HE2.out
    have HA1 := Lib.hid (HK.out.bsv (.tail _ (.tail _ (.tail _ (.head _)))))
    have HA2 := Lib.hid (HK.out.bsv (.tail _ (.tail _ (.head _))))
    have HA3 := Lib.hid (HK.out.bsv (.tail _ (.head _)))
    have HA4 := Lib.hid (HK.out.bsv (.head _))
    refine hK.out _ _ SF (fun _ => ?_)
    clear hK K
    try simp only [Act.put, List.setIfInBounds_toArray, List.set_cons_zero, List.set_cons_succ]
    refine takeR (i := 80) (v := ?_) rfl (by as_aux_lemma => kernel_rfl) (by as_aux_lemma => kernel_rfl) (by as_aux_lemma => kernel_rfl) (fun _ _ _ h => h) (by rfl) ?_ (by assumption) ?_
    rotate_left
    · (intro w hSw; (try dsimp only at hSw); go_simp <;> with_reducible rfl)
    try simp only [Act.put, List.setIfInBounds_toArray, List.set_cons_zero, List.set_cons_succ]
    refine takeR (i := 81) (v := ?_) rfl (by as_aux_lemma => kernel_rfl) (by as_aux_lemma => kernel_rfl) (by as_aux_lemma => kernel_rfl) (fun _ _ _ h => h) (by rfl) ?_ (by assumption) ?_
    rotate_left
    · (intro w hSw; (try dsimp only at hSw); go_simp <;> with_reducible rfl)
    try simp only [Act.put, List.setIfInBounds_toArray, List.set_cons_zero, List.set_cons_succ]
    refine wpAnyH_done (by kernel_rfl) ?_ _
    go_wp2
    go_ret
    exact ⟨rfl, HK.out.below⟩
end Go.Proofs.Ytppacelaeaaodaa
