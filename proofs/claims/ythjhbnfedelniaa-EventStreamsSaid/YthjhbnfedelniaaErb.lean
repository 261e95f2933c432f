/- Contracts: the reader takes attributes, and an event. -/
import Derived.Test.YthjhbnfedelniaaEr
import Derived.Test.YthjhbnfedelniaaEc
import Derived.Deep.AppendLies
namespace Go.Proofs.Ythjhbnfedelniaa
open Go Go.RowKit

theorem ErIs.from_ {w : World} {B q : Nat} {bytes : List Nat} {s : Qs} (h : ErIs w B q bytes s) : B ≤ q := by obtain ⟨p, h, _⟩ := h; exact h.from_
theorem ErIs.alloc {w : World} {B q : Nat} {bytes : List Nat} {s : Qs} (h : ErIs w B q bytes s) (o : Obj) : ErIs (w.alloc o) B q bytes s :=
  h.below ((Below.refl w.heap.size w).alloc (Nat.le_refl _) o) (Nat.le_refl _)
/-- A store into a block of another type leaves the reader as it is. -/
theorem ErIs.other {w : World} {B q D t : Nat} {bytes : List Nat} {s : Qs} {cs : Array Value} {fr : Nat × Nat} (h : ErIs w B q bytes s) (hD : w.heap[D]? = some (.cells cs t fr)) (h1 : t ≠ 86) (h2 : t ≠ 5) (i : Nat) (u : Value) : ErIs (w.setCell ⟨D, i, none⟩ u) B q bytes s := by
  obtain ⟨p, hs, hl⟩ := h
  obtain ⟨v, hq, ho⟩ := hs.row
  refine ⟨p, ⟨hs.from_, hs.len, hs.at_, hs.small, v, ?_, ownsRow_setCell_typed ho hD h2 u⟩, hl⟩
  refine heap_setCell_far hq (fun e => ?_) u
  simp only at e
  subst e
  rw [hD] at hq
  simp only [Option.some.injEq, Obj.cells.injEq] at hq
  exact h1 hq.2.1
/-- A call's own two boxes: that of its result, and that of what it fills; and the reader. -/
structure Ra (w0 : World) (B q R D t : Nat) (bytes : List Nat) (cr cs : Array Value) (s : Qs) (w : World) : Prop where
  kept : Kept B erT w0 w
  er : ErIs w B q bytes s
  hB : B ≤ w0.heap.size
  hR : w0.heap.size ≤ R
  hD : w0.heap.size ≤ D
  ne : R ≠ D
  br : w.heap[R]? = some (.cells cr t (0, 0))
  bd : w.heap[D]? = some (.cells cs t (0, 0))
theorem Ra.call {w0 : World} {B q R D t : Nat} {bytes : List Nat} {cr cs : Array Value} {s s' : Qs} {w w' : World} (h : Ra w0 B q R D t bytes cr cs s w) (ht : erT t = false) (hk : Kept B erT w w') (he : ErIs w' B q bytes s') : Ra w0 B q R D t bytes cr cs s' w' :=
  ⟨h.kept.trans hk, he, h.hB, h.hR, h.hD, h.ne, hk.typed _ _ _ _ h.br ht, hk.typed _ _ _ _ h.bd ht⟩
theorem Ra.set {w0 : World} {B q R D t : Nat} {bytes : List Nat} {cr cs : Array Value} {s : Qs} {w : World} (h : Ra w0 B q R D t bytes cr cs s w) (h1 : t ≠ 86) (h2 : t ≠ 5) (i : Nat) (u : Value) : Ra w0 B q R D t bytes cr (cs.setIfInBounds i u) s (w.setCell ⟨D, i, none⟩ u) :=
  ⟨h.kept.setCell_fresh (p := ⟨D, i, none⟩) (Nat.le_trans h.hB h.hD) h.hD u, h.er.other h.bd h1 h2 i u, h.hB, h.hR, h.hD, h.ne, heap_setCell_far (p := ⟨D, i, none⟩) h.br h.ne u, by rw [heap_setCell_same h.bd]⟩
theorem Ra.setR {w0 : World} {B q R D t : Nat} {bytes : List Nat} {cr cs : Array Value} {s : Qs} {w : World} (h : Ra w0 B q R D t bytes cr cs s w) (h1 : t ≠ 86) (h2 : t ≠ 5) (i : Nat) (u : Value) : Ra w0 B q R D t bytes (cr.setIfInBounds i u) cs s (w.setCell ⟨R, i, none⟩ u) :=
  ⟨h.kept.setCell_fresh (p := ⟨R, i, none⟩) (Nat.le_trans h.hB h.hR) h.hR u, h.er.other h.br h1 h2 i u, h.hB, h.hR, h.hD, h.ne, by rw [heap_setCell_same h.br], heap_setCell_far (p := ⟨R, i, none⟩) h.bd (fun e => h.ne e.symm) u⟩
theorem Ra.setErr {w0 : World} {B q R D t : Nat} {bytes : List Nat} {cr cs : Array Value} {s : Qs} {w : World} (h : Ra w0 B q R D t bytes cr cs s w) (ht : erT t = false) (e : Nat) (c : Int) (hc : c = ((e : Nat) : Int)) : Ra w0 B q R D t bytes cr cs (e, s.2) (w.setCell ⟨q, 3, none⟩ (.int .i64 c)) := by
  rw [hc]
  exact h.call ht (h.er.setErr e).2 (h.er.setErr e).1
theorem Ra.new {w : World} {B q t : Nat} {bytes : List Nat} {s : Qs} (h : ErIs w B q bytes s) (hB : B ≤ w.heap.size) (cs : Array Value) : Ra w B q w.heap.size (w.heap.size + 1) t bytes cs cs s ((w.alloc (.cells cs t)).alloc (.cells cs t)) :=
  ⟨((Kept.refl B erT w).alloc hB _).alloc (by simp; omega) _, (h.alloc _).alloc _, hB, Nat.le_refl _, Nat.le_succ _, by omega, heap_alloc_keeps (heap_alloc_new w _) _, heap_alloc_at (by simp) rfl⟩
theorem four_cells_of {w : World} {q : Nat} {c0 c1 c2 c3 : Value} {t : Nat} {fr : Nat × Nat} (h : w.heap[q]? = some (.cells #[c0, c1, c2, c3] t fr)) :
    w.cell? ⟨q, 0, none⟩ = some c0 ∧ w.cell? ⟨q, 1, none⟩ = some c1 ∧ w.cell? ⟨q, 2, none⟩ = some c2 ∧ w.cell? ⟨q, 3, none⟩ = some c3 := by
  refine ⟨?_, ?_, ?_, ?_⟩ <;> simp [World.cell?, h]
theorem free_cells_of {w : World} {q : Nat} {cs : Array Value} {t : Nat} (h : w.heap[q]? = some (.cells cs t (0, 0))) (i : Nat) : w.frozen? ⟨q, i, none⟩ = false := by
  simp [World.frozen?, h]
theorem bitsVal_lt (l : List Bool) (n : Nat) : bitsVal l (n : Int) < 2 ^ n := by
  unfold bitsVal
  split
  · have h := valBits_lt (l.take ((n : Int)).toNat)
    refine Nat.lt_of_lt_of_le h (Nat.pow_le_pow_right (by omega) ?_)
    rw [List.length_take]
    have : ((n : Int)).toNat = n := rfl
    omega
  · exact Nat.two_pow_pos _
theorem qB_lt (n : Nat) (s : Qs) : (qB n s).1 < 2 ^ n := by
  unfold qB
  split
  · exact bitsVal_lt _ _
  · exact Nat.two_pow_pos _
def atVal (x : At) : Value := .agg #[.string x.name, .int .i64 x.k, .int .i64 x.n, .string x.s]

set_option maxRecDepth 100000 in
set_option maxHeartbeats 1600000 in
theorem reAttr_any (B q : Nat) (bytes : List Nat) (s : Qs) (w : World) (h : ErIs w B q bytes s) (hB : B ≤ w.heap.size) :
    Calls Try.prog 80 #[.pointer (some ⟨q, 0, none⟩)] w fun e w' => e = .returned (atVal (qAttr s).1) ∧ ErIs w' B q bytes (qAttr s).2 ∧ Kept B erT w w' := by
  have h0 : Ra w B q w.heap.size (w.heap.size + 1) 57 bytes #[.string ⟨#[]⟩, .int .i64 0, .int .i64 0, .string ⟨#[]⟩] #[.string ⟨#[]⟩, .int .i64 0, .int .i64 0, .string ⟨#[]⟩] s ((w.alloc (.cells #[.string ⟨#[]⟩, .int .i64 0, .int .i64 0, .string ⟨#[]⟩] 57)).alloc (.cells #[.string ⟨#[]⟩, .int .i64 0, .int .i64 0, .string ⟨#[]⟩] 57)) := Ra.new h hB _
  have CT := fun (s : Qs) (w : World) (h : ErIs w B q bytes s) => reText_any B q bytes s w h
  have CB := fun (s : Qs) (w : World) (h : ErIs w B q bytes s) => reBits_any B q 2 bytes s w h (by decide)
  have CN := fun (s : Qs) (w : World) (h : ErIs w B q bytes s) => reNum_any B q bytes s w h
  have hK4 := qB_lt 2 (qName s).2
  obtain ⟨K, hK⟩ : ∃ K, K = (qKind s).1 := ⟨_, rfl⟩
  have hK' : K = (qB 2 (qName s).2).1 := hK
  rw [← hK'] at hK4
  have HC1 := hide (CT s); have HC2 := hide (CB (qName s).2); have HC3 := hide (CN (qKind s).2); have HC4 := hide (CT (qKind s).2)
  have hQA : qAttr s = if (qKind s).2.1 ≠ 0 then (atZ, (qKind s).2) else qVal s := rfl
  have hQV : qVal s = if K = 1 then (⟨(qName s).1, 1, (qI (qKind s).2).1, ⟨#[]⟩⟩, (qI (qKind s).2).2) else if K = 2 then (⟨(qName s).1, 2, 0, (qT (qKind s).2).1⟩, (qT (qKind s).2).2) else (⟨(qName s).1, (K : Nat), 0, ⟨#[]⟩⟩, (40, (qKind s).2.2)) := by rw [hK]; rfl
  obtain ⟨nm, hnm⟩ : ∃ nm, nm = (qName s).1 := ⟨_, rfl⟩
  have hnm' : nm = (qT s).1 := hnm
  rw [← hnm'] at HC1
  rw [← hK'] at HC2
  rw [← hnm] at hQV
  have HQA := hide hQA; have HQV := hide hQV
  have HR0 := hide h0
  have hKz : (0 : Int) ≤ (K : Int) := by omega
  have hK3 : (K : Int) ≤ 3 := by omega
  clear h0 h CT CB CN hK' hnm' hnm hK hQA hQV hB hK4
  obtain ⟨P, hP⟩ : ∃ P, P = w.heap.size := ⟨_, rfl⟩
  obtain ⟨W, hW⟩ : ∃ W, W = (w.alloc (.cells #[.string ⟨#[]⟩, .int .i64 0, .int .i64 0, .string ⟨#[]⟩] 57)).alloc (.cells #[.string ⟨#[]⟩, .int .i64 0, .int .i64 0, .string ⟨#[]⟩] 57) := ⟨_, rfl⟩
  rw [← hW, ← hP] at HR0
  have HW := hide hW; have HP := hide hP
  clear hP hW
  go_enter Try.func80, Try.ntmps80
  go_wp2_with fail
  rw [← HP.out, ← HW.out]
  refine (HC1.out _ HR0.out.er).mono ?_
  rintro e w1 ⟨rfl, he, k⟩
  have HR1 := hide (HR0.out.call (by decide) k he)
  clear he k
  obtain ⟨c0, c1, c2, c3⟩ := four_cells_of HR1.out.bd
  have f0 := free_cells_of HR1.out.bd 0
  go_wp2_with fail
  have HR2 := hide (HR1.out.set (by decide) (by decide) 0 (.string nm))
  clear c0 c1 c2 c3 f0
  refine (HC2.out _ HR2.out.er).mono ?_
  rintro e w2 ⟨rfl, he, k⟩
  have HR3 := hide (HR2.out.call (by decide) k he)
  clear he k
  obtain ⟨c0, c1, c2, c3⟩ := four_cells_of HR3.out.bd
  have f1 := free_cells_of HR3.out.bd 1
  have HR4 := hide (HR3.out.set (by decide) (by decide) 1 (.int .i64 (K : Int)))
  have ce : (w2.setCell ⟨P + 1, 1, none⟩ (.int .i64 (K : Int))).cell? ⟨q, 3, none⟩ = some (.int .i64 (((qKind s).2.1 : Nat) : Int)) := HR4.out.er.err
  clear c0 c1 c2 c3
  obtain ⟨c0, c1, c2, c3⟩ := four_cells_of HR3.out.bd
  by_cases hE : (qKind s).2.1 = 0
  · rw [hE] at ce
    have hqa := HQA.out
    rw [if_neg (by simp [hE])] at hqa
    have HQA := hide hqa
    have HE := hide hE
    clear hqa hE
    by_cases hK1 : K = 1
    · have b1 : ((K : Int) == 1) = true := by simp [hK1]
      obtain ⟨n, hn⟩ : ∃ n, n = (qI (qKind s).2).1 := ⟨_, rfl⟩
      have hc3 := HC3.out
      rw [← hn] at hc3
      have hqv := HQV.out
      rw [if_pos hK1, ← hn] at hqv
      have HC3 := hide hc3
      have HQV := hide hqv
      have HK1 := hide hK1
      clear hn hc3 hqv hK1
      go_wp2_with fail
      refine (HC3.out _ HR4.out.er).mono ?_
      rintro e w3 ⟨rfl, he, k⟩
      have HR5 := hide (HR4.out.call (by decide) k he)
      clear he k c0 c1 c2 c3 f1 ce
      obtain ⟨c0, c1, c2, c3⟩ := four_cells_of HR5.out.bd
      have f2 := free_cells_of HR5.out.bd 2
      have HR6 := hide (HR5.out.set (by decide) (by decide) 2 (.int .i64 n))
      obtain ⟨d0, d1, d2, d3⟩ := four_cells_of HR6.out.bd
      have r0 := free_cells_of HR6.out.br 0; have r1 := free_cells_of HR6.out.br 1; have r2 := free_cells_of HR6.out.br 2; have r3 := free_cells_of HR6.out.br 3
      obtain ⟨x0, x1, x2, x3⟩ := four_cells_of HR6.out.br
      go_wp2
      have HZ := hide ((((HR6.out.setR (by decide) (by decide) 0 (.string nm)).setR (by decide) (by decide) 1 (.int .i64 (K : Int))).setR (by decide) (by decide) 2 (.int .i64 n)).setR (by decide) (by decide) 3 (.string ⟨#[]⟩))
      have z := four_cells_of HZ.out.br
      refine bodyPost_ret (v := .agg #[.string nm, .int .i64 (K : Int), .int .i64 n, .string ⟨#[]⟩]) (by simp [results, Try.results80, go_sem, z]) rfl ⟨?_, ?_, HZ.out.kept⟩
      · rw [HQA.out, HQV.out, HK1.out]; rfl
      · rw [HQA.out, HQV.out]; exact HZ.out.er
    · by_cases hK2 : K = 2
      · have b1 : ((K : Int) == 1) = false := by simp [hK2]
        have b2 : ((K : Int) == 2) = true := by simp [hK2]
        obtain ⟨t, ht⟩ : ∃ t, t = (qT (qKind s).2).1 := ⟨_, rfl⟩
        have hc4 := HC4.out
        rw [← ht] at hc4
        have hqv := HQV.out
        rw [if_neg hK1, if_pos hK2, ← ht] at hqv
        have HC4 := hide hc4
        have HQV := hide hqv
        have HK2 := hide hK2
        clear ht hc4 hqv hK1 hK2
        go_wp2_with fail
        refine (HC4.out _ HR4.out.er).mono ?_
        rintro e w3 ⟨rfl, he, k⟩
        have HR5 := hide (HR4.out.call (by decide) k he)
        clear he k c0 c1 c2 c3 f1 ce
        obtain ⟨c0, c1, c2, c3⟩ := four_cells_of HR5.out.bd
        have f3 := free_cells_of HR5.out.bd 3
        have HR6 := hide (HR5.out.set (by decide) (by decide) 3 (.string t))
        obtain ⟨d0, d1, d2, d3⟩ := four_cells_of HR6.out.bd
        have r0 := free_cells_of HR6.out.br 0; have r1 := free_cells_of HR6.out.br 1; have r2 := free_cells_of HR6.out.br 2; have r3 := free_cells_of HR6.out.br 3
        obtain ⟨x0, x1, x2, x3⟩ := four_cells_of HR6.out.br
        go_wp2
        have HZ := hide ((((HR6.out.setR (by decide) (by decide) 0 (.string nm)).setR (by decide) (by decide) 1 (.int .i64 (K : Int))).setR (by decide) (by decide) 2 (.int .i64 0)).setR (by decide) (by decide) 3 (.string t))
        have z := four_cells_of HZ.out.br
        refine bodyPost_ret (v := .agg #[.string nm, .int .i64 (K : Int), .int .i64 0, .string t]) (by simp [results, Try.results80, go_sem, z]) rfl ⟨?_, ?_, HZ.out.kept⟩
        · rw [HQA.out, HQV.out, HK2.out]; rfl
        · rw [HQA.out, HQV.out]; exact HZ.out.er
      · have b1 : ((K : Int) == 1) = false := by simp; omega
        have b2 : ((K : Int) == 2) = false := by simp; omega
        have hqv := HQV.out
        rw [if_neg hK1, if_neg hK2] at hqv
        have HQV := hide hqv
        have fe := HR4.out.er.free
        have HR6 := hide (HR4.out.setErr (by decide) 40 40 rfl)
        clear hqv hK1 hK2
        obtain ⟨d0, d1, d2, d3⟩ := four_cells_of HR6.out.bd
        have r0 := free_cells_of HR6.out.br 0; have r1 := free_cells_of HR6.out.br 1; have r2 := free_cells_of HR6.out.br 2; have r3 := free_cells_of HR6.out.br 3
        obtain ⟨x0, x1, x2, x3⟩ := four_cells_of HR6.out.br
        go_wp2
        have HZ := hide ((((HR6.out.setR (by decide) (by decide) 0 (.string nm)).setR (by decide) (by decide) 1 (.int .i64 (K : Int))).setR (by decide) (by decide) 2 (.int .i64 0)).setR (by decide) (by decide) 3 (.string ⟨#[]⟩))
        have z := four_cells_of HZ.out.br
        refine bodyPost_ret (v := .agg #[.string nm, .int .i64 (K : Int), .int .i64 0, .string ⟨#[]⟩]) (by simp [results, Try.results80, go_sem, z]) rfl ⟨?_, ?_, HZ.out.kept⟩
        · rw [HQA.out, HQV.out]; rfl
        · rw [HQA.out, HQV.out]; exact HZ.out.er
  · have b1 : ((((qKind s).2.1 : Nat) : Int) != 0) = true := by simp; omega
    have hqa := HQA.out
    rw [if_pos hE] at hqa
    have HQA := hide hqa
    have HS : Hid (HR4.out.er = HR4.out.er) := rfl
    obtain ⟨E, hE'⟩ : ∃ E : Int, E = (((qKind s).2.1 : Nat) : Int) := ⟨_, rfl⟩
    rw [← hE'] at b1 ce
    clear hqa hE hE' HS
    have r0 := free_cells_of HR4.out.br 0; have r1 := free_cells_of HR4.out.br 1; have r2 := free_cells_of HR4.out.br 2; have r3 := free_cells_of HR4.out.br 3
    obtain ⟨x0, x1, x2, x3⟩ := four_cells_of HR4.out.br
    go_wp2
    have HZ := hide ((((HR4.out.setR (by decide) (by decide) 0 (.string ⟨#[]⟩)).setR (by decide) (by decide) 1 (.int .i64 0)).setR (by decide) (by decide) 2 (.int .i64 0)).setR (by decide) (by decide) 3 (.string ⟨#[]⟩))
    have z := four_cells_of HZ.out.br
    refine bodyPost_ret (v := .agg #[.string ⟨#[]⟩, .int .i64 0, .int .i64 0, .string ⟨#[]⟩]) (by simp [results, Try.results80, go_sem, z]) rfl ⟨?_, ?_, HZ.out.kept⟩
    · rw [HQA.out]; rfl
    · rw [HQA.out]; exact HZ.out.er
end Go.Proofs.Ythjhbnfedelniaa
namespace Go.Proofs.Ythjhbnfedelniaa
open Go Go.RowKit

theorem EsIs.grown {w w' : World} {B q : Nat} {ec : Int} {bytes : List Nat} {p : Nat} (h : EsIs w B q ec bytes p) {B0 e size n : Nat} {v : Value} {xs : List Value} (hown : w.ownsRow B0 e size v n xs) (he1 : 86 ≠ e) (he2 : 5 ≠ e) (hg : w.grownBy w' v.ownBlock) : EsIs w' B q ec bytes p := by
  obtain ⟨u, hq, ho⟩ := h.row
  refine ⟨h.from_, h.len, h.at_, h.small, u, grow_keeps hq hown he1 hg rfl, ho.1, ?_⟩
  rcases ho.2 with hn | ⟨g, cap, cur, hv, hb, hgg, rest⟩
  · exact .inl hn
  · exact .inr ⟨g, cap, cur, hv, hb, grow_keeps hgg hown he2 hg rfl, rest⟩
theorem ErIs.grown {w w' : World} {B q : Nat} {bytes : List Nat} {s : Qs} (h : ErIs w B q bytes s) {B0 e size n : Nat} {v : Value} {xs : List Value} (hown : w.ownsRow B0 e size v n xs) (he1 : 86 ≠ e) (he2 : 5 ≠ e) (hg : w.grownBy w' v.ownBlock) : ErIs w' B q bytes s := by
  obtain ⟨p, h3, h4⟩ := h; exact ⟨p, h3.grown hown he1 he2 hg, h4⟩

set_option maxRecDepth 100000 in
set_option maxHeartbeats 1600000 in
theorem reAttrs_any (B q : Nat) (bytes : List Nat) (s : Qs) (w : World) (h : ErIs w B q bytes s) (hB : B ≤ w.heap.size) :
    Calls Try.prog 64 #[.pointer (some ⟨q, 0, none⟩)] w fun e w' => ∃ v, e = .returned v ∧ w'.ownsRow w.heap.size 57 4 v (qAttrs s).1.length ((qAttrs s).1.flatMap enc4) ∧ ErIs w' B q bytes (qAttrs s).2 ∧ Kept B erT w w' := by
  obtain ⟨i0, hi, hz0, hz1, hz2⟩ := info_parts infoAttr
  have CB := reBits_any B q 4 bytes s w h (by decide)
  have hM16 := qB_lt 4 s
  obtain ⟨sM, hsM⟩ : ∃ sM, sM = (qB 4 s).2 := ⟨_, rfl⟩
  obtain ⟨M, hM⟩ : ∃ M, M = (qB 4 s).1 := ⟨_, rfl⟩
  have hQ : qAttrs s = if 8 < M then ([], (40, sM.2)) else if (qGo sM M).2.1 ≠ 0 then ([], (qGo sM M).2) else qGo sM M := by rw [hsM, hM]; rfl
  rw [← hM, ← hsM] at CB
  rw [← hM] at hM16
  have HQ := hide hQ; have HB := hide hB
  clear hM hsM hQ h hB
  have hM3 : (M : Int) ≤ 15 := by omega
  have hM0 : (0 : Int) ≤ (M : Int) := by omega
  go_enter Try.func64, Try.ntmps64
  go_wp2_with fail
  refine CB.mono ?_
  clear CB
  rintro e w1 ⟨rfl, he1, k1⟩
  have HE1 := hide he1; have HK1 := hide k1
  have fe := he1.free
  have ce := he1.err
  obtain ⟨E0, hE0⟩ : ∃ E0 : Int, E0 = ((sM.1 : Nat) : Int) := ⟨_, rfl⟩
  rw [← hE0] at ce
  clear he1 k1 hE0
  by_cases h8 : 8 < M
  · go_wp2
    go_ret
    refine ⟨_, rfl, ?_, ?_, ?_⟩
    · rw [HQ.out, if_pos h8]; exact World.ownsRow_nil _ _ _ _
    · rw [HQ.out, if_pos h8]; exact (HE1.out.setErr 40).1
    · exact HK1.out.trans (HE1.out.setErr 40).2
  · have hq2 := HQ.out
    rw [if_neg h8] at hq2
    have HQ := hide hq2
    clear hq2 fe ce
    go_wp2_with fail
    go_loopw [4, 14] (fun v i wr => ∃ k : Nat, k ≤ M ∧ i = .int .u64 (k : Int) ∧ wr.ownsRow w.heap.size 57 4 v k ((qGo sM k).1.flatMap enc4) ∧ ErIs wr B q bytes (qGo sM k).2 ∧ Kept B erT w wr ∧ (0 < k → (qGo sM k).2.1 = 0)) (fun _ i _ => M - (intOf i).toNat)
    case atStart => exact ⟨0, Nat.zero_le _, rfl, World.ownsRow_nil _ _ _ _, HE1.out, HK1.out, fun h => absurd h (by omega)⟩
    case round =>
      obtain ⟨k, hk, rfl, hown, hsr, hkr, hz⟩ := hrel
      have HO := hide hown; have HR := hide hsr; have HK := hide hkr; have HZ := hide hz; clear hown hsr hkr hz
      by_cases hlt : k < M
      · have CA := reAttr_any B q bytes (qGo sM k).2 wr HR.out (Nat.le_trans HB.out HK.out.below.size)
        have hG : (qGo sM (k+1)) = ((qGo sM k).1 ++ [(qAttr (qGo sM k).2).1], (qAttr (qGo sM k).2).2) := rfl
        obtain ⟨x, hx⟩ : ∃ x, x = (qAttr (qGo sM k).2).1 := ⟨_, rfl⟩
        obtain ⟨s2, hs2⟩ : ∃ s2, s2 = (qAttr (qGo sM k).2).2 := ⟨_, rfl⟩
        rw [← hx, ← hs2] at CA hG
        unfold atVal at CA
        have HG := hide hG
        clear hx hs2 hG
        go_wp2_with fail
        refine CA.mono ?_
        clear CA
        rintro e w2 ⟨rfl, he2, k2⟩
        obtain ⟨xn, xk, xi, xs⟩ := x
        simp only at *
        have HE2 := hide (he2.alloc (.cells #[.string xn, .int .i64 xk, .int .i64 xi, .string xs] 57)); have HK2 := hide ((HK.out.trans k2).alloc (Nat.le_trans HB.out (HK.out.trans k2).below.size) (.cells #[.string xn, .int .i64 xk, .int .i64 xi, .string xs] 57))
        have HO2 := hide ((k2.ownsRow HO.out (by decide)).alloc (.cells #[.string xn, .int .i64 xk, .int .i64 xi, .string xs] 57))
        have hb2 : (w2.alloc (.cells #[.string xn, .int .i64 xk, .int .i64 xi, .string xs] 57)).heap[w2.heap.size]? = some (.cells #[.string xn, .int .i64 xk, .int .i64 xi, .string xs] 57 (0, 0)) := heap_alloc_new _ _
        have ce := HE2.out.err
        clear he2 k2
        by_cases h0 : s2.1 = 0
        · rw [h0] at ce
          have HZ2 := hide h0
          obtain ⟨c0, c1, c2, c3⟩ := four_cells_of hb2
          have hsz := HK2.out.below.size
          clear h0 hb2
          go_wp2_with (at_builtin; go_loud (refine wpList_append_own _ rfl (.tmp 23) (.tmp 25) 33 rfl w.heap.size 57 i0 (.agg #[.string ⟨#[]⟩, .int .i64 0, .int .i64 0, .string ⟨#[]⟩]) 4 48 Try.underlying33 hi hz0 hz1 hz2 rfl (by decide) _ k _ rfl (HO2.out.alloc _) ⟨w2.heap.size + 1, 0, none⟩ 1 1 (enc4 ⟨xn, xk, xi, xs⟩) rfl rfl (World.news_of_block (heap_alloc_at (by simp) rfl)) (enc4_one _) (by unfold maxLen; omega) (by omega) (by simp at hsz ⊢; omega) ?_); intro v3 w3 hown3 hgrow3 hnil3; clear hnil3; have HO3 := hide hown3; have HG3 := hide hgrow3; clear hown3 hgrow3)
          go_roundw
          case rel =>
            refine ⟨k + 1, by omega, by go_num, ?_, ?_, ?_, fun _ => ?_⟩
            · rw [HG.out, List.flatMap_append]
              have := HO3.out
              simpa using this
            · rw [HG.out]; exact (HE2.out.alloc _).grown (HO2.out.alloc _) (by decide) (by decide) HG3.out
            · exact ((HK2.out).alloc (Nat.le_trans HB.out (by simp at hsz ⊢; omega)) _).grown_fresh (HO2.out.alloc _) HG3.out (Nat.le_trans HB.out (by simp at hsz ⊢; omega)) HB.out (Nat.le_refl _)
            · rw [HG.out]; exact HZ2.out
          case measure => simp [intOf]; omega
        · have b1 : (((s2.1 : Nat) : Int) != 0) = true := by simp; omega
          have HZ2 := hide h0
          obtain ⟨E, hE⟩ : ∃ E : Int, E = ((s2.1 : Nat) : Int) := ⟨_, rfl⟩
          rw [← hE] at ce b1
          clear h0 hb2 hE
          go_wp2
          go_ret
          have hst := qGo_stays sM (k + 1) M (by rw [HG.out]; exact HZ2.out) hlt
          rw [HG.out] at hst
          refine ⟨_, rfl, ?_, ?_, ?_⟩
          · rw [HQ.out, if_pos (by rw [hst]; exact HZ2.out)]; exact World.ownsRow_nil _ _ _ _
          · rw [HQ.out, if_pos (by rw [hst]; exact HZ2.out), hst]; exact HE2.out
          · exact HK2.out
      · obtain rfl : k = M := by omega
        go_wp2
        go_ret
        refine ⟨_, rfl, ?_, ?_, HK.out⟩
        · by_cases h0 : (qGo sM k).2.1 = 0
          · rw [HQ.out, if_neg (by simp [h0]), qGo_len]; exact HO.out
          · obtain rfl : k = 0 := by
              rcases Nat.eq_zero_or_pos k with h | h
              · exact h
              · exact absurd (HZ.out h) h0
            rw [HQ.out, if_pos h0]; exact HO.out
        · by_cases h0 : (qGo sM k).2.1 = 0
          · rw [HQ.out, if_neg (by simp [h0])]; exact HR.out
          · rw [HQ.out, if_pos h0]; exact HR.out

theorem Ra.five {w0 : World} {B q R D t : Nat} {bytes : List Nat} {cr cs : Array Value} {s : Qs} {w : World} (h : Ra w0 B q R D t bytes cr cs s w) (h1 : t ≠ 86) (h2 : t ≠ 5) (d0 d1 d2 d3 d4 : Value) :
    Ra w0 B q R D t bytes (((((cr.setIfInBounds 0 d0).setIfInBounds 1 d1).setIfInBounds 2 d2).setIfInBounds 3 d3).setIfInBounds 4 d4) cs s (((((w.setCell ⟨R, 0, none⟩ d0).setCell ⟨R, 1, none⟩ d1).setCell ⟨R, 2, none⟩ d2).setCell ⟨R, 3, none⟩ d3).setCell ⟨R, 4, none⟩ d4) :=
  ((((h.setR h1 h2 0 d0).setR h1 h2 1 d1).setR h1 h2 2 d2).setR h1 h2 3 d3).setR h1 h2 4 d4

set_option maxRecDepth 100000 in
set_option maxHeartbeats 1600000 in
theorem reEvent_any (B q : Nat) (bytes : List Nat) (s : Qs) (w : World) (h : ErIs w B q bytes s) (hB : B ≤ w.heap.size) :
    Calls Try.prog 43 #[.pointer (some ⟨q, 0, none⟩)] w fun e w' => ∃ v, e = .returned (evV (qEvent s).1 v) ∧ w'.ownsRow w.heap.size 57 4 v (qEvent s).1.ats.length ((qEvent s).1.ats.flatMap enc4) ∧ ErIs w' B q bytes (qEvent s).2 ∧ Kept B erT w w' := by
  have h0 : Ra w B q w.heap.size (w.heap.size + 1) 35 bytes #[.int .i64 0, .int .i64 0, .int .i64 0, .string ⟨#[]⟩, .slice none 0 0] #[.int .i64 0, .int .i64 0, .int .i64 0, .string ⟨#[]⟩, .slice none 0 0] s ((w.alloc (.cells #[.int .i64 0, .int .i64 0, .int .i64 0, .string ⟨#[]⟩, .slice none 0 0] 35)).alloc (.cells #[.int .i64 0, .int .i64 0, .int .i64 0, .string ⟨#[]⟩, .slice none 0 0] 35)) := Ra.new h hB _
  have C1 : ∀ w, ErIs w B q bytes s → Calls Try.prog 61 #[.pointer (some ⟨q, 0, none⟩), .int .i64 4] w fun e w' => e = .returned (.int .u64 (((qSrc s).1 : Nat) : Int)) ∧ ErIs w' B q bytes (qSrc s).2 ∧ Kept B erT w w' := fun w h => reBits_any B q 4 bytes s w h (by decide)
  have C2 : ∀ w, ErIs w B q bytes (qSrc s).2 → Calls Try.prog 62 #[.pointer (some ⟨q, 0, none⟩)] w fun e w' => e = .returned (.int .i64 (wrap64 (((qSeq s).1 : Nat) : Int))) ∧ ErIs w' B q bytes (qSeq s).2 ∧ Kept B erT w w' := fun w h => reCount_any B q bytes (qSrc s).2 w h
  have C3 : ∀ w, ErIs w B q bytes (qSeq s).2 → Calls Try.prog 62 #[.pointer (some ⟨q, 0, none⟩)] w fun e w' => e = .returned (.int .i64 (wrap64 (((qTime s).1 : Nat) : Int))) ∧ ErIs w' B q bytes (qTime s).2 ∧ Kept B erT w w' := fun w h => reCount_any B q bytes (qSeq s).2 w h
  have C4 : ∀ w, ErIs w B q bytes (qTime s).2 → Calls Try.prog 63 #[.pointer (some ⟨q, 0, none⟩)] w fun e w' => e = .returned (.string (qTy s).1) ∧ ErIs w' B q bytes (qTy s).2 ∧ Kept B erT w w' := fun w h => reText_any B q bytes (qTime s).2 w h
  have C5 : ∀ w, ErIs w B q bytes (qTy s).2 → B ≤ w.heap.size → Calls Try.prog 64 #[.pointer (some ⟨q, 0, none⟩)] w fun e w' => ∃ v, e = .returned v ∧ w'.ownsRow w.heap.size 57 4 v (qAts s).1.length ((qAts s).1.flatMap enc4) ∧ ErIs w' B q bytes (qAts s).2 ∧ Kept B erT w w' := fun w h hB => reAttrs_any B q bytes (qTy s).2 w h hB
  have hS4 : (qSrc s).1 < 2 ^ 4 := qB_lt 4 s
  have hE : qEvent s = (⟨((qSrc s).1 : Nat), wrap64 ((qSeq s).1 : Nat), wrap64 ((qTime s).1 : Nat), (qTy s).1, (qAts s).1⟩, (qAts s).2) := rfl
  obtain ⟨S, hS⟩ : ∃ S, S = (qSrc s).1 := ⟨_, rfl⟩
  obtain ⟨a, ha⟩ : ∃ a, a = wrap64 (((qSeq s).1 : Nat) : Int) := ⟨_, rfl⟩
  obtain ⟨b, hb⟩ : ∃ b, b = wrap64 (((qTime s).1 : Nat) : Int) := ⟨_, rfl⟩
  obtain ⟨ty, hty⟩ : ∃ ty, ty = (qTy s).1 := ⟨_, rfl⟩
  obtain ⟨ats, hats⟩ : ∃ ats, ats = (qAts s).1 := ⟨_, rfl⟩
  rw [← hS] at C1 hS4 hE; rw [← ha] at C2 hE; rw [← hb] at C3 hE; rw [← hty] at C4 hE; rw [← hats] at C5 hE
  have HC1 := hide C1; have HC2 := hide C2; have HC3 := hide C3; have HC4 := hide C4; have HC5 := hide C5; have HR0 := hide h0; have HB := hide hB
  rw [hE]
  have hS0 : (0 : Int) ≤ (S : Int) := by omega
  have hS3 : (S : Int) ≤ 15 := by omega
  clear C1 C2 C3 C4 C5 hS ha hb hty hats hE h h0 hB hS4
  obtain ⟨P, hP⟩ : ∃ P, P = w.heap.size := ⟨_, rfl⟩
  obtain ⟨W, hW⟩ : ∃ W, W = (w.alloc (.cells #[.int .i64 0, .int .i64 0, .int .i64 0, .string ⟨#[]⟩, .slice none 0 0] 35)).alloc (.cells #[.int .i64 0, .int .i64 0, .int .i64 0, .string ⟨#[]⟩, .slice none 0 0] 35) := ⟨_, rfl⟩
  rw [← hW, ← hP] at HR0
  have HW := hide hW; have HP := hide hP
  clear hP hW
  go_enter Try.func43, Try.ntmps43
  go_wp2_with fail
  rw [← HP.out, ← HW.out]
  refine (HC1.out _ HR0.out.er).mono ?_
  rintro e w1 ⟨rfl, he, k⟩
  have HR1 := hide (HR0.out.call (by decide) k he)
  clear he k
  obtain ⟨c0, c1, c2, c3, c4⟩ := cell_of_five HR1.out.bd
  have f0 := free_cells_of HR1.out.bd 0
  go_wp2_with fail
  have HR2 := hide (HR1.out.set (by decide) (by decide) 0 (.int .i64 (S : Int)))
  clear c0 c1 c2 c3 c4 f0
  refine (HC2.out _ HR2.out.er).mono ?_
  rintro e w2 ⟨rfl, he, k⟩
  have HR3 := hide (HR2.out.call (by decide) k he)
  clear he k
  obtain ⟨c0, c1, c2, c3, c4⟩ := cell_of_five HR3.out.bd
  have f1 := free_cells_of HR3.out.bd 1
  go_wp2_with fail
  have HR4 := hide (HR3.out.set (by decide) (by decide) 1 (.int .i64 a))
  clear c0 c1 c2 c3 c4 f1
  refine (HC3.out _ HR4.out.er).mono ?_
  rintro e w3 ⟨rfl, he, k⟩
  have HR5 := hide (HR4.out.call (by decide) k he)
  clear he k
  obtain ⟨c0, c1, c2, c3, c4⟩ := cell_of_five HR5.out.bd
  have f2 := free_cells_of HR5.out.bd 2
  go_wp2_with fail
  have HR6 := hide (HR5.out.set (by decide) (by decide) 2 (.int .i64 b))
  clear c0 c1 c2 c3 c4 f2
  refine (HC4.out _ HR6.out.er).mono ?_
  rintro e w4 ⟨rfl, he, k⟩
  have HR7 := hide (HR6.out.call (by decide) k he)
  clear he k
  obtain ⟨c0, c1, c2, c3, c4⟩ := cell_of_five HR7.out.bd
  have f3 := free_cells_of HR7.out.bd 3
  go_wp2_with fail
  have HR8 := hide (HR7.out.set (by decide) (by decide) 3 (.string ty))
  have HB8 := hide (Nat.le_trans HB.out HR8.out.kept.below.size)
  clear c0 c1 c2 c3 c4 f3
  refine (HC5.out _ HR8.out.er HB8.out).mono ?_
  rintro e w5 ⟨v, rfl, ho, he, k⟩
  obtain ⟨ao, cap, rfl⟩ := own_slice ho
  have HR9 := hide (HR8.out.call (by decide) k he)
  have HO := hide ho
  have HSZ := hide HR8.out.kept.below.size
  clear he k ho
  obtain ⟨c0, c1, c2, c3, c4⟩ := cell_of_five HR9.out.bd
  have f4 := free_cells_of HR9.out.bd 4
  have HR10 := hide (HR9.out.set (by decide) (by decide) 4 (.slice ao ats.length cap))
  obtain ⟨d0, d1, d2, d3, d4⟩ := cell_of_five HR10.out.bd
  obtain ⟨r0, r1, r2, r3, r4⟩ := cell_of_five HR10.out.br
  have g0 := free_cells_of HR10.out.br 0; have g1 := free_cells_of HR10.out.br 1; have g2 := free_cells_of HR10.out.br 2; have g3 := free_cells_of HR10.out.br 3; have g4 := free_cells_of HR10.out.br 4
  go_wp2
  have HZ := hide (HR10.out.five (by decide) (by decide) (.int .i64 (S : Int)) (.int .i64 a) (.int .i64 b) (.string ty) (.slice ao ats.length cap))
  have z := cell_of_five HZ.out.br
  refine bodyPost_ret (v := .agg #[.int .i64 (S : Int), .int .i64 a, .int .i64 b, .string ty, .slice ao ats.length cap]) (by simp [results, Try.results43, go_sem, z]) rfl ⟨_, rfl, ?_, HZ.out.er, HZ.out.kept⟩
  have o1 := ownsRow_setCell_typed (a := ⟨P + 1, 4, none⟩) HO.out HR9.out.bd (by decide) (.slice ao ats.length cap)
  have o2 := own_five o1 HR10.out.br (by decide) (.int .i64 (S : Int)) (.int .i64 a) (.int .i64 b) (.string ty) (.slice ao ats.length cap)
  rw [HP.out] at o2 ⊢
  exact ownsRow_lower o2 (by have := HSZ.out; simpa using this)
end Go.Proofs.Ythjhbnfedelniaa
