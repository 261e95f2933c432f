/- Joined: Erb, Rnew, Bv, Tk, Bd0, Tb0, Rw0. -/
import Derived.Test.YtpbloplbpkedcaaJrd
import Derived.Deep.AppendLies
import Derived.Shelf.Bytes.SlSmallAll
import Derived.Shelf.Bytes.SlEqualAll
import Derived.Laws.AppendOwnNone
import Derived.Test.YtpbloplbpkedcaaJrb
import Derived.Lib.Hide
import Derived.Sort.Grow
import Derived.Lib.QuietBelow
import Derived.Laws.OwnMore
import Derived.Maps.AppendAt
/- Contracts: the reader takes attributes, and an event. -/
namespace Go.Proofs.Ytpbloplbpkedcaa
open Go Go.RowKit

theorem ErIs.from_ {w : World} {B q : Nat} {bytes : List Nat} {s : Qs} (h : ErIs w B q bytes s) : B ≤ q := by obtain ⟨p, h, _⟩ := h; exact h.from_
theorem ErIs.alloc {w : World} {B q : Nat} {bytes : List Nat} {s : Qs} (h : ErIs w B q bytes s) (o : Obj) : ErIs (w.alloc o) B q bytes s :=
  h.below ((Below.refl w.heap.size w).alloc (Nat.le_refl _) o) (Nat.le_refl _)
/-- A store into a block of another type leaves the reader as it is. -/
theorem ErIs.other {w : World} {B q D t : Nat} {bytes : List Nat} {s : Qs} {cs : Array Value} {fr : Nat × Nat} (h : ErIs w B q bytes s) (hD : w.heap[D]? = some (.cells cs t fr)) (h1 : t ≠ 198) (h2 : t ≠ 5) (i : Nat) (u : Value) : ErIs (w.setCell ⟨D, i, none⟩ u) B q bytes s := by
  obtain ⟨p, hs, hl⟩ := h
  obtain ⟨v, hq, ho⟩ := hs.row
  refine ⟨p, ⟨hs.from_, hs.len, hs.at_, hs.small, v, ?_, ownsRow_setCell_typed ho hD h2 u⟩, hl⟩
  refine heap_setCell_far hq (fun e => ?_) u
  simp only at e
  subst e
  rw [hD] at hq
  simp only [Option.some.injEq, Obj.cells.injEq] at hq
  exact h1 hq.2.1
/-- A call's own two boxes: that of its result, and that of what it fills; and the reader. -/
structure Ra (w0 : World) (B q R D t : Nat) (bytes : List Nat) (cr cs : Array Value) (s : Qs) (w : World) : Prop where
  kept : Kept B erT w0 w
  er : ErIs w B q bytes s
  hB : B ≤ w0.heap.size
  hR : w0.heap.size ≤ R
  hD : w0.heap.size ≤ D
  ne : R ≠ D
  br : w.heap[R]? = some (.cells cr t (0, 0))
  bd : w.heap[D]? = some (.cells cs t (0, 0))
theorem Ra.call {w0 : World} {B q R D t : Nat} {bytes : List Nat} {cr cs : Array Value} {s s' : Qs} {w w' : World} (h : Ra w0 B q R D t bytes cr cs s w) (ht : erT t = false) (hk : Kept B erT w w') (he : ErIs w' B q bytes s') : Ra w0 B q R D t bytes cr cs s' w' :=
  ⟨h.kept.trans hk, he, h.hB, h.hR, h.hD, h.ne, hk.typed _ _ _ _ h.br ht, hk.typed _ _ _ _ h.bd ht⟩
theorem Ra.set {w0 : World} {B q R D t : Nat} {bytes : List Nat} {cr cs : Array Value} {s : Qs} {w : World} (h : Ra w0 B q R D t bytes cr cs s w) (h1 : t ≠ 198) (h2 : t ≠ 5) (i : Nat) (u : Value) : Ra w0 B q R D t bytes cr (cs.setIfInBounds i u) s (w.setCell ⟨D, i, none⟩ u) :=
  ⟨h.kept.setCell_fresh (p := ⟨D, i, none⟩) (Nat.le_trans h.hB h.hD) h.hD u, h.er.other h.bd h1 h2 i u, h.hB, h.hR, h.hD, h.ne, heap_setCell_far (p := ⟨D, i, none⟩) h.br h.ne u, by rw [heap_setCell_same h.bd]⟩
theorem Ra.setR {w0 : World} {B q R D t : Nat} {bytes : List Nat} {cr cs : Array Value} {s : Qs} {w : World} (h : Ra w0 B q R D t bytes cr cs s w) (h1 : t ≠ 198) (h2 : t ≠ 5) (i : Nat) (u : Value) : Ra w0 B q R D t bytes (cr.setIfInBounds i u) cs s (w.setCell ⟨R, i, none⟩ u) :=
  ⟨h.kept.setCell_fresh (p := ⟨R, i, none⟩) (Nat.le_trans h.hB h.hR) h.hR u, h.er.other h.br h1 h2 i u, h.hB, h.hR, h.hD, h.ne, by rw [heap_setCell_same h.br], heap_setCell_far (p := ⟨R, i, none⟩) h.bd (fun e => h.ne e.symm) u⟩
theorem Ra.setErr {w0 : World} {B q R D t : Nat} {bytes : List Nat} {cr cs : Array Value} {s : Qs} {w : World} (h : Ra w0 B q R D t bytes cr cs s w) (ht : erT t = false) (e : Nat) (c : Int) (hc : c = ((e : Nat) : Int)) : Ra w0 B q R D t bytes cr cs (e, s.2) (w.setCell ⟨q, 3, none⟩ (.int .i64 c)) := by
  rw [hc]
  exact h.call ht (h.er.setErr e).2 (h.er.setErr e).1
theorem Ra.new {w : World} {B q t : Nat} {bytes : List Nat} {s : Qs} (h : ErIs w B q bytes s) (hB : B ≤ w.heap.size) (cs : Array Value) : Ra w B q w.heap.size (w.heap.size + 1) t bytes cs cs s ((w.alloc (.cells cs t)).alloc (.cells cs t)) :=
  ⟨((Kept.refl B erT w).alloc hB _).alloc (by simp; omega) _, (h.alloc _).alloc _, hB, Nat.le_refl _, Nat.le_succ _, by omega, heap_alloc_keeps (heap_alloc_new w _) _, heap_alloc_at (by simp) rfl⟩
theorem four_cells_of {w : World} {q : Nat} {c0 c1 c2 c3 : Value} {t : Nat} {fr : Nat × Nat} (h : w.heap[q]? = some (.cells #[c0, c1, c2, c3] t fr)) :
    w.cell? ⟨q, 0, none⟩ = some c0 ∧ w.cell? ⟨q, 1, none⟩ = some c1 ∧ w.cell? ⟨q, 2, none⟩ = some c2 ∧ w.cell? ⟨q, 3, none⟩ = some c3 := by
  refine ⟨?_, ?_, ?_, ?_⟩ <;> simp [World.cell?, h]
theorem free_cells_of {w : World} {q : Nat} {cs : Array Value} {t : Nat} (h : w.heap[q]? = some (.cells cs t (0, 0))) (i : Nat) : w.frozen? ⟨q, i, none⟩ = false := by
  simp [World.frozen?, h]
theorem bitsVal_lt (l : List Bool) (n : Nat) : bitsVal l (n : Int) < 2 ^ n := by
  unfold bitsVal
  split
  · have h := valBits_lt (l.take ((n : Int)).toNat)
    refine Nat.lt_of_lt_of_le h (Nat.pow_le_pow_right (by omega) ?_)
    rw [List.length_take]
    have : ((n : Int)).toNat = n := rfl
    omega
  · exact Nat.two_pow_pos _
theorem qB_lt (n : Nat) (s : Qs) : (qB n s).1 < 2 ^ n := by
  unfold qB
  split
  · exact bitsVal_lt _ _
  · exact Nat.two_pow_pos _
def atVal (x : At) : Value := .agg #[.string x.name, .int .i64 x.k, .int .i64 x.n, .string x.s]

set_option maxRecDepth 100000 in
set_option maxHeartbeats 1600000 in
theorem reAttr_any (B q : Nat) (bytes : List Nat) (s : Qs) (w : World) (h : ErIs w B q bytes s) (hB : B ≤ w.heap.size) :
    Calls Try.prog 186 #[.pointer (some ⟨q, 0, none⟩)] w fun e w' => e = .returned (atVal (qAttr s).1) ∧ ErIs w' B q bytes (qAttr s).2 ∧ Kept B erT w w' := by
  have h0 : Ra w B q w.heap.size (w.heap.size + 1) 78 bytes #[.string ⟨#[]⟩, .int .i64 0, .int .i64 0, .string ⟨#[]⟩] #[.string ⟨#[]⟩, .int .i64 0, .int .i64 0, .string ⟨#[]⟩] s ((w.alloc (.cells #[.string ⟨#[]⟩, .int .i64 0, .int .i64 0, .string ⟨#[]⟩] 78)).alloc (.cells #[.string ⟨#[]⟩, .int .i64 0, .int .i64 0, .string ⟨#[]⟩] 78)) := Ra.new h hB _
  have CT := fun (s : Qs) (w : World) (h : ErIs w B q bytes s) => reText_any B q bytes s w h
  have CB := fun (s : Qs) (w : World) (h : ErIs w B q bytes s) => reBits_any B q 2 bytes s w h (by decide)
  have CN := fun (s : Qs) (w : World) (h : ErIs w B q bytes s) => reNum_any B q bytes s w h
  have hK4 := qB_lt 2 (qName s).2
  obtain ⟨K, hK⟩ : ∃ K, K = (qKind s).1 := ⟨_, rfl⟩
  have hK' : K = (qB 2 (qName s).2).1 := hK
  rw [← hK'] at hK4
  have HC1 := hide (CT s); have HC2 := hide (CB (qName s).2); have HC3 := hide (CN (qKind s).2); have HC4 := hide (CT (qKind s).2)
  have hQA : qAttr s = if (qKind s).2.1 ≠ 0 then (atZ, (qKind s).2) else qVal s := rfl
  have hQV : qVal s = if K = 1 then (⟨(qName s).1, 1, (qI (qKind s).2).1, ⟨#[]⟩⟩, (qI (qKind s).2).2) else if K = 2 then (⟨(qName s).1, 2, 0, (qT (qKind s).2).1⟩, (qT (qKind s).2).2) else (⟨(qName s).1, (K : Nat), 0, ⟨#[]⟩⟩, (40, (qKind s).2.2)) := by rw [hK]; rfl
  obtain ⟨nm, hnm⟩ : ∃ nm, nm = (qName s).1 := ⟨_, rfl⟩
  have hnm' : nm = (qT s).1 := hnm
  rw [← hnm'] at HC1
  rw [← hK'] at HC2
  rw [← hnm] at hQV
  have HQA := hide hQA; have HQV := hide hQV
  have HR0 := hide h0
  have hKz : (0 : Int) ≤ (K : Int) := by omega
  have hK3 : (K : Int) ≤ 3 := by omega
  clear h0 h CT CB CN hK' hnm' hnm hK hQA hQV hB hK4
  obtain ⟨P, hP⟩ : ∃ P, P = w.heap.size := ⟨_, rfl⟩
  obtain ⟨W, hW⟩ : ∃ W, W = (w.alloc (.cells #[.string ⟨#[]⟩, .int .i64 0, .int .i64 0, .string ⟨#[]⟩] 78)).alloc (.cells #[.string ⟨#[]⟩, .int .i64 0, .int .i64 0, .string ⟨#[]⟩] 78) := ⟨_, rfl⟩
  rw [← hW, ← hP] at HR0
  have HW := hide hW; have HP := hide hP
  clear hP hW
  go_enter Try.func186, Try.ntmps186
  go_wp2_with fail
  rw [← HP.out, ← HW.out]
  refine (HC1.out _ HR0.out.er).mono ?_
  rintro e w1 ⟨rfl, he, k⟩
  have HR1 := hide (HR0.out.call (by decide) k he)
  clear he k
  obtain ⟨c0, c1, c2, c3⟩ := four_cells_of HR1.out.bd
  have f0 := free_cells_of HR1.out.bd 0
  go_wp2_with fail
  have HR2 := hide (HR1.out.set (by decide) (by decide) 0 (.string nm))
  clear c0 c1 c2 c3 f0
  refine (HC2.out _ HR2.out.er).mono ?_
  rintro e w2 ⟨rfl, he, k⟩
  have HR3 := hide (HR2.out.call (by decide) k he)
  clear he k
  obtain ⟨c0, c1, c2, c3⟩ := four_cells_of HR3.out.bd
  have f1 := free_cells_of HR3.out.bd 1
  have HR4 := hide (HR3.out.set (by decide) (by decide) 1 (.int .i64 (K : Int)))
  have ce : (w2.setCell ⟨P + 1, 1, none⟩ (.int .i64 (K : Int))).cell? ⟨q, 3, none⟩ = some (.int .i64 (((qKind s).2.1 : Nat) : Int)) := HR4.out.er.err
  clear c0 c1 c2 c3
  obtain ⟨c0, c1, c2, c3⟩ := four_cells_of HR3.out.bd
  by_cases hE : (qKind s).2.1 = 0
  · rw [hE] at ce
    have hqa := HQA.out
    rw [if_neg (by simp [hE])] at hqa
    have HQA := hide hqa
    have HE := hide hE
    clear hqa hE
    by_cases hK1 : K = 1
    · have b1 : ((K : Int) == 1) = true := by simp [hK1]
      obtain ⟨n, hn⟩ : ∃ n, n = (qI (qKind s).2).1 := ⟨_, rfl⟩
      have hc3 := HC3.out
      rw [← hn] at hc3
      have hqv := HQV.out
      rw [if_pos hK1, ← hn] at hqv
      have HC3 := hide hc3
      have HQV := hide hqv
      have HK1 := hide hK1
      clear hn hc3 hqv hK1
      go_wp2_with fail
      refine (HC3.out _ HR4.out.er).mono ?_
      rintro e w3 ⟨rfl, he, k⟩
      have HR5 := hide (HR4.out.call (by decide) k he)
      clear he k c0 c1 c2 c3 f1 ce
      obtain ⟨c0, c1, c2, c3⟩ := four_cells_of HR5.out.bd
      have f2 := free_cells_of HR5.out.bd 2
      have HR6 := hide (HR5.out.set (by decide) (by decide) 2 (.int .i64 n))
      obtain ⟨d0, d1, d2, d3⟩ := four_cells_of HR6.out.bd
      have r0 := free_cells_of HR6.out.br 0; have r1 := free_cells_of HR6.out.br 1; have r2 := free_cells_of HR6.out.br 2; have r3 := free_cells_of HR6.out.br 3
      obtain ⟨x0, x1, x2, x3⟩ := four_cells_of HR6.out.br
      go_wp2
      have HZ := hide ((((HR6.out.setR (by decide) (by decide) 0 (.string nm)).setR (by decide) (by decide) 1 (.int .i64 (K : Int))).setR (by decide) (by decide) 2 (.int .i64 n)).setR (by decide) (by decide) 3 (.string ⟨#[]⟩))
      have z := four_cells_of HZ.out.br
      refine bodyPost_ret (v := .agg #[.string nm, .int .i64 (K : Int), .int .i64 n, .string ⟨#[]⟩]) (by simp [results, Try.results186, go_sem, z]) rfl ⟨?_, ?_, HZ.out.kept⟩
      · rw [HQA.out, HQV.out, HK1.out]; rfl
      · rw [HQA.out, HQV.out]; exact HZ.out.er
    · by_cases hK2 : K = 2
      · have b1 : ((K : Int) == 1) = false := by simp [hK2]
        have b2 : ((K : Int) == 2) = true := by simp [hK2]
        obtain ⟨t, ht⟩ : ∃ t, t = (qT (qKind s).2).1 := ⟨_, rfl⟩
        have hc4 := HC4.out
        rw [← ht] at hc4
        have hqv := HQV.out
        rw [if_neg hK1, if_pos hK2, ← ht] at hqv
        have HC4 := hide hc4
        have HQV := hide hqv
        have HK2 := hide hK2
        clear ht hc4 hqv hK1 hK2
        go_wp2_with fail
        refine (HC4.out _ HR4.out.er).mono ?_
        rintro e w3 ⟨rfl, he, k⟩
        have HR5 := hide (HR4.out.call (by decide) k he)
        clear he k c0 c1 c2 c3 f1 ce
        obtain ⟨c0, c1, c2, c3⟩ := four_cells_of HR5.out.bd
        have f3 := free_cells_of HR5.out.bd 3
        have HR6 := hide (HR5.out.set (by decide) (by decide) 3 (.string t))
        obtain ⟨d0, d1, d2, d3⟩ := four_cells_of HR6.out.bd
        have r0 := free_cells_of HR6.out.br 0; have r1 := free_cells_of HR6.out.br 1; have r2 := free_cells_of HR6.out.br 2; have r3 := free_cells_of HR6.out.br 3
        obtain ⟨x0, x1, x2, x3⟩ := four_cells_of HR6.out.br
        go_wp2
        have HZ := hide ((((HR6.out.setR (by decide) (by decide) 0 (.string nm)).setR (by decide) (by decide) 1 (.int .i64 (K : Int))).setR (by decide) (by decide) 2 (.int .i64 0)).setR (by decide) (by decide) 3 (.string t))
        have z := four_cells_of HZ.out.br
        refine bodyPost_ret (v := .agg #[.string nm, .int .i64 (K : Int), .int .i64 0, .string t]) (by simp [results, Try.results186, go_sem, z]) rfl ⟨?_, ?_, HZ.out.kept⟩
        · rw [HQA.out, HQV.out, HK2.out]; rfl
        · rw [HQA.out, HQV.out]; exact HZ.out.er
      · have b1 : ((K : Int) == 1) = false := by simp; omega
        have b2 : ((K : Int) == 2) = false := by simp; omega
        have hqv := HQV.out
        rw [if_neg hK1, if_neg hK2] at hqv
        have HQV := hide hqv
        have fe := HR4.out.er.free
        have HR6 := hide (HR4.out.setErr (by decide) 40 40 rfl)
        clear hqv hK1 hK2
        obtain ⟨d0, d1, d2, d3⟩ := four_cells_of HR6.out.bd
        have r0 := free_cells_of HR6.out.br 0; have r1 := free_cells_of HR6.out.br 1; have r2 := free_cells_of HR6.out.br 2; have r3 := free_cells_of HR6.out.br 3
        obtain ⟨x0, x1, x2, x3⟩ := four_cells_of HR6.out.br
        go_wp2
        have HZ := hide ((((HR6.out.setR (by decide) (by decide) 0 (.string nm)).setR (by decide) (by decide) 1 (.int .i64 (K : Int))).setR (by decide) (by decide) 2 (.int .i64 0)).setR (by decide) (by decide) 3 (.string ⟨#[]⟩))
        have z := four_cells_of HZ.out.br
        refine bodyPost_ret (v := .agg #[.string nm, .int .i64 (K : Int), .int .i64 0, .string ⟨#[]⟩]) (by simp [results, Try.results186, go_sem, z]) rfl ⟨?_, ?_, HZ.out.kept⟩
        · rw [HQA.out, HQV.out]; rfl
        · rw [HQA.out, HQV.out]; exact HZ.out.er
  · have b1 : ((((qKind s).2.1 : Nat) : Int) != 0) = true := by simp; omega
    have hqa := HQA.out
    rw [if_pos hE] at hqa
    have HQA := hide hqa
    have HS : Hid (HR4.out.er = HR4.out.er) := rfl
    obtain ⟨E, hE'⟩ : ∃ E : Int, E = (((qKind s).2.1 : Nat) : Int) := ⟨_, rfl⟩
    rw [← hE'] at b1 ce
    clear hqa hE hE' HS
    have r0 := free_cells_of HR4.out.br 0; have r1 := free_cells_of HR4.out.br 1; have r2 := free_cells_of HR4.out.br 2; have r3 := free_cells_of HR4.out.br 3
    obtain ⟨x0, x1, x2, x3⟩ := four_cells_of HR4.out.br
    go_wp2
    have HZ := hide ((((HR4.out.setR (by decide) (by decide) 0 (.string ⟨#[]⟩)).setR (by decide) (by decide) 1 (.int .i64 0)).setR (by decide) (by decide) 2 (.int .i64 0)).setR (by decide) (by decide) 3 (.string ⟨#[]⟩))
    have z := four_cells_of HZ.out.br
    refine bodyPost_ret (v := .agg #[.string ⟨#[]⟩, .int .i64 0, .int .i64 0, .string ⟨#[]⟩]) (by simp [results, Try.results186, go_sem, z]) rfl ⟨?_, ?_, HZ.out.kept⟩
    · rw [HQA.out]; rfl
    · rw [HQA.out]; exact HZ.out.er
end Go.Proofs.Ytpbloplbpkedcaa
namespace Go.Proofs.Ytpbloplbpkedcaa
open Go Go.RowKit

theorem EsIs.grown {w w' : World} {B q : Nat} {ec : Int} {bytes : List Nat} {p : Nat} (h : EsIs w B q ec bytes p) {B0 e size n : Nat} {v : Value} {xs : List Value} (hown : w.ownsRow B0 e size v n xs) (he1 : 198 ≠ e) (he2 : 5 ≠ e) (hg : w.grownBy w' v.ownBlock) : EsIs w' B q ec bytes p := by
  obtain ⟨u, hq, ho⟩ := h.row
  refine ⟨h.from_, h.len, h.at_, h.small, u, grow_keeps hq hown he1 hg rfl, ho.1, ?_⟩
  rcases ho.2 with hn | ⟨g, cap, cur, hv, hb, hgg, rest⟩
  · exact .inl hn
  · exact .inr ⟨g, cap, cur, hv, hb, grow_keeps hgg hown he2 hg rfl, rest⟩
theorem ErIs.grown {w w' : World} {B q : Nat} {bytes : List Nat} {s : Qs} (h : ErIs w B q bytes s) {B0 e size n : Nat} {v : Value} {xs : List Value} (hown : w.ownsRow B0 e size v n xs) (he1 : 198 ≠ e) (he2 : 5 ≠ e) (hg : w.grownBy w' v.ownBlock) : ErIs w' B q bytes s := by
  obtain ⟨p, h3, h4⟩ := h; exact ⟨p, h3.grown hown he1 he2 hg, h4⟩

set_option maxRecDepth 100000 in
set_option maxHeartbeats 1600000 in
theorem reAttrs_any (B q : Nat) (bytes : List Nat) (s : Qs) (w : World) (h : ErIs w B q bytes s) (hB : B ≤ w.heap.size) :
    Calls Try.prog 178 #[.pointer (some ⟨q, 0, none⟩)] w fun e w' => ∃ v, e = .returned v ∧ w'.ownsRow w.heap.size 78 4 v (qAttrs s).1.length ((qAttrs s).1.flatMap enc4) ∧ ErIs w' B q bytes (qAttrs s).2 ∧ Kept B erT w w' := by
  obtain ⟨i0, hi, hz0, hz1, hz2⟩ := info_parts infoAttr
  have CB := reBits_any B q 4 bytes s w h (by decide)
  have hM16 := qB_lt 4 s
  obtain ⟨sM, hsM⟩ : ∃ sM, sM = (qB 4 s).2 := ⟨_, rfl⟩
  obtain ⟨M, hM⟩ : ∃ M, M = (qB 4 s).1 := ⟨_, rfl⟩
  have hQ : qAttrs s = if 8 < M then ([], (40, sM.2)) else if (qGo sM M).2.1 ≠ 0 then ([], (qGo sM M).2) else qGo sM M := by rw [hsM, hM]; rfl
  rw [← hM, ← hsM] at CB
  rw [← hM] at hM16
  have HQ := hide hQ; have HB := hide hB
  clear hM hsM hQ h hB
  have hM3 : (M : Int) ≤ 15 := by omega
  have hM0 : (0 : Int) ≤ (M : Int) := by omega
  go_enter Try.func178, Try.ntmps178
  go_wp2_with fail
  refine CB.mono ?_
  clear CB
  rintro e w1 ⟨rfl, he1, k1⟩
  have HE1 := hide he1; have HK1 := hide k1
  have fe := he1.free
  have ce := he1.err
  obtain ⟨E0, hE0⟩ : ∃ E0 : Int, E0 = ((sM.1 : Nat) : Int) := ⟨_, rfl⟩
  rw [← hE0] at ce
  clear he1 k1 hE0
  by_cases h8 : 8 < M
  · go_wp2
    go_ret
    refine ⟨_, rfl, ?_, ?_, ?_⟩
    · rw [HQ.out, if_pos h8]; exact World.ownsRow_nil _ _ _ _
    · rw [HQ.out, if_pos h8]; exact (HE1.out.setErr 40).1
    · exact HK1.out.trans (HE1.out.setErr 40).2
  · have hq2 := HQ.out
    rw [if_neg h8] at hq2
    have HQ := hide hq2
    clear hq2 fe ce
    go_wp2_with fail
    go_loopw [4, 14] (fun v i wr => ∃ k : Nat, k ≤ M ∧ i = .int .u64 (k : Int) ∧ wr.ownsRow w.heap.size 78 4 v k ((qGo sM k).1.flatMap enc4) ∧ ErIs wr B q bytes (qGo sM k).2 ∧ Kept B erT w wr ∧ (0 < k → (qGo sM k).2.1 = 0)) (fun _ i _ => M - (intOf i).toNat)
    case atStart => exact ⟨0, Nat.zero_le _, rfl, World.ownsRow_nil _ _ _ _, HE1.out, HK1.out, fun h => absurd h (by omega)⟩
    case round =>
      obtain ⟨k, hk, rfl, hown, hsr, hkr, hz⟩ := hrel
      have HO := hide hown; have HR := hide hsr; have HK := hide hkr; have HZ := hide hz; clear hown hsr hkr hz
      by_cases hlt : k < M
      · have CA := reAttr_any B q bytes (qGo sM k).2 wr HR.out (Nat.le_trans HB.out HK.out.below.size)
        have hG : (qGo sM (k+1)) = ((qGo sM k).1 ++ [(qAttr (qGo sM k).2).1], (qAttr (qGo sM k).2).2) := rfl
        obtain ⟨x, hx⟩ : ∃ x, x = (qAttr (qGo sM k).2).1 := ⟨_, rfl⟩
        obtain ⟨s2, hs2⟩ : ∃ s2, s2 = (qAttr (qGo sM k).2).2 := ⟨_, rfl⟩
        rw [← hx, ← hs2] at CA hG
        unfold atVal at CA
        have HG := hide hG
        clear hx hs2 hG
        go_wp2_with fail
        refine CA.mono ?_
        clear CA
        rintro e w2 ⟨rfl, he2, k2⟩
        obtain ⟨xn, xk, xi, xs⟩ := x
        simp only at *
        have HE2 := hide (he2.alloc (.cells #[.string xn, .int .i64 xk, .int .i64 xi, .string xs] 78)); have HK2 := hide ((HK.out.trans k2).alloc (Nat.le_trans HB.out (HK.out.trans k2).below.size) (.cells #[.string xn, .int .i64 xk, .int .i64 xi, .string xs] 78))
        have HO2 := hide ((k2.ownsRow HO.out (by decide)).alloc (.cells #[.string xn, .int .i64 xk, .int .i64 xi, .string xs] 78))
        have hb2 : (w2.alloc (.cells #[.string xn, .int .i64 xk, .int .i64 xi, .string xs] 78)).heap[w2.heap.size]? = some (.cells #[.string xn, .int .i64 xk, .int .i64 xi, .string xs] 78 (0, 0)) := heap_alloc_new _ _
        have ce := HE2.out.err
        clear he2 k2
        by_cases h0 : s2.1 = 0
        · rw [h0] at ce
          have HZ2 := hide h0
          obtain ⟨c0, c1, c2, c3⟩ := four_cells_of hb2
          have hsz := HK2.out.below.size
          clear h0 hb2
          go_wp2_with (at_builtin; go_loud (refine wpList_append_own _ rfl (.tmp 23) (.tmp 25) 34 rfl w.heap.size 78 i0 (.agg #[.string ⟨#[]⟩, .int .i64 0, .int .i64 0, .string ⟨#[]⟩]) 4 48 Try.underlying34 hi hz0 hz1 hz2 rfl (by decide) _ k _ rfl (HO2.out.alloc _) ⟨w2.heap.size + 1, 0, none⟩ 1 1 (enc4 ⟨xn, xk, xi, xs⟩) rfl rfl (World.news_of_block (heap_alloc_at (by simp) rfl)) (enc4_one _) (by unfold maxLen; omega) (by omega) (by simp at hsz ⊢; omega) ?_); intro v3 w3 hown3 hgrow3 hnil3; clear hnil3; have HO3 := hide hown3; have HG3 := hide hgrow3; clear hown3 hgrow3)
          go_roundw
          case rel =>
            refine ⟨k + 1, by omega, by go_num, ?_, ?_, ?_, fun _ => ?_⟩
            · rw [HG.out, List.flatMap_append]
              have := HO3.out
              simpa using this
            · rw [HG.out]; exact (HE2.out.alloc _).grown (HO2.out.alloc _) (by decide) (by decide) HG3.out
            · exact ((HK2.out).alloc (Nat.le_trans HB.out (by simp at hsz ⊢; omega)) _).grown_fresh (HO2.out.alloc _) HG3.out (Nat.le_trans HB.out (by simp at hsz ⊢; omega)) HB.out (Nat.le_refl _)
            · rw [HG.out]; exact HZ2.out
          case measure => simp [intOf]; omega
        · have b1 : (((s2.1 : Nat) : Int) != 0) = true := by simp; omega
          have HZ2 := hide h0
          obtain ⟨E, hE⟩ : ∃ E : Int, E = ((s2.1 : Nat) : Int) := ⟨_, rfl⟩
          rw [← hE] at ce b1
          clear h0 hb2 hE
          go_wp2
          go_ret
          have hst := qGo_stays sM (k + 1) M (by rw [HG.out]; exact HZ2.out) hlt
          rw [HG.out] at hst
          refine ⟨_, rfl, ?_, ?_, ?_⟩
          · rw [HQ.out, if_pos (by rw [hst]; exact HZ2.out)]; exact World.ownsRow_nil _ _ _ _
          · rw [HQ.out, if_pos (by rw [hst]; exact HZ2.out), hst]; exact HE2.out
          · exact HK2.out
      · obtain rfl : k = M := by omega
        go_wp2
        go_ret
        refine ⟨_, rfl, ?_, ?_, HK.out⟩
        · by_cases h0 : (qGo sM k).2.1 = 0
          · rw [HQ.out, if_neg (by simp [h0]), qGo_len]; exact HO.out
          · obtain rfl : k = 0 := by
              rcases Nat.eq_zero_or_pos k with h | h
              · exact h
              · exact absurd (HZ.out h) h0
            rw [HQ.out, if_pos h0]; exact HO.out
        · by_cases h0 : (qGo sM k).2.1 = 0
          · rw [HQ.out, if_neg (by simp [h0])]; exact HR.out
          · rw [HQ.out, if_pos h0]; exact HR.out

theorem Ra.five {w0 : World} {B q R D t : Nat} {bytes : List Nat} {cr cs : Array Value} {s : Qs} {w : World} (h : Ra w0 B q R D t bytes cr cs s w) (h1 : t ≠ 198) (h2 : t ≠ 5) (d0 d1 d2 d3 d4 : Value) :
    Ra w0 B q R D t bytes (((((cr.setIfInBounds 0 d0).setIfInBounds 1 d1).setIfInBounds 2 d2).setIfInBounds 3 d3).setIfInBounds 4 d4) cs s (((((w.setCell ⟨R, 0, none⟩ d0).setCell ⟨R, 1, none⟩ d1).setCell ⟨R, 2, none⟩ d2).setCell ⟨R, 3, none⟩ d3).setCell ⟨R, 4, none⟩ d4) :=
  ((((h.setR h1 h2 0 d0).setR h1 h2 1 d1).setR h1 h2 2 d2).setR h1 h2 3 d3).setR h1 h2 4 d4

set_option maxRecDepth 100000 in
set_option maxHeartbeats 1600000 in
theorem reEvent_any (B q : Nat) (bytes : List Nat) (s : Qs) (w : World) (h : ErIs w B q bytes s) (hB : B ≤ w.heap.size) :
    Calls Try.prog 158 #[.pointer (some ⟨q, 0, none⟩)] w fun e w' => ∃ v, e = .returned (evV (qEvent s).1 v) ∧ w'.ownsRow w.heap.size 78 4 v (qEvent s).1.ats.length ((qEvent s).1.ats.flatMap enc4) ∧ ErIs w' B q bytes (qEvent s).2 ∧ Kept B erT w w' := by
  have h0 : Ra w B q w.heap.size (w.heap.size + 1) 36 bytes #[.int .i64 0, .int .i64 0, .int .i64 0, .string ⟨#[]⟩, .slice none 0 0] #[.int .i64 0, .int .i64 0, .int .i64 0, .string ⟨#[]⟩, .slice none 0 0] s ((w.alloc (.cells #[.int .i64 0, .int .i64 0, .int .i64 0, .string ⟨#[]⟩, .slice none 0 0] 36)).alloc (.cells #[.int .i64 0, .int .i64 0, .int .i64 0, .string ⟨#[]⟩, .slice none 0 0] 36)) := Ra.new h hB _
  have C1 : ∀ w, ErIs w B q bytes s → Calls Try.prog 175 #[.pointer (some ⟨q, 0, none⟩), .int .i64 4] w fun e w' => e = .returned (.int .u64 (((qSrc s).1 : Nat) : Int)) ∧ ErIs w' B q bytes (qSrc s).2 ∧ Kept B erT w w' := fun w h => reBits_any B q 4 bytes s w h (by decide)
  have C2 : ∀ w, ErIs w B q bytes (qSrc s).2 → Calls Try.prog 176 #[.pointer (some ⟨q, 0, none⟩)] w fun e w' => e = .returned (.int .i64 (wrap64 (((qSeq s).1 : Nat) : Int))) ∧ ErIs w' B q bytes (qSeq s).2 ∧ Kept B erT w w' := fun w h => reCount_any B q bytes (qSrc s).2 w h
  have C3 : ∀ w, ErIs w B q bytes (qSeq s).2 → Calls Try.prog 176 #[.pointer (some ⟨q, 0, none⟩)] w fun e w' => e = .returned (.int .i64 (wrap64 (((qTime s).1 : Nat) : Int))) ∧ ErIs w' B q bytes (qTime s).2 ∧ Kept B erT w w' := fun w h => reCount_any B q bytes (qSeq s).2 w h
  have C4 : ∀ w, ErIs w B q bytes (qTime s).2 → Calls Try.prog 177 #[.pointer (some ⟨q, 0, none⟩)] w fun e w' => e = .returned (.string (qTy s).1) ∧ ErIs w' B q bytes (qTy s).2 ∧ Kept B erT w w' := fun w h => reText_any B q bytes (qTime s).2 w h
  have C5 : ∀ w, ErIs w B q bytes (qTy s).2 → B ≤ w.heap.size → Calls Try.prog 178 #[.pointer (some ⟨q, 0, none⟩)] w fun e w' => ∃ v, e = .returned v ∧ w'.ownsRow w.heap.size 78 4 v (qAts s).1.length ((qAts s).1.flatMap enc4) ∧ ErIs w' B q bytes (qAts s).2 ∧ Kept B erT w w' := fun w h hB => reAttrs_any B q bytes (qTy s).2 w h hB
  have hS4 : (qSrc s).1 < 2 ^ 4 := qB_lt 4 s
  have hE : qEvent s = (⟨((qSrc s).1 : Nat), wrap64 ((qSeq s).1 : Nat), wrap64 ((qTime s).1 : Nat), (qTy s).1, (qAts s).1⟩, (qAts s).2) := rfl
  obtain ⟨S, hS⟩ : ∃ S, S = (qSrc s).1 := ⟨_, rfl⟩
  obtain ⟨a, ha⟩ : ∃ a, a = wrap64 (((qSeq s).1 : Nat) : Int) := ⟨_, rfl⟩
  obtain ⟨b, hb⟩ : ∃ b, b = wrap64 (((qTime s).1 : Nat) : Int) := ⟨_, rfl⟩
  obtain ⟨ty, hty⟩ : ∃ ty, ty = (qTy s).1 := ⟨_, rfl⟩
  obtain ⟨ats, hats⟩ : ∃ ats, ats = (qAts s).1 := ⟨_, rfl⟩
  rw [← hS] at C1 hS4 hE; rw [← ha] at C2 hE; rw [← hb] at C3 hE; rw [← hty] at C4 hE; rw [← hats] at C5 hE
  have HC1 := hide C1; have HC2 := hide C2; have HC3 := hide C3; have HC4 := hide C4; have HC5 := hide C5; have HR0 := hide h0; have HB := hide hB
  rw [hE]
  have hS0 : (0 : Int) ≤ (S : Int) := by omega
  have hS3 : (S : Int) ≤ 15 := by omega
  clear C1 C2 C3 C4 C5 hS ha hb hty hats hE h h0 hB hS4
  obtain ⟨P, hP⟩ : ∃ P, P = w.heap.size := ⟨_, rfl⟩
  obtain ⟨W, hW⟩ : ∃ W, W = (w.alloc (.cells #[.int .i64 0, .int .i64 0, .int .i64 0, .string ⟨#[]⟩, .slice none 0 0] 36)).alloc (.cells #[.int .i64 0, .int .i64 0, .int .i64 0, .string ⟨#[]⟩, .slice none 0 0] 36) := ⟨_, rfl⟩
  rw [← hW, ← hP] at HR0
  have HW := hide hW; have HP := hide hP
  clear hP hW
  go_enter Try.func158, Try.ntmps158
  go_wp2_with fail
  rw [← HP.out, ← HW.out]
  refine (HC1.out _ HR0.out.er).mono ?_
  rintro e w1 ⟨rfl, he, k⟩
  have HR1 := hide (HR0.out.call (by decide) k he)
  clear he k
  obtain ⟨c0, c1, c2, c3, c4⟩ := cell_of_five HR1.out.bd
  have f0 := free_cells_of HR1.out.bd 0
  go_wp2_with fail
  have HR2 := hide (HR1.out.set (by decide) (by decide) 0 (.int .i64 (S : Int)))
  clear c0 c1 c2 c3 c4 f0
  refine (HC2.out _ HR2.out.er).mono ?_
  rintro e w2 ⟨rfl, he, k⟩
  have HR3 := hide (HR2.out.call (by decide) k he)
  clear he k
  obtain ⟨c0, c1, c2, c3, c4⟩ := cell_of_five HR3.out.bd
  have f1 := free_cells_of HR3.out.bd 1
  go_wp2_with fail
  have HR4 := hide (HR3.out.set (by decide) (by decide) 1 (.int .i64 a))
  clear c0 c1 c2 c3 c4 f1
  refine (HC3.out _ HR4.out.er).mono ?_
  rintro e w3 ⟨rfl, he, k⟩
  have HR5 := hide (HR4.out.call (by decide) k he)
  clear he k
  obtain ⟨c0, c1, c2, c3, c4⟩ := cell_of_five HR5.out.bd
  have f2 := free_cells_of HR5.out.bd 2
  go_wp2_with fail
  have HR6 := hide (HR5.out.set (by decide) (by decide) 2 (.int .i64 b))
  clear c0 c1 c2 c3 c4 f2
  refine (HC4.out _ HR6.out.er).mono ?_
  rintro e w4 ⟨rfl, he, k⟩
  have HR7 := hide (HR6.out.call (by decide) k he)
  clear he k
  obtain ⟨c0, c1, c2, c3, c4⟩ := cell_of_five HR7.out.bd
  have f3 := free_cells_of HR7.out.bd 3
  go_wp2_with fail
  have HR8 := hide (HR7.out.set (by decide) (by decide) 3 (.string ty))
  have HB8 := hide (Nat.le_trans HB.out HR8.out.kept.below.size)
  clear c0 c1 c2 c3 c4 f3
  refine (HC5.out _ HR8.out.er HB8.out).mono ?_
  rintro e w5 ⟨v, rfl, ho, he, k⟩
  obtain ⟨ao, cap, rfl⟩ := own_slice ho
  have HR9 := hide (HR8.out.call (by decide) k he)
  have HO := hide ho
  have HSZ := hide HR8.out.kept.below.size
  clear he k ho
  obtain ⟨c0, c1, c2, c3, c4⟩ := cell_of_five HR9.out.bd
  have f4 := free_cells_of HR9.out.bd 4
  have HR10 := hide (HR9.out.set (by decide) (by decide) 4 (.slice ao ats.length cap))
  obtain ⟨d0, d1, d2, d3, d4⟩ := cell_of_five HR10.out.bd
  obtain ⟨r0, r1, r2, r3, r4⟩ := cell_of_five HR10.out.br
  have g0 := free_cells_of HR10.out.br 0; have g1 := free_cells_of HR10.out.br 1; have g2 := free_cells_of HR10.out.br 2; have g3 := free_cells_of HR10.out.br 3; have g4 := free_cells_of HR10.out.br 4
  go_wp2
  have HZ := hide (HR10.out.five (by decide) (by decide) (.int .i64 (S : Int)) (.int .i64 a) (.int .i64 b) (.string ty) (.slice ao ats.length cap))
  have z := cell_of_five HZ.out.br
  refine bodyPost_ret (v := .agg #[.int .i64 (S : Int), .int .i64 a, .int .i64 b, .string ty, .slice ao ats.length cap]) (by simp [results, Try.results158, go_sem, z]) rfl ⟨_, rfl, ?_, HZ.out.er, HZ.out.kept⟩
  have o1 := ownsRow_setCell_typed (a := ⟨P + 1, 4, none⟩) HO.out HR9.out.bd (by decide) (.slice ao ats.length cap)
  have o2 := own_five o1 HR10.out.br (by decide) (.int .i64 (S : Int)) (.int .i64 a) (.int .i64 b) (.string ty) (.slice ao ats.length cap)
  rw [HP.out] at o2 ⊢
  exact ownsRow_lower o2 (by have := HSZ.out; simpa using this)
end Go.Proofs.Ytpbloplbpkedcaa

/- Contract of New of the document's own source: all bits of the bytes are left to it. -/
namespace Go.Proofs.Ytpbloplbpkedcaa
open Go Go.RowKit

theorem own_shape_pos {w : World} {base e size n : Nat} {v : Value} {xs : List Value} (h : w.ownsRow base e size v n xs) (hn : 0 < n) : ∃ g cap, v = .slice (some ⟨g, 0, none⟩) n cap := by
  rcases h.2 with ⟨_, h0⟩ | ⟨g, cap, cur, hv, _⟩
  · omega
  · exact ⟨g, cap, hv⟩
theorem RefIs.of_own {w : World} {B q : Nat} {l : List Bool} {v : Value} (hB : B ≤ q) (hl : l.length ≤ 1125899906842624) (hq : w.heap[q]? = some (.cells #[v] 67 (0, 0))) (ho : w.ownsRow B 4 1 v l.length (boolVs l)) : RefIs w B q l := by
  rcases ho.2 with ⟨hv, hn0⟩ | ⟨g, cap, cur, hv, hg, hgg, hgn, hcapm, hcsz, htake⟩
  · subst hv
    refine ⟨hB, hl, none, 0, by rw [hn0]; exact hq, by omega, fun _ => rfl, fun a ha => by cases ha⟩
  · subst hv
    refine ⟨hB, hl, some ⟨g, 0, none⟩, cap, hq, hgn, (fun h => by cases h), fun a ha => ?_⟩
    simp only [Option.some.injEq] at ha
    subst ha
    refine ⟨rfl, cur, hgg, fun j hj => ?_⟩
    have h1 := ho.cells (g := g) rfl j (.bool (l.getD j false)) (by simp [boolVs, hj])
    rw [add_off, cell_of_row w g j cur 4 (0, 0) hgg] at h1
    simpa using h1

set_option maxRecDepth 100000 in
theorem rNew_nil (ao : Option Addr) (cap : Nat) (w : World) :
    Calls Try.prog 23 #[.slice ao 0 cap] w fun e w' => ∃ q, e = .returned (.pointer (some ⟨q, 0, none⟩)) ∧ RefIs w' w.heap.size q (bitsAll []) ∧ Below w.heap.size w w' := by
  go_enter Try.func23, Try.ntmps23
  go_wp2
  refine wp_loop_rounds 1 ?_
  rw [rounds_succ]
  go_wp2
  go_ret
  exact ⟨w.heap.size, rfl, RefIs.of_own (Nat.le_refl _) (by simp [bitsAll]) (heap_alloc_new _ _) (by simpa [bitsAll, boolVs] using World.ownsRow_nil _ _ _ _), (Below.refl _ _).alloc (Nat.le_refl _) _⟩

set_option maxRecDepth 100000 in
set_option maxHeartbeats 1600000 in
theorem rNew_some (b off cap : Nat) (bytes : List Nat) (w : World) (hbig : bytes.length ≤ 1048576) (hsm : ∀ c ∈ bytes, c < 256) (hbw : b < w.heap.size)
    (hc : ∀ j, j < bytes.length → w.cell? ⟨b, off + j, none⟩ = some (.int .u8 ((bytes.getD j 0 : Nat) : Int))) :
    Calls Try.prog 23 #[.slice (some ⟨b, off, none⟩) bytes.length cap] w fun e w' => ∃ q, e = .returned (.pointer (some ⟨q, 0, none⟩)) ∧ RefIs w' w.heap.size q (bitsAll bytes) ∧ Below w.heap.size w w' := by
  obtain ⟨i0, hi, hz0, hz1, hz2⟩ := info_parts Try.info4
  obtain ⟨N, hN⟩ : ∃ N, N = bytes.length := ⟨_, rfl⟩
  rw [← hN] at hbig ⊢
  have HN := hide hN; clear hN
  have HC := hide hc; clear hc
  have HSm := hide hsm; clear hsm
  obtain ⟨H0, hH0⟩ : ∃ H0, H0 = w.heap.size := ⟨_, rfl⟩
  rw [← hH0] at hbw
  have HH := hide hH0
  go_enter Try.func23, Try.ntmps23
  go_wp2
  rw [← hH0]
  clear hH0
  go_loopw [4] (fun i wr => ∃ (k : Nat) (v : Value), k ≤ N ∧ i = .int .i64 k ∧ wr.heap[H0]? = some (.cells #[v] 67 (0, 0)) ∧ wr.ownsRow H0 4 1 v (8 * k) (boolVs (bitsAll (bytes.take k))) ∧ Below H0 w wr) (fun i _ => N - (intOf i).toNat)
  case atStart =>
    refine ⟨0, .slice none 0 0, Nat.zero_le _, rfl, ?_, ?_, (Below.refl _ _).alloc (by rw [HH.out]; exact Nat.le_refl _) _⟩
    · rw [HH.out]; exact heap_alloc_new _ _
    · simpa [bitsAll, boolVs] using World.ownsRow_nil _ _ _ _
  case round =>
    obtain ⟨k, v, hk, rfl, hq, hown, hbel⟩ := hrel
    have HQ := hide hq; have HO := hide hown; have HB := hide hbel
    by_cases hlt : k < N
    · have hcell := (hbel.cell (p := ⟨b, off + k, none⟩) hbw).trans (HC.out k (by rw [← HN.out]; exact hlt))
      obtain ⟨c, hcc⟩ : ∃ c, c = bytes.getD k 0 := ⟨_, rfl⟩
      rw [← hcc] at hcell
      have hc256 : c < 256 := by
        have hk' : k < bytes.length := by rw [← HN.out]; exact hlt
        rw [hcc, List.getD, List.getElem?_eq_getElem hk']
        exact HSm.out _ (List.getElem_mem _)
      have HCC := hide hcc; clear hcc
      have q0 := cell_of_one hq
      have qf := free_of_one hq
      have hqlt := lt_of_block hq
      have hH0r : H0 ≤ wr.heap.size := by omega
      have CW : ∀ w, Calls Try.prog 55 #[.int .u64 (c : Int), .int .i64 8] w fun e w' => ∃ v, e = .returned v ∧ Flags w' w.heap.size v (bitsOf c (7 + 1)) ∧ Below w.heap.size w w' := fun w => rLow_any c 8 w (by omega) (by omega)
      have hcw : IntKind.u64.wrap (c : Int) = (c : Int) := by rw [IntKind.wrap_u64]; omega
      clear hq hown hbel
      go_wp2_with fail
      go_region_law (first | (go_simp; go_at_call 55; refine (CW _).mono ?_; rintro e w2 ⟨v2, rfl, hf2, hb2⟩; obtain ⟨g2, c2, rfl⟩ := flags_shape hf2; have HF2 := hide hf2; have HB2 := hide hb2; have HQ2 := hide ((hb2.block H0 (by simpa using hqlt)).trans HQ.out); have q02 := cell_of_one HQ2.out; have qf2 := free_of_one HQ2.out; clear hf2 hb2) | (refine step_append_own rfl (.tmp 17) (.tmp 23) 65 rfl H0 4 i0 (.bool false) 1 1 Try.underlying65 hi hz0 hz1 hz2 rfl (by decide) v (8 * k) (boolVs (bitsAll (bytes.take k))) (by simp [Act.eval]) (ownsRow_below (ownsRow_drew HO.out) HB2.out (Nat.le_refl _)) ⟨g2, 0, none⟩ 8 c2 (boolVs (bitsOf c 8)) (by simp [Act.eval]) (by simp [boolVs_length, bitsOf_length]) (HF2.out.cells (g := g2) rfl) (boolVs_one _) (by unfold maxLen; omega) (by omega) (by have := HB2.out.size; simp at this; omega) ?_; intro v3 w3 hown3 hgrow3; obtain ⟨g3, c3, rfl⟩ := own_shape_pos hown3 (Nat.succ_pos _); have HO3 := hide hown3; have HG3 := hide hgrow3; have HQ3 := hide (grow_keeps (w0 := w2) HQ2.out (ownsRow_below (ownsRow_drew HO.out) HB2.out (Nat.le_refl _)) (by decide) HG3.out rfl); have q03 := cell_of_one HQ3.out; have qf3 := free_of_one HQ3.out; clear hown3 hgrow3))
      all_goals go_wp2
      all_goals go_roundw
      all_goals try (case' measure => simp [intOf]; omega)
      all_goals
        refine ⟨k + 1, .slice (some ⟨g3, 0, none⟩) (8 * k + 8) c3, by omega, by go_num, ?_, ?_, ?_⟩
        · rw [one_setCell HQ3.out]
        · have h1 : bitsAll (bytes.take (k + 1)) = bitsAll (bytes.take k) ++ bitsOf c 8 := by
            have hk' : k < bytes.length := by rw [← HN.out]; exact hlt
            rw [List.take_succ_eq_append_getElem hk', bitsAll_snoc]
            have := HCC.out
            rw [List.getD, List.getElem?_eq_getElem hk'] at this
            rw [this]; rfl
          rw [h1, boolVs_append, show 8 * (k + 1) = 8 * k + 8 by omega]
          exact ownsRow_setCell_typed HO3.out HQ3.out (by decide) _
        · have b1 := (HB.out.drew).trans (HB2.out.mono (by simpa using hH0r))
          have b2 := b1.grown HG3.out (Nat.le_trans hH0r (by simpa using HB2.out.size)) (fun j hj => (HO.out.lt j hj).1)
          exact b2.setCell (p := ⟨H0, 0, none⟩) (Nat.le_refl _) _
    · go_wp2
      go_ret
      obtain rfl : k = N := by omega
      have ho := HO.out
      rw [List.take_of_length_le (by rw [← HN.out]; omega)] at ho
      rw [← HH.out]
      refine ⟨H0, rfl, RefIs.of_own (Nat.le_refl _) (by rw [bitsAll_length, ← HN.out]; omega) HQ.out (by rw [bitsAll_length, ← HN.out]; exact ho), HB.out⟩
end Go.Proofs.Ytpbloplbpkedcaa

/- A value that reads as bytes: a slice, nil or not, below some block. -/
namespace Go.Proofs.Ytpbloplbpkedcaa
open Go Go.RowKit

def takeT (e : Nat) : Bool := srcT e || refT e
theorem takeT_src (e : Nat) (h : takeT e = false) : srcT e = false := by unfold takeT at h; simp at h; exact h.1
theorem takeT_ref (e : Nat) (h : takeT e = false) : refT e = false := by unfold takeT at h; simp at h; exact h.2

theorem SrcIs.kept {w w' : World} {B B' q : Nat} {bytes : List Nat} {p : Nat} {T : Nat → Bool} (h : SrcIs w B q bytes p) (hk : Kept B' T w w') (h1 : T 101 = false) (h2 : T 5 = false) : SrcIs w' B q bytes p := by
  obtain ⟨v, hq, ho⟩ := h.row
  exact ⟨h.from_, h.len, h.at_, h.small, v, hk.typed _ _ _ _ hq h1, hk.ownsRow ho h2⟩
theorem SrcIs.below {w w' : World} {B B' q : Nat} {bytes : List Nat} {p : Nat} (h : SrcIs w B q bytes p) (hb : Below B' w w') (hB : w.heap.size ≤ B') : SrcIs w' B q bytes p := by
  obtain ⟨v, hq, ho⟩ := h.row
  exact ⟨h.from_, h.len, h.at_, h.small, v, by rw [hb.block q (by have := lt_of_block hq; omega)]; exact hq, ownsRow_below ho hb hB⟩
theorem RefIs.lower {w : World} {B B' q : Nat} {l : List Bool} (h : RefIs w B q l) (hB : B' ≤ B) : RefIs w B' q l := ⟨Nat.le_trans hB h.from_, h.len, h.row⟩

/-- Both stand at the same bit. -/
def Both (w : World) (B q q' : Nat) (bytes : List Nat) : Prop := ∃ p, SrcIs w B q bytes p ∧ RefIs w B q' (leftL bytes p)

/-- What the two calls of take leave. -/
theorem both_of {w w1 w2 : World} {B q q' : Nat} {bytes : List Nat} {l' : List Bool} (h1 : ∃ p', SrcIs w1 B q bytes p' ∧ leftL bytes p' = l') (k1 : Kept B srcT w w1) (h2 : RefIs w2 B q' l') (k2 : KeptR B q' w1 w2) : Both w2 B q q' bytes ∧ Kept B takeT w w2 := by
  obtain ⟨p', h3, h4⟩ := h1
  refine ⟨⟨p', h3.kept k2.kept (by decide) (by decide), by rw [h4]; exact h2⟩, (k1.mono (Nat.le_refl _) takeT_src).trans (k2.mono (Nat.le_refl _) takeT_ref)⟩

end Go.Proofs.Ytpbloplbpkedcaa
namespace Go.Proofs.Ytpbloplbpkedcaa
open Go Go.RowKit

/-- In w the value v is a slice of the bytes, which lie below block B. -/
structure Bv (w : World) (B : Nat) (v : Value) (bytes : List Nat) : Prop where
  small : ∀ c ∈ bytes, c < 256
  len : bytes.length ≤ 140737488355328
  row : ∃ ao cap, v = .slice ao bytes.length cap ∧ bytes.length ≤ cap ∧ cap ≤ 9223372036854775807 ∧ (ao = none → cap = 0) ∧ (0 < bytes.length → ∃ b o, ao = some ⟨b, o, none⟩ ∧ b < B ∧ ∀ j, j < bytes.length → w.cell? ⟨b, o + j, none⟩ = some (.int .u8 ((bytes.getD j 0 : Nat) : Int)))

theorem Bv.keep {w w' : World} {B : Nat} {v : Value} {bytes : List Nat} (h : Bv w B v bytes) (hk : ∀ b o, b < B → w'.cell? ⟨b, o, none⟩ = w.cell? ⟨b, o, none⟩) : Bv w' B v bytes := by
  obtain ⟨ao, cap, h1, h2, h2', h2n, h3⟩ := h.row
  refine ⟨h.small, h.len, ao, cap, h1, h2, h2', h2n, fun hn => ?_⟩
  obtain ⟨b, o, h4, h5, h6⟩ := h3 hn
  exact ⟨b, o, h4, h5, fun j hj => (hk _ _ h5).trans (h6 j hj)⟩
theorem Bv.below {w w' : World} {B B' : Nat} {v : Value} {bytes : List Nat} (h : Bv w B v bytes) (hb : Below B' w w') (hB : B ≤ B') : Bv w' B v bytes :=
  h.keep fun _ _ hlt => hb.cell (Nat.lt_of_lt_of_le hlt hB)
theorem Bv.mono {w : World} {B B' : Nat} {v : Value} {bytes : List Nat} (h : Bv w B v bytes) (hB : B ≤ B') : Bv w B' v bytes := by
  obtain ⟨ao, cap, h1, h2, h2', h2n, h3⟩ := h.row
  refine ⟨h.small, h.len, ao, cap, h1, h2, h2', h2n, fun hn => ?_⟩
  obtain ⟨b, o, h4, h5, h6⟩ := h3 hn
  exact ⟨b, o, h4, Nat.lt_of_lt_of_le h5 hB, h6⟩
theorem Bv.bytesIn {w : World} {B : Nat} {ao : Option Addr} {n cap : Nat} {bytes : List Nat} (h : Bv w B (.slice ao n cap) bytes) : n = bytes.length ∧ Lib.BytesIn w ao n (bytes.map fun x : Nat => (x : Int)) := by
  obtain ⟨ao', cap', h1, h2, h2', h2n, h3⟩ := h.row
  simp only [Value.slice.injEq] at h1
  obtain ⟨rfl, rfl, rfl⟩ := h1
  refine ⟨rfl, fun hn => ?_⟩
  obtain ⟨b, o, h4, h5, h6⟩ := h3 hn
  refine ⟨b, o, h4, fun i hi => ?_⟩
  rw [h6 i hi]
  simp [List.getD, hi]
theorem Bv.bytesAt {w : World} {B : Nat} {ao : Option Addr} {n cap : Nat} {bytes : List Nat} (h : Bv w B (.slice ao n cap) bytes) (hao : ao = none → n = 0) (hsp : n = 0 → ao = none) : BytesAt w ao bytes := by
  obtain ⟨ao', cap', h1, h2, h2', h2n, h3⟩ := h.row
  simp only [Value.slice.injEq] at h1
  obtain ⟨rfl, rfl, rfl⟩ := h1
  refine ⟨hao, fun a ha j hj => ?_⟩
  obtain ⟨b, o, h4, h5, h6⟩ := h3 (by omega)
  rw [h4] at ha
  simp only [Option.some.injEq] at ha
  subst ha
  have : (⟨b, o, none⟩ : Addr).add j = ⟨b, o + j, none⟩ := by unfold Addr.add; split <;> simp_all
  rw [this]; exact h6 j hj
theorem add_spot (b o j : Nat) : (⟨b, o, none⟩ : Addr).add j = ⟨b, o + j, none⟩ := by unfold Addr.add; split <;> simp_all
theorem Bv.bytesAt' {w : World} {B : Nat} {ao : Option Addr} {n cap : Nat} {bytes : List Nat} (h : Bv w B (.slice ao n cap) bytes) : BytesAt w ao bytes := by
  obtain ⟨ao', cap', h1, h2, h2', h2n, h3⟩ := h.row
  simp only [Value.slice.injEq] at h1
  obtain ⟨rfl, rfl, rfl⟩ := h1
  refine ⟨fun ha => ?_, fun a ha j hj => ?_⟩
  · rcases Nat.eq_zero_or_pos bytes.length with h0 | h0
    · exact h0
    · obtain ⟨b, o, h4, _⟩ := h3 h0
      rw [ha] at h4; cases h4
  · obtain ⟨b, o, h4, h5, h6⟩ := h3 (by omega)
    rw [h4] at ha
    simp only [Option.some.injEq] at ha
    subst ha
    rw [add_spot]; exact h6 j hj
theorem Bv.shape {w : World} {B : Nat} {v : Value} {bytes : List Nat} (h : Bv w B v bytes) : ∃ ao cap, v = .slice ao bytes.length cap := by
  obtain ⟨ao, cap, h1, _⟩ := h.row
  exact ⟨ao, cap, h1⟩
/-- Bytes of the call's own. -/
theorem Bv.of_own {w : World} {B : Nat} {v : Value} {bytes : List Nat} (h : w.ownsRow B 5 1 v bytes.length (byteVs bytes)) (hs : ∀ c ∈ bytes, c < 256) (hl : bytes.length ≤ 140737488355328) : Bv w w.heap.size v bytes := by
  rcases h.2 with ⟨hv, hn0⟩ | ⟨g, cap, cur, hv, hg, hgg, hgn, hcapm, hcsz, htake⟩
  · exact ⟨hs, hl, none, 0, by rw [hv, hn0], by omega, by omega, fun _ => rfl, fun hn => by omega⟩
  · have hc : bytes.length ≤ cap ∧ cap ≤ 9223372036854775807 := by
      refine ⟨?_, ?_⟩ <;> first | assumption | (unfold maxLen at *; omega)
    refine ⟨hs, hl, some ⟨g, 0, none⟩, cap, hv, hc.1, hc.2, (fun h => by cases h), fun hn => ⟨g, 0, rfl, lt_of_block hgg, fun j hj => ?_⟩⟩
    subst hv
    have := h.cells (g := g) rfl j (.int .u8 ((bytes.getD j 0 : Nat) : Int)) (by simp [byteVs, hj])
    rw [add_off] at this
    rw [Nat.zero_add]; exact this
theorem Bv.nil (w : World) (B : Nat) : Bv w B (.slice none 0 0) [] := ⟨by simp, by simp, none, 0, rfl, by simp, by simp, fun _ => rfl, fun h => by simp at h⟩

/-- A string of bytes; what Equal tells. -/
def strN (bytes : List Nat) : ByteArray := strOfNums (bytes.map fun x : Nat => (x : Int))
theorem Bv.convert {w : World} {B : Nat} {ao : Option Addr} {n cap : Nat} {bytes : List Nat} (h : Bv w B (.slice ao n cap) bytes) : (convert 53 9 (.slice ao n cap)).run Try.prog w = .ok (.string (strN bytes)) w :=
  h.bytesIn.2.convert (by rw [List.length_map]; exact h.bytesIn.1.symm) cap _ _ _ Try.underlying53 Try.underlying5 Try.underlying9
theorem ofNat_inj {a b : Nat} (ha : a < 256) (hb : b < 256) (h : UInt8.ofNat a = UInt8.ofNat b) : a = b := by
  have := congrArg UInt8.toNat h
  simpa [Nat.mod_eq_of_lt ha, Nat.mod_eq_of_lt hb] using this
theorem bytesOf_inj : ∀ {a b : List Nat}, (∀ c ∈ a, c < 256) → (∀ c ∈ b, c < 256) → Lib.bytesOf (a.map fun x : Nat => (x : Int)) = Lib.bytesOf (b.map fun x : Nat => (x : Int)) → a = b
  | [], [], _, _, _ => rfl
  | [], _ :: _, _, _, h => by simp [Lib.bytesOf] at h
  | _ :: _, [], _, _, h => by simp [Lib.bytesOf] at h
  | x :: a, y :: b, ha, hb, h => by
    simp only [Lib.bytesOf, List.map_cons, List.cons.injEq] at h
    have h1 : x = y := ofNat_inj (ha x (by simp)) (hb y (by simp)) (by simpa using h.1)
    have h2 : a = b := bytesOf_inj (fun c hc => ha c (by simp [hc])) (fun c hc => hb c (by simp [hc])) h.2
    rw [h1, h2]
theorem bytesOf_eq {a b : List Nat} (ha : ∀ c ∈ a, c < 256) (hb : ∀ c ∈ b, c < 256) : (Lib.bytesOf (a.map fun x : Nat => (x : Int)) == Lib.bytesOf (b.map fun x : Nat => (x : Int))) = decide (a = b) := by
  by_cases h : a = b
  · subst h; simp
  · rw [decide_eq_false h]
    exact beq_false_of_ne fun h2 => h (bytesOf_inj ha hb h2)
theorem strN_list (a : List Nat) : (strN a).data.toList = Lib.bytesOf (a.map fun x : Nat => (x : Int)) := by simp [strN, strOfNums, Lib.bytesOf]
theorem strN_inj {a b : List Nat} (ha : ∀ c ∈ a, c < 256) (hb : ∀ c ∈ b, c < 256) (h : strN a = strN b) : a = b := by
  refine bytesOf_inj ha hb ?_
  rw [← strN_list, ← strN_list, h]
theorem Bv.equal {w : World} {B B' : Nat} {ao ao' : Option Addr} {n n' cap cap' : Nat} {a b : List Nat} (h1 : Bv w B (.slice ao n cap) a) (h2 : Bv w B' (.slice ao' n' cap') b) :
    Calls Try.prog 32 #[.slice ao n cap, .slice ao' n' cap'] w fun e w' => e = .returned (.bool (decide (a = b))) ∧ w = w' := by
  have C := Try.bytes_Equal_all ao ao' n cap n' cap' _ _ w (by rw [List.length_map]; exact h1.bytesIn.1.symm) (by rw [List.length_map]; exact h2.bytesIn.1.symm) h1.bytesIn.2 h2.bytesIn.2
  rw [bytesOf_eq h1.small h2.small] at C
  exact C.mono fun _ _ ⟨h, k⟩ => ⟨h, k.symm⟩

/-- append(row of the call's own, bytes..). -/
theorem wpList_append_bv {w : World} {ops : Array Oper} {rest : List Oper} {o : Oper} {a : Act} {Q : Exit → Act → World → Prop} (hgd : o.guard = none) (s x : Operand)
    (ho : o.op = .call { callee := .builtin .append, args := #[s, x], argTypes := #[53, 53] }) (base : Nat) (v : Value) (n : Nat) (xs : List Value) (hs : a.eval s = v) (hown : w.ownsRow base 5 1 v n xs)
    (B : Nat) (ao : Option Addr) (m c : Nat) (bytes : List Nat) (hx : a.eval x = .slice ao m c) (hb : Bv w B (.slice ao m c) bytes) (hsum : n + m ≤ 140737488355328) (hbase : base ≤ w.heap.size)
    (h : ∀ v' w', w'.ownsRow base 5 1 v' (n + m) (xs ++ byteVs bytes) → w.grownBy w' v.ownBlock → wpList Try.prog ops Q rest (a.put o.dst v') w') : wpList Try.prog ops Q (o :: rest) a w := by
  obtain ⟨i0, hi, hz0, hz1, hz2⟩ := info_parts Try.info5
  have hat := hb.bytesAt'
  have hm := hb.bytesIn.1
  cases ao with
  | none =>
    have hm0 := hat.1 rfl
    obtain ⟨ao', cap', h1, h2, h2', h2n, h3⟩ := hb.row
    simp only [Value.slice.injEq] at h1
    obtain ⟨rfl, h4, rfl⟩ := h1
    obtain rfl : bytes = [] := List.length_eq_zero_iff.1 hm0
    have hc0 := h2n rfl
    subst hc0
    simp only [List.length_nil] at h4
    subst h4
    exact wpList_append_own_none hgd s x 53 ho base 5 i0 1 Try.underlying53 hi v n xs hs hown hx (h v w (by simpa [byteVs] using hown) (World.grownBy.refl w _))
  | some ad =>
    refine wpList_append_own w hgd s x 53 ho base 5 i0 (.int .u8 0) 1 1 Try.underlying53 hi hz0 hz1 hz2 rfl (by decide) v n xs hs hown ad m c (byteVs bytes) hx (by rw [byteVs_length, Nat.mul_one]; exact hm.symm) (fun j u hj => ?_) (byteVs_one _) (by unfold maxLen; omega) (by omega) hbase (fun v' w' h1 h2 _ => h v' w' h1 h2)
    have hjl : j < bytes.length := by
      rcases Nat.lt_or_ge j bytes.length with h5 | h5
      · exact h5
      · rw [List.getElem?_eq_none (by rw [byteVs_length]; exact h5)] at hj; cases hj
    rw [hat.2 ad rfl j hjl, ← hj]
    simp [byteVs, hjl]

/-- bytes.Clone of whatever bytes. -/
theorem cloneB_any (w : World) (B : Nat) (ao : Option Addr) (n cap : Nat) (bytes : List Nat) (hb : Bv w B (.slice ao n cap) bytes) :
    Calls Try.prog 54 #[.slice ao n cap] w fun e w' => ∃ v', e = .returned v' ∧ w'.ownsRow w.heap.size 5 1 v' bytes.length (byteVs bytes) ∧ Below w.heap.size w w' := by
  have hat := hb.bytesAt'
  have hm := hb.bytesIn.1
  cases ao with
  | none =>
    have hm0 := hat.1 rfl
    obtain rfl : bytes = [] := List.length_eq_zero_iff.1 hm0
    exact (Try.bytes_Clone_nil n cap w).mono fun e w' ⟨h1, h2⟩ => ⟨_, h1, World.ownsRow_nil _ _ _ _, by rw [h2]; exact Below.refl _ _⟩
  | some a =>
    subst hm
    have C := Try.bytes_Clone_at a bytes.length cap (bytes.map fun x : Nat => (x : Int)) w (by simp) hb.len (fun i hi => by rw [hat.2 a rfl i hi]; simp [List.getD, hi])
    rw [byteVs_ints] at C
    exact C.mono fun e w' ⟨v', h1, h2, _, h3⟩ => ⟨v', h1, h2, h3⟩
end Go.Proofs.Ytpbloplbpkedcaa

/- Contracts: Take and Parse of an event. -/
namespace Go.Proofs.Ytpbloplbpkedcaa
open Go Go.RowKit

def tkT (e : Nat) : Bool := srcT e || erT e
theorem tkT_src (e : Nat) (h : tkT e = false) : srcT e = false := by unfold tkT at h; simp at h; exact h.1
theorem tkT_er (e : Nat) (h : tkT e = false) : erT e = false := by unfold tkT at h; simp at h; exact h.2
/-- In w the block q is a source, to which the bits l are left. -/
def SrcL (w : World) (B q : Nat) (bytes : List Nat) (l : List Bool) : Prop := ∃ p, SrcIs w B q bytes p ∧ leftL bytes p = l
theorem SrcL.kept {w w' : World} {B B' q : Nat} {bytes : List Nat} {l : List Bool} {T : Nat → Bool} (h : SrcL w B q bytes l) (hk : Kept B' T w w') (h1 : T 101 = false) (h2 : T 5 = false) : SrcL w' B q bytes l := by
  obtain ⟨p, h3, h4⟩ := h; exact ⟨p, h3.kept hk h1 h2, h4⟩
theorem SrcL.below {w w' : World} {B B' q : Nat} {bytes : List Nat} {l : List Bool} (h : SrcL w B q bytes l) (hb : Below B' w w') (hB : w.heap.size ≤ B') : SrcL w' B q bytes l := by
  obtain ⟨p, h3, h4⟩ := h; exact ⟨p, h3.below hb hB, h4⟩

/-- Of a source a reader is made: both hold the same bytes. -/
theorem er_of_src {w : World} {B q : Nat} {bytes : List Nat} {p : Nat} (h : SrcIs w B q bytes p) {v : Value} (h1 : w.heap[q]? = some (.cells #[.bool true, v, .int .i64 (p : Int)] 101 (0, 0))) (hB : B ≤ w.heap.size) :
    ErIs (w.alloc (.cells #[.bool true, v, .int .i64 (p : Int), .int .i64 0] 198)) B w.heap.size bytes (0, leftL bytes p) := by
  obtain ⟨v', hq, ho⟩ := h.row
  rw [h1] at hq
  simp only [Option.some.injEq, Obj.cells.injEq, and_true] at hq
  have hv : v = v' := by simpa using hq
  subst hv
  exact ⟨p, ⟨hB, h.len, h.at_, h.small, v, heap_alloc_new _ _, ho.alloc _⟩, rfl⟩
theorem ErIs.open3 {w : World} {B q : Nat} {bytes : List Nat} {s : Qs} (h : ErIs w B q bytes s) :
    ∃ (v : Value) (p : Nat), w.heap[q]? = some (.cells #[.bool true, v, .int .i64 (p : Int), .int .i64 ((s.1 : Nat) : Int)] 198 (0, 0)) ∧ w.ownsRow B 5 1 v bytes.length (byteVs bytes) ∧ p ≤ 8 * bytes.length ∧ leftL bytes p = s.2 := by
  obtain ⟨p, h1, h2⟩ := h
  obtain ⟨v, h3, h4⟩ := h1.row
  exact ⟨v, p, h3, h4, h1.at_, h2⟩
/-- The source follows its reader. -/
theorem SrcIs.follow {w : World} {B q : Nat} {bytes : List Nat} {p : Nat} (h : SrcIs w B q bytes p) {v : Value} {p' : Nat} (ho : w.ownsRow B 5 1 v bytes.length (byteVs bytes)) (hp : p' ≤ 8 * bytes.length) :
    SrcIs (((w.setCell ⟨q, 0, none⟩ (.bool true)).setCell ⟨q, 1, none⟩ v).setCell ⟨q, 2, none⟩ (.int .i64 (p' : Int))) B q bytes p' ∧ KeptS B q w (((w.setCell ⟨q, 0, none⟩ (.bool true)).setCell ⟨q, 1, none⟩ v).setCell ⟨q, 2, none⟩ (.int .i64 (p' : Int))) := by
  obtain ⟨v', hq, _⟩ := h.row
  have a0 := heap_setCell_same (k := 0) hq (.bool true)
  have a1 := heap_setCell_same (k := 1) a0 v
  have o1 := ownsRow_setCell_typed (a := ⟨q, 0, none⟩) ho hq (by decide) (.bool true)
  have o2 := ownsRow_setCell_typed (a := ⟨q, 1, none⟩) o1 a0 (by decide) v
  have o3 := ownsRow_setCell_typed (a := ⟨q, 2, none⟩) o2 a1 (by decide) (.int .i64 (p' : Int))
  refine ⟨⟨h.from_, h.len, hp, h.small, v, ?_, o3⟩, ?_⟩
  · rw [heap_setCell_same a1]; simp
  · exact (((KeptS.refl B q w).setCell (p := ⟨q, 0, none⟩) h.from_ hq rfl _).setCell (p := ⟨q, 1, none⟩) h.from_ a0 rfl _).setCell (p := ⟨q, 2, none⟩) h.from_ a1 rfl _

/-- Five stores into a box of an event. -/
theorem kept_five {w : World} {P : Nat} {c0 c1 c2 c3 c4 : Value} (hq : w.heap[P]? = some (.cells #[c0, c1, c2, c3, c4] 36 (0, 0))) (d0 d1 d2 d3 d4 : Value) :
    Kept 0 (fun e => e == 36) w (((((w.setCell ⟨P, 0, none⟩ d0).setCell ⟨P, 1, none⟩ d1).setCell ⟨P, 2, none⟩ d2).setCell ⟨P, 3, none⟩ d3).setCell ⟨P, 4, none⟩ d4) := by
  have a0 := heap_setCell_same (k := 0) hq d0
  have a1 := heap_setCell_same (k := 1) a0 d1
  have a2 := heap_setCell_same (k := 2) a1 d2
  have a3 := heap_setCell_same (k := 3) a2 d3
  exact ((((((Kept.refl _ _ _).setCell (p := ⟨P, 0, none⟩) (Nat.zero_le _) hq rfl d0).setCell (p := ⟨P, 1, none⟩) (Nat.zero_le _) a0 rfl d1).setCell (p := ⟨P, 2, none⟩) (Nat.zero_le _) a1 rfl d2).setCell (p := ⟨P, 3, none⟩) (Nat.zero_le _) a2 rfl d3).setCell (p := ⟨P, 4, none⟩) (Nat.zero_le _) a3 rfl d4)
theorem Kept.five_fresh {B : Nat} {T : Nat → Bool} {a w : World} (h : Kept B T a w) {P : Nat} (hB : B ≤ P) (hP : a.heap.size ≤ P) (d0 d1 d2 d3 d4 : Value) :
    Kept B T a (((((w.setCell ⟨P, 0, none⟩ d0).setCell ⟨P, 1, none⟩ d1).setCell ⟨P, 2, none⟩ d2).setCell ⟨P, 3, none⟩ d3).setCell ⟨P, 4, none⟩ d4) :=
  ((((h.setCell_fresh (p := ⟨P, 0, none⟩) hB hP d0).setCell_fresh (p := ⟨P, 1, none⟩) hB hP d1).setCell_fresh (p := ⟨P, 2, none⟩) hB hP d2).setCell_fresh (p := ⟨P, 3, none⟩) hB hP d3).setCell_fresh (p := ⟨P, 4, none⟩) hB hP d4

theorem keptT_of_below {B B' : Nat} {T : Nat → Bool} {a w w' : World} (h : Below B' w w') (_hs : a.heap.size ≤ w.heap.size) (_hB : B ≤ a.heap.size) (hB' : B' = w.heap.size := by rfl) : Kept B T w w' := by
  subst hB'
  exact ⟨h.mono (by omega), fun k cs e fr hk _ => (h.block k (lt_of_block hk)).trans hk⟩
theorem fiveZ_set {w : World} {q : Nat} {cs : Array Value} {t : Nat} (h : w.heap[q]? = some (.cells cs t (0, 0))) (i : Nat) (u : Value) : (w.setCell ⟨q, i, none⟩ u).heap[q]? = some (.cells (cs.setIfInBounds i u) t (0, 0)) := heap_setCell_same h u

/-- All other sources stay. -/
def KeptQ (q : Nat) (w w' : World) : Prop := ∀ k cs fr, k ≠ q → w.heap[k]? = some (.cells cs 101 fr) → w'.heap[k]? = some (.cells cs 101 fr)
theorem KeptQ.refl (q : Nat) (w : World) : KeptQ q w w := fun _ _ _ _ h => h
theorem KeptQ.trans {q : Nat} {a b c : World} (h : KeptQ q a b) (k : KeptQ q b c) : KeptQ q a c := fun i cs fr hq hi => k i cs fr hq (h i cs fr hq hi)
theorem KeptS.keptQ {B q : Nat} {w w' : World} (h : KeptS B q w w') : KeptQ q w w' := fun k cs fr hq hk => (h.only k (lt_of_block hk) hq).trans hk
theorem Kept.keptQ {B q : Nat} {T : Nat → Bool} {w w' : World} (h : Kept B T w w') (ht : T 101 = false) : KeptQ q w w' := fun k cs fr _ hk => h.typed k cs _ fr hk ht
theorem keptQ_below {B q : Nat} {w w' : World} (h : Below B w w') (hB : w.heap.size ≤ B) : KeptQ q w w' := fun k cs fr _ hk => (h.block k (Nat.lt_of_lt_of_le (lt_of_block hk) hB)).trans hk
theorem KeptQ.alloc {q : Nat} {a w : World} (h : KeptQ q a w) (o : Obj) : KeptQ q a (w.alloc o) := h.trans (keptQ_below ((Below.refl w.heap.size w).alloc (Nat.le_refl _) o) (Nat.le_refl _))
theorem KeptQ.five_fresh {q : Nat} {a w : World} (h : KeptQ q a w) {P : Nat} (hP : a.heap.size ≤ P) (d0 d1 d2 d3 d4 : Value) :
    KeptQ q a (((((w.setCell ⟨P, 0, none⟩ d0).setCell ⟨P, 1, none⟩ d1).setCell ⟨P, 2, none⟩ d2).setCell ⟨P, 3, none⟩ d3).setCell ⟨P, 4, none⟩ d4) := fun k cs fr hq hk => by
  have hne : k ≠ P := by have := lt_of_block hk; omega
  rw [Below.heap_setCell _ _ _ _ hne, Below.heap_setCell _ _ _ _ hne, Below.heap_setCell _ _ _ _ hne, Below.heap_setCell _ _ _ _ hne, Below.heap_setCell _ _ _ _ hne]
  exact h k cs fr hq hk

set_option maxRecDepth 100000 in
set_option maxHeartbeats 3200000 in
theorem eTake_q (B q : Nat) (bytes : List Nat) (l : List Bool) (w : World) (h : SrcL w B q bytes l) (hB : B ≤ w.heap.size) :
    Calls Try.prog 120 #[.pointer (some ⟨q, 0, none⟩)] w fun e w' => ∃ v, e = .returned (.tuple #[evV (tkEv l) v, .int .i64 (tkErr l)]) ∧ w'.ownsRow w.heap.size 78 4 v (tkEv l).ats.length ((tkEv l).ats.flatMap enc4) ∧ SrcL w' B q bytes (tkRest l) ∧ Kept B tkT w w' ∧ KeptQ q w w' := by
  obtain ⟨p, hs, hl⟩ := h
  obtain ⟨P, hP⟩ : ∃ P, P = w.heap.size := ⟨_, rfl⟩
  obtain ⟨W, hW⟩ : ∃ W, W = w.alloc (.cells #[.int .i64 0, .int .i64 0, .int .i64 0, .string ⟨#[]⟩, .slice none 0 0] 36) := ⟨_, rfl⟩
  have hsW : SrcIs W B q bytes p := by rw [hW]; exact hs.below ((Below.refl w.heap.size w).alloc (Nat.le_refl _) _) (Nat.le_refl _)
  have hrW : W.heap[P]? = some (.cells #[.int .i64 0, .int .i64 0, .int .i64 0, .string ⟨#[]⟩, .slice none 0 0] 36 (0, 0)) := by rw [hW, hP]; exact heap_alloc_new _ _
  have hkW : Kept B tkT w W := by rw [hW]; exact (Kept.refl _ _ _).alloc hB _
  have CB := sBits_any B q 0 bytes p W hsW (by decide)
  rw [hl] at CB
  have he0 : bitsErr 0 l.length = 0 := bitsErr_ok (n := 0) (by omega) (by omega)
  have hr0 : bitsRest l 0 = l := by unfold bitsRest; rw [he0, if_pos rfl]; rfl
  rw [he0, hr0] at CB
  have HQL := hide hs.lt
  have hqW : KeptQ q w W := by rw [hW]; exact (KeptQ.refl _ _).alloc _
  have HCB := hide CB; have HQW := hide hqW; have HRW := hide hrW; have HKW := hide hkW; have HB := hide hB; have HW := hide hW; have HP := hide hP
  have hlen := hs.len
  have hl2 : l.length ≤ 8 * 140737488355328 := by rw [← hl, leftL_length]; omega
  have HL := hide hl2
  rw [← hP]
  clear CB hrW hkW hqW hB hW hP hs hsW he0 hr0 hl hlen hl2
  go_enter Try.func120, Try.ntmps120
  go_wp2_with fail
  rw [← HW.out, ← HP.out]
  refine HCB.out.mono ?_
  rintro e w1 ⟨rfl, ⟨p1, hs1, hl1⟩, k1⟩
  obtain ⟨v1, hq1, ho1⟩ := hs1.row
  obtain ⟨c0, c1, c2⟩ := cell_of_three hq1
  have HQ1x := hide (HQW.out.trans k1.keptQ); have HS1 := hide hs1; have HL1 := hide hl1; have HQ1 := hide hq1; have HK1 := hide (HKW.out.trans (k1.mono (Nat.le_refl _) tkT_src)); have HR1 := hide (k1.typed _ _ _ _ HRW.out (by decide))
  clear hs1 hl1 hq1 ho1 k1
  go_wp2_with fail
  have HB1 := hide (Nat.le_trans HB.out HK1.out.below.size)
  have her := er_of_src HS1.out HQ1.out HB1.out
  rw [HL1.out] at her
  have hPW : P < w1.heap.size := lt_of_block HR1.out
  have HR2 := hide (heap_alloc_keeps HR1.out (.cells #[.bool true, v1, .int .i64 (p1 : Int), .int .i64 0] 198))
  have HS2 := hide (HS1.out.below ((Below.refl w1.heap.size w1).alloc (Nat.le_refl _) (.cells #[.bool true, v1, .int .i64 (p1 : Int), .int .i64 0] 198)) (Nat.le_refl _))
  have HQ2x := hide (HQ1x.out.alloc (.cells #[.bool true, v1, .int .i64 (p1 : Int), .int .i64 0] 198))
  have HK2 := hide (HK1.out.alloc HB1.out (.cells #[.bool true, v1, .int .i64 (p1 : Int), .int .i64 0] 198))
  have C := reEvent_any B w1.heap.size bytes (0, l) _ her (by simp; have := HB1.out; omega)
  have hwide : 8 * (qEvent (0, l)).1.ty.size ≤ l.length ∧ (∀ x ∈ (qEvent (0, l)).1.ats, 8 * x.name.size ≤ l.length ∧ 8 * x.s.size ≤ l.length) ∧ (qEvent (0, l)).1.ats.length ≤ 8 ∧ (qEvent (0, l)).2.2.length ≤ l.length := qEvent_wide (0, l)
  have hte : tkErr l = if (qEvent (0, l)).2.1 ≠ 0 then (((qEvent (0, l)).2.1 : Nat) : Int) else ckE (qEvent (0, l)).1 := rfl
  have htv : tkEv l = if tkErr l = 0 then (qEvent (0, l)).1 else evZ := rfl
  have htr : tkRest l = if tkErr l = 0 then (qEvent (0, l)).2.2 else l := rfl
  obtain ⟨ev, hev⟩ : ∃ ev, ev = (qEvent (0, l)).1 := ⟨_, rfl⟩
  obtain ⟨s2, hs2⟩ : ∃ s2, s2 = (qEvent (0, l)).2 := ⟨_, rfl⟩
  rw [← hev, ← hs2] at C hte
  rw [← hev] at htv
  rw [← hs2] at htr
  rw [← hev, ← hs2] at hwide
  have HWD := hide hwide; have HTE := hide hte; have HTV := hide htv; have HTR := hide htr
  obtain ⟨es, eq, et, ety, eats⟩ := ev
  unfold evV at C
  simp only at C
  have HC := hide C
  obtain ⟨Q2, hQ2⟩ : ∃ Q2, Q2 = w1.heap.size := ⟨_, rfl⟩
  obtain ⟨W1, hW1⟩ : ∃ W1, W1 = w1.alloc (.cells #[.bool true, v1, .int .i64 (p1 : Int), .int .i64 0] 198) := ⟨_, rfl⟩
  rw [← hQ2] at hPW
  rw [← hW1, ← hQ2] at HC
  rw [← hW1] at HR2 HS2 HK2 HQ2x
  have HW1 := hide hW1; have HQ2 := hide hQ2
  have HPW := hide hPW
  clear C hte htv htr hev hs2 hwide hQ2 hW1 her hPW c0 c1 c2
  rw [← HW1.out, ← HQ2.out]
  refine HC.out.mono ?_
  rintro e w2 ⟨v2, rfl, ho2, he2, k2⟩
  obtain ⟨ao, cap, rfl⟩ := own_slice ho2
  have HO2 := hide (ho2.alloc (.cells #[.int .i64 es, .int .i64 eq, .int .i64 et, .string ety, .slice ao eats.length cap] 36))
  have HE2 := hide (he2.alloc (.cells #[.int .i64 es, .int .i64 eq, .int .i64 et, .string ety, .slice ao eats.length cap] 36))
  have HK3 := hide ((HK2.out.trans (k2.mono (Nat.le_refl _) tkT_er)).alloc (Nat.le_trans HB1.out (Nat.le_trans (by rw [HW1.out]; simp) k2.below.size)) (.cells #[.int .i64 es, .int .i64 eq, .int .i64 et, .string ety, .slice ao eats.length cap] 36))
  have HQ3x := hide ((HQ2x.out.trans (k2.keptQ (by decide))).alloc (.cells #[.int .i64 es, .int .i64 eq, .int .i64 et, .string ety, .slice ao eats.length cap] 36))
  have HR3 := hide (heap_alloc_keeps (k2.typed _ _ _ _ HR2.out (by decide)) (.cells #[.int .i64 es, .int .i64 eq, .int .i64 et, .string ety, .slice ao eats.length cap] 36))
  have HS3 := hide ((HS2.out.kept k2 (by decide) (by decide)).below ((Below.refl w2.heap.size w2).alloc (Nat.le_refl _) (.cells #[.int .i64 es, .int .i64 eq, .int .i64 et, .string ety, .slice ao eats.length cap] 36)) (Nat.le_refl _))
  have HX3 := hide (heap_alloc_new w2 (.cells #[.int .i64 es, .int .i64 eq, .int .i64 et, .string ety, .slice ao eats.length cap] 36))
  have HZ1 := hide (Nat.le_trans (Nat.le_of_lt (lt_of_block HR2.out)) k2.below.size)
  have ce := HE2.out.err
  clear ho2 he2 k2
  obtain ⟨c0, c1, c2, c3, c4⟩ := cell_of_five HX3.out
  obtain ⟨r0, r1, r2, r3, r4⟩ := cell_of_five HR3.out
  have g0 := free_cells_of HR3.out 0; have g1 := free_cells_of HR3.out 1; have g2 := free_cells_of HR3.out 2; have g3 := free_cells_of HR3.out 3; have g4 := free_cells_of HR3.out 4
  by_cases h0 : s2.1 = 0
  · rw [h0] at ce
    have HH0 := hide h0
    clear h0
    have hwd := HWD.out
    have hav := Av.of_own HO2.out (fun x hx => by
      have := hwd.2.1 x hx
      have := HL.out
      unfold maxLen; omega) (by have := hwd.2.2.1; simp only at this ⊢; omega)
    have CK := eCheck_any ⟨es, eq, et, ety, eats⟩ _ ao eats.length cap _ hav (Nat.le_refl _) (by have := hwd.1; have := HL.out; unfold maxLen; simp only at *; omega)
    unfold evV at CK
    have hte := HTE.out
    rw [if_neg (by rw [HH0.out]; simp)] at hte
    have hreader := HE2.out.open3
    obtain ⟨cE, hcE⟩ : ∃ cE, cE = ckE ⟨es, eq, et, ety, eats⟩ := ⟨_, rfl⟩
    rw [← hcE] at CK hte
    have HCK := hide CK; have HTE2 := hide hte; have HRD := hide hreader
    clear CK hte hcE hav hwd hreader
    go_wp2_with fail
    refine HCK.out.mono ?_
    rintro e w4 ⟨rfl, hb4⟩
    have hR4 := (hb4.block P (lt_of_block HR3.out)).trans HR3.out
    have hX4 := (hb4.block w2.heap.size (lt_of_block HX3.out)).trans HX3.out
    have HQ4x := hide (HQ3x.out.trans (keptQ_below hb4 (Nat.le_refl _)))
    have HS4 := hide (HS3.out.below hb4 (Nat.le_refl _))
    have HO4 := hide (ownsRow_below HO2.out hb4 (Nat.le_refl _))
    have HK4 := hide (HK3.out.trans (keptT_of_below (T := tkT) (B := B) hb4 HK3.out.below.size HB.out))
    obtain ⟨u, p2, hu, hur, hup, hul⟩ := HRD.out
    obtain ⟨au, cu, rfl⟩ := own_slice hur
    have hU4 := (hb4.block Q2 (lt_of_block hu)).trans hu
    have HUR := hide (ownsRow_below hur hb4 (Nat.le_refl _)); have HUP := hide hup; have HUL := hide hul
    clear c0 c1 c2 c3 c4 r0 r1 r2 r3 r4 g0 g1 g2 g3 g4 ce hb4 hu hur hup hul
    obtain ⟨c0, c1, c2, c3, c4⟩ := cell_of_five hX4
    obtain ⟨r0, r1, r2, r3, r4⟩ := cell_of_five hR4
    have g0 := free_cells_of hR4 0; have g1 := free_cells_of hR4 1; have g2 := free_cells_of hR4 2; have g3 := free_cells_of hR4 3; have g4 := free_cells_of hR4 4
    have HR4 := hide hR4; have HX4 := hide hX4; have HU4 := hide hU4
    by_cases hc0 : cE = 0
    · subst hc0
      obtain ⟨u0, u1, u2, u3⟩ := four_cells_of hU4
      obtain ⟨vq, hq4, hqo⟩ := HS4.out.row
      obtain ⟨q0, q1, q2⟩ := cell_of_three hq4
      have f0 := free_cells_of hq4 0; have f1 := free_cells_of hq4 1; have f2 := free_cells_of hq4 2
      clear hR4 hX4 hU4 hq4 hqo
      have n1 : ¬ q = P := by have := HQL.out; have := HP.out; omega
      have n2 : ¬ P = q := by have := HQL.out; have := HP.out; omega
      have n3 : ¬ q = w2.heap.size := by have := HQL.out; have := HZ1.out; have := HP.out; omega
      have n4 : ¬ w2.heap.size = q := by have := HQL.out; have := HZ1.out; have := HP.out; omega
      go_wp2
      have hfol := HS4.out.follow HUR.out HUP.out
      have hr5 := hfol.2.typed _ _ _ _ HR4.out (by decide)
      have ho5 := hfol.2.ownsRow HO4.out (by decide)
      have hz := cell_of_five (five_set hr5 (.int .i64 es) (.int .i64 eq) (.int .i64 et) (.string ety) (.slice ao eats.length cap))
      refine bodyPost_ret (v := .tuple #[.agg #[.int .i64 es, .int .i64 eq, .int .i64 et, .string ety, .slice ao eats.length cap], .int .i64 0]) (by simp [results, Try.results120, go_sem, hz]) rfl ?_
      have h00 := HTE2.out
      have htv := HTV.out; have htr := HTR.out
      rw [if_pos h00] at htv htr
      rw [htv, htr, h00]
      refine ⟨.slice ao eats.length cap, rfl, ?_, ⟨p2, hfol.1.kept (kept_five hr5 _ _ _ _ _) (by decide) (by decide), HUL.out⟩, ?_⟩
      · exact ownsRow_lower (own_five ho5 hr5 (by decide) _ _ _ _ _) (by rw [HP.out]; exact HK2.out.below.size)
      · exact ⟨(HK4.out.trans (hfol.2.mono (Nat.le_refl _) tkT_src)).five_fresh (by rw [HP.out]; exact HB.out) (by rw [HP.out]; exact Nat.le_refl _) _ _ _ _ _, (HQ4x.out.trans hfol.2.keptQ).five_fresh (by rw [HP.out]; exact Nat.le_refl _) _ _ _ _ _⟩
    · have b1 : (cE != 0) = true := by simp [hc0]
      have HC0 := hide hc0
      clear hR4 hX4 hU4 hc0
      go_wp2
      have hz := cell_of_five (five_set HR4.out (.int .i64 0) (.int .i64 0) (.int .i64 0) (.string ⟨#[]⟩) (.slice none 0 0))
      refine bodyPost_ret (v := .tuple #[.agg #[.int .i64 0, .int .i64 0, .int .i64 0, .string ⟨#[]⟩, .slice none 0 0], .int .i64 cE]) (by simp [results, Try.results120, go_sem, hz]) rfl ?_
      have hne : tkErr l ≠ 0 := by rw [HTE2.out]; exact HC0.out
      rw [tkEv_no hne, tkRest_no hne, HTE2.out]
      exact ⟨.slice none 0 0, rfl, World.ownsRow_nil _ _ _ _, ⟨p1, HS4.out.kept (kept_five HR4.out _ _ _ _ _) (by decide) (by decide), HL1.out⟩, HK4.out.five_fresh (by rw [HP.out]; exact HB.out) (by rw [HP.out]; exact Nat.le_refl _) _ _ _ _ _, HQ4x.out.five_fresh (by rw [HP.out]; exact Nat.le_refl _) _ _ _ _ _⟩
  · have b1 : (((s2.1 : Nat) : Int) != 0) = true := by simp; omega
    have HH0 := hide h0
    obtain ⟨E, hE⟩ : ∃ E : Int, E = ((s2.1 : Nat) : Int) := ⟨_, rfl⟩
    rw [← hE] at ce b1
    have HEE := hide hE
    have hpP : ¬ Q2 = P := by have := HPW.out; omega
    have hPp : ¬ P = Q2 := by have := HPW.out; omega
    clear h0 hE
    go_wp2
    go_region
    go_wp2
    have hz := cell_of_five (five_set HR3.out (.int .i64 0) (.int .i64 0) (.int .i64 0) (.string ⟨#[]⟩) (.slice none 0 0))
    refine bodyPost_ret (v := .tuple #[.agg #[.int .i64 0, .int .i64 0, .int .i64 0, .string ⟨#[]⟩, .slice none 0 0], .int .i64 E]) (by simp [results, Try.results120, go_sem, hz]) rfl ?_
    have hne : tkErr l = E := by rw [HTE.out, if_pos HH0.out, HEE.out]
    have hne2 : tkErr l ≠ 0 := by rw [hne, HEE.out]; have := HH0.out; omega
    rw [tkEv_no hne2, tkRest_no hne2, hne]
    exact ⟨.slice none 0 0, rfl, World.ownsRow_nil _ _ _ _, ⟨p1, (HS3.out.kept (kept_five HR3.out _ _ _ _ _) (by decide) (by decide)).drew, HL1.out⟩, (HK3.out.five_fresh (by rw [HP.out]; exact HB.out) (by rw [HP.out]; exact Nat.le_refl _) _ _ _ _ _).drew, HQ3x.out.five_fresh (by rw [HP.out]; exact Nat.le_refl _) _ _ _ _ _⟩

theorem eTake_any (B q : Nat) (bytes : List Nat) (l : List Bool) (w : World) (h : SrcL w B q bytes l) (hB : B ≤ w.heap.size) :
    Calls Try.prog 120 #[.pointer (some ⟨q, 0, none⟩)] w fun e w' => ∃ v, e = .returned (.tuple #[evV (tkEv l) v, .int .i64 (tkErr l)]) ∧ w'.ownsRow w.heap.size 78 4 v (tkEv l).ats.length ((tkEv l).ats.flatMap enc4) ∧ SrcL w' B q bytes (tkRest l) ∧ Kept B tkT w w' :=
  (eTake_q B q bytes l w h hB).mono fun e w' ⟨v, h1, h2, h3, h4, _⟩ => ⟨v, h1, h2, h3, h4⟩

end Go.Proofs.Ytpbloplbpkedcaa

/- How bounds lie in memory. -/
namespace Go.Proofs.Ytpbloplbpkedcaa
open Go Go.RowKit

def encB (x : Bd) (a : Value) : List Value := [.string x.var, .int .i64 x.ev.src, .int .i64 x.ev.seq, .int .i64 x.ev.time, .string x.ev.ty, a]
theorem encB_len (x : Bd) (a : Value) : (encB x a).length = 6 := rfl
theorem encB_one (x : Bd) (aa : Option Addr) (n c : Nat) : ∀ u ∈ encB x (.slice aa n c), u.oneCell' = true := by
  intro u hu
  simp only [encB, List.mem_cons, List.not_mem_nil, or_false] at hu
  rcases hu with rfl | rfl | rfl | rfl | rfl | rfl <;> rfl
/-- A bound as a value. -/
def bdV (x : Bd) (a : Value) : Value := .agg #[.string x.var, .int .i64 x.ev.src, .int .i64 x.ev.seq, .int .i64 x.ev.time, .string x.ev.ty, a]
/-- A row of bounds at an address; their attributes lie below block B. -/
def BdAt (w : World) (B : Nat) : List Bd → Nat → Nat → Prop
  | [], _, _ => True
  | x :: r, b, o => (∃ aa ac, (∀ j u, (encB x (.slice aa x.ev.ats.length ac))[j]? = some u → w.cell? ⟨b, o + j, none⟩ = some u) ∧ Av w B (.slice aa x.ev.ats.length ac) x.ev.ats ∧ (aa = none → ac = 0)) ∧ BdAt w B r b (o + 6)
/-- In w the value v is a slice of the bounds, which lie below block B. -/
structure BsV (w : World) (B : Nat) (v : Value) (bs : List Bd) : Prop where
  wide : ∀ x ∈ bs, x.var.size ≤ maxLen ∧ x.ev.ty.size ≤ maxLen
  len : bs.length * 80 ≤ 140737488355328
  row : ∃ ao cap, v = .slice ao bs.length cap ∧ bs.length ≤ cap ∧ cap ≤ 9223372036854775807 ∧ (ao = none → cap = 0) ∧ (bs ≠ [] → ∃ b o, ao = some ⟨b, o, none⟩ ∧ b < B ∧ BdAt w B bs b o)
theorem BdAt.keep {w w' : World} {B : Nat} (hk : ∀ b, b < B → w'.heap[b]? = w.heap[b]?) : ∀ {l : List Bd} {b o : Nat}, w'.heap[b]? = w.heap[b]? → BdAt w B l b o → BdAt w' B l b o
  | [], _, _, _, _ => trivial
  | x :: r, b, o, hb, ⟨⟨aa, ac, hc, ha, hn⟩, hr⟩ => by
    refine ⟨⟨aa, ac, fun j u hu => ?_, ha.keep fun b' o' h' => by simp only [World.cell?, hk b' h'], hn⟩, BdAt.keep hk hb hr⟩
    rw [← hc j u hu]
    simp only [World.cell?, hb]
theorem BdAt.mono {w : World} {B B' : Nat} (hB : B ≤ B') : ∀ {l : List Bd} {b o : Nat}, BdAt w B l b o → BdAt w B' l b o
  | [], _, _, _ => trivial
  | x :: r, b, o, ⟨⟨aa, ac, hc, ha, hn⟩, hr⟩ => ⟨⟨aa, ac, hc, ha.mono hB, hn⟩, BdAt.mono hB hr⟩
theorem BdAt.take {w : World} {B : Nat} : ∀ {l : List Bd} {b o : Nat} (k : Nat), BdAt w B l b o → BdAt w B (l.take k) b o
  | [], _, _, k, h => by simpa using h
  | x :: r, b, o, 0, h => trivial
  | x :: r, b, o, k + 1, h => ⟨h.1, BdAt.take k h.2⟩
theorem BsV.below {w w' : World} {B B' : Nat} {v : Value} {bs : List Bd} (h : BsV w B v bs) (hb : Below B' w w') (hB : B ≤ B') : BsV w' B v bs := by
  obtain ⟨h1, h2, ao, cap, rfl, h3, h4, h5, hh⟩ := h
  refine ⟨h1, h2, ao, cap, rfl, h3, h4, h5, fun hl => ?_⟩
  obtain ⟨b, o, e, hlt, hat⟩ := hh hl
  exact ⟨b, o, e, hlt, BdAt.keep (fun x hx => hb.block x (Nat.lt_of_lt_of_le hx hB)) (hb.block b (Nat.lt_of_lt_of_le hlt hB)) hat⟩
theorem BsV.mono {w : World} {B B' : Nat} {v : Value} {bs : List Bd} (h : BsV w B v bs) (hB : B ≤ B') : BsV w B' v bs := by
  obtain ⟨h1, h2, ao, cap, rfl, h3, h4, h5, hh⟩ := h
  refine ⟨h1, h2, ao, cap, rfl, h3, h4, h5, fun hl => ?_⟩
  obtain ⟨b, o, e, hlt, hat⟩ := hh hl
  exact ⟨b, o, e, Nat.lt_of_lt_of_le hlt hB, hat.mono hB⟩
theorem BsV.shape {w : World} {B : Nat} {v : Value} {bs : List Bd} (h : BsV w B v bs) : ∃ ao cap, v = .slice ao bs.length cap := by
  obtain ⟨_, _, ao, cap, rfl, _⟩ := h
  exact ⟨ao, cap, rfl⟩
theorem BsV.nil (w : World) (B : Nat) : BsV w B (.slice none 0 0) [] := ⟨by simp, by simp, none, 0, rfl, Nat.le_refl _, by omega, fun _ => rfl, fun h => absurd rfl h⟩
theorem BsV.num {w : World} {B : Nat} {ao : Option Addr} {n cap : Nat} {bs : List Bd} (h : BsV w B (.slice ao n cap) bs) : n = bs.length ∧ n ≤ 9223372036854775807 ∧ n ≤ cap ∧ cap ≤ 9223372036854775807 ∧ (ao = none → cap = 0) ∧ n * 80 ≤ 140737488355328 := by
  obtain ⟨ao', cap', he, h1, h2, h3, _⟩ := h.row
  have hl := h.len
  simp only [Value.slice.injEq] at he
  obtain ⟨rfl, rfl, rfl⟩ := he
  exact ⟨rfl, by omega, h1, h2, h3, hl⟩
theorem BdAt.drop {w : World} {B : Nat} : ∀ {l : List Bd} {b o : Nat} (k : Nat) (x : Bd), BdAt w B l b o → l[k]? = some x →
    ∃ aa ac, (∀ j u, (encB x (.slice aa x.ev.ats.length ac))[j]? = some u → w.cell? ⟨b, o + k * 6 + j, none⟩ = some u) ∧ Av w B (.slice aa x.ev.ats.length ac) x.ev.ats ∧ (aa = none → ac = 0)
  | [], _, _, k, x, _, hx => by simp at hx
  | y :: r, b, o, 0, x, h, hx => by
    obtain rfl : y = x := by simpa using hx
    obtain ⟨aa, ac, hc, ha⟩ := h.1
    exact ⟨aa, ac, fun j u hu => by rw [Nat.zero_mul, Nat.add_zero]; exact hc j u hu, ha⟩
  | y :: r, b, o, k + 1, x, h, hx => by
    obtain ⟨aa, ac, hc, ha⟩ := BdAt.drop k x h.2 (by simpa using hx)
    exact ⟨aa, ac, fun j u hu => by rw [show o + (k + 1) * 6 + j = o + 6 + k * 6 + j by omega]; exact hc j u hu, ha⟩
theorem six_cells {w : World} {b a : Nat} {x : Bd} {v : Value} (h : ∀ i u, (encB x v)[i]? = some u → w.cell? ⟨b, a + i, none⟩ = some u) :
    w.cell? ⟨b, a, none⟩ = some (.string x.var) ∧ w.cell? ⟨b, a + 1, none⟩ = some (.int .i64 x.ev.src) ∧ w.cell? ⟨b, a + 2, none⟩ = some (.int .i64 x.ev.seq) ∧ w.cell? ⟨b, a + 3, none⟩ = some (.int .i64 x.ev.time) ∧ w.cell? ⟨b, a + 4, none⟩ = some (.string x.ev.ty) ∧ w.cell? ⟨b, a + 5, none⟩ = some v :=
  ⟨h 0 _ rfl, h 1 _ rfl, h 2 _ rfl, h 3 _ rfl, h 4 _ rfl, h 5 _ rfl⟩
/-- Where the k-th of a slice of bounds lies. -/
theorem BsV.at {w : World} {B : Nat} {ao : Option Addr} {n cap k : Nat} {bs : List Bd} (h : BsV w B (.slice ao n cap) bs) (hk : k < n) :
    ∃ b o aa ac, ao = some ⟨b, o, none⟩ ∧ b < B ∧ k < bs.length ∧ bs[k]!.var.size ≤ maxLen ∧ bs[k]!.ev.ty.size ≤ maxLen ∧ (aa = none → ac = 0) ∧ Av w B (.slice aa bs[k]!.ev.ats.length ac) bs[k]!.ev.ats ∧
      ∀ u : World, Below B w u → ∀ j v, (encB bs[k]! (.slice aa bs[k]!.ev.ats.length ac))[j]? = some v → u.cell? ⟨b, o + k * 6 + j, none⟩ = some v := by
  obtain ⟨hw, _, ao', cap', he, h1, h2, h3, hh⟩ := h
  simp only [Value.slice.injEq] at he
  obtain ⟨rfl, rfl, rfl⟩ := he
  obtain ⟨b, o, rfl, hlt, hat⟩ := hh (fun e => by rw [e] at hk; simp at hk)
  obtain ⟨aa, ac, hc, ha, hn⟩ := hat.drop k bs[k]! (by rw [getElem!_pos bs k hk, List.getElem?_eq_getElem hk])
  have hx := hw bs[k]! (by rw [getElem!_pos bs k hk]; exact List.getElem_mem _)
  exact ⟨b, o, aa, ac, rfl, hlt, hk, hx.1, hx.2, hn, ha, fun u hu j v hj => by rw [hu.cell (p := ⟨b, _, none⟩) hlt]; exact hc j v hj⟩
/-- The first k of them. -/
theorem BsV.take {w : World} {B : Nat} {ao : Option Addr} {n cap k : Nat} {bs : List Bd} (h : BsV w B (.slice ao n cap) bs) (hk : k ≤ n) : BsV w B (.slice ao k cap) (bs.take k) := by
  obtain ⟨hw, hl, ao', cap', he, h1, h2, h3, hh⟩ := h
  simp only [Value.slice.injEq] at he
  obtain ⟨rfl, rfl, rfl⟩ := he
  have hlk : (bs.take k).length = k := by rw [List.length_take]; omega
  refine ⟨fun x hx => hw x (List.mem_of_mem_take hx), by rw [hlk]; omega, ao, cap, by rw [hlk], by rw [hlk]; omega, h2, h3, fun hne => ?_⟩
  obtain ⟨b, o, e, hlt, hat⟩ := hh (fun e => hne (by rw [e]; exact List.take_nil))
  exact ⟨b, o, e, hlt, hat.take k⟩
theorem take_one {bs : List Bd} {k : Nat} (hk : k < bs.length) : bs.take (k + 1) = bs.take k ++ [bs[k]!] := by
  rw [List.take_succ_eq_append_getElem hk, getElem!_pos bs k hk]
theorem cells_six {w : World} {q : Nat} {c0 c1 c2 c3 c4 c5 : Value} {t : Nat} (h : w.heap[q]? = some (.cells #[c0, c1, c2, c3, c4, c5] t (0, 0))) :
    w.cell? ⟨q, 0, none⟩ = some c0 ∧ w.cell? ⟨q, 1, none⟩ = some c1 ∧ w.cell? ⟨q, 2, none⟩ = some c2 ∧ w.cell? ⟨q, 3, none⟩ = some c3 ∧ w.cell? ⟨q, 4, none⟩ = some c4 ∧ w.cell? ⟨q, 5, none⟩ = some c5 := by
  refine ⟨?_, ?_, ?_, ?_, ?_, ?_⟩ <;> simp [World.cell?, h]
theorem cells_one0 {w : World} {q : Nat} {c0 : Value} {t : Nat} (h : w.heap[q]? = some (.cells #[c0] t (0, 0))) : w.cell? ⟨q, 0, none⟩ = some c0 := by simp [World.cell?, h]
/-- A contract that ends in 'Below', met in a world of the class of a region whose operations only read. -/
theorem rg {P : Program} {f : FuncId} {args : Array Value} {w : World} {v : Value} (h : ∀ u, Below w.heap.size w u → Calls P f args u fun e w' => e = .returned v ∧ Below u.heap.size u w') (d : Nat) (os : Array Obj) :
    Calls P f args (Sort.grow (redrawn w d) os) fun e w'' => e = .returned v ∧ ∃ p : Regrown, w'' = Sort.grow (redrawn w p.d) p.os := Calls.regrown_of (h _ (below_regrown w d os))
theorem ret_bool0 {a b : Bool} (h : a = b) : Ending.returned (.bool a) = Ending.returned (.bool b) := by rw [h]
theorem ret_int0 {k : IntKind} {a b : Int} (h : a = b) : Ending.returned (.int k a) = Ending.returned (.int k b) := by rw [h]
end Go.Proofs.Ytpbloplbpkedcaa

/- Contract: a bound taken off a source. -/
namespace Go.Proofs.Ytpbloplbpkedcaa
open Go Go.RowKit

theorem rbErr_text {l : List Bool} (h : textErrL l ≠ 0) : rbErr l = ((textErrL l : Nat) : Int) := by unfold rbErr; rw [if_pos h]
theorem rbErr_take {l : List Bool} (h : textErrL l = 0) : rbErr l = tkErr (textRestL l) := by unfold rbErr; rw [if_neg (by simp [h])]
/-- What is answered: the bound, or none. -/
def rbOut (l : List Bool) : Bd := if rbErr l = 0 then rbBd l else bdZ
theorem Kept.six_fresh {B : Nat} {T : Nat → Bool} {a w : World} (h : Kept B T a w) {P : Nat} (hB : B ≤ P) (hP : a.heap.size ≤ P) (d0 d1 d2 d3 d4 d5 : Value) :
    Kept B T a ((((((w.setCell ⟨P, 0, none⟩ d0).setCell ⟨P, 1, none⟩ d1).setCell ⟨P, 2, none⟩ d2).setCell ⟨P, 3, none⟩ d3).setCell ⟨P, 4, none⟩ d4).setCell ⟨P, 5, none⟩ d5) :=
  (h.five_fresh hB hP d0 d1 d2 d3 d4).setCell_fresh (p := ⟨P, 5, none⟩) hB hP d5
theorem KeptQ.six_fresh {q : Nat} {a w : World} (h : KeptQ q a w) {P : Nat} (hP : a.heap.size ≤ P) (d0 d1 d2 d3 d4 d5 : Value) :
    KeptQ q a ((((((w.setCell ⟨P, 0, none⟩ d0).setCell ⟨P, 1, none⟩ d1).setCell ⟨P, 2, none⟩ d2).setCell ⟨P, 3, none⟩ d3).setCell ⟨P, 4, none⟩ d4).setCell ⟨P, 5, none⟩ d5) := fun k cs fr hq hk => by
  have hne : k ≠ P := by have := lt_of_block hk; omega
  rw [Below.heap_setCell _ _ _ _ hne]
  exact h.five_fresh hP d0 d1 d2 d3 d4 k cs fr hq hk
theorem kept_six {w : World} {P : Nat} {c0 c1 c2 c3 c4 c5 : Value} (hq : w.heap[P]? = some (.cells #[c0, c1, c2, c3, c4, c5] 91 (0, 0))) (d0 d1 d2 d3 d4 d5 : Value) :
    Kept 0 (fun e => e == 91) w ((((((w.setCell ⟨P, 0, none⟩ d0).setCell ⟨P, 1, none⟩ d1).setCell ⟨P, 2, none⟩ d2).setCell ⟨P, 3, none⟩ d3).setCell ⟨P, 4, none⟩ d4).setCell ⟨P, 5, none⟩ d5) := by
  have a0 := heap_setCell_same (k := 0) hq d0
  have a1 := heap_setCell_same (k := 1) a0 d1
  have a2 := heap_setCell_same (k := 2) a1 d2
  have a3 := heap_setCell_same (k := 3) a2 d3
  have a4 := heap_setCell_same (k := 4) a3 d4
  exact (((((((Kept.refl _ _ _).setCell (p := ⟨P, 0, none⟩) (Nat.zero_le _) hq rfl d0).setCell (p := ⟨P, 1, none⟩) (Nat.zero_le _) a0 rfl d1).setCell (p := ⟨P, 2, none⟩) (Nat.zero_le _) a1 rfl d2).setCell (p := ⟨P, 3, none⟩) (Nat.zero_le _) a2 rfl d3).setCell (p := ⟨P, 4, none⟩) (Nat.zero_le _) a3 rfl d4).setCell (p := ⟨P, 5, none⟩) (Nat.zero_le _) a4 rfl d5)
theorem six_set {w : World} {q : Nat} {c0 c1 c2 c3 c4 c5 : Value} {t : Nat} (h : w.heap[q]? = some (.cells #[c0, c1, c2, c3, c4, c5] t (0, 0))) (d0 d1 d2 d3 d4 d5 : Value) :
    ((((((w.setCell ⟨q, 0, none⟩ d0).setCell ⟨q, 1, none⟩ d1).setCell ⟨q, 2, none⟩ d2).setCell ⟨q, 3, none⟩ d3).setCell ⟨q, 4, none⟩ d4).setCell ⟨q, 5, none⟩ d5).heap[q]? = some (.cells #[d0, d1, d2, d3, d4, d5] t (0, 0)) := by
  rw [heap_setCell_same (heap_setCell_same (heap_setCell_same (heap_setCell_same (heap_setCell_same (heap_setCell_same h _) _) _) _) _) _]
  simp

set_option maxRecDepth 100000 in
set_option maxHeartbeats 3200000 in
theorem mTakeBound_any (B q : Nat) (bytes : List Nat) (l : List Bool) (w : World) (h : SrcL w B q bytes l) (hB : B ≤ w.heap.size) :
    Calls Try.prog 93 #[.pointer (some ⟨q, 0, none⟩)] w fun e w' => ∃ v, e = .returned (.tuple #[bdV (rbOut l) v, .int .i64 (rbErr l)]) ∧ w'.ownsRow w.heap.size 78 4 v (rbOut l).ev.ats.length ((rbOut l).ev.ats.flatMap enc4) ∧
      (∃ l', SrcL w' B q bytes l' ∧ (rbErr l = 0 → l' = rbRest l)) ∧ Kept B tkT w w' ∧ KeptQ q w w' := by
  obtain ⟨p, hs, hl⟩ := h
  obtain ⟨P, hP⟩ : ∃ P, P = w.heap.size := ⟨_, rfl⟩
  obtain ⟨W, hW⟩ : ∃ W, W = w.alloc (.cells #[.string ⟨#[]⟩, .int .i64 0, .int .i64 0, .int .i64 0, .string ⟨#[]⟩, .slice none 0 0] 91) := ⟨_, rfl⟩
  have hsW : SrcIs W B q bytes p := by rw [hW]; exact hs.below ((Below.refl w.heap.size w).alloc (Nat.le_refl _) _) (Nat.le_refl _)
  have hrW : W.heap[P]? = some (.cells #[.string ⟨#[]⟩, .int .i64 0, .int .i64 0, .int .i64 0, .string ⟨#[]⟩, .slice none 0 0] 91 (0, 0)) := by rw [hW, hP]; exact heap_alloc_new _ _
  have hkW : Kept B tkT w W := by rw [hW]; exact (Kept.refl _ _ _).alloc hB _
  have CB := sText_any B q bytes p W hsW
  rw [hl] at CB
  have hqW : KeptQ q w W := by rw [hW]; exact (KeptQ.refl _ _).alloc _
  have HCB := hide CB; have HQW := hide hqW; have HRW := hide hrW; have HKW := hide hkW; have HB := hide hB; have HW := hide hW; have HP := hide hP
  rw [← hP]
  clear CB hrW hkW hqW hB hW hP hs hsW hl
  go_enter Try.func93, Try.ntmps93
  go_wp2_with fail
  rw [← HW.out, ← HP.out]
  refine HCB.out.mono ?_
  rintro e w1 ⟨rfl, ⟨p1, hs1, hl1⟩, k1⟩
  have HR1 := hide (k1.typed _ _ _ _ HRW.out (by decide))
  have HQ1x := hide (HQW.out.trans k1.keptQ)
  have HK1 := hide (HKW.out.trans (k1.mono (Nat.le_refl _) tkT_src))
  have HS1 := hide (show SrcL w1 B q bytes (textRestL l) from ⟨p1, hs1, hl1⟩)
  have HB1 := hide (Nat.le_trans HB.out HK1.out.below.size)
  clear hs1 hl1 k1
  obtain ⟨r0, r1, r2, r3, r4, r5⟩ := cells_six HR1.out
  have g0 := free_cells_of HR1.out 0; have g1 := free_cells_of HR1.out 1; have g2 := free_cells_of HR1.out 2; have g3 := free_cells_of HR1.out 3; have g4 := free_cells_of HR1.out 4; have g5 := free_cells_of HR1.out 5
  by_cases h0 : textErrL l = 0
  · have HH0 := hide h0
    rw [h0]
    have CT := eTake_q B q bytes _ w1 HS1.out HB1.out
    unfold evV at CT
    have HCT := hide CT
    clear CT h0
    go_wp2_with fail
    refine HCT.out.mono ?_
    rintro e w2 ⟨v2, rfl, ho2, hs2, k2, kq2⟩
    have HEB := hide (rbErr_take HH0.out)
    have HBD : Hid (rbBd l = ⟨textStr l, tkEv (textRestL l)⟩) := rfl
    generalize tkEv (textRestL l) = ev at *
    generalize htk : tkErr (textRestL l) = te at *
    obtain ⟨ao, cap, rfl⟩ := own_slice ho2
    have hba := (Below.refl w2.heap.size w2).alloc (Nat.le_refl _) (.cells #[.int .i64 ev.src, .int .i64 ev.seq, .int .i64 ev.time, .string ev.ty, .slice ao ev.ats.length cap] 36)
    have HZ2 := hide (Nat.le_trans HB1.out k2.below.size)
    have HO2 := hide (ho2.alloc (.cells #[.int .i64 ev.src, .int .i64 ev.seq, .int .i64 ev.time, .string ev.ty, .slice ao ev.ats.length cap] 36))
    have HS2 := hide (hs2.below hba (Nat.le_refl _))
    have HQ2x := hide ((HQ1x.out.trans kq2).alloc (.cells #[.int .i64 ev.src, .int .i64 ev.seq, .int .i64 ev.time, .string ev.ty, .slice ao ev.ats.length cap] 36))
    have HK2 := hide ((HK1.out.trans k2).alloc HZ2.out (.cells #[.int .i64 ev.src, .int .i64 ev.seq, .int .i64 ev.time, .string ev.ty, .slice ao ev.ats.length cap] 36))
    have HR2 := hide (heap_alloc_keeps (k2.typed _ _ _ _ HR1.out (by decide)) (.cells #[.int .i64 ev.src, .int .i64 ev.seq, .int .i64 ev.time, .string ev.ty, .slice ao ev.ats.length cap] 36))
    have HX2 := hide (heap_alloc_new w2 (.cells #[.int .i64 ev.src, .int .i64 ev.seq, .int .i64 ev.time, .string ev.ty, .slice ao ev.ats.length cap] 36))
    have HP1 := hide (show P ≤ w1.heap.size from Nat.le_of_lt (lt_of_block HR1.out))
    clear ho2 hs2 k2 hba r0 r1 r2 r3 r4 r5 g0 g1 g2 g3 g4 g5
    obtain ⟨c0, c1, c2, c3, c4⟩ := cell_of_five HX2.out
    obtain ⟨r0, r1, r2, r3, r4, r5⟩ := cells_six HR2.out
    have g0 := free_cells_of HR2.out 0; have g1 := free_cells_of HR2.out 1; have g2 := free_cells_of HR2.out 2; have g3 := free_cells_of HR2.out 3; have g4 := free_cells_of HR2.out 4; have g5 := free_cells_of HR2.out 5
    by_cases hz0 : te = 0
    · subst hz0
      go_wp2
      have hz := cells_six (six_set HR2.out (.string (textStr l)) (.int .i64 ev.src) (.int .i64 ev.seq) (.int .i64 ev.time) (.string ev.ty) (.slice ao ev.ats.length cap))
      refine bodyPost_ret (v := .tuple #[.agg #[.string (textStr l), .int .i64 ev.src, .int .i64 ev.seq, .int .i64 ev.time, .string ev.ty, .slice ao ev.ats.length cap], .int .i64 0]) (by simp [results, Try.results93, go_sem, hz]) rfl ?_
      have hro : rbOut l = ⟨textStr l, ev⟩ := by unfold rbOut; rw [if_pos HEB.out, HBD.out]
      rw [hro, HEB.out]
      refine ⟨.slice ao ev.ats.length cap, rfl, ?_, ⟨tkRest (textRestL l), HS2.out.kept (kept_six HR2.out _ _ _ _ _ _) (by decide) (by decide), fun _ => rfl⟩, HK2.out.six_fresh (by rw [HP.out]; exact HB.out) (by rw [HP.out]; exact Nat.le_refl _) _ _ _ _ _ _, HQ2x.out.six_fresh (by rw [HP.out]; exact Nat.le_refl _) _ _ _ _ _ _⟩
      exact (kept_six HR2.out _ _ _ _ _ _).ownsRow (ownsRow_lower HO2.out HP1.out) (by decide)
    · have b1 : (te != 0) = true := by simp [hz0]
      have HC0 := hide hz0
      clear hz0
      go_wp2
      have hz := cells_six (six_set HR2.out (.string ⟨#[]⟩) (.int .i64 0) (.int .i64 0) (.int .i64 0) (.string ⟨#[]⟩) (.slice none 0 0))
      refine bodyPost_ret (v := .tuple #[.agg #[.string ⟨#[]⟩, .int .i64 0, .int .i64 0, .int .i64 0, .string ⟨#[]⟩, .slice none 0 0], .int .i64 te]) (by simp [results, Try.results93, go_sem, hz]) rfl ?_
      have hro : rbOut l = bdZ := by unfold rbOut; rw [if_neg (by rw [HEB.out]; exact HC0.out)]
      rw [hro, HEB.out]
      exact ⟨.slice none 0 0, rfl, World.ownsRow_nil _ _ _ _, ⟨_, HS2.out.kept (kept_six HR2.out _ _ _ _ _ _) (by decide) (by decide), fun h => absurd h HC0.out⟩, HK2.out.six_fresh (by rw [HP.out]; exact HB.out) (by rw [HP.out]; exact Nat.le_refl _) _ _ _ _ _ _, HQ2x.out.six_fresh (by rw [HP.out]; exact Nat.le_refl _) _ _ _ _ _ _⟩
  · obtain ⟨te, hte⟩ : ∃ te : Int, te = ((textErrL l : Nat) : Int) := ⟨_, rfl⟩
    have hz0 : te ≠ 0 := by rw [hte]; omega
    have b1 : (te != 0) = true := by simp [hz0]
    have HEB := hide (rbErr_text h0)
    rw [← hte] at HEB ⊢
    have HC0 := hide hz0
    clear hz0 hte h0
    go_wp2
    have hz := cells_six (six_set HR1.out (.string ⟨#[]⟩) (.int .i64 0) (.int .i64 0) (.int .i64 0) (.string ⟨#[]⟩) (.slice none 0 0))
    refine bodyPost_ret (v := .tuple #[.agg #[.string ⟨#[]⟩, .int .i64 0, .int .i64 0, .int .i64 0, .string ⟨#[]⟩, .slice none 0 0], .int .i64 te]) (by simp [results, Try.results93, go_sem, hz]) rfl ?_
    have hro : rbOut l = bdZ := by unfold rbOut; rw [if_neg (by rw [HEB.out]; exact HC0.out)]
    rw [hro, HEB.out]
    exact ⟨.slice none 0 0, rfl, World.ownsRow_nil _ _ _ _, ⟨_, HS1.out.kept (kept_six HR1.out _ _ _ _ _ _) (by decide) (by decide), fun h => absurd h HC0.out⟩, HK1.out.six_fresh (by rw [HP.out]; exact HB.out) (by rw [HP.out]; exact Nat.le_refl _) _ _ _ _ _ _, HQ1x.out.six_fresh (by rw [HP.out]; exact Nat.le_refl _) _ _ _ _ _ _⟩
end Go.Proofs.Ytpbloplbpkedcaa

/- Rows of bounds as lists of cells; rows of the call's own. -/
namespace Go.Proofs.Ytpbloplbpkedcaa
open Go Go.RowKit

theorem infoBd : (Try.prog.info? 91).map (fun i => (i.zero, i.size, i.bytes)) = some (some (.agg #[.string ⟨#[]⟩, .int .i64 0, .int .i64 0, .int .i64 0, .string ⟨#[]⟩, .slice none 0 0]), 6, 80) := by kernel_rfl
theorem add_off0 (b o j : Nat) : (⟨b, o, none⟩ : Addr).add j = ⟨b, o + j, none⟩ := by unfold Addr.add; split <;> simp_all
/-- The cells of a row of bounds; of each slice of attributes A is said. -/
def RwL (A : Value → List At → Prop) : List Bd → List Value → Prop
  | [], xs => xs = []
  | x :: r, xs => ∃ aa ac ys, xs = encB x (.slice aa x.ev.ats.length ac) ++ ys ∧ A (.slice aa x.ev.ats.length ac) x.ev.ats ∧ RwL A r ys
/-- What is said of a slice of attributes that lies below block B. -/
def AvN (w : World) (B : Nat) (v : Value) (ats : List At) : Prop := Av w B v ats ∧ ∀ n c, v = .slice none n c → c = 0
theorem AvN.below {w w' : World} {B B' : Nat} {v : Value} {ats : List At} (h : AvN w B v ats) (hb : Below B' w w') (hB : B ≤ B') : AvN w' B v ats := ⟨h.1.below hb hB, h.2⟩
theorem AvN.mono {w : World} {B B' : Nat} {v : Value} {ats : List At} (h : AvN w B v ats) (hB : B ≤ B') : AvN w B' v ats := ⟨h.1.mono hB, h.2⟩
theorem RwL.imp {A A' : Value → List At → Prop} : ∀ {bs : List Bd} {xs : List Value}, (∀ v, ∀ x ∈ bs, A v x.ev.ats → A' v x.ev.ats) → RwL A bs xs → RwL A' bs xs
  | [], _, _, h => h
  | x :: r, _, hA, ⟨aa, ac, ys, e, h1, h2⟩ => ⟨aa, ac, ys, e, hA _ x (List.mem_cons_self ..) h1, h2.imp fun v y hy => hA v y (List.mem_cons_of_mem _ hy)⟩
theorem RwL.len {A : Value → List At → Prop} : ∀ {bs : List Bd} {xs : List Value}, RwL A bs xs → xs.length = bs.length * 6
  | [], _, h => by rw [h]; rfl
  | x :: r, _, ⟨aa, ac, ys, e, _, h2⟩ => by rw [e, List.length_append, encB_len, h2.len, List.length_cons]; omega
theorem RwL.one {A : Value → List At → Prop} : ∀ {bs : List Bd} {xs : List Value}, RwL A bs xs → ∀ u ∈ xs, u.oneCell' = true
  | [], _, h => by rw [h]; exact fun u h => by cases h
  | x :: r, _, ⟨aa, ac, ys, e, _, h2⟩ => by
    rw [e]
    intro u hu
    rcases List.mem_append.1 hu with hu | hu
    · exact encB_one _ _ _ _ u hu
    · exact h2.one u hu
theorem RwL.app {A : Value → List At → Prop} : ∀ {bs cs : List Bd} {xs ys : List Value}, RwL A bs xs → RwL A cs ys → RwL A (bs ++ cs) (xs ++ ys)
  | [], _, _, _, h, k => by rw [h]; exact k
  | x :: r, _, _, _, ⟨aa, ac, zs, e, h1, h2⟩, k => ⟨aa, ac, _, by rw [e, List.append_assoc], h1, h2.app k⟩
theorem RwL.single {A : Value → List At → Prop} {x : Bd} {aa : Option Addr} {ac : Nat} (h : A (.slice aa x.ev.ats.length ac) x.ev.ats) : RwL A [x] (encB x (.slice aa x.ev.ats.length ac)) := ⟨aa, ac, [], (List.append_nil _).symm, h, rfl⟩
/-- The k-th of them. -/
theorem RwL.nth {A : Value → List At → Prop} : ∀ {bs : List Bd} {xs : List Value} {k : Nat}, RwL A bs xs → k < bs.length →
    ∃ ys aa ac zs, xs = ys ++ (encB bs[k]! (.slice aa bs[k]!.ev.ats.length ac) ++ zs) ∧ RwL A (bs.take k) ys ∧ A (.slice aa bs[k]!.ev.ats.length ac) bs[k]!.ev.ats ∧ RwL A (bs.drop (k + 1)) zs
  | [], _, k, _, hk => absurd hk (Nat.not_lt_zero _)
  | x :: r, _, 0, ⟨aa, ac, ys, e, h1, h2⟩, _ => ⟨[], aa, ac, ys, e, rfl, h1, h2⟩
  | x :: r, _, k + 1, ⟨aa, ac, ys, e, h1, h2⟩, hk => by
    obtain ⟨ys', aa', ac', zs', e', g1, g2, g3⟩ := h2.nth (k := k) (by simpa using hk)
    have hx : (x :: r)[k + 1]! = r[k]! := by simp
    rw [hx]
    exact ⟨_, aa', ac', zs', by rw [e, e', List.append_assoc], ⟨aa, ac, ys', rfl, h1, g1⟩, g2, g3⟩
theorem BdAt.list {w : World} {B : Nat} : ∀ {bs : List Bd} {b o : Nat}, BdAt w B bs b o → ∃ xs, RwL (AvN w B) bs xs ∧ ∀ j u, xs[j]? = some u → w.cell? ⟨b, o + j, none⟩ = some u
  | [], _, _, _ => ⟨[], rfl, fun j u h => by simp at h⟩
  | x :: r, b, o, ⟨⟨aa, ac, hc, ha, hn⟩, hr⟩ => by
    obtain ⟨xs, h1, h2⟩ := hr.list
    refine ⟨_, ⟨aa, ac, xs, rfl, ⟨ha, fun n c e => by simp only [Value.slice.injEq] at e; rw [← e.2.2]; exact hn e.1⟩, h1⟩, fun j u hj => ?_⟩
    by_cases hlt : j < 6
    · rw [List.getElem?_append_left (by rw [encB_len]; exact hlt)] at hj
      exact hc j u hj
    · rw [List.getElem?_append_right (by rw [encB_len]; omega), encB_len] at hj
      have := h2 (j - 6) u hj
      rwa [show o + 6 + (j - 6) = o + j by omega] at this
theorem BdAt.of_list {w : World} {B : Nat} : ∀ {bs : List Bd} {xs : List Value} {b o : Nat}, RwL (AvN w B) bs xs → (∀ j u, xs[j]? = some u → w.cell? ⟨b, o + j, none⟩ = some u) → BdAt w B bs b o
  | [], _, _, _, _, _ => trivial
  | x :: r, _, b, o, ⟨aa, ac, ys, e, ha, hr⟩, h => by
    refine ⟨⟨aa, ac, fun j u hj => h j u (by rw [e, List.getElem?_append_left (List.getElem?_eq_some_iff.1 hj).1]; exact hj), ha.1, fun hn => ha.2 _ _ (by rw [hn])⟩, BdAt.of_list hr fun j u hj => ?_⟩
    have := h (6 + j) u (by rw [e, List.getElem?_append_right (by rw [encB_len]; omega), encB_len, show 6 + j - 6 = j by omega]; exact hj)
    rwa [show o + 6 + j = o + (6 + j) by omega]
/-- The cells of a slice of bounds. -/
theorem BsV.list {w : World} {B : Nat} {ao : Option Addr} {n cap : Nat} {bs : List Bd} (h : BsV w B (.slice ao n cap) bs) : ∃ xs, RwL (AvN w B) bs xs ∧ xs.length = n * 6 ∧ ∀ u : World, Below B w u → ∀ ad, ao = some ad → ∀ j v, xs[j]? = some v → u.cell? (ad.add j) = some v := by
  obtain ⟨ao', cap', he, h1, h2, h3, hh⟩ := h.row
  simp only [Value.slice.injEq] at he
  obtain ⟨rfl, rfl, rfl⟩ := he
  by_cases hb : bs = []
  · subst hb
    exact ⟨[], rfl, rfl, fun _ _ _ _ j v h => by simp at h⟩
  · obtain ⟨b, o, rfl, hlt, hat⟩ := hh hb
    obtain ⟨xs, q1, q2⟩ := hat.list
    refine ⟨xs, q1, q1.len, fun u hu ad e j v hj => ?_⟩
    cases e
    rw [add_off0, hu.cell (p := ⟨b, _, none⟩) hlt]
    exact q2 j v hj
/-- A row of bounds that the call made. -/
theorem BsV.of_own {w : World} {base : Nat} {v : Value} {bs : List Bd} {xs : List Value} (h : w.ownsRow base 91 6 v bs.length xs) (hr : RwL (AvN w w.heap.size) bs xs) (hw : ∀ x ∈ bs, x.var.size ≤ maxLen ∧ x.ev.ty.size ≤ maxLen) (hl : bs.length * 80 ≤ 140737488355328) : BsV w w.heap.size v bs := by
  rcases h.2 with ⟨rfl, h0⟩ | ⟨g, cap, cur, rfl, hb, hg, h1, h2, _, _⟩
  · exact ⟨hw, hl, none, 0, by rw [h0], by omega, by omega, fun _ => rfl, fun hne => absurd (List.eq_nil_of_length_eq_zero h0) hne⟩
  · refine ⟨hw, hl, _, cap, rfl, h1, by unfold maxLen at h2; omega, (fun e => by cases e), fun _ => ⟨g, 0, rfl, lt_of_block hg, BdAt.of_list hr fun j u hj => ?_⟩⟩
    have := h.cells (g := g) rfl j u hj
    rwa [add_off0] at this
theorem RwL.cells {w : World} {base g n cap k : Nat} {xs ys zs : List Value} {x : Bd} {v : Value} (h : w.ownsRow base 91 6 (.slice (some ⟨g, 0, none⟩) n cap) n xs) (e : xs = ys ++ (encB x v ++ zs)) (hl : ys.length = k * 6) :
    ∀ i u, (encB x v)[i]? = some u → w.cell? ⟨g, k * 6 + i, none⟩ = some u := fun i u hu => by
  have hi := (List.getElem?_eq_some_iff.1 hu).1
  have := h.cells (g := g) rfl (k * 6 + i) u (by rw [e, List.getElem?_append_right (by omega), hl, show k * 6 + i - k * 6 = i by omega, List.getElem?_append_left hi]; exact hu)
  rwa [add_off0, Nat.zero_add] at this
/-- The k-th bound's event, written. -/
theorem own_set5 {w : World} {base g n cap k : Nat} {xs ys zs : List Value} {x : Bd} {v v' : Value} (h : w.ownsRow base 91 6 (.slice (some ⟨g, 0, none⟩) n cap) n xs) (e : xs = ys ++ (encB x v ++ zs)) (hl : ys.length = k * 6) :
    (((((w.setCell ⟨g, k * 6 + 1, none⟩ (.int .i64 x.ev.src)).setCell ⟨g, k * 6 + 1 + 1, none⟩ (.int .i64 x.ev.seq)).setCell ⟨g, k * 6 + 1 + 2, none⟩ (.int .i64 x.ev.time)).setCell ⟨g, k * 6 + 1 + 3, none⟩ (.string x.ev.ty)).setCell ⟨g, k * 6 + 1 + 4, none⟩ v').ownsRow base 91 6 (.slice (some ⟨g, 0, none⟩) n cap) n (ys ++ (encB x v' ++ zs)) ∧
      w.grownBy (((((w.setCell ⟨g, k * 6 + 1, none⟩ (.int .i64 x.ev.src)).setCell ⟨g, k * 6 + 1 + 1, none⟩ (.int .i64 x.ev.seq)).setCell ⟨g, k * 6 + 1 + 2, none⟩ (.int .i64 x.ev.time)).setCell ⟨g, k * 6 + 1 + 3, none⟩ (.string x.ev.ty)).setCell ⟨g, k * 6 + 1 + 4, none⟩ v') (some g) := by
  have s1 := h.stored (k * 6 + 1) (.int .i64 x.ev.src)
  have s2 := s1.1.stored (k * 6 + 1 + 1) (.int .i64 x.ev.seq)
  have s3 := s2.1.stored (k * 6 + 1 + 2) (.int .i64 x.ev.time)
  have s4 := s3.1.stored (k * 6 + 1 + 3) (.string x.ev.ty)
  have s5 := s4.1.stored (k * 6 + 1 + 4) v'
  refine ⟨?_, (((s1.2.trans s2.2).trans s3.2).trans s4.2).trans s5.2⟩
  have := s5.1
  rw [e] at this
  have e1 : (((((ys ++ (encB x v ++ zs)).set (k * 6 + 1) (.int .i64 x.ev.src)).set (k * 6 + 1 + 1) (.int .i64 x.ev.seq)).set (k * 6 + 1 + 2) (.int .i64 x.ev.time)).set (k * 6 + 1 + 3) (.string x.ev.ty)).set (k * 6 + 1 + 4) v' = ys ++ (encB x v' ++ zs) := by
    simp only [List.set_append_right _ _ (show ys.length ≤ k * 6 + 1 by omega), List.set_append_right _ _ (show ys.length ≤ k * 6 + 1 + 1 by omega), List.set_append_right _ _ (show ys.length ≤ k * 6 + 1 + 2 by omega), List.set_append_right _ _ (show ys.length ≤ k * 6 + 1 + 3 by omega), List.set_append_right _ _ (show ys.length ≤ k * 6 + 1 + 4 by omega), hl]
    rw [show k * 6 + 1 - k * 6 = 1 by omega, show k * 6 + 1 + 1 - k * 6 = 2 by omega, show k * 6 + 1 + 2 - k * 6 = 3 by omega, show k * 6 + 1 + 3 - k * 6 = 4 by omega, show k * 6 + 1 + 4 - k * 6 = 5 by omega]
    rfl
  rw [e1] at this
  exact this
end Go.Proofs.Ytpbloplbpkedcaa
