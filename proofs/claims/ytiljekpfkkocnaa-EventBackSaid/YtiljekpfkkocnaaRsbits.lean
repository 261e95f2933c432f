/- Contracts of Bits: of the document's own source, and of the program's. -/
import Derived.Test.YtiljekpfkkocnaaRsrc
import Derived.Test.YtiljekpfkkocnaaSnew
namespace Go.Proofs.Ytiljekpfkkocnaa
open Go Go.RowKit

def bitsErr (n : Int) (len : Nat) : Nat := if n < 0 ∨ 64 < n then 1 else if (len : Int) < n then 10 else 0
def bitsVal (l : List Bool) (n : Int) : Nat := if bitsErr n l.length = 0 then valBits (l.take n.toNat) else 0
def bitsRest (l : List Bool) (n : Int) : List Bool := if bitsErr n l.length = 0 then l.drop n.toNat else l

theorem bitsErr_arg {n : Int} {len : Nat} (h : n < 0 ∨ 64 < n) : bitsErr n len = 1 := by unfold bitsErr; rw [if_pos h]
theorem bitsErr_ends {n : Int} {len : Nat} (h : ¬ (n < 0 ∨ 64 < n)) (h2 : (len : Int) < n) : bitsErr n len = 10 := by unfold bitsErr; rw [if_neg h, if_pos h2]
theorem bitsErr_ok {n : Nat} {len : Nat} (h : n ≤ 64) (h2 : n ≤ len) : bitsErr (n : Int) len = 0 := by unfold bitsErr; rw [if_neg (by omega), if_neg (by omega)]

set_option maxRecDepth 100000 in
set_option maxHeartbeats 400000 in
theorem rsBits_ok (B q n : Nat) (l : List Bool) (w : World) (hs : RefIs w B q l) (hn : n ≤ 64) (hle : n ≤ l.length) :
    Calls Try.prog 112 #[.pointer (some ⟨q, 0, none⟩), .int .i64 (n : Int)] w fun e w' => e = .returned (.tuple #[.int .u64 ((valBits (l.take n) : Nat) : Int), .int .i64 0]) ∧ RefIs w' B q (l.drop n) ∧ KeptR B q w w' := by
  have hlen := hs.len
  have hfree := hs.free
  rcases hs.open with ⟨rfl, ao, cap, h0, hn0, hsp⟩ | ⟨b, o, cap, h0, hcap, hpos, hc⟩
  · obtain rfl : n = 0 := by simpa using hle
    cases ao with
    | none =>
      obtain rfl := hn0 rfl
      have HS := hide hs; clear hs hn0 hsp
      go_enter Try.func112, Try.ntmps112
      go_wp2_with (go_at_call 125; refine (rValue_nil _ _ _).mono ?_; rintro e w' ⟨rfl, rfl⟩)
      go_ret2
      refine ⟨rfl, ?_, HS.out.keeps _⟩
      obtain ⟨ao', cap', hq, hc', hn', hr'⟩ := HS.out.row
      have h1 := cell_of_one hq
      rw [h0] at h1
      simp only [Option.some.injEq, Value.slice.injEq] at h1
      refine ⟨HS.out.from_, by simp, none, 0, ?_, by simp, fun _ => rfl, fun a ha => by cases ha⟩
      rw [one_setCell hq]; rfl
    | some a =>
      obtain ⟨b, o, sp⟩ := a
      obtain rfl : sp = none := hsp _ rfl
      have HS := hide hs; clear hs hn0 hsp
      by_cases hc0 : cap = 0
      · subst hc0
        go_enter Try.func112, Try.ntmps112
        go_wp2_with (go_at_call 125; refine (rValue_nil _ _ _).mono ?_; rintro e w' ⟨rfl, rfl⟩)
        go_ret2
        exact ⟨rfl, HS.out.moved 0 (Nat.zero_le _) h0 _ (.inl ⟨rfl, rfl⟩), HS.out.keeps _⟩
      · have hc1 : 0 < cap := by omega
        have HC0 := hide hc0; clear hc0
        go_enter Try.func112, Try.ntmps112
        go_wp2_with (go_at_call 125; refine (rValue_nil _ _ _).mono ?_; rintro e w' ⟨rfl, rfl⟩)
        go_ret2
        exact ⟨rfl, HS.out.moved 0 (Nat.zero_le _) h0 _ (.inr rfl), HS.out.keeps _⟩
  · obtain ⟨N, hN⟩ : ∃ N, N = l.length := ⟨_, rfl⟩
    have CV : Calls Try.prog 125 #[.slice (some ⟨b, o, none⟩) n cap] w fun e w' => e = .returned (.int .u64 ((valBits (l.take n) : Nat) : Int)) ∧ w = w' := by
      have := rValue_any b o cap (l.take n) w (by simp; omega) (fun j hj => by
        simp at hj
        rw [hc j (by omega)]
        have hjn : j < n := by omega
        simp [List.getD, hjn])
      rwa [List.length_take, Nat.min_eq_left hle] at this
    have HM := hide (fun v hv => hs.moved n hle h0 v hv)
    have HS := hide hs
    clear hs hc
    obtain ⟨V, hV⟩ : ∃ V, V = valBits (l.take n) := ⟨_, rfl⟩
    rw [← hV] at CV ⊢
    clear hV
    rw [← hN] at h0 hcap hpos hlen hle
    have HN := hide hN; clear hN
    by_cases hcn : cap = n
    · subst hcn
      obtain rfl : N = cap := by omega
      go_enter Try.func112, Try.ntmps112
      go_wp2_with (go_at_call 125; refine CV.mono ?_; rintro e w' ⟨rfl, rfl⟩)
      go_ret2
      refine ⟨rfl, HM.out _ (.inl ⟨by trivial, ?_⟩), HS.out.keeps _⟩
      rw [← HN.out]; simp
    · have hlt : n < cap := by omega
      have HCN := hide hcn; clear hcn
      go_enter Try.func112, Try.ntmps112
      go_wp2_with (go_at_call 125; refine CV.mono ?_; rintro e w' ⟨rfl, rfl⟩)
      go_ret2
      refine ⟨rfl, HM.out _ (.inr ?_), HS.out.keeps _⟩
      rw [← HN.out]

set_option maxRecDepth 100000 in
theorem rsBits_any (B q : Nat) (n : Int) (l : List Bool) (w : World) (hs : RefIs w B q l) (hw : (Lit.int .i64 n).wf = true) :
    Calls Try.prog 112 #[.pointer (some ⟨q, 0, none⟩), .int .i64 n] w fun e w' => e = .returned (.tuple #[.int .u64 ((bitsVal l n : Nat) : Int), .int .i64 ((bitsErr n l.length : Nat) : Int)]) ∧ RefIs w' B q (bitsRest l n) ∧ KeptR B q w w' := by
  have hw2 : -9223372036854775808 ≤ n ∧ n ≤ 9223372036854775807 := by simpa [Lit.wf, IntKind.min, IntKind.max, IntKind.signed, IntKind.bits] using hw
  by_cases h1 : n < 0
  · have he := bitsErr_arg (n := n) (len := l.length) (.inl h1)
    rw [bitsVal, bitsRest, he]
    have HS := hide hs; clear hs he hw
    go_enter Try.func112, Try.ntmps112
    go_wp2
    go_ret2
    exact ⟨rfl, HS.out, .refl _ _ _⟩
  by_cases h2 : 64 < n
  · have he := bitsErr_arg (n := n) (len := l.length) (.inr h2)
    rw [bitsVal, bitsRest, he]
    have HS := hide hs; clear hs he hw
    go_enter Try.func112, Try.ntmps112
    go_wp2
    go_ret2
    exact ⟨rfl, HS.out, .refl _ _ _⟩
  by_cases h3 : (l.length : Int) < n
  · have he := bitsErr_ends (n := n) (len := l.length) (by omega) h3
    rw [bitsVal, bitsRest, he]
    have hlen := hs.len
    obtain ⟨ao, cap, h0⟩ : ∃ ao cap, w.cell? ⟨q, 0, none⟩ = some (.slice ao l.length cap) := by
      obtain ⟨ao, cap, hq, _⟩ := hs.row
      exact ⟨ao, cap, cell_of_one hq⟩
    obtain ⟨N, hN⟩ : ∃ N, N = l.length := ⟨_, rfl⟩
    rw [← hN] at h0 h3 hlen
    have HN := hide hN; clear hN
    have HS := hide hs; clear hs he hw
    go_enter Try.func112, Try.ntmps112
    go_wp2
    go_ret2
    exact ⟨rfl, HS.out, .refl _ _ _⟩
  · obtain ⟨m, rfl⟩ : ∃ m : Nat, n = m := ⟨n.toNat, by omega⟩
    have he := bitsErr_ok (n := m) (len := l.length) (by omega) (by omega)
    rw [bitsVal, bitsRest, he, if_pos rfl, if_pos rfl]
    exact rsBits_ok B q m l w hs (by omega) (by omega)

set_option maxRecDepth 100000 in
theorem sTake_any (B q n : Nat) (bytes : List Nat) (p : Nat) (w : World) (hs : SrcIs w B q bytes p) (hn : n ≤ 64) (hle : p + n ≤ 8 * bytes.length) :
    Calls Try.prog 82 #[.pointer (some ⟨q, 0, none⟩), .int .i64 (n : Int)] w fun e w' => e = .returned (.int .u64 ((valAt bytes p n : Nat) : Int)) ∧ SrcIs w' B q bytes (p + n) ∧ Kept B srcT w w' := by
  have hpos := hs.pos
  have hfree := hs.free
  have hl := hs.len
  have C := sPeek_any B q bytes p p n w hs hn hle
  have HM := hide (hs.moved (p + n) hle)
  have HK := hide (fun u => hs.keeps u)
  clear hs
  go_enter Try.func82, Try.ntmps82
  go_wp2_with (go_at_call 107; refine C.mono ?_; rintro e w' ⟨rfl, rfl⟩)
  go_ret
  exact ⟨rfl, HM.out, HK.out _⟩

set_option maxRecDepth 100000 in
theorem sBits_any (B q : Nat) (n : Int) (bytes : List Nat) (p : Nat) (w : World) (hs : SrcIs w B q bytes p) (hw : (Lit.int .i64 n).wf = true) :
    Calls Try.prog 34 #[.pointer (some ⟨q, 0, none⟩), .int .i64 n] w fun e w' => e = .returned (.tuple #[.int .u64 ((bitsVal (leftL bytes p) n : Nat) : Int), .int .i64 ((bitsErr n (leftL bytes p).length : Nat) : Int)]) ∧
      (∃ p', SrcIs w' B q bytes p' ∧ leftL bytes p' = bitsRest (leftL bytes p) n) ∧ Kept B srcT w w' := by
  have hw2 : -9223372036854775808 ≤ n ∧ n ≤ 9223372036854775807 := by simpa [Lit.wf, IntKind.min, IntKind.max, IntKind.signed, IntKind.bits] using hw
  have hp := hs.at_
  by_cases h1 : n < 0
  · have he := bitsErr_arg (n := n) (len := (leftL bytes p).length) (.inl h1)
    rw [bitsVal, bitsRest, he]
    have hm := hs.made
    have HS := hide hs; clear hs he hw
    go_enter Try.func34, Try.ntmps34
    go_wp2_with (go_at_call 81; refine (sIsMade_any q _ hm).mono ?_; rintro e w' ⟨rfl, rfl⟩)
    go_ret2
    exact ⟨rfl, ⟨p, HS.out, rfl⟩, .refl _ _ _⟩
  by_cases h2 : 64 < n
  · have he := bitsErr_arg (n := n) (len := (leftL bytes p).length) (.inr h2)
    rw [bitsVal, bitsRest, he]
    have hm := hs.made
    have HS := hide hs; clear hs he hw
    go_enter Try.func34, Try.ntmps34
    go_wp2_with (go_at_call 81; refine (sIsMade_any q _ hm).mono ?_; rintro e w' ⟨rfl, rfl⟩)
    go_ret2
    exact ⟨rfl, ⟨p, HS.out, rfl⟩, .refl _ _ _⟩
  obtain ⟨m, rfl⟩ : ∃ m : Nat, n = m := ⟨n.toNat, by omega⟩
  obtain ⟨Lf, hLf⟩ : ∃ Lf, Lf = 8 * bytes.length - p := ⟨_, rfl⟩
  have C2 := sLeft_k B q bytes p w hs
  rw [← hLf] at C2
  have hm := hs.made
  by_cases h3 : Lf < m
  · have he := bitsErr_ends (n := (m : Int)) (len := (leftL bytes p).length) (by omega) (by rw [leftL_length]; omega)
    rw [bitsVal, bitsRest, he]
    clear hs he hw hLf
    go_enter Try.func34, Try.ntmps34
    go_wp2_with fail
    refine (sIsMade_any q _ hm).mono ?_; rintro e w' ⟨rfl, rfl⟩
    go_wp2_with fail
    refine C2.mono ?_; rintro e w1 ⟨rfl, hs1, k1⟩
    have HS1 := hide hs1; have HK1 := hide k1; clear hs1 k1
    go_wp2
    go_ret2
    exact ⟨rfl, ⟨p, HS1.out, rfl⟩, HK1.out⟩
  · have he := bitsErr_ok (n := m) (len := (leftL bytes p).length) (by omega) (by rw [leftL_length]; omega)
    rw [bitsVal, bitsRest, he, if_pos rfl, if_pos rfl]
    have hv := valAt_left bytes p 0 m
    rw [Nat.add_zero, List.drop_zero] at hv
    have hr : leftL bytes (p + m) = (leftL bytes p).drop m := by simp [leftL, List.drop_drop]
    have hle : p + m ≤ 8 * bytes.length := by omega
    rw [show ((m : Int)).toNat = m from rfl, ← hv]
    have HR := hide hr
    clear hs he hw hLf hr hv
    go_enter Try.func34, Try.ntmps34
    go_wp2_with fail
    refine (sIsMade_any q _ hm).mono ?_; rintro e w' ⟨rfl, rfl⟩
    go_wp2_with fail
    refine C2.mono ?_; rintro e w1 ⟨rfl, hs1, k1⟩
    have HK1 := hide k1; clear k1
    go_wp2_with fail
    refine (sTake_any B q m bytes p w1 hs1 (by omega) hle).mono ?_; rintro e w2 ⟨rfl, hs2, k2⟩
    have HS2 := hide hs2; have HK2 := hide k2; clear hs2 k2 hs1
    go_wp2
    go_ret2
    exact ⟨rfl, ⟨p + m, HS2.out, HR.out⟩, HK1.out.trans HK2.out⟩
end Go.Proofs.Ytiljekpfkkocnaa
