/- Contracts: which datagrams may be, which are the same: the program's calls and the document's. -/
import Derived.Test.YtebojmjbolphfaaBv
namespace Go.Proofs.Ytebojmjbolphfaa
open Go Go.RowKit

def brB (n : Int) : Bool := decide (0 ≤ n) && decide (n < 16)
def tmB (n : Int) : Bool := decide (0 ≤ n) && decide (n ≤ 1099511627776)
def kdB (n : Int) : Bool := decide (n = 1) || decide (n = 2)
/-- Whether a datagram may be: From, To, Kind, Seq, Ack, how many bytes. -/
def ckB (f t k s a : Int) (n : Nat) : Bool := brB f && brB t && !decide (f = t) && kdB k && tmB s && tmB a && decide (n ≤ 16384) && !(decide (k = 2) && (!decide (s = 0) || decide (0 < n)))
def ckErr (f t k s a : Int) (n : Nat) : Int := if ckB f t k s a n then 0 else 21
theorem ckErr_no {f t k s a : Int} {n : Nat} (h : ckB f t k s a n = false) : ckErr f t k s a n = 21 := by unfold ckErr; rw [h]; rfl
theorem ckErr_ok {f t k s a : Int} {n : Nat} (h : ckB f t k s a n = true) : ckErr f t k s a n = 0 := by unfold ckErr; rw [h]; rfl

theorem isBroker_any (n : Int) (w : World) : Calls Try.prog 26 #[.int .i64 n] w fun e w' => e = .returned (.bool (brB n)) ∧ w = w' := by
  by_cases h0 : 0 ≤ n
  · by_cases h1 : n < 16
    · rw [show brB n = true by simp [brB, h0, h1]]
      go_enter Try.func26, Try.ntmps26
      go_wp2
      go_ret
      exact ⟨rfl, rfl⟩
    · rw [show brB n = false by simp [brB, h1]]
      go_enter Try.func26, Try.ntmps26
      go_wp2
      go_ret
      exact ⟨rfl, rfl⟩
  · rw [show brB n = false by simp [brB, h0]]
    go_enter Try.func26, Try.ntmps26
    go_wp2
    go_ret
    exact ⟨rfl, rfl⟩

theorem isCount_any (n : Int) (w : World) : Calls Try.prog 28 #[.int .i64 n] w fun e w' => e = .returned (.bool (tmB n)) ∧ w = w' := by
  by_cases h0 : 0 ≤ n
  · by_cases h1 : n ≤ 1099511627776
    · rw [show tmB n = true by simp [tmB, h0, h1]]
      go_enter Try.func28, Try.ntmps28
      go_wp2
      go_ret
      exact ⟨rfl, rfl⟩
    · rw [show tmB n = false by simp [tmB, h1]]
      go_enter Try.func28, Try.ntmps28
      go_wp2
      go_ret
      exact ⟨rfl, rfl⟩
  · rw [show tmB n = false by simp [tmB, h0]]
    go_enter Try.func28, Try.ntmps28
    go_wp2
    go_ret
    exact ⟨rfl, rfl⟩

theorem r2Broker_any (n : Int) (w : World) : Calls Try.prog 29 #[.int .i64 n] w fun e w' => e = .returned (.bool (brB n)) ∧ w = w' := by
  by_cases h0 : 0 ≤ n
  · by_cases h1 : n < 16
    · rw [show brB n = true by simp [brB, h0, h1]]
      go_enter Try.func29, Try.ntmps29
      go_wp2
      go_ret
      exact ⟨rfl, rfl⟩
    · rw [show brB n = false by simp [brB, h1]]
      go_enter Try.func29, Try.ntmps29
      go_wp2
      go_ret
      exact ⟨rfl, rfl⟩
  · rw [show brB n = false by simp [brB, h0]]
    go_enter Try.func29, Try.ntmps29
    go_wp2
    go_ret
    exact ⟨rfl, rfl⟩

theorem r2Time_any (n : Int) (w : World) : Calls Try.prog 30 #[.int .i64 n] w fun e w' => e = .returned (.bool (tmB n)) ∧ w = w' := by
  by_cases h0 : 0 ≤ n
  · by_cases h1 : n ≤ 1099511627776
    · rw [show tmB n = true by simp [tmB, h0, h1]]
      go_enter Try.func30, Try.ntmps30
      go_wp2
      go_ret
      exact ⟨rfl, rfl⟩
    · rw [show tmB n = false by simp [tmB, h1]]
      go_enter Try.func30, Try.ntmps30
      go_wp2
      go_ret
      exact ⟨rfl, rfl⟩
  · rw [show tmB n = false by simp [tmB, h0]]
    go_enter Try.func30, Try.ntmps30
    go_wp2
    go_ret
    exact ⟨rfl, rfl⟩

theorem isKind_any (n : Int) (w : World) : Calls Try.prog 27 #[.int .i64 n] w fun e w' => e = .returned (.bool (kdB n)) ∧ w = w' := by
  by_cases h0 : n = 1
  · subst h0
    rw [show kdB 1 = true from rfl]
    go_enter Try.func27, Try.ntmps27
    go_wp2
    go_ret
    exact ⟨rfl, rfl⟩
  · have b0 : (n == 1) = false := by simp [h0]
    by_cases h1 : n = 2
    · subst h1
      rw [show kdB 2 = true from rfl]
      clear h0 b0
      go_enter Try.func27, Try.ntmps27
      go_wp2
      go_ret
      exact ⟨rfl, rfl⟩
    · have b1 : (n == 2) = false := by simp [h1]
      rw [show kdB n = false by simp [kdB, h0, h1]]
      clear h0 h1
      go_enter Try.func27, Try.ntmps27
      go_wp2
      go_ret
      exact ⟨rfl, rfl⟩

set_option maxRecDepth 100000 in
set_option maxHeartbeats 1600000 in
theorem fCheck_any (f t k s a : Int) (ao : Option Addr) (n cap : Nat) (w : World) (hn : n ≤ 140737488355328) :
    Calls Try.prog 11 #[.agg #[.int .i64 f, .int .i64 t, .int .i64 k, .int .i64 s, .int .i64 a, .slice ao n cap]] w fun e w' => e = .returned (.int .i64 (ckErr f t k s a n)) ∧ Below w.heap.size w w' := by
  cases hbf : brB f with
  | false =>
    rw [ckErr_no (by simp [ckB, hbf])]
    go_enter Try.func11, Try.ntmps11
    go_wp2_with (first | (go_at_call 26; refine (isBroker_any _ _).mono ?_; rintro e w' ⟨rfl, rfl⟩) | (go_at_call 28; refine (isCount_any _ _).mono ?_; rintro e w' ⟨rfl, rfl⟩) | (go_at_call 27; refine (isKind_any _ _).mono ?_; rintro e w' ⟨rfl, rfl⟩))
    go_ret
    exact ⟨rfl, (Below.refl _ _).alloc (Nat.le_refl _) _⟩
  | true =>
    cases hbt : brB t with
    | false =>
      rw [ckErr_no (by simp [ckB, hbf, hbt])]
      go_enter Try.func11, Try.ntmps11
      go_wp2_with (first | (go_at_call 26; refine (isBroker_any _ _).mono ?_; rintro e w' ⟨rfl, rfl⟩) | (go_at_call 28; refine (isCount_any _ _).mono ?_; rintro e w' ⟨rfl, rfl⟩) | (go_at_call 27; refine (isKind_any _ _).mono ?_; rintro e w' ⟨rfl, rfl⟩))
      go_ret
      exact ⟨rfl, (Below.refl _ _).alloc (Nat.le_refl _) _⟩
    | true =>
      by_cases heq : f = t
      · subst heq
        rw [ckErr_no (by simp [ckB, hbf])]
        go_enter Try.func11, Try.ntmps11
        go_wp2_with (first | (go_at_call 26; refine (isBroker_any _ _).mono ?_; rintro e w' ⟨rfl, rfl⟩) | (go_at_call 28; refine (isCount_any _ _).mono ?_; rintro e w' ⟨rfl, rfl⟩) | (go_at_call 27; refine (isKind_any _ _).mono ?_; rintro e w' ⟨rfl, rfl⟩))
        go_ret
        exact ⟨rfl, (Below.refl _ _).alloc (Nat.le_refl _) _⟩
      · have heq1 : (f == t) = false := by simp [heq]
        have heq2 : (f != t) = true := by simp [heq]
        by_cases hk1 : k = 1
        · subst hk1
          have hkd : kdB 1 = true := rfl
          cases hts : tmB s with
          | false =>
            rw [ckErr_no (by simp [ckB, hbf, hbt, heq, hkd, hts])]
            go_enter Try.func11, Try.ntmps11
            go_wp2_with (first | (go_at_call 26; refine (isBroker_any _ _).mono ?_; rintro e w' ⟨rfl, rfl⟩) | (go_at_call 28; refine (isCount_any _ _).mono ?_; rintro e w' ⟨rfl, rfl⟩) | (go_at_call 27; refine (isKind_any _ _).mono ?_; rintro e w' ⟨rfl, rfl⟩))
            go_ret
            exact ⟨rfl, (Below.refl _ _).alloc (Nat.le_refl _) _⟩
          | true =>
            cases hta : tmB a with
            | false =>
              rw [ckErr_no (by simp [ckB, hbf, hbt, heq, hkd, hts, hta])]
              go_enter Try.func11, Try.ntmps11
              go_wp2_with (first | (go_at_call 26; refine (isBroker_any _ _).mono ?_; rintro e w' ⟨rfl, rfl⟩) | (go_at_call 28; refine (isCount_any _ _).mono ?_; rintro e w' ⟨rfl, rfl⟩) | (go_at_call 27; refine (isKind_any _ _).mono ?_; rintro e w' ⟨rfl, rfl⟩))
              go_ret
              exact ⟨rfl, (Below.refl _ _).alloc (Nat.le_refl _) _⟩
            | true =>
              by_cases hn2 : n ≤ 16384
              · skip
                rw [ckErr_ok (by simp [ckB, hbf, hbt, heq, hkd, hts, hta, hn2])]
                go_enter Try.func11, Try.ntmps11
                go_wp2_with (first | (go_at_call 26; refine (isBroker_any _ _).mono ?_; rintro e w' ⟨rfl, rfl⟩) | (go_at_call 28; refine (isCount_any _ _).mono ?_; rintro e w' ⟨rfl, rfl⟩) | (go_at_call 27; refine (isKind_any _ _).mono ?_; rintro e w' ⟨rfl, rfl⟩))
                go_ret
                exact ⟨rfl, (Below.refl _ _).alloc (Nat.le_refl _) _⟩
              · skip
                rw [ckErr_no (by simp [ckB, hbf, hbt, heq, hkd, hts, hta, hn2])]
                go_enter Try.func11, Try.ntmps11
                go_wp2_with (first | (go_at_call 26; refine (isBroker_any _ _).mono ?_; rintro e w' ⟨rfl, rfl⟩) | (go_at_call 28; refine (isCount_any _ _).mono ?_; rintro e w' ⟨rfl, rfl⟩) | (go_at_call 27; refine (isKind_any _ _).mono ?_; rintro e w' ⟨rfl, rfl⟩))
                go_ret
                exact ⟨rfl, (Below.refl _ _).alloc (Nat.le_refl _) _⟩
        · by_cases hk2 : k = 2
          · subst hk2
            have hkd : kdB 2 = true := rfl
            clear hk1
            cases hts : tmB s with
            | false =>
              rw [ckErr_no (by simp [ckB, hbf, hbt, heq, hkd, hts])]
              go_enter Try.func11, Try.ntmps11
              go_wp2_with (first | (go_at_call 26; refine (isBroker_any _ _).mono ?_; rintro e w' ⟨rfl, rfl⟩) | (go_at_call 28; refine (isCount_any _ _).mono ?_; rintro e w' ⟨rfl, rfl⟩) | (go_at_call 27; refine (isKind_any _ _).mono ?_; rintro e w' ⟨rfl, rfl⟩))
              go_ret
              exact ⟨rfl, (Below.refl _ _).alloc (Nat.le_refl _) _⟩
            | true =>
              cases hta : tmB a with
              | false =>
                rw [ckErr_no (by simp [ckB, hbf, hbt, heq, hkd, hts, hta])]
                go_enter Try.func11, Try.ntmps11
                go_wp2_with (first | (go_at_call 26; refine (isBroker_any _ _).mono ?_; rintro e w' ⟨rfl, rfl⟩) | (go_at_call 28; refine (isCount_any _ _).mono ?_; rintro e w' ⟨rfl, rfl⟩) | (go_at_call 27; refine (isKind_any _ _).mono ?_; rintro e w' ⟨rfl, rfl⟩))
                go_ret
                exact ⟨rfl, (Below.refl _ _).alloc (Nat.le_refl _) _⟩
              | true =>
                by_cases hn2 : n ≤ 16384
                · skip
                  by_cases hs0 : s = 0
                  · subst hs0
                    by_cases hn0 : n = 0
                    · subst hn0
                      rw [ckErr_ok (by simp [ckB, hbf, hbt, heq, hkd, hts, hta, hn2])]
                      go_enter Try.func11, Try.ntmps11
                      go_wp2_with (first | (go_at_call 26; refine (isBroker_any _ _).mono ?_; rintro e w' ⟨rfl, rfl⟩) | (go_at_call 28; refine (isCount_any _ _).mono ?_; rintro e w' ⟨rfl, rfl⟩) | (go_at_call 27; refine (isKind_any _ _).mono ?_; rintro e w' ⟨rfl, rfl⟩))
                      go_ret
                      exact ⟨rfl, (Below.refl _ _).alloc (Nat.le_refl _) _⟩
                    · have hn1 : 0 < n := by omega
                      rw [ckErr_no (by simp [ckB, hbf, hbt, heq, hkd, hts, hta, hn2, hn1])]
                      go_enter Try.func11, Try.ntmps11
                      go_wp2_with (first | (go_at_call 26; refine (isBroker_any _ _).mono ?_; rintro e w' ⟨rfl, rfl⟩) | (go_at_call 28; refine (isCount_any _ _).mono ?_; rintro e w' ⟨rfl, rfl⟩) | (go_at_call 27; refine (isKind_any _ _).mono ?_; rintro e w' ⟨rfl, rfl⟩))
                      go_ret
                      exact ⟨rfl, (Below.refl _ _).alloc (Nat.le_refl _) _⟩
                  · have hs1 : (s == 0) = false := by simp [hs0]
                    have hs2 : (s != 0) = true := by simp [hs0]
                    rw [ckErr_no (by simp [ckB, hbf, hbt, heq, hkd, hts, hta, hn2, hs0])]
                    go_enter Try.func11, Try.ntmps11
                    go_wp2_with (first | (go_at_call 26; refine (isBroker_any _ _).mono ?_; rintro e w' ⟨rfl, rfl⟩) | (go_at_call 28; refine (isCount_any _ _).mono ?_; rintro e w' ⟨rfl, rfl⟩) | (go_at_call 27; refine (isKind_any _ _).mono ?_; rintro e w' ⟨rfl, rfl⟩))
                    go_ret
                    exact ⟨rfl, (Below.refl _ _).alloc (Nat.le_refl _) _⟩
                · skip
                  rw [ckErr_no (by simp [ckB, hbf, hbt, heq, hkd, hts, hta, hn2])]
                  go_enter Try.func11, Try.ntmps11
                  go_wp2_with (first | (go_at_call 26; refine (isBroker_any _ _).mono ?_; rintro e w' ⟨rfl, rfl⟩) | (go_at_call 28; refine (isCount_any _ _).mono ?_; rintro e w' ⟨rfl, rfl⟩) | (go_at_call 27; refine (isKind_any _ _).mono ?_; rintro e w' ⟨rfl, rfl⟩))
                  go_ret
                  exact ⟨rfl, (Below.refl _ _).alloc (Nat.le_refl _) _⟩
          · have hkd : kdB k = false := by simp [kdB, hk1, hk2]
            have k1 : (k == 1) = false := by simp [hk1]
            have k2 : (k == 2) = false := by simp [hk2]
            have k3 : (k != 1) = true := by simp [hk1]
            have k4 : (k != 2) = true := by simp [hk2]
            rw [ckErr_no (by simp [ckB, hbf, hbt, heq, hkd])]
            go_enter Try.func11, Try.ntmps11
            go_wp2_with (first | (go_at_call 26; refine (isBroker_any _ _).mono ?_; rintro e w' ⟨rfl, rfl⟩) | (go_at_call 28; refine (isCount_any _ _).mono ?_; rintro e w' ⟨rfl, rfl⟩) | (go_at_call 27; refine (isKind_any _ _).mono ?_; rintro e w' ⟨rfl, rfl⟩))
            go_ret
            exact ⟨rfl, (Below.refl _ _).alloc (Nat.le_refl _) _⟩

set_option maxRecDepth 100000 in
set_option maxHeartbeats 1600000 in
theorem r2Check_any (f t k s a : Int) (ao : Option Addr) (n cap : Nat) (w : World) (hn : n ≤ 140737488355328) :
    Calls Try.prog 12 #[.agg #[.int .i64 f, .int .i64 t, .int .i64 k, .int .i64 s, .int .i64 a, .slice ao n cap]] w fun e w' => e = .returned (.int .i64 (ckErr f t k s a n)) ∧ Below w.heap.size w w' := by
  cases hbf : brB f with
  | false =>
    rw [ckErr_no (by simp [ckB, hbf])]
    go_enter Try.func12, Try.ntmps12
    go_wp2_with (first | (go_at_call 29; refine (r2Broker_any _ _).mono ?_; rintro e w' ⟨rfl, rfl⟩) | (go_at_call 30; refine (r2Time_any _ _).mono ?_; rintro e w' ⟨rfl, rfl⟩))
    go_ret
    exact ⟨rfl, (Below.refl _ _).alloc (Nat.le_refl _) _⟩
  | true =>
    cases hbt : brB t with
    | false =>
      rw [ckErr_no (by simp [ckB, hbf, hbt])]
      go_enter Try.func12, Try.ntmps12
      go_wp2_with (first | (go_at_call 29; refine (r2Broker_any _ _).mono ?_; rintro e w' ⟨rfl, rfl⟩) | (go_at_call 30; refine (r2Time_any _ _).mono ?_; rintro e w' ⟨rfl, rfl⟩))
      go_ret
      exact ⟨rfl, (Below.refl _ _).alloc (Nat.le_refl _) _⟩
    | true =>
      by_cases heq : f = t
      · subst heq
        rw [ckErr_no (by simp [ckB, hbf])]
        go_enter Try.func12, Try.ntmps12
        go_wp2_with (first | (go_at_call 29; refine (r2Broker_any _ _).mono ?_; rintro e w' ⟨rfl, rfl⟩) | (go_at_call 30; refine (r2Time_any _ _).mono ?_; rintro e w' ⟨rfl, rfl⟩))
        go_ret
        exact ⟨rfl, (Below.refl _ _).alloc (Nat.le_refl _) _⟩
      · have heq1 : (f == t) = false := by simp [heq]
        have heq2 : (f != t) = true := by simp [heq]
        cases hts : tmB s with
        | false =>
          rw [ckErr_no (by simp [ckB, hbf, hbt, heq, hts])]
          go_enter Try.func12, Try.ntmps12
          go_wp2_with (first | (go_at_call 29; refine (r2Broker_any _ _).mono ?_; rintro e w' ⟨rfl, rfl⟩) | (go_at_call 30; refine (r2Time_any _ _).mono ?_; rintro e w' ⟨rfl, rfl⟩))
          go_ret
          exact ⟨rfl, (Below.refl _ _).alloc (Nat.le_refl _) _⟩
        | true =>
          cases hta : tmB a with
          | false =>
            rw [ckErr_no (by simp [ckB, hbf, hbt, heq, hts, hta])]
            go_enter Try.func12, Try.ntmps12
            go_wp2_with (first | (go_at_call 29; refine (r2Broker_any _ _).mono ?_; rintro e w' ⟨rfl, rfl⟩) | (go_at_call 30; refine (r2Time_any _ _).mono ?_; rintro e w' ⟨rfl, rfl⟩))
            go_ret
            exact ⟨rfl, (Below.refl _ _).alloc (Nat.le_refl _) _⟩
          | true =>
            by_cases hn2 : n ≤ 16384
            · skip
              by_cases hk1 : k = 1
              · subst hk1
                have hkd : kdB 1 = true := rfl
                rw [ckErr_ok (by simp [ckB, hbf, hbt, heq, hts, hta, hn2, hkd])]
                go_enter Try.func12, Try.ntmps12
                go_wp2_with (first | (go_at_call 29; refine (r2Broker_any _ _).mono ?_; rintro e w' ⟨rfl, rfl⟩) | (go_at_call 30; refine (r2Time_any _ _).mono ?_; rintro e w' ⟨rfl, rfl⟩))
                go_ret
                exact ⟨rfl, (Below.refl _ _).alloc (Nat.le_refl _) _⟩
              · by_cases hk2 : k = 2
                · subst hk2
                  have hkd : kdB 2 = true := rfl
                  clear hk1
                  by_cases hs0 : s = 0
                  · subst hs0
                    by_cases hn0 : n = 0
                    · subst hn0
                      rw [ckErr_ok (by simp [ckB, hbf, hbt, heq, hts, hta, hn2, hkd])]
                      go_enter Try.func12, Try.ntmps12
                      go_wp2_with (first | (go_at_call 29; refine (r2Broker_any _ _).mono ?_; rintro e w' ⟨rfl, rfl⟩) | (go_at_call 30; refine (r2Time_any _ _).mono ?_; rintro e w' ⟨rfl, rfl⟩))
                      go_ret
                      exact ⟨rfl, (Below.refl _ _).alloc (Nat.le_refl _) _⟩
                    · have hn1 : 0 < n := by omega
                      rw [ckErr_no (by simp [ckB, hbf, hbt, heq, hts, hta, hn2, hkd, hn1])]
                      go_enter Try.func12, Try.ntmps12
                      go_wp2_with (first | (go_at_call 29; refine (r2Broker_any _ _).mono ?_; rintro e w' ⟨rfl, rfl⟩) | (go_at_call 30; refine (r2Time_any _ _).mono ?_; rintro e w' ⟨rfl, rfl⟩))
                      go_ret
                      exact ⟨rfl, (Below.refl _ _).alloc (Nat.le_refl _) _⟩
                  · have hs1 : (s == 0) = false := by simp [hs0]
                    have hs2 : (s != 0) = true := by simp [hs0]
                    rw [ckErr_no (by simp [ckB, hbf, hbt, heq, hts, hta, hn2, hkd, hs0])]
                    go_enter Try.func12, Try.ntmps12
                    go_wp2_with (first | (go_at_call 29; refine (r2Broker_any _ _).mono ?_; rintro e w' ⟨rfl, rfl⟩) | (go_at_call 30; refine (r2Time_any _ _).mono ?_; rintro e w' ⟨rfl, rfl⟩))
                    go_ret
                    exact ⟨rfl, (Below.refl _ _).alloc (Nat.le_refl _) _⟩
                · have hkd : kdB k = false := by simp [kdB, hk1, hk2]
                  have k1 : (k == 1) = false := by simp [hk1]
                  have k2 : (k == 2) = false := by simp [hk2]
                  have k3 : (k != 1) = true := by simp [hk1]
                  have k4 : (k != 2) = true := by simp [hk2]
                  rw [ckErr_no (by simp [ckB, hbf, hbt, heq, hts, hta, hn2, hkd])]
                  go_enter Try.func12, Try.ntmps12
                  go_wp2_with (first | (go_at_call 29; refine (r2Broker_any _ _).mono ?_; rintro e w' ⟨rfl, rfl⟩) | (go_at_call 30; refine (r2Time_any _ _).mono ?_; rintro e w' ⟨rfl, rfl⟩))
                  go_ret
                  exact ⟨rfl, (Below.refl _ _).alloc (Nat.le_refl _) _⟩
            · skip
              rw [ckErr_no (by simp [ckB, hbf, hbt, heq, hts, hta, hn2])]
              go_enter Try.func12, Try.ntmps12
              go_wp2_with (first | (go_at_call 29; refine (r2Broker_any _ _).mono ?_; rintro e w' ⟨rfl, rfl⟩) | (go_at_call 30; refine (r2Time_any _ _).mono ?_; rintro e w' ⟨rfl, rfl⟩))
              go_ret
              exact ⟨rfl, (Below.refl _ _).alloc (Nat.le_refl _) _⟩

end Go.Proofs.Ytebojmjbolphfaa
