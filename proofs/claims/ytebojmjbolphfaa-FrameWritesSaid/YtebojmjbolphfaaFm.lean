/- Plain facts on datagrams as bits and bytes. No program here. -/
import Derived.Test.YtebojmjbolphfaaBackm
import Derived.Test.YtebojmjbolphfaaSum
import Derived.Test.YtebojmjbolphfaaFck
namespace Go.Proofs.Ytebojmjbolphfaa
open Go Crc

def bodyBits (x : List Nat) : List Bool := x.flatMap fun c => bitsOf c 8
theorem bodyBits_nil : bodyBits [] = [] := rfl
theorem bodyBits_length (x : List Nat) : (bodyBits x).length = 8 * x.length := by
  induction x with
  | nil => rfl
  | cons c x ih => unfold bodyBits at ih ⊢; rw [List.flatMap_cons, List.length_append, ih, bitsOf_length, List.length_cons]; omega
theorem bodyBits_take (x : List Nat) (j : Nat) (h : j < x.length) : bodyBits (x.take (j + 1)) = bodyBits (x.take j) ++ bitsOf (x.getD j 0) 8 := by
  unfold bodyBits
  rw [List.take_succ_eq_append_getElem h, List.flatMap_append]; simp [List.getD, h]

/-- The bits of a datagram: of Kind 1 (data), of Kind 2 (an ack). -/
def headBits (F T K A : Nat) : List Bool := [] ++ bitsOf K 2 ++ bitsOf F 4 ++ bitsOf T 4 ++ natBits A
def dataBits (F T S A : Nat) (x : List Nat) : List Bool := headBits F T 1 A ++ natBits S ++ natBits x.length ++ bodyBits x
def formBits (F T K S A : Nat) (x : List Nat) : List Bool := if K = 1 then dataBits F T S A x else headBits F T K A
theorem headBits_length (F T K A : Nat) : (headBits F T K A).length = 11 + 2 * ahd A := by simp [headBits, bitsOf_length, natBits_length]; omega
theorem dataBits_length (F T S A : Nat) (x : List Nat) : (dataBits F T S A x).length = 13 + 2 * ahd A + 2 * ahd S + 2 * ahd x.length + 8 * x.length := by
  simp only [dataBits, List.length_append, headBits_length, natBits_length, bodyBits_length]; omega
theorem ahd_small (u : Nat) (h : u ≤ 1099511627776) : ahd u ≤ 40 := by
  unfold ahd
  have : (u + 1).log2 < 41 := (Nat.log2_lt (by omega)).2 (by omega)
  omega
theorem ahd_body (u : Nat) (h : u ≤ 16384) : ahd u ≤ 14 := by
  unfold ahd
  have : (u + 1).log2 < 15 := (Nat.log2_lt (by omega)).2 (by omega)
  omega
def be32 (s : Nat) : List Nat := [s / 16777216, s / 65536 % 256, s / 256 % 256, s % 256]
/-- The form without its sum; the form. -/
def headN (F T K S A : Nat) (x : List Nat) : List Nat := packed (formBits F T K S A x)
def sealed (l : List Nat) : List Nat := l ++ be32 (sumN l)
def formN (F T K S A : Nat) (x : List Nat) : List Nat := sealed (headN F T K S A x)

/-- What Check takes, in natural numbers. -/
theorem ck_nat {f t k s a : Int} {n : Nat} (h : ckB f t k s a n = true) :
    ∃ F T K S A : Nat, f = F ∧ t = T ∧ k = K ∧ s = S ∧ a = A ∧ F < 16 ∧ T < 16 ∧ F ≠ T ∧ (K = 1 ∨ K = 2) ∧ S ≤ 1099511627776 ∧ A ≤ 1099511627776 ∧ n ≤ 16384 ∧ (K = 2 → S = 0 ∧ n = 0) := by
  simp only [ckB, brB, tmB, kdB, Bool.and_eq_true, decide_eq_true_eq, Bool.or_eq_true, Bool.not_eq_true', Bool.and_eq_false_iff, decide_eq_false_iff_not, Bool.or_eq_false_iff] at h
  obtain ⟨⟨⟨⟨⟨⟨⟨h1, h2⟩, h3⟩, h4⟩, h5⟩, h6⟩, h7⟩, h8⟩ := h
  refine ⟨f.toNat, t.toNat, k.toNat, s.toNat, a.toNat, by omega, by omega, by omega, by omega, by omega, by omega, by omega, by omega, by omega, by omega, by omega, h7, ?_⟩
  intro hk
  rcases h8 with h8 | ⟨h8, h9⟩
  · omega
  · simp at h8; omega
theorem formBits_le (F T K S A : Nat) (x : List Nat) (hS : S ≤ 1099511627776) (hA : A ≤ 1099511627776) (hx : x.length ≤ 16384) : (formBits F T K S A x).length ≤ 131275 := by
  have h1 := ahd_small A hA
  have h2 := ahd_small S hS
  have h3 := ahd_body x.length hx
  unfold formBits
  split
  · rw [dataBits_length]; omega
  · rw [headBits_length]; omega
theorem packed_length (bs : List Bool) : (packed bs).length = (bs.length + 7) / 8 := by rw [packed_packN, packN_length]
theorem sealed_length (l : List Nat) : (sealed l).length = l.length + 4 := by simp [sealed, be32]
theorem be32_small (s : Nat) (hs : s < 4294967296) : ∀ c ∈ be32 s, c < 256 := by
  intro c hc
  simp only [be32, List.mem_cons, List.not_mem_nil, or_false] at hc
  rcases hc with rfl | rfl | rfl | rfl <;> omega
theorem sealed_small (l : List Nat) (h : ∀ c ∈ l, c < 256) : ∀ c ∈ sealed l, c < 256 := by
  intro c hc
  unfold sealed at hc
  rcases List.mem_append.1 hc with h1 | h1
  · exact h c h1
  · exact be32_small _ (sumN_lt l) c h1
end Go.Proofs.Ytebojmjbolphfaa
