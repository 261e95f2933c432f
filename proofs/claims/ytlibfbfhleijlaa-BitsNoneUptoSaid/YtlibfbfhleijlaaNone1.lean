/- Contracts of the calls on a sink or a source that no call made: the nil pointer, or the zero struct. -/
import Derived.Test.YtlibfbfhleijlaaArgs
namespace Go.Proofs.Ytlibfbfhleijlaa
open Go Go.RowKit

/-- The nil pointer, or the address of a struct whose first field says that it was not made. -/
def Unmade (w : World) (po : Option Addr) : Prop := po = none ∨ ∃ z, po = some ⟨z, 0, none⟩ ∧ w.cell? ⟨z, 0, none⟩ = some (.bool false)

theorem kIsMade_no (po : Option Addr) (w : World) (h : Unmade w po) :
    Calls Try.prog 38 #[.pointer po] w fun e w' => e = .returned (.bool false) ∧ w = w' := by
  rcases h with rfl | ⟨z, rfl, hz⟩
  · go_enter Try.func38, Try.ntmps38
    go_wp2
    go_ret
    exact ⟨rfl, rfl⟩
  · go_enter Try.func38, Try.ntmps38
    go_wp2
    go_ret
    exact ⟨rfl, rfl⟩
theorem sIsMade_no (po : Option Addr) (w : World) (h : Unmade w po) :
    Calls Try.prog 44 #[.pointer po] w fun e w' => e = .returned (.bool false) ∧ w = w' := by
  rcases h with rfl | ⟨z, rfl, hz⟩
  · go_enter Try.func44, Try.ntmps44
    go_wp2
    go_ret
    exact ⟨rfl, rfl⟩
  · go_enter Try.func44, Try.ntmps44
    go_wp2
    go_ret
    exact ⟨rfl, rfl⟩

theorem kBits_no (po : Option Addr) (u n : Int) (w : World) (h : Unmade w po) :
    Calls Try.prog 29 #[.pointer po, .int .u64 u, .int .i64 n] w fun e w' => e = .returned (.int .i64 2) ∧ w = w' := by
  have C := kIsMade_no po w h
  clear h
  go_enter Try.func29, Try.ntmps29
  go_wp2_with (go_at_call 38; refine C.mono ?_; rintro e w' ⟨rfl, rfl⟩)
  go_ret
  exact ⟨rfl, rfl⟩
theorem kNat_no (po : Option Addr) (u : Int) (w : World) (h : Unmade w po) :
    Calls Try.prog 28 #[.pointer po, .int .u64 u] w fun e w' => e = .returned (.int .i64 2) ∧ w = w' := by
  have C := kIsMade_no po w h
  clear h
  go_enter Try.func28, Try.ntmps28
  go_wp2_with (go_at_call 38; refine C.mono ?_; rintro e w' ⟨rfl, rfl⟩)
  go_ret
  exact ⟨rfl, rfl⟩
theorem fold_five (w : World) : Calls Try.prog 54 #[.int .i64 5] w fun e w' => e = .returned (.int .u64 10) ∧ w = w' := by
  go_enter Try.func54, Try.ntmps54
  go_wp2
  go_ret
  exact ⟨rfl, rfl⟩
theorem kNum_no (po : Option Addr) (w : World) (h : Unmade w po) :
    Calls Try.prog 30 #[.pointer po, .int .i64 5] w fun e w' => e = .returned (.int .i64 2) ∧ w = w' := by
  have C := kNat_no po 10 w h
  have F := fold_five w
  clear h
  go_enter Try.func30, Try.ntmps30
  go_wp2_with (first | (go_at_call 54; refine F.mono ?_; rintro e w' ⟨rfl, rfl⟩) | (go_at_call 28; refine C.mono ?_; rintro e w' ⟨rfl, rfl⟩))
  go_ret
  exact ⟨rfl, rfl⟩
set_option maxRecDepth 100000 in
theorem kText_no (po : Option Addr) (s : ByteArray) (w : World) (h : Unmade w po) :
    Calls Try.prog 31 #[.pointer po, .string s] w fun e w' => e = .returned (.int .i64 2) ∧ w = w' := by
  have C := kIsMade_no po w h
  clear h
  go_enter Try.func31, Try.ntmps31
  go_wp2_with (go_at_call 38; refine C.mono ?_; rintro e w' ⟨rfl, rfl⟩)
  go_ret
  exact ⟨rfl, rfl⟩
theorem kFlags_no (po : Option Addr) (v : Value) (w : World) (h : Unmade w po) :
    Calls Try.prog 32 #[.pointer po, v] w fun e w' => e = .returned (.int .i64 2) ∧ w = w' := by
  have C := kIsMade_no po w h
  clear h
  go_enter Try.func32, Try.ntmps32
  go_wp2_with (go_at_call 38; refine C.mono ?_; rintro e w' ⟨rfl, rfl⟩)
  go_ret
  exact ⟨rfl, rfl⟩
theorem kLen_no (po : Option Addr) (w : World) (h : Unmade w po) :
    Calls Try.prog 11 #[.pointer po] w fun e w' => e = .returned (.int .i64 0) ∧ w = w' := by
  have C := kIsMade_no po w h
  clear h
  go_enter Try.func11, Try.ntmps11
  go_wp2_with (go_at_call 38; refine C.mono ?_; rintro e w' ⟨rfl, rfl⟩)
  go_ret
  exact ⟨rfl, rfl⟩
theorem kOut_no (po : Option Addr) (w : World) (h : Unmade w po) :
    Calls Try.prog 13 #[.pointer po] w fun e w' => e = .returned (.slice none 0 0) ∧ w = w' := by
  have C := kIsMade_no po w h
  clear h
  go_enter Try.func13, Try.ntmps13
  go_wp2_with (go_at_call 38; refine C.mono ?_; rintro e w' ⟨rfl, rfl⟩)
  go_ret
  exact ⟨rfl, rfl⟩

theorem sBits_no (po : Option Addr) (n : Int) (w : World) (h : Unmade w po) :
    Calls Try.prog 21 #[.pointer po, .int .i64 n] w fun e w' => e = .returned (.tuple #[.int .u64 0, .int .i64 2]) ∧ w = w' := by
  have C := sIsMade_no po w h
  clear h
  go_enter Try.func21, Try.ntmps21
  go_wp2_with (go_at_call 44; refine C.mono ?_; rintro e w' ⟨rfl, rfl⟩)
  go_ret2
  exact ⟨rfl, rfl⟩
theorem sNat_no (po : Option Addr) (w : World) (h : Unmade w po) :
    Calls Try.prog 22 #[.pointer po] w fun e w' => e = .returned (.tuple #[.int .u64 0, .int .i64 2]) ∧ w = w' := by
  have C := sIsMade_no po w h
  clear h
  go_enter Try.func22, Try.ntmps22
  go_wp2_with (go_at_call 44; refine C.mono ?_; rintro e w' ⟨rfl, rfl⟩)
  go_ret2
  exact ⟨rfl, rfl⟩
theorem sNum_no (po : Option Addr) (w : World) (h : Unmade w po) :
    Calls Try.prog 23 #[.pointer po] w fun e w' => e = .returned (.tuple #[.int .i64 0, .int .i64 2]) ∧ w = w' := by
  have C := sNat_no po w h
  clear h
  go_enter Try.func23, Try.ntmps23
  go_wp2_with (go_at_call 22; refine C.mono ?_; rintro e w' ⟨rfl, rfl⟩)
  go_ret2
  exact ⟨rfl, rfl⟩
set_option maxRecDepth 100000 in
theorem sText_no (po : Option Addr) (w : World) (h : Unmade w po) :
    Calls Try.prog 24 #[.pointer po] w fun e w' => e = .returned (.tuple #[.string ByteArray.empty, .int .i64 2]) ∧ w = w' := by
  have C := sIsMade_no po w h
  clear h
  go_enter Try.func24, Try.ntmps24
  go_wp2_with (go_at_call 44; refine C.mono ?_; rintro e w' ⟨rfl, rfl⟩)
  go_ret2
  exact ⟨rfl, rfl⟩
theorem sFlag_no (po : Option Addr) (w : World) (h : Unmade w po) :
    Calls Try.prog 25 #[.pointer po] w fun e w' => e = .returned (.tuple #[.bool false, .int .i64 2]) ∧ w = w' := by
  have C := sBits_no po 1 w h
  clear h
  go_enter Try.func25, Try.ntmps25
  go_wp2_with (go_at_call 21; refine C.mono ?_; rintro e w' ⟨rfl, rfl⟩)
  go_ret2
  exact ⟨rfl, rfl⟩
theorem sLeft_no (po : Option Addr) (w : World) (h : Unmade w po) :
    Calls Try.prog 18 #[.pointer po] w fun e w' => e = .returned (.int .i64 0) ∧ w = w' := by
  have C := sIsMade_no po w h
  clear h
  go_enter Try.func18, Try.ntmps18
  go_wp2_with (go_at_call 44; refine C.mono ?_; rintro e w' ⟨rfl, rfl⟩)
  go_ret
  exact ⟨rfl, rfl⟩
theorem sEnd_no (po : Option Addr) (w : World) (h : Unmade w po) :
    Calls Try.prog 19 #[.pointer po] w fun e w' => e = .returned (.int .i64 2) ∧ w = w' := by
  have C := sIsMade_no po w h
  clear h
  go_enter Try.func19, Try.ntmps19
  go_wp2_with (go_at_call 44; refine C.mono ?_; rintro e w' ⟨rfl, rfl⟩)
  go_ret
  exact ⟨rfl, rfl⟩
end Go.Proofs.Ytlibfbfhleijlaa
