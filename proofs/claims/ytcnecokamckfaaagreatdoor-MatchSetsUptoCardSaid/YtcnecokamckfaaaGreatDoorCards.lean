/-
  DERIVED. GIVEN WITH THE SEED: THE CARDS: each row of YtcnecokamckfaaaGreatDoorRows.lean that lists a variable, with what it lists TIED to the program's text (the seventh form; the later family's looks); each row that meets fmt, with fmt's text TOLD by the authors' own Lean function (tested against real Go, not proved from fmt's source: count such statements apart). THE CARD IS WHAT COUNTS. Prove the row's statement (the work); the ties are given (YtcnecokamckfaaaGreatDoorTie.lean); close each card by the builder's one call (the guide's Derived/Test/ToyasCard.lean, 'card_holds'). Laid BY PROGRAM, IN A SANDBOX (cutbox-door.mjs). By AI agents, Wed Nov 11 2026. No macro, syntax, notation, axiom, sorry.
-/
import Derived.Test.YtcnecokamckfaaaGreatDoorRows
import GoSem.ClaimSeven
namespace Go.Proofs.YtcnecokamckfaaaGreatDoor
namespace Rows

/-- THE TIED CARD OF 'eyrielaw10.MatchSets'. -/
def matchSetsCard : Claim7 := { stood := { row := matchSetsRow, standIns := [], harness := (true, "5e1c4e2ded3864a8c8d03374a996664e9257e5eaad794ce9e1805de6e15f0a85"), looks := true }, kinds := [], alts := [], laidByText := true, laidKinds := [.data, .data, .data], laidTests := true, laidLooks := .later }
def MatchSetsCardSaid : Prop := Claim7.holds Tryz.pinned (.plain (OpenSpec.ofChange matchSetsSpec)) matchSetsCard

/-- THE TIED CARD OF 'eyrielaw10.MatchRises'. -/
def matchRisesCard : Claim7 := { stood := { row := matchRisesRow, standIns := [], harness := (true, "5e1c4e2ded3864a8c8d03374a996664e9257e5eaad794ce9e1805de6e15f0a85"), looks := true }, kinds := [], alts := [], laidByText := true, laidKinds := [.data, .data, .data], laidTests := true, laidLooks := .later }
def MatchRisesCardSaid : Prop := Claim7.holds Tryz.pinned (.plain (OpenSpec.ofChange matchRisesSpec)) matchRisesCard

/-- THE TIED CARD OF 'eyrielaw10.MatchOwn'. -/
def matchOwnCard : Claim7 := { stood := { row := matchOwnRow, standIns := [], harness := (true, "5e1c4e2ded3864a8c8d03374a996664e9257e5eaad794ce9e1805de6e15f0a85"), looks := true }, kinds := [], alts := [], laidByText := true, laidKinds := [.data, .data, .data], laidTests := true, laidLooks := .later }
def MatchOwnCardSaid : Prop := Claim7.holds Tryz.pinned (.plain (OpenSpec.ofChange matchOwnSpec)) matchOwnCard

/-- THE SECOND FORM's CARD OF 'eyrielaw10.MatchSets'. -/
def matchSetsUptoCard : Claim7 := { stood := { row := matchSetsUptoRow, standIns := [], harness := (true, "5e1c4e2ded3864a8c8d03374a996664e9257e5eaad794ce9e1805de6e15f0a85"), looks := true }, kinds := [], alts := [], laidByText := true, laidKinds := [.data, .data, .data], laidTests := true, laidLooks := .later }
def MatchSetsUptoCardSaid : Prop := Claim7.holds Tryz.pinned (.plain (OpenSpec.upto matchSetsSpec)) matchSetsUptoCard

/-- THE SECOND FORM's CARD OF 'eyrielaw10.MatchRises'. -/
def matchRisesUptoCard : Claim7 := { stood := { row := matchRisesUptoRow, standIns := [], harness := (true, "5e1c4e2ded3864a8c8d03374a996664e9257e5eaad794ce9e1805de6e15f0a85"), looks := true }, kinds := [], alts := [], laidByText := true, laidKinds := [.data, .data, .data], laidTests := true, laidLooks := .later }
def MatchRisesUptoCardSaid : Prop := Claim7.holds Tryz.pinned (.plain (OpenSpec.upto matchRisesSpec)) matchRisesUptoCard

/-- THE SECOND FORM's CARD OF 'eyrielaw10.MatchOwn'. -/
def matchOwnUptoCard : Claim7 := { stood := { row := matchOwnUptoRow, standIns := [], harness := (true, "5e1c4e2ded3864a8c8d03374a996664e9257e5eaad794ce9e1805de6e15f0a85"), looks := true }, kinds := [], alts := [], laidByText := true, laidKinds := [.data, .data, .data], laidTests := true, laidLooks := .later }
def MatchOwnUptoCardSaid : Prop := Claim7.holds Tryz.pinned (.plain (OpenSpec.upto matchOwnSpec)) matchOwnUptoCard
end Rows
end Go.Proofs.YtcnecokamckfaaaGreatDoor
