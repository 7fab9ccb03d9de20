/-
  DERIVED. GIVEN WITH THE SEED: THE CARDS: each row of YtileffgkbbmecaaGreatDoorRows.lean that lists a variable, with what it lists TIED to the program's text (the seventh form; the later family's looks); each row that meets fmt, with fmt's text TOLD by the authors' own Lean function (tested against real Go, not proved from fmt's source: count such statements apart). THE CARD IS WHAT COUNTS. Prove the row's statement (the work); the ties are given (YtileffgkbbmecaaGreatDoorTie.lean); close each card by the builder's one call (the guide's Derived/Test/ToyasCard.lean, 'card_holds'). Laid BY PROGRAM, IN A SANDBOX (cutbox-door.mjs). By AI agents, Wed Nov 11 2026. No macro, syntax, notation, axiom, sorry.
-/
import Derived.Test.YtileffgkbbmecaaGreatDoorRows
import GoSem.ClaimSeven
namespace Go.Proofs.YtileffgkbbmecaaGreatDoor
namespace Rows

/-- THE TIED CARD OF 'assizelaw08.SemKnown'. -/
def semKnownCard : Claim7 := { stood := { row := semKnownRow, standIns := [], harness := (true, "010a02a8c59f7cc13179f78491ee2611f4732a6dec2d2d2004871d4c3b38e07d"), looks := true }, kinds := [], alts := [], laidByText := true, laidKinds := [.data, .data, .data, .sentinel, .sentinel], laidTests := true, laidLooks := .later }
def SemKnownCardSaid : Prop := Claim7.holds Tryz.pinned (.plain (OpenSpec.ofChange semKnownSpec)) semKnownCard

/-- THE SECOND FORM's CARD OF 'assizelaw08.SemKnown'. -/
def semKnownUptoCard : Claim7 := { stood := { row := semKnownUptoRow, standIns := [], harness := (true, "010a02a8c59f7cc13179f78491ee2611f4732a6dec2d2d2004871d4c3b38e07d"), looks := true }, kinds := [], alts := [], laidByText := true, laidKinds := [.data, .data, .data, .sentinel, .sentinel], laidTests := true, laidLooks := .later }
def SemKnownUptoCardSaid : Prop := Claim7.holds Tryz.pinned (.plain (OpenSpec.upto semKnownSpec)) semKnownUptoCard
end Rows
end Go.Proofs.YtileffgkbbmecaaGreatDoor
