/-
  DERIVED. GIVEN WITH THE SEED: THE CARDS: each row of YthgjjogleklmcaaGreatDoorRows.lean that lists a variable, with what it lists TIED to the program's text (the seventh form; the later family's looks); each row that meets fmt, with fmt's text TOLD by the authors' own Lean function (tested against real Go, not proved from fmt's source: count such statements apart). THE CARD IS WHAT COUNTS. Prove the row's statement (the work); the ties are given (YthgjjogleklmcaaGreatDoorTie.lean); close each card by the builder's one call (the guide's Derived/Test/ToyasCard.lean, 'card_holds'). Laid BY PROGRAM, IN A SANDBOX (cutbox-door.mjs). By AI agents, Wed Nov 11 2026. No macro, syntax, notation, axiom, sorry.
-/
import Derived.Test.YthgjjogleklmcaaGreatDoorRows
import GoSem.ClaimSeven
namespace Go.Proofs.YthgjjogleklmcaaGreatDoor
namespace Rows

/-- THE TIED CARD OF 'assizelaw08.SemNil'. -/
def semNilCard : Claim7 := { stood := { row := semNilRow, standIns := [], harness := (true, "301cb5829d386d90d002607cdcccfe144849e1e70515d96e4b56fbde68181185"), looks := true }, kinds := [], alts := [], laidByText := true, laidKinds := [.data, .data, .data, .sentinel, .sentinel], laidTests := true, laidLooks := .later }
def SemNilCardSaid : Prop := Claim7.holds Tryz.pinned (.plain (OpenSpec.ofChange semNilSpec)) semNilCard

/-- THE SECOND FORM's CARD OF 'assizelaw08.SemNil'. -/
def semNilUptoCard : Claim7 := { stood := { row := semNilUptoRow, standIns := [], harness := (true, "301cb5829d386d90d002607cdcccfe144849e1e70515d96e4b56fbde68181185"), looks := true }, kinds := [], alts := [], laidByText := true, laidKinds := [.data, .data, .data, .sentinel, .sentinel], laidTests := true, laidLooks := .later }
def SemNilUptoCardSaid : Prop := Claim7.holds Tryz.pinned (.plain (OpenSpec.upto semNilSpec)) semNilUptoCard
end Rows
end Go.Proofs.YthgjjogleklmcaaGreatDoor
