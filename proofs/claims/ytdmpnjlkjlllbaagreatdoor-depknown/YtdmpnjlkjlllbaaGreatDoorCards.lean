/-
  DERIVED. GIVEN WITH THE SEED: THE CARDS: each row of YtdmpnjlkjlllbaaGreatDoorRows.lean that lists a variable, with what it lists TIED to the program's text (the seventh form; the later family's looks); each row that meets fmt, with fmt's text TOLD by the authors' own Lean function (tested against real Go, not proved from fmt's source: count such statements apart). THE CARD IS WHAT COUNTS. Prove the row's statement (the work); the ties are given (YtdmpnjlkjlllbaaGreatDoorTie.lean); close each card by the builder's one call (the guide's Derived/Test/ToyasCard.lean, 'card_holds'). Laid BY PROGRAM, IN A SANDBOX (cutbox-door.mjs). By AI agents, Wed Nov 11 2026. No macro, syntax, notation, axiom, sorry.
-/
import Derived.Test.YtdmpnjlkjlllbaaGreatDoorRows
import GoSem.ClaimSeven
namespace Go.Proofs.YtdmpnjlkjlllbaaGreatDoor
namespace Rows

/-- THE TIED CARD OF 'assizelaw12.DepKnown'. -/
def depKnownCard : Claim7 := { stood := { row := depKnownRow, standIns := [], harness := (true, "89c3cd906cbc565d1e7baa720107a5f242ae41f1d43744dffe5018821efd6222"), looks := true }, kinds := [], alts := [], laidByText := true, laidKinds := [.data, .data, .data, .sentinel, .sentinel], laidTests := true, laidLooks := .later }
def DepKnownCardSaid : Prop := Claim7.holds Tryz.pinned (.plain (OpenSpec.ofChange depKnownSpec)) depKnownCard

/-- THE SECOND FORM's CARD OF 'assizelaw12.DepKnown'. -/
def depKnownUptoCard : Claim7 := { stood := { row := depKnownUptoRow, standIns := [], harness := (true, "89c3cd906cbc565d1e7baa720107a5f242ae41f1d43744dffe5018821efd6222"), looks := true }, kinds := [], alts := [], laidByText := true, laidKinds := [.data, .data, .data, .sentinel, .sentinel], laidTests := true, laidLooks := .later }
def DepKnownUptoCardSaid : Prop := Claim7.holds Tryz.pinned (.plain (OpenSpec.upto depKnownSpec)) depKnownUptoCard
end Rows
end Go.Proofs.YtdmpnjlkjlllbaaGreatDoor
