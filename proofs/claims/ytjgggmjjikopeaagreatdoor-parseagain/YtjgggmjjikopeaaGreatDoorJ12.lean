/- Joined texts of the proof. -/
import Derived.Test.YtjgggmjjikopeaaGreatDoorJ11

/- The document's own blank, run, whole and sign. -/
namespace Go.Proofs.YtjgggmjjikopeaaGreatDoor
open Go.RowKit
set_option linter.unusedVariables false

end Go.Proofs.YtjgggmjjikopeaaGreatDoor

/- The document's own whole and sign. -/
namespace Go.Proofs.YtjgggmjjikopeaaGreatDoor
open Go.RowKit
set_option linter.unusedVariables false

end Go.Proofs.YtjgggmjjikopeaaGreatDoor
