/- Joined texts of the proof. -/
import Derived.Test.YtjgggmjjikopeaaGreatDoorJ13

/- The document's own number, without a point (2a). -/
namespace Go.Proofs.YtjgggmjjikopeaaGreatDoor
open Go.RowKit
set_option linter.unusedVariables false

end Go.Proofs.YtjgggmjjikopeaaGreatDoor
