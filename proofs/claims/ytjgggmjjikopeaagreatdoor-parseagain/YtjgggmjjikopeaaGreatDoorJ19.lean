/- Joined texts of the proof. -/
import Derived.Test.YtjgggmjjikopeaaGreatDoorJ16
import Derived.Test.YtjgggmjjikopeaaGreatDoorJ15
import Derived.Test.YtjgggmjjikopeaaGreatDoorJ14
import Derived.Test.YtjgggmjjikopeaaGreatDoorJ17

/- The document's own one: the token at a place. -/
namespace Go.Proofs.YtjgggmjjikopeaaGreatDoor
open Go.RowKit
set_option linter.unusedVariables false

end Go.Proofs.YtjgggmjjikopeaaGreatDoor
