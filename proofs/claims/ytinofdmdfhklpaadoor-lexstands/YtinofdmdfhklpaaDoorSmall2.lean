/- real.Neg and real.ToInt, and the document's own. -/
import Derived.Test.YtinofdmdfhklpaaDoorFlVal
import Derived.Test.YtinofdmdfhklpaaDoorSmall
import Derived.Laws.Bits64
namespace Go.Proofs.YtinofdmdfhklpaaDoor
open Go.RowKit
set_option linter.unusedVariables false

end Go.Proofs.YtinofdmdfhklpaaDoor
