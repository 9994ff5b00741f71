/- What is asked of class's functions; classes; the walks of the statements. -/
import Derived.Test.YtemkmkkpamhfoaaDoorClsA
namespace Go.Proofs.YtemkmkkpamhfoaaDoor.Cls
open Go.RowKit
set_option linter.unusedVariables false

end Go.Proofs.YtemkmkkpamhfoaaDoor.Cls
