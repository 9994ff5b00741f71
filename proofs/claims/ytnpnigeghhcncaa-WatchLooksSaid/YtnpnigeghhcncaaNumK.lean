/- Contract of the document's Store, whatever it is given, and the walk of the statement NumStores. -/
import Derived.Test.YtnpnigeghhcncaaNumJ
namespace Go.Proofs.Ytnpnigeghhcncaa.Num
open Go.RowKit
set_option linter.unusedVariables false

end Go.Proofs.Ytnpnigeghhcncaa.Num
