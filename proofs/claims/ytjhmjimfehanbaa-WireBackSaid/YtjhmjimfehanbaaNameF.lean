/- Contracts of the document's Shared, of Below; names. -/
import Derived.Test.YtjhmjimfehanbaaNameD
import Derived.Test.YtjhmjimfehanbaaNameE
namespace Go.Proofs.Ytjhmjimfehanbaa.Name
open Go.RowKit Fold
set_option linter.unusedVariables false

end Go.Proofs.Ytjhmjimfehanbaa.Name
