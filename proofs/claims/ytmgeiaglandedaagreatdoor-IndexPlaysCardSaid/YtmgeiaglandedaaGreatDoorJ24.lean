/- Plain mathematics of fold: lists of integers for texts. Contracts of fold's small functions, Lower and the document's. -/
import Derived.Test.YtmgeiaglandedaaGreatDoorRows
import Derived.Test.YtmgeiaglandedaaGreatDoorJ0
namespace Go.Proofs.YtmgeiaglandedaaGreatDoor.Fold
end Go.Proofs.YtmgeiaglandedaaGreatDoor.Fold

namespace Go.Proofs.YtmgeiaglandedaaGreatDoor.Fold
open Go.RowKit
set_option linter.unusedVariables false
end Go.Proofs.YtmgeiaglandedaaGreatDoor.Fold
