/- Contracts of the document's functions on classes. -/
import Derived.Test.YtemkmkkpamhfoaaDoorRows
import Derived.Test.YtemkmkkpamhfoaaDoorClsM
namespace Go.Proofs.YtemkmkkpamhfoaaDoor.Cls
open Go.RowKit
set_option linter.unusedVariables false

theorem ret_two {a b c d : Int} (h1 : a = c) (h2 : b = d) : Ending.returned (.tuple #[.int .i64 a, .int .i64 b]) = .returned (.tuple #[.int .i64 c, .int .i64 d]) := by rw [h1, h2]
theorem ret_ib {a c : Int} {b d : Bool} (h1 : a = c) (h2 : b = d) : Ending.returned (.tuple #[.int .i64 a, .bool b]) = .returned (.tuple #[.int .i64 c, .bool d]) := by rw [h1, h2]

end Go.Proofs.YtemkmkkpamhfoaaDoor.Cls
