/- wire's functions do what the walks of the statements ask. -/
import Derived.Test.YtjhmjimfehanbaaWireU
import Derived.Test.YtjhmjimfehanbaaWireO
import Derived.Test.YtjhmjimfehanbaaWireP
namespace Go.Proofs.Ytjhmjimfehanbaa.Wire
open Go.RowKit Fold Name

theorem does : Does where
  get := fun v a l w hr hl h1 h2 => get_any v a l w hr hl h1 h2
  all := fun v l w hr hl => all_any v l w hr hl
  pack := fun v L w hr h => pack_any v L w hr h
  put := fun v l w hr h => put_any v l w hr h
end Go.Proofs.Ytjhmjimfehanbaa.Wire
