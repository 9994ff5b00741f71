/- The document's Store once more: what it answers lies in new memory (made out of XNumJ, XNumK). -/
import Derived.Test.YtkknegnipodcnaaDoorNumK
namespace Go.Proofs.YtkknegnipodcnaaDoor.Num
open Go.RowKit
set_option linter.unusedVariables false

def StoredF (w : World) (l : List Int) (a x v : Int) (e : Ending) (w' : World) : Prop :=
  ∃ u, e = .returned (.tuple #[u, .int .i64 (ste l a x v)]) ∧ Below w.heap.size w w' ∧ Row .u8 w' u (if ste l a x v = 0 then stl l a.toNat x.toNat v else []) ∧ ∀ k, u.ownBlock = some k → w.heap.size ≤ k

end Go.Proofs.YtkknegnipodcnaaDoor.Num
