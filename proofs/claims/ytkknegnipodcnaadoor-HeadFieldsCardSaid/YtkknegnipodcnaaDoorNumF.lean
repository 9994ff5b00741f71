/- Contracts of the document's Same and Store, and of what must come at any rate. -/
import Derived.Test.YtkknegnipodcnaaDoorNumE
namespace Go.Proofs.YtkknegnipodcnaaDoor.Num
open Go.RowKit
set_option linter.unusedVariables false

theorem madeCells_one (z : Value) (n : Nat) : madeCells #[z] n = (List.replicate n z).toArray := by
  apply Array.ext
  · simp [madeCells]
  · intro i h1 h2
    simp [madeCells, Nat.mod_one]

theorem row_zeros4 (w : World) : Row .u8 (w.alloc (.cells (madeCells (Value.int .u8 0).cells 4) 5)) (.slice (some ⟨w.heap.size, 0, none⟩) 4 4) [0, 0, 0, 0] :=
  row_of_block (l := [0, 0, 0, 0]) (t := 5) (by rw [heap_alloc_new]; exact congrArg (fun c => some (Obj.cells c 5)) (madeCells_one _ 4)) (by intro i; match i with | 0 | 1 | 2 | 3 => decide | j + 4 => simp) (by decide)

end Go.Proofs.YtkknegnipodcnaaDoor.Num
