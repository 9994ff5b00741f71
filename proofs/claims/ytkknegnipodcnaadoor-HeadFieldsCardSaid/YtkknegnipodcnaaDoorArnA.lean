/- Contracts of the document's arena: its making, what fits, what is read. -/
import Derived.Test.YtkknegnipodcnaaDoorArnM
import Derived.Test.YtkknegnipodcnaaDoorNumS
import Derived.Test.YtkknegnipodcnaaDoorKit9
namespace Go.Proofs.YtkknegnipodcnaaDoor.Arn
open Go.RowKit Num
set_option linter.unusedVariables false

theorem infoB : (Tryd.prog.info? 5).map (fun i => (i.zero, i.size, i.bytes)) = some (some (.int .u8 0), 1, 1) := by kernel_rfl
theorem zeros_getD (n i : Nat) : (List.replicate n (0 : Int)).getD i 0 = 0 := by
  simp [List.getD, List.getElem?_replicate]
  split <;> rfl
theorem row_zeros (w : World) (n : Nat) (t : TypeId) (h : n ≤ 9223372036854775807) : Row .u8 (w.alloc (.cells (madeCells #[.int .u8 0] n) t)) (.slice (some ⟨w.heap.size, 0, none⟩) n n) (List.replicate n 0) := by
  refine ⟨_, _, by rw [List.length_replicate], by simp, h, fun i _ => by rw [zeros_getD]; rfl, fun _ => ⟨w.heap.size, 0, rfl, by have : (w.alloc (.cells (madeCells #[.int .u8 0] n) t)).heap.size = w.heap.size + 1 := Array.size_push _; omega, fun i hi => ?_⟩⟩
  rw [List.length_replicate] at hi
  rw [Nat.zero_add, cell_block (heap_alloc_new w _), madeCells_one, zeros_getD]
  simp [hi]

end Go.Proofs.YtkknegnipodcnaaDoor.Arn
