/- The boxes of a block and of an act. -/
import Derived.Test.YtmgeiaglandedaaGreatDoorJ22
namespace Go.Proofs.YtmgeiaglandedaaGreatDoor.Ind
open Go.RowKit Num
open Mem (Hm)
set_option linter.unusedVariables false
theorem box8 {W V:World} {h:Hm} {w0:Nat} {kd N p:Int} {nd:Bool} {nm ty hs:Int} {lb:ByteArray} (hg:W.heap[w0]? = some (.cells #[.int .i64 kd,.int .i64 N,.int .i64 p,.bool nd,.int .u32 nm,.int .u16 ty,.string lb,.int .u32 hs] 64 (0,0))) :
    W.cell? ⟨w0,0,none⟩=some (.int .i64 kd)∧W.cell? ⟨w0,1,none⟩=some (.int .i64 N)∧W.cell? ⟨w0,2,none⟩=some (.int .i64 p)∧W.cell? ⟨w0,3,none⟩=some (.bool nd)∧W.cell? ⟨w0,4,none⟩=some (.int .u32 nm)∧W.cell? ⟨w0,5,none⟩=some (.int .u16 ty)∧W.cell? ⟨w0,6,none⟩=some (.string lb)∧W.cell? ⟨w0,7,none⟩=some (.int .u32 hs) :=
  ⟨(cell_block hg 0).trans rfl,(cell_block hg 1).trans rfl,(cell_block hg 2).trans rfl,(cell_block hg 3).trans rfl,(cell_block hg 4).trans rfl,(cell_block hg 5).trans rfl,(cell_block hg 6).trans rfl,(cell_block hg 7).trans rfl⟩
theorem box6 {W V:World} {h:Hm} {w0:Nat} {p:Int} {nd:Bool} {nm ty hs:Int} {lb:ByteArray} (hg:W.heap[w0]? = some (.cells #[.int .i64 p,.bool nd,.int .u32 nm,.int .u16 ty,.string lb,.int .u32 hs] 62 (0,0))) :
    W.cell? ⟨w0,0,none⟩=some (.int .i64 p)∧W.cell? ⟨w0,1,none⟩=some (.bool nd)∧W.cell? ⟨w0,2,none⟩=some (.int .u32 nm)∧W.cell? ⟨w0,3,none⟩=some (.int .u16 ty)∧W.cell? ⟨w0,4,none⟩=some (.string lb)∧W.cell? ⟨w0,5,none⟩=some (.int .u32 hs) :=
  ⟨(cell_block hg 0).trans rfl,(cell_block hg 1).trans rfl,(cell_block hg 2).trans rfl,(cell_block hg 3).trans rfl,(cell_block hg 4).trans rfl,(cell_block hg 5).trans rfl⟩
end Go.Proofs.YtmgeiaglandedaaGreatDoor.Ind
