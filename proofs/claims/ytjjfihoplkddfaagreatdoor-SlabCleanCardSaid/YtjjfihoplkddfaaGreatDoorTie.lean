/-
  DERIVED. GIVEN WITH THE SEED: THE PROGRAM's TIES (one call each: nine closed facts by the kernel) AND EACH ROW's TIE, after the 31st guide's Derived/Test/Toyas{Tie, Card}.lean. No idea stands in it: it is a product of the set-up. Laid BY PROGRAM, IN A SANDBOX (cutbox-door.mjs). By AI agents, Wed Nov 11 2026. No macro, syntax, notation, axiom, sorry.
-/
import Derived.Test.YtjjfihoplkddfaaGreatDoorRows
import Derived.LaidByTextLater
import Derived.SevenTiedAt
import Derived.LaidSub
import Derived.LaidOnce
namespace Go.Proofs.YtjjfihoplkddfaaGreatDoor
open Go
set_option maxRecDepth 100000
theorem seatTie1 : Tryz.prog.laidByTextLater [("columbarium/class.sizes", Rows.laid_columbarium_class_sizes), ("errors.errorType", Rows.laid_errors_errorType), ("columbarium/memory.places", Rows.laid_columbarium_memory_places), ("columbarium/head.places", Rows.laid_columbarium_head_places), ("columbarium/head.order", Rows.laid_columbarium_head_order), ("columbarium/ring.cursors", Rows.laid_columbarium_ring_cursors)] [.data, .handle, .data, .data, .data, .data] true :=
  Program.laidByTextLater_by_one 67 8 73 (by kernel_rfl) (by kernel_rfl) (by kernel_rfl) (by kernel_rfl) (by kernel_rfl) (by kernel_rfl) (fun _ _ => by kernel_rfl)
theorem noOwnUnsafe : Tryz.pinned.checked.prog.headLifts.contains "ownunsafe" = false := by kernel_rfl
theorem tie : Tryz.prog.laidByTextLater [("columbarium/class.sizes", Rows.laid_columbarium_class_sizes), ("columbarium/memory.places", Rows.laid_columbarium_memory_places), ("columbarium/head.places", Rows.laid_columbarium_head_places), ("columbarium/head.order", Rows.laid_columbarium_head_order)] [.data, .data, .data, .data] true :=
  Program.laidByTextLater.sub seatTie1 ["columbarium/class.sizes", "columbarium/memory.places", "columbarium/head.places", "columbarium/head.order"] (by kernel_rfl) (by kernel_rfl)
theorem slabPlays_row_tie : Rows.slabPlaysRow.laidByTextAt .later Tryz.pinned [.data, .data, .data, .data] true :=
  OpenClaim.laidByTextAt_later rfl rfl tie noOwnUnsafe
theorem slabClean_row_tie : Rows.slabCleanRow.laidByTextAt .later Tryz.pinned [.data, .data, .data, .data] true :=
  OpenClaim.laidByTextAt_later rfl rfl tie noOwnUnsafe
theorem tie2 : Tryz.prog.laidByTextLater [("columbarium/class.sizes", Rows.laid_columbarium_class_sizes), ("errors.errorType", Rows.laid_errors_errorType), ("columbarium/memory.places", Rows.laid_columbarium_memory_places), ("columbarium/head.places", Rows.laid_columbarium_head_places), ("columbarium/head.order", Rows.laid_columbarium_head_order)] [.data, .handle, .data, .data, .data] true :=
  Program.laidByTextLater.sub seatTie1 ["columbarium/class.sizes", "errors.errorType", "columbarium/memory.places", "columbarium/head.places", "columbarium/head.order"] (by kernel_rfl) (by kernel_rfl)
theorem regionBack_row_tie : Rows.regionBackRow.laidByTextAt .later Tryz.pinned [.data, .handle, .data, .data, .data] true :=
  OpenClaim.laidByTextAt_later rfl rfl tie2 noOwnUnsafe
theorem regionRestores_row_tie : Rows.regionRestoresRow.laidByTextAt .later Tryz.pinned [.data, .handle, .data, .data, .data] true :=
  OpenClaim.laidByTextAt_later rfl rfl tie2 noOwnUnsafe
theorem tie3 : Tryz.prog.laidByTextLater [("columbarium/class.sizes", Rows.laid_columbarium_class_sizes), ("columbarium/memory.places", Rows.laid_columbarium_memory_places), ("columbarium/head.places", Rows.laid_columbarium_head_places), ("columbarium/head.order", Rows.laid_columbarium_head_order), ("columbarium/ring.cursors", Rows.laid_columbarium_ring_cursors)] [.data, .data, .data, .data, .data] true :=
  Program.laidByTextLater.sub seatTie1 ["columbarium/class.sizes", "columbarium/memory.places", "columbarium/head.places", "columbarium/head.order", "columbarium/ring.cursors"] (by kernel_rfl) (by kernel_rfl)
theorem ringPlays_row_tie : Rows.ringPlaysRow.laidByTextAt .later Tryz.pinned [.data, .data, .data, .data, .data] true :=
  OpenClaim.laidByTextAt_later rfl rfl tie3 noOwnUnsafe
theorem slabPlaysUpto_row_tie : Rows.slabPlaysUptoRow.laidByTextAt .later Tryz.pinned [.data, .data, .data, .data] true :=
  OpenClaim.laidByTextAt_later rfl rfl tie noOwnUnsafe
theorem slabCleanUpto_row_tie : Rows.slabCleanUptoRow.laidByTextAt .later Tryz.pinned [.data, .data, .data, .data] true :=
  OpenClaim.laidByTextAt_later rfl rfl tie noOwnUnsafe
theorem regionBackUpto_row_tie : Rows.regionBackUptoRow.laidByTextAt .later Tryz.pinned [.data, .handle, .data, .data, .data] true :=
  OpenClaim.laidByTextAt_later rfl rfl tie2 noOwnUnsafe
theorem regionRestoresUpto_row_tie : Rows.regionRestoresUptoRow.laidByTextAt .later Tryz.pinned [.data, .handle, .data, .data, .data] true :=
  OpenClaim.laidByTextAt_later rfl rfl tie2 noOwnUnsafe
theorem ringPlaysUpto_row_tie : Rows.ringPlaysUptoRow.laidByTextAt .later Tryz.pinned [.data, .data, .data, .data, .data] true :=
  OpenClaim.laidByTextAt_later rfl rfl tie3 noOwnUnsafe
end Go.Proofs.YtjjfihoplkddfaaGreatDoor
