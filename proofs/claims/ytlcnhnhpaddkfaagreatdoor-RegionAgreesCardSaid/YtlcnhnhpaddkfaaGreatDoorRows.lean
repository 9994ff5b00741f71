/-
  NARROWER THAN 'FOR EVERY INPUT', by the rows' own cells (each row's printed sentence says how): SlabPlays: laid · SlabBlocks: laid · SlabOnce: laid · SlabBack: laid · SlabClean: laid · RegionRuns: laid · RegionAgrees: laid · RegionBack: laid · RegionRestores: laid.
  DERIVED. THE GIVEN ROWS OF THIS SEAT. 9 by the template 'for every input the law returns true; each argument reads behind the call as it read before'; 0 by the template 'total and deterministic' (their statements: YtlcnhnhpaddkfaaGreatDoorTotals.lean).
  GIVEN WITH THE SEED: the statements are not yours to turn. If you find one false, say at which input.
  Laid BY PROGRAM, IN A SANDBOX (cutbox-rows.mjs): the forced cells as the released guide's own fill.sh prints them over the translation 3f9d7b4d83662621… (all of the seat's roots in one cut). By AI agents, Wed Nov 11 2026. No macro, syntax, notation, axiom, sorry.
-/
import Derived.Test.YtlcnhnhpaddkfaaGreatDoorChecked
import GoSem.Claim
import GoSem.ClaimJoined
import GoSem.ClaimMapViews
import Derived.JoinedTies
import Derived.KernelRfl
namespace Go.Proofs.YtlcnhnhpaddkfaaGreatDoor
/- THE CELL 'sum', in the pinned program and in every row, IS THE sha256 OF THE DUMP (.gsa) THAT YtlcnhnhpaddkfaaGreatDoorProg.lean LOADS. Nothing in Lean hashes anything: it is a label: what it is worth is what the hold of that sum in a sandbox is worth. -/
noncomputable def Tryz.pinned : Pinned := { name := "ytlcnhnhpaddkfaagreatdoor", sum := "3f9d7b4d8366262158d4397f769d905efda05aafd0c564af1cb5be31d7cbb9bd", checked := Tryz.checked }
namespace Rows
def none {H : Type} : Left H := { results := [], args := [] }

/- WHAT THE LISTED PACKAGE-LEVEL VARIABLES READ AS WHEN THE CALL BEGINS. Each datum BY PROGRAM (the guide's laid-datum.mjs) off the statement by which the dump's own 'gosem.cut.vars' lays the variable. In a bare row this is a premise. The card (YtlcnhnhpaddkfaaGreatDoorCards.lean) ties it to the program's text. -/
def laid_columbarium_class_sizes {H : Type} : DataW H := .agg [.lit (.int .i64 32), .lit (.int .i64 48), .lit (.int .i64 64), .lit (.int .i64 96), .lit (.int .i64 128), .lit (.int .i64 192), .lit (.int .i64 256), .lit (.int .i64 384), .lit (.int .i64 512)]
def laid_columbarium_memory_places {H : Type} : DataW H := .agg [.lit (.int .i64 8), .lit (.int .i64 12), .lit (.int .i64 16), .lit (.int .i64 20), .lit (.int .i64 24), .lit (.int .i64 28), .lit (.int .i64 32), .lit (.int .i64 36), .lit (.int .i64 40), .lit (.int .i64 44), .lit (.int .i64 48), .lit (.int .i64 52), .lit (.int .i64 56), .lit (.int .i64 60), .lit (.int .i64 64), .lit (.int .i64 68), .lit (.int .i64 72), .lit (.int .i64 80), .lit (.int .i64 84), .lit (.int .i64 88), .lit (.int .i64 92), .lit (.int .i64 96)]
def laid_columbarium_head_places {H : Type} : DataW H := .agg [.agg [.agg [.lit (.int .i64 0), .lit (.int .i64 1)], .agg [.lit (.int .i64 1), .lit (.int .i64 1)], .agg [.lit (.int .i64 2), .lit (.int .i64 1)], .agg [.lit (.int .i64 3), .lit (.int .i64 1)], .agg [.lit (.int .i64 4), .lit (.int .i64 4)], .agg [.lit (.int .i64 0), .lit (.int .i64 0)], .agg [.lit (.int .i64 0), .lit (.int .i64 0)], .agg [.lit (.int .i64 0), .lit (.int .i64 0)], .agg [.lit (.int .i64 0), .lit (.int .i64 0)], .agg [.lit (.int .i64 0), .lit (.int .i64 0)], .agg [.lit (.int .i64 0), .lit (.int .i64 0)], .agg [.lit (.int .i64 0), .lit (.int .i64 0)]], .agg [.agg [.lit (.int .i64 0), .lit (.int .i64 1)], .agg [.lit (.int .i64 1), .lit (.int .i64 1)], .agg [.lit (.int .i64 2), .lit (.int .i64 1)], .agg [.lit (.int .i64 3), .lit (.int .i64 1)], .agg [.lit (.int .i64 4), .lit (.int .i64 4)], .agg [.lit (.int .i64 8), .lit (.int .i64 4)], .agg [.lit (.int .i64 12), .lit (.int .i64 4)], .agg [.lit (.int .i64 16), .lit (.int .i64 8)], .agg [.lit (.int .i64 24), .lit (.int .i64 2)], .agg [.lit (.int .i64 26), .lit (.int .i64 2)], .agg [.lit (.int .i64 28), .lit (.int .i64 4)], .agg [.lit (.int .i64 0), .lit (.int .i64 0)]], .agg [.agg [.lit (.int .i64 0), .lit (.int .i64 1)], .agg [.lit (.int .i64 1), .lit (.int .i64 1)], .agg [.lit (.int .i64 2), .lit (.int .i64 1)], .agg [.lit (.int .i64 3), .lit (.int .i64 1)], .agg [.lit (.int .i64 4), .lit (.int .i64 4)], .agg [.lit (.int .i64 0), .lit (.int .i64 0)], .agg [.lit (.int .i64 0), .lit (.int .i64 0)], .agg [.lit (.int .i64 0), .lit (.int .i64 0)], .agg [.lit (.int .i64 0), .lit (.int .i64 0)], .agg [.lit (.int .i64 0), .lit (.int .i64 0)], .agg [.lit (.int .i64 12), .lit (.int .i64 4)], .agg [.lit (.int .i64 8), .lit (.int .i64 4)]]]
def laid_columbarium_head_order {H : Type} : DataW H := .agg [.lit (.int .i64 0), .lit (.int .i64 1), .lit (.int .i64 2), .lit (.int .i64 3), .lit (.int .i64 4), .lit (.int .i64 5), .lit (.int .i64 6), .lit (.int .i64 7), .lit (.int .i64 8), .lit (.int .i64 9), .lit (.int .i64 11), .lit (.int .i64 10)]
def laid_errors_errorType {H : Type} : DataW H := .iface "internal/reflectlite.rtype" (.agg [.ptr (.lit (.string [101, 114, 114, 111, 114]))])

/-- 'columbariumlaw15.SlabPlays': WHATEVER THE INPUT: true; the input reads as it did. -/
def slabPlaysSpec : ChangeSpec := { name := "slabPlays", fn := fun _ => fun
  | [d1, d2] => { results := [.lit (.bool true)], args := [d1, d2] }
  | _ => none }
def slabPlaysRow : OpenClaim := { program := "ytlcnhnhpaddkfaagreatdoor", sum := "3f9d7b4d8366262158d4397f769d905efda05aafd0c564af1cb5be31d7cbb9bd", func := "columbarium/columbariumlaw15.SlabPlays", spec := "slabPlays", unfollowed := true, recurses := true, named := ["columbarium/class.sizes", "columbarium/memory.places", "columbarium/head.order", "columbarium/head.places"], apart := false, laid := [("columbarium/class.sizes", laid_columbarium_class_sizes), ("columbarium/memory.places", laid_columbarium_memory_places), ("columbarium/head.places", laid_columbarium_head_places), ("columbarium/head.order", laid_columbarium_head_order)] }
def SlabPlaysSaid : Prop := slabPlaysRow.holds Tryz.pinned (OpenSpec.ofChange slabPlaysSpec)

/-- ITS FALSE NEIGHBOUR: 'it returns false'. Refute it at one input. -/
def slabPlaysWrong : ChangeSpec := { name := "slabPlays", fn := fun _ => fun
  | [d1, d2] => { results := [.lit (.bool false)], args := [d1, d2] }
  | _ => none }
def SlabPlaysWrongFalsely : Prop := slabPlaysRow.holds Tryz.pinned (OpenSpec.ofChange slabPlaysWrong)

/-- 'columbariumlaw15.SlabBlocks': WHATEVER THE INPUT: true; the input reads as it did. -/
def slabBlocksSpec : ChangeSpec := { name := "slabBlocks", fn := fun _ => fun
  | [d1, d2] => { results := [.lit (.bool true)], args := [d1, d2] }
  | _ => none }
def slabBlocksRow : OpenClaim := { program := "ytlcnhnhpaddkfaagreatdoor", sum := "3f9d7b4d8366262158d4397f769d905efda05aafd0c564af1cb5be31d7cbb9bd", func := "columbarium/columbariumlaw15.SlabBlocks", spec := "slabBlocks", unfollowed := true, recurses := true, named := ["columbarium/class.sizes", "columbarium/memory.places", "columbarium/head.order", "columbarium/head.places"], apart := false, laid := [("columbarium/class.sizes", laid_columbarium_class_sizes), ("columbarium/memory.places", laid_columbarium_memory_places), ("columbarium/head.places", laid_columbarium_head_places), ("columbarium/head.order", laid_columbarium_head_order)] }
def SlabBlocksSaid : Prop := slabBlocksRow.holds Tryz.pinned (OpenSpec.ofChange slabBlocksSpec)

/-- ITS FALSE NEIGHBOUR: 'it returns false'. Refute it at one input. -/
def slabBlocksWrong : ChangeSpec := { name := "slabBlocks", fn := fun _ => fun
  | [d1, d2] => { results := [.lit (.bool false)], args := [d1, d2] }
  | _ => none }
def SlabBlocksWrongFalsely : Prop := slabBlocksRow.holds Tryz.pinned (OpenSpec.ofChange slabBlocksWrong)

/-- 'columbariumlaw15.SlabOnce': WHATEVER THE INPUT: true; the input reads as it did. -/
def slabOnceSpec : ChangeSpec := { name := "slabOnce", fn := fun _ => fun
  | [d] => { results := [.lit (.bool true)], args := [d] }
  | _ => none }
def slabOnceRow : OpenClaim := { program := "ytlcnhnhpaddkfaagreatdoor", sum := "3f9d7b4d8366262158d4397f769d905efda05aafd0c564af1cb5be31d7cbb9bd", func := "columbarium/columbariumlaw15.SlabOnce", spec := "slabOnce", unfollowed := true, recurses := true, named := ["columbarium/class.sizes", "columbarium/memory.places", "columbarium/head.order", "columbarium/head.places"], apart := false, laid := [("columbarium/class.sizes", laid_columbarium_class_sizes), ("columbarium/memory.places", laid_columbarium_memory_places), ("columbarium/head.places", laid_columbarium_head_places), ("columbarium/head.order", laid_columbarium_head_order)] }
def SlabOnceSaid : Prop := slabOnceRow.holds Tryz.pinned (OpenSpec.ofChange slabOnceSpec)

/-- ITS FALSE NEIGHBOUR: 'it returns false'. Refute it at one input. -/
def slabOnceWrong : ChangeSpec := { name := "slabOnce", fn := fun _ => fun
  | [d] => { results := [.lit (.bool false)], args := [d] }
  | _ => none }
def SlabOnceWrongFalsely : Prop := slabOnceRow.holds Tryz.pinned (OpenSpec.ofChange slabOnceWrong)

/-- 'columbariumlaw15.SlabBack': WHATEVER THE INPUT: true; the input reads as it did. -/
def slabBackSpec : ChangeSpec := { name := "slabBack", fn := fun _ => fun
  | [d1, d2] => { results := [.lit (.bool true)], args := [d1, d2] }
  | _ => none }
def slabBackRow : OpenClaim := { program := "ytlcnhnhpaddkfaagreatdoor", sum := "3f9d7b4d8366262158d4397f769d905efda05aafd0c564af1cb5be31d7cbb9bd", func := "columbarium/columbariumlaw15.SlabBack", spec := "slabBack", unfollowed := true, recurses := true, named := ["columbarium/class.sizes", "columbarium/memory.places", "columbarium/head.order", "columbarium/head.places"], apart := false, laid := [("columbarium/class.sizes", laid_columbarium_class_sizes), ("columbarium/memory.places", laid_columbarium_memory_places), ("columbarium/head.places", laid_columbarium_head_places), ("columbarium/head.order", laid_columbarium_head_order)] }
def SlabBackSaid : Prop := slabBackRow.holds Tryz.pinned (OpenSpec.ofChange slabBackSpec)

/-- ITS FALSE NEIGHBOUR: 'it returns false'. Refute it at one input. -/
def slabBackWrong : ChangeSpec := { name := "slabBack", fn := fun _ => fun
  | [d1, d2] => { results := [.lit (.bool false)], args := [d1, d2] }
  | _ => none }
def SlabBackWrongFalsely : Prop := slabBackRow.holds Tryz.pinned (OpenSpec.ofChange slabBackWrong)

/-- 'columbariumlaw15.SlabClean': WHATEVER THE INPUT: true; the input reads as it did. -/
def slabCleanSpec : ChangeSpec := { name := "slabClean", fn := fun _ => fun
  | [d] => { results := [.lit (.bool true)], args := [d] }
  | _ => none }
def slabCleanRow : OpenClaim := { program := "ytlcnhnhpaddkfaagreatdoor", sum := "3f9d7b4d8366262158d4397f769d905efda05aafd0c564af1cb5be31d7cbb9bd", func := "columbarium/columbariumlaw15.SlabClean", spec := "slabClean", inPlace := ["internal/bytealg.IndexByte", "internal/bytealg.Index"], unfollowed := true, recurses := true, named := ["columbarium/class.sizes", "columbarium/memory.places", "columbarium/head.order", "columbarium/head.places", "internal/bytealg.MaxLen"], apart := false, laid := [("columbarium/class.sizes", laid_columbarium_class_sizes), ("columbarium/memory.places", laid_columbarium_memory_places), ("columbarium/head.places", laid_columbarium_head_places), ("columbarium/head.order", laid_columbarium_head_order)] }
def SlabCleanSaid : Prop := slabCleanRow.holds Tryz.pinned (OpenSpec.ofChange slabCleanSpec)

/-- ITS FALSE NEIGHBOUR: 'it returns false'. Refute it at one input. -/
def slabCleanWrong : ChangeSpec := { name := "slabClean", fn := fun _ => fun
  | [d] => { results := [.lit (.bool false)], args := [d] }
  | _ => none }
def SlabCleanWrongFalsely : Prop := slabCleanRow.holds Tryz.pinned (OpenSpec.ofChange slabCleanWrong)

/-- 'columbariumlaw16.RegionRuns': WHATEVER THE INPUT: true; the input reads as it did. -/
def regionRunsSpec : ChangeSpec := { name := "regionRuns", fn := fun _ => fun
  | [d1, d2, d3] => { results := [.lit (.bool true)], args := [d1, d2, d3] }
  | _ => none }
def regionRunsRow : OpenClaim := { program := "ytlcnhnhpaddkfaagreatdoor", sum := "3f9d7b4d8366262158d4397f769d905efda05aafd0c564af1cb5be31d7cbb9bd", func := "columbarium/columbariumlaw16.RegionRuns", spec := "regionRuns", inPlace := ["internal/reflectlite.ValueOf", "(internal/reflectlite.Value).Type", "(internal/reflectlite.Value).IsNil", "internal/reflectlite.TypeOf", "(internal/reflectlite.Value).Elem", "(internal/reflectlite.Value).Set"], unfollowed := true, recurses := true, named := ["columbarium/class.sizes", "columbarium/memory.places", "columbarium/head.order", "columbarium/head.places", "errors.errorType"], apart := false, laid := [("columbarium/class.sizes", laid_columbarium_class_sizes), ("errors.errorType", laid_errors_errorType), ("columbarium/memory.places", laid_columbarium_memory_places), ("columbarium/head.places", laid_columbarium_head_places), ("columbarium/head.order", laid_columbarium_head_order)] }
def RegionRunsSaid : Prop := regionRunsRow.holds Tryz.pinned (OpenSpec.ofChange regionRunsSpec)

/-- ITS FALSE NEIGHBOUR: 'it returns false'. Refute it at one input. -/
def regionRunsWrong : ChangeSpec := { name := "regionRuns", fn := fun _ => fun
  | [d1, d2, d3] => { results := [.lit (.bool false)], args := [d1, d2, d3] }
  | _ => none }
def RegionRunsWrongFalsely : Prop := regionRunsRow.holds Tryz.pinned (OpenSpec.ofChange regionRunsWrong)

/-- 'columbariumlaw16.RegionAgrees': WHATEVER THE INPUT: true; the input reads as it did. -/
def regionAgreesSpec : ChangeSpec := { name := "regionAgrees", fn := fun _ => fun
  | [d] => { results := [.lit (.bool true)], args := [d] }
  | _ => none }
def regionAgreesRow : OpenClaim := { program := "ytlcnhnhpaddkfaagreatdoor", sum := "3f9d7b4d8366262158d4397f769d905efda05aafd0c564af1cb5be31d7cbb9bd", func := "columbarium/columbariumlaw16.RegionAgrees", spec := "regionAgrees", inPlace := ["internal/reflectlite.ValueOf", "(internal/reflectlite.Value).Type", "(internal/reflectlite.Value).IsNil", "internal/reflectlite.TypeOf", "(internal/reflectlite.Value).Elem", "(internal/reflectlite.Value).Set"], unfollowed := true, recurses := true, named := ["columbarium/class.sizes", "columbarium/memory.places", "columbarium/head.order", "columbarium/head.places", "errors.errorType"], apart := false, laid := [("columbarium/class.sizes", laid_columbarium_class_sizes), ("errors.errorType", laid_errors_errorType), ("columbarium/memory.places", laid_columbarium_memory_places), ("columbarium/head.places", laid_columbarium_head_places), ("columbarium/head.order", laid_columbarium_head_order)] }
def RegionAgreesSaid : Prop := regionAgreesRow.holds Tryz.pinned (OpenSpec.ofChange regionAgreesSpec)

/-- ITS FALSE NEIGHBOUR: 'it returns false'. Refute it at one input. -/
def regionAgreesWrong : ChangeSpec := { name := "regionAgrees", fn := fun _ => fun
  | [d] => { results := [.lit (.bool false)], args := [d] }
  | _ => none }
def RegionAgreesWrongFalsely : Prop := regionAgreesRow.holds Tryz.pinned (OpenSpec.ofChange regionAgreesWrong)

/-- 'columbariumlaw16.RegionBack': WHATEVER THE INPUT: true; the input reads as it did. -/
def regionBackSpec : ChangeSpec := { name := "regionBack", fn := fun _ => fun
  | [d1, d2] => { results := [.lit (.bool true)], args := [d1, d2] }
  | _ => none }
def regionBackRow : OpenClaim := { program := "ytlcnhnhpaddkfaagreatdoor", sum := "3f9d7b4d8366262158d4397f769d905efda05aafd0c564af1cb5be31d7cbb9bd", func := "columbarium/columbariumlaw16.RegionBack", spec := "regionBack", inPlace := ["internal/reflectlite.ValueOf", "(internal/reflectlite.Value).Type", "(internal/reflectlite.Value).IsNil", "internal/reflectlite.TypeOf", "(internal/reflectlite.Value).Elem", "(internal/reflectlite.Value).Set"], unfollowed := true, recurses := true, named := ["columbarium/class.sizes", "columbarium/memory.places", "columbarium/head.order", "columbarium/head.places", "errors.errorType"], apart := false, laid := [("columbarium/class.sizes", laid_columbarium_class_sizes), ("errors.errorType", laid_errors_errorType), ("columbarium/memory.places", laid_columbarium_memory_places), ("columbarium/head.places", laid_columbarium_head_places), ("columbarium/head.order", laid_columbarium_head_order)] }
def RegionBackSaid : Prop := regionBackRow.holds Tryz.pinned (OpenSpec.ofChange regionBackSpec)

/-- ITS FALSE NEIGHBOUR: 'it returns false'. Refute it at one input. -/
def regionBackWrong : ChangeSpec := { name := "regionBack", fn := fun _ => fun
  | [d1, d2] => { results := [.lit (.bool false)], args := [d1, d2] }
  | _ => none }
def RegionBackWrongFalsely : Prop := regionBackRow.holds Tryz.pinned (OpenSpec.ofChange regionBackWrong)

/-- 'columbariumlaw16.RegionRestores': WHATEVER THE INPUT: true; the input reads as it did. -/
def regionRestoresSpec : ChangeSpec := { name := "regionRestores", fn := fun _ => fun
  | [d1, d2] => { results := [.lit (.bool true)], args := [d1, d2] }
  | _ => none }
def regionRestoresRow : OpenClaim := { program := "ytlcnhnhpaddkfaagreatdoor", sum := "3f9d7b4d8366262158d4397f769d905efda05aafd0c564af1cb5be31d7cbb9bd", func := "columbarium/columbariumlaw16.RegionRestores", spec := "regionRestores", inPlace := ["internal/reflectlite.ValueOf", "(internal/reflectlite.Value).Type", "(internal/reflectlite.Value).IsNil", "internal/reflectlite.TypeOf", "(internal/reflectlite.Value).Elem", "(internal/reflectlite.Value).Set"], unfollowed := true, recurses := true, named := ["columbarium/class.sizes", "columbarium/memory.places", "columbarium/head.order", "columbarium/head.places", "errors.errorType"], apart := false, laid := [("columbarium/class.sizes", laid_columbarium_class_sizes), ("errors.errorType", laid_errors_errorType), ("columbarium/memory.places", laid_columbarium_memory_places), ("columbarium/head.places", laid_columbarium_head_places), ("columbarium/head.order", laid_columbarium_head_order)] }
def RegionRestoresSaid : Prop := regionRestoresRow.holds Tryz.pinned (OpenSpec.ofChange regionRestoresSpec)

/-- ITS FALSE NEIGHBOUR: 'it returns false'. Refute it at one input. -/
def regionRestoresWrong : ChangeSpec := { name := "regionRestores", fn := fun _ => fun
  | [d1, d2] => { results := [.lit (.bool false)], args := [d1, d2] }
  | _ => none }
def RegionRestoresWrongFalsely : Prop := regionRestoresRow.holds Tryz.pinned (OpenSpec.ofChange regionRestoresWrong)

/- THE SECOND FORM. 'bulk': how many values and letters a reading holds, each counted each time it is reached (what is shared counts as often as it is met; a slice's spare places count too). A statement '..UptoSaid' is the law's where the arguments, and the package variables that the reading takes, are together of bulk at most 1048576: NARROWER than '..Said'. Prove '..Said' where nothing that the law and all that it calls make is longer than what came in: it says more and counts as full. Else prove '..UptoSaid'. A law counts once. -/
mutual
def uptoBulk {H : Type} : DataW H → Nat
  | .lit (.string bytes) => bytes.length + 1
  | .lit _ => 1
  | .nil => 1
  | .ptr d => uptoBulk d + 1
  | .slice elems spare => uptoBulkAll elems + uptoBulkAll spare + 1
  | .agg parts => uptoBulkAll parts + 1
  | .iface _ d => uptoBulk d + 1
  | .map entries => uptoBulkEntries entries + 1
  | .held _ => 1
def uptoBulkAll {H : Type} : List (DataW H) → Nat
  | [] => 0
  | d :: r => uptoBulk d + uptoBulkAll r
def uptoBulkEntries {H : Type} : List (Lit × DataW H) → Nat
  | [] => 0
  | x :: r => uptoBulkEntry x + uptoBulkEntries r
def uptoBulkEntry {H : Type} : Lit × DataW H → Nat
  | (.string bytes, d) => bytes.length + uptoBulk d + 1
  | (_, d) => uptoBulk d + 1
 end
def uptoSmall : (H : Type) → List (DataW H) → Bool := fun _ ds => decide (uptoBulkAll ds ≤ 1048576)
def OpenSpec.upto (s : _root_.Go.ChangeSpec) : _root_.Go.OpenSpec := { _root_.Go.OpenSpec.ofChange s with cond := some uptoSmall }

/-- 'columbariumlaw15.SlabPlays', WHERE WHAT IT READS IS OF BULK AT MOST 1048576: true; the input reads as it did. -/
def slabPlaysUptoRow : OpenClaim := { program := "ytlcnhnhpaddkfaagreatdoor", sum := "3f9d7b4d8366262158d4397f769d905efda05aafd0c564af1cb5be31d7cbb9bd", func := "columbarium/columbariumlaw15.SlabPlays", spec := "slabPlays", unfollowed := true, recurses := true, named := ["columbarium/class.sizes", "columbarium/memory.places", "columbarium/head.order", "columbarium/head.places"], apart := false, laid := [("columbarium/class.sizes", laid_columbarium_class_sizes), ("columbarium/memory.places", laid_columbarium_memory_places), ("columbarium/head.places", laid_columbarium_head_places), ("columbarium/head.order", laid_columbarium_head_order)], narrowed := true }
def SlabPlaysUptoSaid : Prop := slabPlaysUptoRow.holds Tryz.pinned (OpenSpec.upto slabPlaysSpec)

/-- 'columbariumlaw15.SlabBlocks', WHERE WHAT IT READS IS OF BULK AT MOST 1048576: true; the input reads as it did. -/
def slabBlocksUptoRow : OpenClaim := { program := "ytlcnhnhpaddkfaagreatdoor", sum := "3f9d7b4d8366262158d4397f769d905efda05aafd0c564af1cb5be31d7cbb9bd", func := "columbarium/columbariumlaw15.SlabBlocks", spec := "slabBlocks", unfollowed := true, recurses := true, named := ["columbarium/class.sizes", "columbarium/memory.places", "columbarium/head.order", "columbarium/head.places"], apart := false, laid := [("columbarium/class.sizes", laid_columbarium_class_sizes), ("columbarium/memory.places", laid_columbarium_memory_places), ("columbarium/head.places", laid_columbarium_head_places), ("columbarium/head.order", laid_columbarium_head_order)], narrowed := true }
def SlabBlocksUptoSaid : Prop := slabBlocksUptoRow.holds Tryz.pinned (OpenSpec.upto slabBlocksSpec)

/-- 'columbariumlaw15.SlabOnce', WHERE WHAT IT READS IS OF BULK AT MOST 1048576: true; the input reads as it did. -/
def slabOnceUptoRow : OpenClaim := { program := "ytlcnhnhpaddkfaagreatdoor", sum := "3f9d7b4d8366262158d4397f769d905efda05aafd0c564af1cb5be31d7cbb9bd", func := "columbarium/columbariumlaw15.SlabOnce", spec := "slabOnce", unfollowed := true, recurses := true, named := ["columbarium/class.sizes", "columbarium/memory.places", "columbarium/head.order", "columbarium/head.places"], apart := false, laid := [("columbarium/class.sizes", laid_columbarium_class_sizes), ("columbarium/memory.places", laid_columbarium_memory_places), ("columbarium/head.places", laid_columbarium_head_places), ("columbarium/head.order", laid_columbarium_head_order)], narrowed := true }
def SlabOnceUptoSaid : Prop := slabOnceUptoRow.holds Tryz.pinned (OpenSpec.upto slabOnceSpec)

/-- 'columbariumlaw15.SlabBack', WHERE WHAT IT READS IS OF BULK AT MOST 1048576: true; the input reads as it did. -/
def slabBackUptoRow : OpenClaim := { program := "ytlcnhnhpaddkfaagreatdoor", sum := "3f9d7b4d8366262158d4397f769d905efda05aafd0c564af1cb5be31d7cbb9bd", func := "columbarium/columbariumlaw15.SlabBack", spec := "slabBack", unfollowed := true, recurses := true, named := ["columbarium/class.sizes", "columbarium/memory.places", "columbarium/head.order", "columbarium/head.places"], apart := false, laid := [("columbarium/class.sizes", laid_columbarium_class_sizes), ("columbarium/memory.places", laid_columbarium_memory_places), ("columbarium/head.places", laid_columbarium_head_places), ("columbarium/head.order", laid_columbarium_head_order)], narrowed := true }
def SlabBackUptoSaid : Prop := slabBackUptoRow.holds Tryz.pinned (OpenSpec.upto slabBackSpec)

/-- 'columbariumlaw15.SlabClean', WHERE WHAT IT READS IS OF BULK AT MOST 1048576: true; the input reads as it did. -/
def slabCleanUptoRow : OpenClaim := { program := "ytlcnhnhpaddkfaagreatdoor", sum := "3f9d7b4d8366262158d4397f769d905efda05aafd0c564af1cb5be31d7cbb9bd", func := "columbarium/columbariumlaw15.SlabClean", spec := "slabClean", inPlace := ["internal/bytealg.IndexByte", "internal/bytealg.Index"], unfollowed := true, recurses := true, named := ["columbarium/class.sizes", "columbarium/memory.places", "columbarium/head.order", "columbarium/head.places", "internal/bytealg.MaxLen"], apart := false, laid := [("columbarium/class.sizes", laid_columbarium_class_sizes), ("columbarium/memory.places", laid_columbarium_memory_places), ("columbarium/head.places", laid_columbarium_head_places), ("columbarium/head.order", laid_columbarium_head_order)], narrowed := true }
def SlabCleanUptoSaid : Prop := slabCleanUptoRow.holds Tryz.pinned (OpenSpec.upto slabCleanSpec)

/-- 'columbariumlaw16.RegionRuns', WHERE WHAT IT READS IS OF BULK AT MOST 1048576: true; the input reads as it did. -/
def regionRunsUptoRow : OpenClaim := { program := "ytlcnhnhpaddkfaagreatdoor", sum := "3f9d7b4d8366262158d4397f769d905efda05aafd0c564af1cb5be31d7cbb9bd", func := "columbarium/columbariumlaw16.RegionRuns", spec := "regionRuns", inPlace := ["internal/reflectlite.ValueOf", "(internal/reflectlite.Value).Type", "(internal/reflectlite.Value).IsNil", "internal/reflectlite.TypeOf", "(internal/reflectlite.Value).Elem", "(internal/reflectlite.Value).Set"], unfollowed := true, recurses := true, named := ["columbarium/class.sizes", "columbarium/memory.places", "columbarium/head.order", "columbarium/head.places", "errors.errorType"], apart := false, laid := [("columbarium/class.sizes", laid_columbarium_class_sizes), ("errors.errorType", laid_errors_errorType), ("columbarium/memory.places", laid_columbarium_memory_places), ("columbarium/head.places", laid_columbarium_head_places), ("columbarium/head.order", laid_columbarium_head_order)], narrowed := true }
def RegionRunsUptoSaid : Prop := regionRunsUptoRow.holds Tryz.pinned (OpenSpec.upto regionRunsSpec)

/-- 'columbariumlaw16.RegionAgrees', WHERE WHAT IT READS IS OF BULK AT MOST 1048576: true; the input reads as it did. -/
def regionAgreesUptoRow : OpenClaim := { program := "ytlcnhnhpaddkfaagreatdoor", sum := "3f9d7b4d8366262158d4397f769d905efda05aafd0c564af1cb5be31d7cbb9bd", func := "columbarium/columbariumlaw16.RegionAgrees", spec := "regionAgrees", inPlace := ["internal/reflectlite.ValueOf", "(internal/reflectlite.Value).Type", "(internal/reflectlite.Value).IsNil", "internal/reflectlite.TypeOf", "(internal/reflectlite.Value).Elem", "(internal/reflectlite.Value).Set"], unfollowed := true, recurses := true, named := ["columbarium/class.sizes", "columbarium/memory.places", "columbarium/head.order", "columbarium/head.places", "errors.errorType"], apart := false, laid := [("columbarium/class.sizes", laid_columbarium_class_sizes), ("errors.errorType", laid_errors_errorType), ("columbarium/memory.places", laid_columbarium_memory_places), ("columbarium/head.places", laid_columbarium_head_places), ("columbarium/head.order", laid_columbarium_head_order)], narrowed := true }
def RegionAgreesUptoSaid : Prop := regionAgreesUptoRow.holds Tryz.pinned (OpenSpec.upto regionAgreesSpec)

/-- 'columbariumlaw16.RegionBack', WHERE WHAT IT READS IS OF BULK AT MOST 1048576: true; the input reads as it did. -/
def regionBackUptoRow : OpenClaim := { program := "ytlcnhnhpaddkfaagreatdoor", sum := "3f9d7b4d8366262158d4397f769d905efda05aafd0c564af1cb5be31d7cbb9bd", func := "columbarium/columbariumlaw16.RegionBack", spec := "regionBack", inPlace := ["internal/reflectlite.ValueOf", "(internal/reflectlite.Value).Type", "(internal/reflectlite.Value).IsNil", "internal/reflectlite.TypeOf", "(internal/reflectlite.Value).Elem", "(internal/reflectlite.Value).Set"], unfollowed := true, recurses := true, named := ["columbarium/class.sizes", "columbarium/memory.places", "columbarium/head.order", "columbarium/head.places", "errors.errorType"], apart := false, laid := [("columbarium/class.sizes", laid_columbarium_class_sizes), ("errors.errorType", laid_errors_errorType), ("columbarium/memory.places", laid_columbarium_memory_places), ("columbarium/head.places", laid_columbarium_head_places), ("columbarium/head.order", laid_columbarium_head_order)], narrowed := true }
def RegionBackUptoSaid : Prop := regionBackUptoRow.holds Tryz.pinned (OpenSpec.upto regionBackSpec)

/-- 'columbariumlaw16.RegionRestores', WHERE WHAT IT READS IS OF BULK AT MOST 1048576: true; the input reads as it did. -/
def regionRestoresUptoRow : OpenClaim := { program := "ytlcnhnhpaddkfaagreatdoor", sum := "3f9d7b4d8366262158d4397f769d905efda05aafd0c564af1cb5be31d7cbb9bd", func := "columbarium/columbariumlaw16.RegionRestores", spec := "regionRestores", inPlace := ["internal/reflectlite.ValueOf", "(internal/reflectlite.Value).Type", "(internal/reflectlite.Value).IsNil", "internal/reflectlite.TypeOf", "(internal/reflectlite.Value).Elem", "(internal/reflectlite.Value).Set"], unfollowed := true, recurses := true, named := ["columbarium/class.sizes", "columbarium/memory.places", "columbarium/head.order", "columbarium/head.places", "errors.errorType"], apart := false, laid := [("columbarium/class.sizes", laid_columbarium_class_sizes), ("errors.errorType", laid_errors_errorType), ("columbarium/memory.places", laid_columbarium_memory_places), ("columbarium/head.places", laid_columbarium_head_places), ("columbarium/head.order", laid_columbarium_head_order)], narrowed := true }
def RegionRestoresUptoSaid : Prop := regionRestoresUptoRow.holds Tryz.pinned (OpenSpec.upto regionRestoresSpec)

end Rows
end Go.Proofs.YtlcnhnhpaddkfaaGreatDoor
