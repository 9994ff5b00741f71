/-
  NARROWER THAN 'FOR EVERY INPUT', by the rows' own cells (each row's printed sentence says how): ListsPlays: laid · ListsSorted: laid · ListsBack: laid.
  DERIVED. THE GIVEN ROWS OF THIS SEAT. 3 by the template 'for every input the law returns true; each argument reads behind the call as it read before'; 0 by the template 'total and deterministic' (their statements: YtcakoikcafiolaaDoorTotals.lean).
  GIVEN WITH THE SEED: the statements are not yours to turn. If you find one false, say at which input.
  Laid BY PROGRAM, IN A SANDBOX (cutbox-rows.mjs): the forced cells as the released guide's own fill.sh prints them over the translation d0615ff6779e2a0d… (all of the seat's roots in one cut). By AI agents, Wed Nov 11 2026. No macro, syntax, notation, axiom, sorry.
-/
import Derived.Test.YtcakoikcafiolaaDoorChecked
import GoSem.Claim
import GoSem.ClaimJoined
import GoSem.ClaimMapViews
import Derived.JoinedTies
import Derived.KernelRfl
namespace Go.Proofs.YtcakoikcafiolaaDoor
/- THE CELL 'sum', in the pinned program and in every row, IS THE sha256 OF THE DUMP (.gsa) THAT YtcakoikcafiolaaDoorProg.lean LOADS. Nothing in Lean hashes anything: it is a label: what it is worth is what the hold of that sum in a sandbox is worth. -/
noncomputable def Tryd.pinned : Pinned := { name := "ytcakoikcafiolaadoor", sum := "d0615ff6779e2a0dd4682020c39d43a57b4b29d41cc44f97227da24dc1ae4798", checked := Tryd.checked }
namespace Rows
def none {H : Type} : Left H := { results := [], args := [] }

/- WHAT THE LISTED PACKAGE-LEVEL VARIABLES READ AS WHEN THE CALL BEGINS. Each datum BY PROGRAM (the guide's laid-datum.mjs) off the statement by which the dump's own 'gosem.cut.vars' lays the variable. In a bare row this is a premise. The card (YtcakoikcafiolaaDoorCards.lean) ties it to the program's text. -/
def laid_columbarium_class_sizes {H : Type} : DataW H := .agg [.lit (.int .i64 32), .lit (.int .i64 48), .lit (.int .i64 64), .lit (.int .i64 96), .lit (.int .i64 128), .lit (.int .i64 192), .lit (.int .i64 256), .lit (.int .i64 384), .lit (.int .i64 512)]
def laid_columbarium_memory_places {H : Type} : DataW H := .agg [.lit (.int .i64 8), .lit (.int .i64 12), .lit (.int .i64 16), .lit (.int .i64 20), .lit (.int .i64 24), .lit (.int .i64 28), .lit (.int .i64 32), .lit (.int .i64 36), .lit (.int .i64 40), .lit (.int .i64 44), .lit (.int .i64 48), .lit (.int .i64 52), .lit (.int .i64 56), .lit (.int .i64 60), .lit (.int .i64 64), .lit (.int .i64 68), .lit (.int .i64 72), .lit (.int .i64 80), .lit (.int .i64 84), .lit (.int .i64 88), .lit (.int .i64 92), .lit (.int .i64 96)]

/-- 'columbariumlaw14.ListsPlays': WHATEVER THE INPUT: true; the input reads as it did. -/
def listsPlaysSpec : ChangeSpec := { name := "listsPlays", fn := fun _ => fun
  | [d1, d2] => { results := [.lit (.bool true)], args := [d1, d2] }
  | _ => none }
def listsPlaysRow : OpenClaim := { program := "ytcakoikcafiolaadoor", sum := "d0615ff6779e2a0dd4682020c39d43a57b4b29d41cc44f97227da24dc1ae4798", func := "columbarium/columbariumlaw14.ListsPlays", spec := "listsPlays", unfollowed := true, recurses := true, named := ["columbarium/class.sizes", "columbarium/memory.places"], apart := false, laid := [("columbarium/class.sizes", laid_columbarium_class_sizes), ("columbarium/memory.places", laid_columbarium_memory_places)] }
def ListsPlaysSaid : Prop := listsPlaysRow.holds Tryd.pinned (OpenSpec.ofChange listsPlaysSpec)

/-- ITS FALSE NEIGHBOUR: 'it returns false'. Refute it at one input. -/
def listsPlaysWrong : ChangeSpec := { name := "listsPlays", fn := fun _ => fun
  | [d1, d2] => { results := [.lit (.bool false)], args := [d1, d2] }
  | _ => none }
def ListsPlaysWrongFalsely : Prop := listsPlaysRow.holds Tryd.pinned (OpenSpec.ofChange listsPlaysWrong)

/-- 'columbariumlaw14.ListsSorted': WHATEVER THE INPUT: true; the input reads as it did. -/
def listsSortedSpec : ChangeSpec := { name := "listsSorted", fn := fun _ => fun
  | [d] => { results := [.lit (.bool true)], args := [d] }
  | _ => none }
def listsSortedRow : OpenClaim := { program := "ytcakoikcafiolaadoor", sum := "d0615ff6779e2a0dd4682020c39d43a57b4b29d41cc44f97227da24dc1ae4798", func := "columbarium/columbariumlaw14.ListsSorted", spec := "listsSorted", unfollowed := true, recurses := true, named := ["columbarium/class.sizes", "columbarium/memory.places"], apart := false, laid := [("columbarium/class.sizes", laid_columbarium_class_sizes), ("columbarium/memory.places", laid_columbarium_memory_places)] }
def ListsSortedSaid : Prop := listsSortedRow.holds Tryd.pinned (OpenSpec.ofChange listsSortedSpec)

/-- ITS FALSE NEIGHBOUR: 'it returns false'. Refute it at one input. -/
def listsSortedWrong : ChangeSpec := { name := "listsSorted", fn := fun _ => fun
  | [d] => { results := [.lit (.bool false)], args := [d] }
  | _ => none }
def ListsSortedWrongFalsely : Prop := listsSortedRow.holds Tryd.pinned (OpenSpec.ofChange listsSortedWrong)

/-- 'columbariumlaw14.ListsBack': WHATEVER THE INPUT: true; the input reads as it did. -/
def listsBackSpec : ChangeSpec := { name := "listsBack", fn := fun _ => fun
  | [d1, d2, d3] => { results := [.lit (.bool true)], args := [d1, d2, d3] }
  | _ => none }
def listsBackRow : OpenClaim := { program := "ytcakoikcafiolaadoor", sum := "d0615ff6779e2a0dd4682020c39d43a57b4b29d41cc44f97227da24dc1ae4798", func := "columbarium/columbariumlaw14.ListsBack", spec := "listsBack", unfollowed := true, recurses := true, named := ["columbarium/class.sizes", "columbarium/memory.places"], apart := false, laid := [("columbarium/class.sizes", laid_columbarium_class_sizes), ("columbarium/memory.places", laid_columbarium_memory_places)] }
def ListsBackSaid : Prop := listsBackRow.holds Tryd.pinned (OpenSpec.ofChange listsBackSpec)

/-- ITS FALSE NEIGHBOUR: 'it returns false'. Refute it at one input. -/
def listsBackWrong : ChangeSpec := { name := "listsBack", fn := fun _ => fun
  | [d1, d2, d3] => { results := [.lit (.bool false)], args := [d1, d2, d3] }
  | _ => none }
def ListsBackWrongFalsely : Prop := listsBackRow.holds Tryd.pinned (OpenSpec.ofChange listsBackWrong)

/- THE SECOND FORM. 'bulk': how many values and letters a reading holds, each counted each time it is reached (what is shared counts as often as it is met; a slice's spare places count too). A statement '..UptoSaid' is the law's where the arguments, and the package variables that the reading takes, are together of bulk at most 1048576: NARROWER than '..Said'. Prove '..Said' where nothing that the law and all that it calls make is longer than what came in: it says more and counts as full. Else prove '..UptoSaid'. A law counts once. -/
mutual
def uptoBulk {H : Type} : DataW H → Nat
  | .lit (.string bytes) => bytes.length + 1
  | .lit _ => 1
  | .nil => 1
  | .ptr d => uptoBulk d + 1
  | .slice elems spare => uptoBulkAll elems + uptoBulkAll spare + 1
  | .agg parts => uptoBulkAll parts + 1
  | .iface _ d => uptoBulk d + 1
  | .map entries => uptoBulkEntries entries + 1
  | .held _ => 1
def uptoBulkAll {H : Type} : List (DataW H) → Nat
  | [] => 0
  | d :: r => uptoBulk d + uptoBulkAll r
def uptoBulkEntries {H : Type} : List (Lit × DataW H) → Nat
  | [] => 0
  | x :: r => uptoBulkEntry x + uptoBulkEntries r
def uptoBulkEntry {H : Type} : Lit × DataW H → Nat
  | (.string bytes, d) => bytes.length + uptoBulk d + 1
  | (_, d) => uptoBulk d + 1
 end
def uptoSmall : (H : Type) → List (DataW H) → Bool := fun _ ds => decide (uptoBulkAll ds ≤ 1048576)
def OpenSpec.upto (s : _root_.Go.ChangeSpec) : _root_.Go.OpenSpec := { _root_.Go.OpenSpec.ofChange s with cond := some uptoSmall }

/-- 'columbariumlaw14.ListsPlays', WHERE WHAT IT READS IS OF BULK AT MOST 1048576: true; the input reads as it did. -/
def listsPlaysUptoRow : OpenClaim := { program := "ytcakoikcafiolaadoor", sum := "d0615ff6779e2a0dd4682020c39d43a57b4b29d41cc44f97227da24dc1ae4798", func := "columbarium/columbariumlaw14.ListsPlays", spec := "listsPlays", unfollowed := true, recurses := true, named := ["columbarium/class.sizes", "columbarium/memory.places"], apart := false, laid := [("columbarium/class.sizes", laid_columbarium_class_sizes), ("columbarium/memory.places", laid_columbarium_memory_places)], narrowed := true }
def ListsPlaysUptoSaid : Prop := listsPlaysUptoRow.holds Tryd.pinned (OpenSpec.upto listsPlaysSpec)

/-- 'columbariumlaw14.ListsSorted', WHERE WHAT IT READS IS OF BULK AT MOST 1048576: true; the input reads as it did. -/
def listsSortedUptoRow : OpenClaim := { program := "ytcakoikcafiolaadoor", sum := "d0615ff6779e2a0dd4682020c39d43a57b4b29d41cc44f97227da24dc1ae4798", func := "columbarium/columbariumlaw14.ListsSorted", spec := "listsSorted", unfollowed := true, recurses := true, named := ["columbarium/class.sizes", "columbarium/memory.places"], apart := false, laid := [("columbarium/class.sizes", laid_columbarium_class_sizes), ("columbarium/memory.places", laid_columbarium_memory_places)], narrowed := true }
def ListsSortedUptoSaid : Prop := listsSortedUptoRow.holds Tryd.pinned (OpenSpec.upto listsSortedSpec)

/-- 'columbariumlaw14.ListsBack', WHERE WHAT IT READS IS OF BULK AT MOST 1048576: true; the input reads as it did. -/
def listsBackUptoRow : OpenClaim := { program := "ytcakoikcafiolaadoor", sum := "d0615ff6779e2a0dd4682020c39d43a57b4b29d41cc44f97227da24dc1ae4798", func := "columbarium/columbariumlaw14.ListsBack", spec := "listsBack", unfollowed := true, recurses := true, named := ["columbarium/class.sizes", "columbarium/memory.places"], apart := false, laid := [("columbarium/class.sizes", laid_columbarium_class_sizes), ("columbarium/memory.places", laid_columbarium_memory_places)], narrowed := true }
def ListsBackUptoSaid : Prop := listsBackUptoRow.holds Tryd.pinned (OpenSpec.upto listsBackSpec)

end Rows
end Go.Proofs.YtcakoikcafiolaaDoor
