/-
  NARROWER THAN 'FOR EVERY INPUT', by the rows' own cells (each row's printed sentence says how): ClassTells: laid · ClassPlaces: laid · ClassHolds: laid · ClassLeast: laid · ClassTiles: laid.
  DERIVED. THE GIVEN ROWS OF THIS SEAT. 5 by the template 'for every input the law returns true; each argument reads behind the call as it read before'; 0 by the template 'total and deterministic' (their statements: YtokmnceiellnlaaDoorTotals.lean).
  GIVEN WITH THE SEED: the statements are not yours to turn. If you find one false, say at which input.
  Laid BY PROGRAM, IN A SANDBOX (cutbox-rows.mjs): the forced cells as the released guide's own fill.sh prints them over the translation aab8052cc39e54f2… (all of the seat's roots in one cut). By AI agents, Wed Nov 11 2026. No macro, syntax, notation, axiom, sorry.
-/
import Derived.Test.YtokmnceiellnlaaDoorChecked
import GoSem.Claim
import GoSem.ClaimJoined
import GoSem.ClaimMapViews
import Derived.JoinedTies
import Derived.KernelRfl
namespace Go.Proofs.YtokmnceiellnlaaDoor
/- THE CELL 'sum', in the pinned program and in every row, IS THE sha256 OF THE DUMP (.gsa) THAT YtokmnceiellnlaaDoorProg.lean LOADS. Nothing in Lean hashes anything: it is a label: what it is worth is what the hold of that sum in a sandbox is worth. -/
noncomputable def Tryd.pinned : Pinned := { name := "ytokmnceiellnlaadoor", sum := "aab8052cc39e54f231a3857d6eeebd32c4dfb8c8a0fc4287b02172af28142ebe", checked := Tryd.checked }
namespace Rows
def none {H : Type} : Left H := { results := [], args := [] }

/- WHAT THE LISTED PACKAGE-LEVEL VARIABLES READ AS WHEN THE CALL BEGINS. Each datum BY PROGRAM (the guide's laid-datum.mjs) off the statement by which the dump's own 'gosem.cut.vars' lays the variable. In a bare row this is a premise. The card (YtokmnceiellnlaaDoorCards.lean) ties it to the program's text. -/
def laid_columbarium_class_sizes {H : Type} : DataW H := .agg [.lit (.int .i64 32), .lit (.int .i64 48), .lit (.int .i64 64), .lit (.int .i64 96), .lit (.int .i64 128), .lit (.int .i64 192), .lit (.int .i64 256), .lit (.int .i64 384), .lit (.int .i64 512)]

/-- 'columbariumlaw08.ClassTells': WHATEVER THE INPUT: true; the input reads as it did. -/
def classTellsSpec : ChangeSpec := { name := "classTells", fn := fun _ => fun
  | [d1, d2] => { results := [.lit (.bool true)], args := [d1, d2] }
  | _ => none }
def classTellsRow : OpenClaim := { program := "ytokmnceiellnlaadoor", sum := "aab8052cc39e54f231a3857d6eeebd32c4dfb8c8a0fc4287b02172af28142ebe", func := "columbarium/columbariumlaw08.ClassTells", spec := "classTells", named := ["columbarium/class.sizes"], apart := false, laid := [("columbarium/class.sizes", laid_columbarium_class_sizes)] }
def ClassTellsSaid : Prop := classTellsRow.holds Tryd.pinned (OpenSpec.ofChange classTellsSpec)

/-- ITS FALSE NEIGHBOUR: 'it returns false'. Refute it at one input. -/
def classTellsWrong : ChangeSpec := { name := "classTells", fn := fun _ => fun
  | [d1, d2] => { results := [.lit (.bool false)], args := [d1, d2] }
  | _ => none }
def ClassTellsWrongFalsely : Prop := classTellsRow.holds Tryd.pinned (OpenSpec.ofChange classTellsWrong)

/-- 'columbariumlaw08.ClassPlaces': WHATEVER THE INPUT: true; the input reads as it did. -/
def classPlacesSpec : ChangeSpec := { name := "classPlaces", fn := fun _ => fun
  | [d1, d2, d3] => { results := [.lit (.bool true)], args := [d1, d2, d3] }
  | _ => none }
def classPlacesRow : OpenClaim := { program := "ytokmnceiellnlaadoor", sum := "aab8052cc39e54f231a3857d6eeebd32c4dfb8c8a0fc4287b02172af28142ebe", func := "columbarium/columbariumlaw08.ClassPlaces", spec := "classPlaces", named := ["columbarium/class.sizes"], apart := false, laid := [("columbarium/class.sizes", laid_columbarium_class_sizes)] }
def ClassPlacesSaid : Prop := classPlacesRow.holds Tryd.pinned (OpenSpec.ofChange classPlacesSpec)

/-- ITS FALSE NEIGHBOUR: 'it returns false'. Refute it at one input. -/
def classPlacesWrong : ChangeSpec := { name := "classPlaces", fn := fun _ => fun
  | [d1, d2, d3] => { results := [.lit (.bool false)], args := [d1, d2, d3] }
  | _ => none }
def ClassPlacesWrongFalsely : Prop := classPlacesRow.holds Tryd.pinned (OpenSpec.ofChange classPlacesWrong)

/-- 'columbariumlaw08.ClassHolds': WHATEVER THE INPUT: true; the input reads as it did. -/
def classHoldsSpec : ChangeSpec := { name := "classHolds", fn := fun _ => fun
  | [d1, d2] => { results := [.lit (.bool true)], args := [d1, d2] }
  | _ => none }
def classHoldsRow : OpenClaim := { program := "ytokmnceiellnlaadoor", sum := "aab8052cc39e54f231a3857d6eeebd32c4dfb8c8a0fc4287b02172af28142ebe", func := "columbarium/columbariumlaw08.ClassHolds", spec := "classHolds", named := ["columbarium/class.sizes"], apart := false, laid := [("columbarium/class.sizes", laid_columbarium_class_sizes)] }
def ClassHoldsSaid : Prop := classHoldsRow.holds Tryd.pinned (OpenSpec.ofChange classHoldsSpec)

/-- ITS FALSE NEIGHBOUR: 'it returns false'. Refute it at one input. -/
def classHoldsWrong : ChangeSpec := { name := "classHolds", fn := fun _ => fun
  | [d1, d2] => { results := [.lit (.bool false)], args := [d1, d2] }
  | _ => none }
def ClassHoldsWrongFalsely : Prop := classHoldsRow.holds Tryd.pinned (OpenSpec.ofChange classHoldsWrong)

/-- 'columbariumlaw08.ClassLeast': WHATEVER THE INPUT: true; the input reads as it did. -/
def classLeastSpec : ChangeSpec := { name := "classLeast", fn := fun _ => fun
  | [d] => { results := [.lit (.bool true)], args := [d] }
  | _ => none }
def classLeastRow : OpenClaim := { program := "ytokmnceiellnlaadoor", sum := "aab8052cc39e54f231a3857d6eeebd32c4dfb8c8a0fc4287b02172af28142ebe", func := "columbarium/columbariumlaw08.ClassLeast", spec := "classLeast", named := ["columbarium/class.sizes"], apart := false, laid := [("columbarium/class.sizes", laid_columbarium_class_sizes)] }
def ClassLeastSaid : Prop := classLeastRow.holds Tryd.pinned (OpenSpec.ofChange classLeastSpec)

/-- ITS FALSE NEIGHBOUR: 'it returns false'. Refute it at one input. -/
def classLeastWrong : ChangeSpec := { name := "classLeast", fn := fun _ => fun
  | [d] => { results := [.lit (.bool false)], args := [d] }
  | _ => none }
def ClassLeastWrongFalsely : Prop := classLeastRow.holds Tryd.pinned (OpenSpec.ofChange classLeastWrong)

/-- 'columbariumlaw08.ClassTiles': WHATEVER THE INPUT: true; the input reads as it did. -/
def classTilesSpec : ChangeSpec := { name := "classTiles", fn := fun _ => fun
  | [d] => { results := [.lit (.bool true)], args := [d] }
  | _ => none }
def classTilesRow : OpenClaim := { program := "ytokmnceiellnlaadoor", sum := "aab8052cc39e54f231a3857d6eeebd32c4dfb8c8a0fc4287b02172af28142ebe", func := "columbarium/columbariumlaw08.ClassTiles", spec := "classTiles", named := ["columbarium/class.sizes"], apart := false, laid := [("columbarium/class.sizes", laid_columbarium_class_sizes)] }
def ClassTilesSaid : Prop := classTilesRow.holds Tryd.pinned (OpenSpec.ofChange classTilesSpec)

/-- ITS FALSE NEIGHBOUR: 'it returns false'. Refute it at one input. -/
def classTilesWrong : ChangeSpec := { name := "classTiles", fn := fun _ => fun
  | [d] => { results := [.lit (.bool false)], args := [d] }
  | _ => none }
def ClassTilesWrongFalsely : Prop := classTilesRow.holds Tryd.pinned (OpenSpec.ofChange classTilesWrong)

/- THE SECOND FORM. 'bulk': how many values and letters a reading holds, each counted each time it is reached (what is shared counts as often as it is met; a slice's spare places count too). A statement '..UptoSaid' is the law's where the arguments, and the package variables that the reading takes, are together of bulk at most 1048576: NARROWER than '..Said'. Prove '..Said' where nothing that the law and all that it calls make is longer than what came in: it says more and counts as full. Else prove '..UptoSaid'. A law counts once. -/
mutual
def uptoBulk {H : Type} : DataW H → Nat
  | .lit (.string bytes) => bytes.length + 1
  | .lit _ => 1
  | .nil => 1
  | .ptr d => uptoBulk d + 1
  | .slice elems spare => uptoBulkAll elems + uptoBulkAll spare + 1
  | .agg parts => uptoBulkAll parts + 1
  | .iface _ d => uptoBulk d + 1
  | .map entries => uptoBulkEntries entries + 1
  | .held _ => 1
def uptoBulkAll {H : Type} : List (DataW H) → Nat
  | [] => 0
  | d :: r => uptoBulk d + uptoBulkAll r
def uptoBulkEntries {H : Type} : List (Lit × DataW H) → Nat
  | [] => 0
  | x :: r => uptoBulkEntry x + uptoBulkEntries r
def uptoBulkEntry {H : Type} : Lit × DataW H → Nat
  | (.string bytes, d) => bytes.length + uptoBulk d + 1
  | (_, d) => uptoBulk d + 1
 end
def uptoSmall : (H : Type) → List (DataW H) → Bool := fun _ ds => decide (uptoBulkAll ds ≤ 1048576)
def OpenSpec.upto (s : _root_.Go.ChangeSpec) : _root_.Go.OpenSpec := { _root_.Go.OpenSpec.ofChange s with cond := some uptoSmall }

/-- 'columbariumlaw08.ClassTells', WHERE WHAT IT READS IS OF BULK AT MOST 1048576: true; the input reads as it did. -/
def classTellsUptoRow : OpenClaim := { program := "ytokmnceiellnlaadoor", sum := "aab8052cc39e54f231a3857d6eeebd32c4dfb8c8a0fc4287b02172af28142ebe", func := "columbarium/columbariumlaw08.ClassTells", spec := "classTells", named := ["columbarium/class.sizes"], apart := false, laid := [("columbarium/class.sizes", laid_columbarium_class_sizes)], narrowed := true }
def ClassTellsUptoSaid : Prop := classTellsUptoRow.holds Tryd.pinned (OpenSpec.upto classTellsSpec)

/-- 'columbariumlaw08.ClassPlaces', WHERE WHAT IT READS IS OF BULK AT MOST 1048576: true; the input reads as it did. -/
def classPlacesUptoRow : OpenClaim := { program := "ytokmnceiellnlaadoor", sum := "aab8052cc39e54f231a3857d6eeebd32c4dfb8c8a0fc4287b02172af28142ebe", func := "columbarium/columbariumlaw08.ClassPlaces", spec := "classPlaces", named := ["columbarium/class.sizes"], apart := false, laid := [("columbarium/class.sizes", laid_columbarium_class_sizes)], narrowed := true }
def ClassPlacesUptoSaid : Prop := classPlacesUptoRow.holds Tryd.pinned (OpenSpec.upto classPlacesSpec)

/-- 'columbariumlaw08.ClassHolds', WHERE WHAT IT READS IS OF BULK AT MOST 1048576: true; the input reads as it did. -/
def classHoldsUptoRow : OpenClaim := { program := "ytokmnceiellnlaadoor", sum := "aab8052cc39e54f231a3857d6eeebd32c4dfb8c8a0fc4287b02172af28142ebe", func := "columbarium/columbariumlaw08.ClassHolds", spec := "classHolds", named := ["columbarium/class.sizes"], apart := false, laid := [("columbarium/class.sizes", laid_columbarium_class_sizes)], narrowed := true }
def ClassHoldsUptoSaid : Prop := classHoldsUptoRow.holds Tryd.pinned (OpenSpec.upto classHoldsSpec)

/-- 'columbariumlaw08.ClassLeast', WHERE WHAT IT READS IS OF BULK AT MOST 1048576: true; the input reads as it did. -/
def classLeastUptoRow : OpenClaim := { program := "ytokmnceiellnlaadoor", sum := "aab8052cc39e54f231a3857d6eeebd32c4dfb8c8a0fc4287b02172af28142ebe", func := "columbarium/columbariumlaw08.ClassLeast", spec := "classLeast", named := ["columbarium/class.sizes"], apart := false, laid := [("columbarium/class.sizes", laid_columbarium_class_sizes)], narrowed := true }
def ClassLeastUptoSaid : Prop := classLeastUptoRow.holds Tryd.pinned (OpenSpec.upto classLeastSpec)

/-- 'columbariumlaw08.ClassTiles', WHERE WHAT IT READS IS OF BULK AT MOST 1048576: true; the input reads as it did. -/
def classTilesUptoRow : OpenClaim := { program := "ytokmnceiellnlaadoor", sum := "aab8052cc39e54f231a3857d6eeebd32c4dfb8c8a0fc4287b02172af28142ebe", func := "columbarium/columbariumlaw08.ClassTiles", spec := "classTiles", named := ["columbarium/class.sizes"], apart := false, laid := [("columbarium/class.sizes", laid_columbarium_class_sizes)], narrowed := true }
def ClassTilesUptoSaid : Prop := classTilesUptoRow.holds Tryd.pinned (OpenSpec.upto classTilesSpec)

end Rows
end Go.Proofs.YtokmnceiellnlaaDoor
