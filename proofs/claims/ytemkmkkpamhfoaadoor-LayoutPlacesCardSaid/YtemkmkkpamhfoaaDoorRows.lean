/-
  NARROWER THAN 'FOR EVERY INPUT', by the rows' own cells (each row's printed sentence says how): LayoutTells: laid · LayoutPlaces: laid · LayoutTiles: laid · LayoutApart: laid · LayoutGrows: laid.
  DERIVED. THE GIVEN ROWS OF THIS SEAT. 5 by the template 'for every input the law returns true; each argument reads behind the call as it read before'; 0 by the template 'total and deterministic' (their statements: YtemkmkkpamhfoaaDoorTotals.lean).
  GIVEN WITH THE SEED: the statements are not yours to turn. If you find one false, say at which input.
  Laid BY PROGRAM, IN A SANDBOX (cutbox-rows.mjs): the forced cells as the released guide's own fill.sh prints them over the translation 3ce97a8027448747… (all of the seat's roots in one cut). By AI agents, Wed Nov 11 2026. No macro, syntax, notation, axiom, sorry.
-/
import Derived.Test.YtemkmkkpamhfoaaDoorChecked
import GoSem.Claim
import GoSem.ClaimJoined
import GoSem.ClaimMapViews
import Derived.JoinedTies
import Derived.KernelRfl
namespace Go.Proofs.YtemkmkkpamhfoaaDoor
/- THE CELL 'sum', in the pinned program and in every row, IS THE sha256 OF THE DUMP (.gsa) THAT YtemkmkkpamhfoaaDoorProg.lean LOADS. Nothing in Lean hashes anything: it is a label: what it is worth is what the hold of that sum in a sandbox is worth. -/
noncomputable def Tryd.pinned : Pinned := { name := "ytemkmkkpamhfoaadoor", sum := "3ce97a80274487478b654d64852cb1f2266b9ab5976e7d07e34e35ed8dbbf463", checked := Tryd.checked }
namespace Rows
def none {H : Type} : Left H := { results := [], args := [] }

/- WHAT THE LISTED PACKAGE-LEVEL VARIABLES READ AS WHEN THE CALL BEGINS. Each datum BY PROGRAM (the guide's laid-datum.mjs) off the statement by which the dump's own 'gosem.cut.vars' lays the variable. In a bare row this is a premise. The card (YtemkmkkpamhfoaaDoorCards.lean) ties it to the program's text. -/
def laid_columbarium_class_sizes {H : Type} : DataW H := .agg [.lit (.int .i64 32), .lit (.int .i64 48), .lit (.int .i64 64), .lit (.int .i64 96), .lit (.int .i64 128), .lit (.int .i64 192), .lit (.int .i64 256), .lit (.int .i64 384), .lit (.int .i64 512)]

/-- 'columbariumlaw09.LayoutTells': WHATEVER THE INPUT: true; the input reads as it did. -/
def layoutTellsSpec : ChangeSpec := { name := "layoutTells", fn := fun _ => fun
  | [d] => { results := [.lit (.bool true)], args := [d] }
  | _ => none }
def layoutTellsRow : OpenClaim := { program := "ytemkmkkpamhfoaadoor", sum := "3ce97a80274487478b654d64852cb1f2266b9ab5976e7d07e34e35ed8dbbf463", func := "columbarium/columbariumlaw09.LayoutTells", spec := "layoutTells", unfollowed := true, recurses := true, named := ["columbarium/class.sizes"], apart := false, laid := [("columbarium/class.sizes", laid_columbarium_class_sizes)] }
def LayoutTellsSaid : Prop := layoutTellsRow.holds Tryd.pinned (OpenSpec.ofChange layoutTellsSpec)

/-- ITS FALSE NEIGHBOUR: 'it returns false'. Refute it at one input. -/
def layoutTellsWrong : ChangeSpec := { name := "layoutTells", fn := fun _ => fun
  | [d] => { results := [.lit (.bool false)], args := [d] }
  | _ => none }
def LayoutTellsWrongFalsely : Prop := layoutTellsRow.holds Tryd.pinned (OpenSpec.ofChange layoutTellsWrong)

/-- 'columbariumlaw09.LayoutPlaces': WHATEVER THE INPUT: true; the input reads as it did. -/
def layoutPlacesSpec : ChangeSpec := { name := "layoutPlaces", fn := fun _ => fun
  | [d1, d2, d3] => { results := [.lit (.bool true)], args := [d1, d2, d3] }
  | _ => none }
def layoutPlacesRow : OpenClaim := { program := "ytemkmkkpamhfoaadoor", sum := "3ce97a80274487478b654d64852cb1f2266b9ab5976e7d07e34e35ed8dbbf463", func := "columbarium/columbariumlaw09.LayoutPlaces", spec := "layoutPlaces", unfollowed := true, recurses := true, named := ["columbarium/class.sizes"], apart := false, laid := [("columbarium/class.sizes", laid_columbarium_class_sizes)] }
def LayoutPlacesSaid : Prop := layoutPlacesRow.holds Tryd.pinned (OpenSpec.ofChange layoutPlacesSpec)

/-- ITS FALSE NEIGHBOUR: 'it returns false'. Refute it at one input. -/
def layoutPlacesWrong : ChangeSpec := { name := "layoutPlaces", fn := fun _ => fun
  | [d1, d2, d3] => { results := [.lit (.bool false)], args := [d1, d2, d3] }
  | _ => none }
def LayoutPlacesWrongFalsely : Prop := layoutPlacesRow.holds Tryd.pinned (OpenSpec.ofChange layoutPlacesWrong)

/-- 'columbariumlaw09.LayoutTiles': WHATEVER THE INPUT: true; the input reads as it did. -/
def layoutTilesSpec : ChangeSpec := { name := "layoutTiles", fn := fun _ => fun
  | [d] => { results := [.lit (.bool true)], args := [d] }
  | _ => none }
def layoutTilesRow : OpenClaim := { program := "ytemkmkkpamhfoaadoor", sum := "3ce97a80274487478b654d64852cb1f2266b9ab5976e7d07e34e35ed8dbbf463", func := "columbarium/columbariumlaw09.LayoutTiles", spec := "layoutTiles", unfollowed := true, recurses := true, named := ["columbarium/class.sizes"], apart := false, laid := [("columbarium/class.sizes", laid_columbarium_class_sizes)] }
def LayoutTilesSaid : Prop := layoutTilesRow.holds Tryd.pinned (OpenSpec.ofChange layoutTilesSpec)

/-- ITS FALSE NEIGHBOUR: 'it returns false'. Refute it at one input. -/
def layoutTilesWrong : ChangeSpec := { name := "layoutTiles", fn := fun _ => fun
  | [d] => { results := [.lit (.bool false)], args := [d] }
  | _ => none }
def LayoutTilesWrongFalsely : Prop := layoutTilesRow.holds Tryd.pinned (OpenSpec.ofChange layoutTilesWrong)

/-- 'columbariumlaw09.LayoutApart': WHATEVER THE INPUT: true; the input reads as it did. -/
def layoutApartSpec : ChangeSpec := { name := "layoutApart", fn := fun _ => fun
  | [d1, d2, d3] => { results := [.lit (.bool true)], args := [d1, d2, d3] }
  | _ => none }
def layoutApartRow : OpenClaim := { program := "ytemkmkkpamhfoaadoor", sum := "3ce97a80274487478b654d64852cb1f2266b9ab5976e7d07e34e35ed8dbbf463", func := "columbarium/columbariumlaw09.LayoutApart", spec := "layoutApart", unfollowed := true, recurses := true, named := ["columbarium/class.sizes"], apart := false, laid := [("columbarium/class.sizes", laid_columbarium_class_sizes)] }
def LayoutApartSaid : Prop := layoutApartRow.holds Tryd.pinned (OpenSpec.ofChange layoutApartSpec)

/-- ITS FALSE NEIGHBOUR: 'it returns false'. Refute it at one input. -/
def layoutApartWrong : ChangeSpec := { name := "layoutApart", fn := fun _ => fun
  | [d1, d2, d3] => { results := [.lit (.bool false)], args := [d1, d2, d3] }
  | _ => none }
def LayoutApartWrongFalsely : Prop := layoutApartRow.holds Tryd.pinned (OpenSpec.ofChange layoutApartWrong)

/-- 'columbariumlaw09.LayoutGrows': WHATEVER THE INPUT: true; the input reads as it did. -/
def layoutGrowsSpec : ChangeSpec := { name := "layoutGrows", fn := fun _ => fun
  | [d] => { results := [.lit (.bool true)], args := [d] }
  | _ => none }
def layoutGrowsRow : OpenClaim := { program := "ytemkmkkpamhfoaadoor", sum := "3ce97a80274487478b654d64852cb1f2266b9ab5976e7d07e34e35ed8dbbf463", func := "columbarium/columbariumlaw09.LayoutGrows", spec := "layoutGrows", unfollowed := true, recurses := true, named := ["columbarium/class.sizes"], apart := false, laid := [("columbarium/class.sizes", laid_columbarium_class_sizes)] }
def LayoutGrowsSaid : Prop := layoutGrowsRow.holds Tryd.pinned (OpenSpec.ofChange layoutGrowsSpec)

/-- ITS FALSE NEIGHBOUR: 'it returns false'. Refute it at one input. -/
def layoutGrowsWrong : ChangeSpec := { name := "layoutGrows", fn := fun _ => fun
  | [d] => { results := [.lit (.bool false)], args := [d] }
  | _ => none }
def LayoutGrowsWrongFalsely : Prop := layoutGrowsRow.holds Tryd.pinned (OpenSpec.ofChange layoutGrowsWrong)

/- THE SECOND FORM. 'bulk': how many values and letters a reading holds, each counted each time it is reached (what is shared counts as often as it is met; a slice's spare places count too). A statement '..UptoSaid' is the law's where the arguments, and the package variables that the reading takes, are together of bulk at most 1048576: NARROWER than '..Said'. Prove '..Said' where nothing that the law and all that it calls make is longer than what came in: it says more and counts as full. Else prove '..UptoSaid'. A law counts once. -/
mutual
def uptoBulk {H : Type} : DataW H → Nat
  | .lit (.string bytes) => bytes.length + 1
  | .lit _ => 1
  | .nil => 1
  | .ptr d => uptoBulk d + 1
  | .slice elems spare => uptoBulkAll elems + uptoBulkAll spare + 1
  | .agg parts => uptoBulkAll parts + 1
  | .iface _ d => uptoBulk d + 1
  | .map entries => uptoBulkEntries entries + 1
  | .held _ => 1
def uptoBulkAll {H : Type} : List (DataW H) → Nat
  | [] => 0
  | d :: r => uptoBulk d + uptoBulkAll r
def uptoBulkEntries {H : Type} : List (Lit × DataW H) → Nat
  | [] => 0
  | x :: r => uptoBulkEntry x + uptoBulkEntries r
def uptoBulkEntry {H : Type} : Lit × DataW H → Nat
  | (.string bytes, d) => bytes.length + uptoBulk d + 1
  | (_, d) => uptoBulk d + 1
 end
def uptoSmall : (H : Type) → List (DataW H) → Bool := fun _ ds => decide (uptoBulkAll ds ≤ 1048576)
def OpenSpec.upto (s : _root_.Go.ChangeSpec) : _root_.Go.OpenSpec := { _root_.Go.OpenSpec.ofChange s with cond := some uptoSmall }

/-- 'columbariumlaw09.LayoutTells', WHERE WHAT IT READS IS OF BULK AT MOST 1048576: true; the input reads as it did. -/
def layoutTellsUptoRow : OpenClaim := { program := "ytemkmkkpamhfoaadoor", sum := "3ce97a80274487478b654d64852cb1f2266b9ab5976e7d07e34e35ed8dbbf463", func := "columbarium/columbariumlaw09.LayoutTells", spec := "layoutTells", unfollowed := true, recurses := true, named := ["columbarium/class.sizes"], apart := false, laid := [("columbarium/class.sizes", laid_columbarium_class_sizes)], narrowed := true }
def LayoutTellsUptoSaid : Prop := layoutTellsUptoRow.holds Tryd.pinned (OpenSpec.upto layoutTellsSpec)

/-- 'columbariumlaw09.LayoutPlaces', WHERE WHAT IT READS IS OF BULK AT MOST 1048576: true; the input reads as it did. -/
def layoutPlacesUptoRow : OpenClaim := { program := "ytemkmkkpamhfoaadoor", sum := "3ce97a80274487478b654d64852cb1f2266b9ab5976e7d07e34e35ed8dbbf463", func := "columbarium/columbariumlaw09.LayoutPlaces", spec := "layoutPlaces", unfollowed := true, recurses := true, named := ["columbarium/class.sizes"], apart := false, laid := [("columbarium/class.sizes", laid_columbarium_class_sizes)], narrowed := true }
def LayoutPlacesUptoSaid : Prop := layoutPlacesUptoRow.holds Tryd.pinned (OpenSpec.upto layoutPlacesSpec)

/-- 'columbariumlaw09.LayoutTiles', WHERE WHAT IT READS IS OF BULK AT MOST 1048576: true; the input reads as it did. -/
def layoutTilesUptoRow : OpenClaim := { program := "ytemkmkkpamhfoaadoor", sum := "3ce97a80274487478b654d64852cb1f2266b9ab5976e7d07e34e35ed8dbbf463", func := "columbarium/columbariumlaw09.LayoutTiles", spec := "layoutTiles", unfollowed := true, recurses := true, named := ["columbarium/class.sizes"], apart := false, laid := [("columbarium/class.sizes", laid_columbarium_class_sizes)], narrowed := true }
def LayoutTilesUptoSaid : Prop := layoutTilesUptoRow.holds Tryd.pinned (OpenSpec.upto layoutTilesSpec)

/-- 'columbariumlaw09.LayoutApart', WHERE WHAT IT READS IS OF BULK AT MOST 1048576: true; the input reads as it did. -/
def layoutApartUptoRow : OpenClaim := { program := "ytemkmkkpamhfoaadoor", sum := "3ce97a80274487478b654d64852cb1f2266b9ab5976e7d07e34e35ed8dbbf463", func := "columbarium/columbariumlaw09.LayoutApart", spec := "layoutApart", unfollowed := true, recurses := true, named := ["columbarium/class.sizes"], apart := false, laid := [("columbarium/class.sizes", laid_columbarium_class_sizes)], narrowed := true }
def LayoutApartUptoSaid : Prop := layoutApartUptoRow.holds Tryd.pinned (OpenSpec.upto layoutApartSpec)

/-- 'columbariumlaw09.LayoutGrows', WHERE WHAT IT READS IS OF BULK AT MOST 1048576: true; the input reads as it did. -/
def layoutGrowsUptoRow : OpenClaim := { program := "ytemkmkkpamhfoaadoor", sum := "3ce97a80274487478b654d64852cb1f2266b9ab5976e7d07e34e35ed8dbbf463", func := "columbarium/columbariumlaw09.LayoutGrows", spec := "layoutGrows", unfollowed := true, recurses := true, named := ["columbarium/class.sizes"], apart := false, laid := [("columbarium/class.sizes", laid_columbarium_class_sizes)], narrowed := true }
def LayoutGrowsUptoSaid : Prop := layoutGrowsUptoRow.holds Tryd.pinned (OpenSpec.upto layoutGrowsSpec)

end Rows
end Go.Proofs.YtemkmkkpamhfoaaDoor
