/-
  NARROWER THAN 'FOR EVERY INPUT', by the rows' own cells (each row's printed sentence says how): NodeHeld: laid · NodeShares: laid · NodeGone: laid · IndexPlays: laid.
  DERIVED. THE GIVEN ROWS OF THIS SEAT. 4 by the template 'for every input the law returns true; each argument reads behind the call as it read before'; 0 by the template 'total and deterministic' (their statements: YtmgeiaglandedaaGreatDoorTotals.lean).
  GIVEN WITH THE SEED: the statements are not yours to turn. If you find one false, say at which input.
  Laid BY PROGRAM, IN A SANDBOX (cutbox-rows.mjs): the forced cells as the released guide's own fill.sh prints them over the translation 8b50dd09c4ca287d… (all of the seat's roots in one cut). By AI agents, Wed Nov 11 2026. No macro, syntax, notation, axiom, sorry.
-/
import Derived.Test.YtmgeiaglandedaaGreatDoorChecked
import GoSem.Claim
import GoSem.ClaimJoined
import GoSem.ClaimMapViews
import Derived.JoinedTies
import Derived.KernelRfl
namespace Go.Proofs.YtmgeiaglandedaaGreatDoor
/- THE CELL 'sum', in the pinned program and in every row, IS THE sha256 OF THE DUMP (.gsa) THAT YtmgeiaglandedaaGreatDoorProg.lean LOADS. Nothing in Lean hashes anything: it is a label: what it is worth is what the hold of that sum in a sandbox is worth. -/
noncomputable def Tryz.pinned : Pinned := { name := "ytmgeiaglandedaagreatdoor", sum := "8b50dd09c4ca287d114099c7e5d474cc487d3a8c7065adf9c5037cf691b1c780", checked := Tryz.checked }
namespace Rows
def none {H : Type} : Left H := { results := [], args := [] }

/- WHAT THE LISTED PACKAGE-LEVEL VARIABLES READ AS WHEN THE CALL BEGINS. Each datum BY PROGRAM (the guide's laid-datum.mjs) off the statement by which the dump's own 'gosem.cut.vars' lays the variable. In a bare row this is a premise. The card (YtmgeiaglandedaaGreatDoorCards.lean) ties it to the program's text. -/
def laid_columbarium_class_sizes {H : Type} : DataW H := .agg [.lit (.int .i64 32), .lit (.int .i64 48), .lit (.int .i64 64), .lit (.int .i64 96), .lit (.int .i64 128), .lit (.int .i64 192), .lit (.int .i64 256), .lit (.int .i64 384), .lit (.int .i64 512)]
def laid_columbarium_memory_places {H : Type} : DataW H := .agg [.lit (.int .i64 8), .lit (.int .i64 12), .lit (.int .i64 16), .lit (.int .i64 20), .lit (.int .i64 24), .lit (.int .i64 28), .lit (.int .i64 32), .lit (.int .i64 36), .lit (.int .i64 40), .lit (.int .i64 44), .lit (.int .i64 48), .lit (.int .i64 52), .lit (.int .i64 56), .lit (.int .i64 60), .lit (.int .i64 64), .lit (.int .i64 68), .lit (.int .i64 72), .lit (.int .i64 80), .lit (.int .i64 84), .lit (.int .i64 88), .lit (.int .i64 92), .lit (.int .i64 96)]
def laid_columbarium_head_places {H : Type} : DataW H := .agg [.agg [.agg [.lit (.int .i64 0), .lit (.int .i64 1)], .agg [.lit (.int .i64 1), .lit (.int .i64 1)], .agg [.lit (.int .i64 2), .lit (.int .i64 1)], .agg [.lit (.int .i64 3), .lit (.int .i64 1)], .agg [.lit (.int .i64 4), .lit (.int .i64 4)], .agg [.lit (.int .i64 0), .lit (.int .i64 0)], .agg [.lit (.int .i64 0), .lit (.int .i64 0)], .agg [.lit (.int .i64 0), .lit (.int .i64 0)], .agg [.lit (.int .i64 0), .lit (.int .i64 0)], .agg [.lit (.int .i64 0), .lit (.int .i64 0)], .agg [.lit (.int .i64 0), .lit (.int .i64 0)], .agg [.lit (.int .i64 0), .lit (.int .i64 0)]], .agg [.agg [.lit (.int .i64 0), .lit (.int .i64 1)], .agg [.lit (.int .i64 1), .lit (.int .i64 1)], .agg [.lit (.int .i64 2), .lit (.int .i64 1)], .agg [.lit (.int .i64 3), .lit (.int .i64 1)], .agg [.lit (.int .i64 4), .lit (.int .i64 4)], .agg [.lit (.int .i64 8), .lit (.int .i64 4)], .agg [.lit (.int .i64 12), .lit (.int .i64 4)], .agg [.lit (.int .i64 16), .lit (.int .i64 8)], .agg [.lit (.int .i64 24), .lit (.int .i64 2)], .agg [.lit (.int .i64 26), .lit (.int .i64 2)], .agg [.lit (.int .i64 28), .lit (.int .i64 4)], .agg [.lit (.int .i64 0), .lit (.int .i64 0)]], .agg [.agg [.lit (.int .i64 0), .lit (.int .i64 1)], .agg [.lit (.int .i64 1), .lit (.int .i64 1)], .agg [.lit (.int .i64 2), .lit (.int .i64 1)], .agg [.lit (.int .i64 3), .lit (.int .i64 1)], .agg [.lit (.int .i64 4), .lit (.int .i64 4)], .agg [.lit (.int .i64 0), .lit (.int .i64 0)], .agg [.lit (.int .i64 0), .lit (.int .i64 0)], .agg [.lit (.int .i64 0), .lit (.int .i64 0)], .agg [.lit (.int .i64 0), .lit (.int .i64 0)], .agg [.lit (.int .i64 0), .lit (.int .i64 0)], .agg [.lit (.int .i64 12), .lit (.int .i64 4)], .agg [.lit (.int .i64 8), .lit (.int .i64 4)]]]
def laid_columbarium_head_order {H : Type} : DataW H := .agg [.lit (.int .i64 0), .lit (.int .i64 1), .lit (.int .i64 2), .lit (.int .i64 3), .lit (.int .i64 4), .lit (.int .i64 5), .lit (.int .i64 6), .lit (.int .i64 7), .lit (.int .i64 8), .lit (.int .i64 9), .lit (.int .i64 11), .lit (.int .i64 10)]

/-- 'columbariumlaw21.NodeHeld': WHATEVER THE INPUT: true; the input reads as it did. -/
def nodeHeldSpec : ChangeSpec := { name := "nodeHeld", fn := fun _ => fun
  | [d] => { results := [.lit (.bool true)], args := [d] }
  | _ => none }
def nodeHeldRow : OpenClaim := { program := "ytmgeiaglandedaagreatdoor", sum := "8b50dd09c4ca287d114099c7e5d474cc487d3a8c7065adf9c5037cf691b1c780", func := "columbarium/columbariumlaw21.NodeHeld", spec := "nodeHeld", unfollowed := true, recurses := true, named := ["columbarium/class.sizes", "columbarium/memory.places", "columbarium/head.order", "columbarium/head.places"], apart := false, laid := [("columbarium/class.sizes", laid_columbarium_class_sizes), ("columbarium/memory.places", laid_columbarium_memory_places), ("columbarium/head.places", laid_columbarium_head_places), ("columbarium/head.order", laid_columbarium_head_order)] }
def NodeHeldSaid : Prop := nodeHeldRow.holds Tryz.pinned (OpenSpec.ofChange nodeHeldSpec)

/-- ITS FALSE NEIGHBOUR: 'it returns false'. Refute it at one input. -/
def nodeHeldWrong : ChangeSpec := { name := "nodeHeld", fn := fun _ => fun
  | [d] => { results := [.lit (.bool false)], args := [d] }
  | _ => none }
def NodeHeldWrongFalsely : Prop := nodeHeldRow.holds Tryz.pinned (OpenSpec.ofChange nodeHeldWrong)

/-- 'columbariumlaw21.NodeShares': WHATEVER THE INPUT: true; the input reads as it did. -/
def nodeSharesSpec : ChangeSpec := { name := "nodeShares", fn := fun _ => fun
  | [d] => { results := [.lit (.bool true)], args := [d] }
  | _ => none }
def nodeSharesRow : OpenClaim := { program := "ytmgeiaglandedaagreatdoor", sum := "8b50dd09c4ca287d114099c7e5d474cc487d3a8c7065adf9c5037cf691b1c780", func := "columbarium/columbariumlaw21.NodeShares", spec := "nodeShares", unfollowed := true, recurses := true, named := ["columbarium/class.sizes", "columbarium/memory.places", "columbarium/head.order", "columbarium/head.places"], apart := false, laid := [("columbarium/class.sizes", laid_columbarium_class_sizes), ("columbarium/memory.places", laid_columbarium_memory_places), ("columbarium/head.places", laid_columbarium_head_places), ("columbarium/head.order", laid_columbarium_head_order)] }
def NodeSharesSaid : Prop := nodeSharesRow.holds Tryz.pinned (OpenSpec.ofChange nodeSharesSpec)

/-- ITS FALSE NEIGHBOUR: 'it returns false'. Refute it at one input. -/
def nodeSharesWrong : ChangeSpec := { name := "nodeShares", fn := fun _ => fun
  | [d] => { results := [.lit (.bool false)], args := [d] }
  | _ => none }
def NodeSharesWrongFalsely : Prop := nodeSharesRow.holds Tryz.pinned (OpenSpec.ofChange nodeSharesWrong)

/-- 'columbariumlaw21.NodeGone': WHATEVER THE INPUT: true; the input reads as it did. -/
def nodeGoneSpec : ChangeSpec := { name := "nodeGone", fn := fun _ => fun
  | [d] => { results := [.lit (.bool true)], args := [d] }
  | _ => none }
def nodeGoneRow : OpenClaim := { program := "ytmgeiaglandedaagreatdoor", sum := "8b50dd09c4ca287d114099c7e5d474cc487d3a8c7065adf9c5037cf691b1c780", func := "columbarium/columbariumlaw21.NodeGone", spec := "nodeGone", unfollowed := true, recurses := true, named := ["columbarium/class.sizes", "columbarium/memory.places", "columbarium/head.order", "columbarium/head.places"], apart := false, laid := [("columbarium/class.sizes", laid_columbarium_class_sizes), ("columbarium/memory.places", laid_columbarium_memory_places), ("columbarium/head.places", laid_columbarium_head_places), ("columbarium/head.order", laid_columbarium_head_order)] }
def NodeGoneSaid : Prop := nodeGoneRow.holds Tryz.pinned (OpenSpec.ofChange nodeGoneSpec)

/-- ITS FALSE NEIGHBOUR: 'it returns false'. Refute it at one input. -/
def nodeGoneWrong : ChangeSpec := { name := "nodeGone", fn := fun _ => fun
  | [d] => { results := [.lit (.bool false)], args := [d] }
  | _ => none }
def NodeGoneWrongFalsely : Prop := nodeGoneRow.holds Tryz.pinned (OpenSpec.ofChange nodeGoneWrong)

/-- 'columbariumlaw20.IndexPlays': WHATEVER THE INPUT: true; the input reads as it did. -/
def indexPlaysSpec : ChangeSpec := { name := "indexPlays", fn := fun _ => fun
  | [d] => { results := [.lit (.bool true)], args := [d] }
  | _ => none }
def indexPlaysRow : OpenClaim := { program := "ytmgeiaglandedaagreatdoor", sum := "8b50dd09c4ca287d114099c7e5d474cc487d3a8c7065adf9c5037cf691b1c780", func := "columbarium/columbariumlaw20.IndexPlays", spec := "indexPlays", unfollowed := true, recurses := true, named := ["columbarium/class.sizes", "columbarium/memory.places", "columbarium/head.order", "columbarium/head.places"], apart := false, laid := [("columbarium/class.sizes", laid_columbarium_class_sizes), ("columbarium/memory.places", laid_columbarium_memory_places), ("columbarium/head.places", laid_columbarium_head_places), ("columbarium/head.order", laid_columbarium_head_order)] }
def IndexPlaysSaid : Prop := indexPlaysRow.holds Tryz.pinned (OpenSpec.ofChange indexPlaysSpec)

/-- ITS FALSE NEIGHBOUR: 'it returns false'. Refute it at one input. -/
def indexPlaysWrong : ChangeSpec := { name := "indexPlays", fn := fun _ => fun
  | [d] => { results := [.lit (.bool false)], args := [d] }
  | _ => none }
def IndexPlaysWrongFalsely : Prop := indexPlaysRow.holds Tryz.pinned (OpenSpec.ofChange indexPlaysWrong)

/- THE SECOND FORM. 'bulk': how many values and letters a reading holds, each counted each time it is reached (what is shared counts as often as it is met; a slice's spare places count too). A statement '..UptoSaid' is the law's where the arguments, and the package variables that the reading takes, are together of bulk at most 1048576: NARROWER than '..Said'. Prove '..Said' where nothing that the law and all that it calls make is longer than what came in: it says more and counts as full. Else prove '..UptoSaid'. A law counts once. -/
mutual
def uptoBulk {H : Type} : DataW H → Nat
  | .lit (.string bytes) => bytes.length + 1
  | .lit _ => 1
  | .nil => 1
  | .ptr d => uptoBulk d + 1
  | .slice elems spare => uptoBulkAll elems + uptoBulkAll spare + 1
  | .agg parts => uptoBulkAll parts + 1
  | .iface _ d => uptoBulk d + 1
  | .map entries => uptoBulkEntries entries + 1
  | .held _ => 1
def uptoBulkAll {H : Type} : List (DataW H) → Nat
  | [] => 0
  | d :: r => uptoBulk d + uptoBulkAll r
def uptoBulkEntries {H : Type} : List (Lit × DataW H) → Nat
  | [] => 0
  | x :: r => uptoBulkEntry x + uptoBulkEntries r
def uptoBulkEntry {H : Type} : Lit × DataW H → Nat
  | (.string bytes, d) => bytes.length + uptoBulk d + 1
  | (_, d) => uptoBulk d + 1
 end
def uptoSmall : (H : Type) → List (DataW H) → Bool := fun _ ds => decide (uptoBulkAll ds ≤ 1048576)
def OpenSpec.upto (s : _root_.Go.ChangeSpec) : _root_.Go.OpenSpec := { _root_.Go.OpenSpec.ofChange s with cond := some uptoSmall }

/-- 'columbariumlaw21.NodeHeld', WHERE WHAT IT READS IS OF BULK AT MOST 1048576: true; the input reads as it did. -/
def nodeHeldUptoRow : OpenClaim := { program := "ytmgeiaglandedaagreatdoor", sum := "8b50dd09c4ca287d114099c7e5d474cc487d3a8c7065adf9c5037cf691b1c780", func := "columbarium/columbariumlaw21.NodeHeld", spec := "nodeHeld", unfollowed := true, recurses := true, named := ["columbarium/class.sizes", "columbarium/memory.places", "columbarium/head.order", "columbarium/head.places"], apart := false, laid := [("columbarium/class.sizes", laid_columbarium_class_sizes), ("columbarium/memory.places", laid_columbarium_memory_places), ("columbarium/head.places", laid_columbarium_head_places), ("columbarium/head.order", laid_columbarium_head_order)], narrowed := true }
def NodeHeldUptoSaid : Prop := nodeHeldUptoRow.holds Tryz.pinned (OpenSpec.upto nodeHeldSpec)

/-- 'columbariumlaw21.NodeShares', WHERE WHAT IT READS IS OF BULK AT MOST 1048576: true; the input reads as it did. -/
def nodeSharesUptoRow : OpenClaim := { program := "ytmgeiaglandedaagreatdoor", sum := "8b50dd09c4ca287d114099c7e5d474cc487d3a8c7065adf9c5037cf691b1c780", func := "columbarium/columbariumlaw21.NodeShares", spec := "nodeShares", unfollowed := true, recurses := true, named := ["columbarium/class.sizes", "columbarium/memory.places", "columbarium/head.order", "columbarium/head.places"], apart := false, laid := [("columbarium/class.sizes", laid_columbarium_class_sizes), ("columbarium/memory.places", laid_columbarium_memory_places), ("columbarium/head.places", laid_columbarium_head_places), ("columbarium/head.order", laid_columbarium_head_order)], narrowed := true }
def NodeSharesUptoSaid : Prop := nodeSharesUptoRow.holds Tryz.pinned (OpenSpec.upto nodeSharesSpec)

/-- 'columbariumlaw21.NodeGone', WHERE WHAT IT READS IS OF BULK AT MOST 1048576: true; the input reads as it did. -/
def nodeGoneUptoRow : OpenClaim := { program := "ytmgeiaglandedaagreatdoor", sum := "8b50dd09c4ca287d114099c7e5d474cc487d3a8c7065adf9c5037cf691b1c780", func := "columbarium/columbariumlaw21.NodeGone", spec := "nodeGone", unfollowed := true, recurses := true, named := ["columbarium/class.sizes", "columbarium/memory.places", "columbarium/head.order", "columbarium/head.places"], apart := false, laid := [("columbarium/class.sizes", laid_columbarium_class_sizes), ("columbarium/memory.places", laid_columbarium_memory_places), ("columbarium/head.places", laid_columbarium_head_places), ("columbarium/head.order", laid_columbarium_head_order)], narrowed := true }
def NodeGoneUptoSaid : Prop := nodeGoneUptoRow.holds Tryz.pinned (OpenSpec.upto nodeGoneSpec)

/-- 'columbariumlaw20.IndexPlays', WHERE WHAT IT READS IS OF BULK AT MOST 1048576: true; the input reads as it did. -/
def indexPlaysUptoRow : OpenClaim := { program := "ytmgeiaglandedaagreatdoor", sum := "8b50dd09c4ca287d114099c7e5d474cc487d3a8c7065adf9c5037cf691b1c780", func := "columbarium/columbariumlaw20.IndexPlays", spec := "indexPlays", unfollowed := true, recurses := true, named := ["columbarium/class.sizes", "columbarium/memory.places", "columbarium/head.order", "columbarium/head.places"], apart := false, laid := [("columbarium/class.sizes", laid_columbarium_class_sizes), ("columbarium/memory.places", laid_columbarium_memory_places), ("columbarium/head.places", laid_columbarium_head_places), ("columbarium/head.order", laid_columbarium_head_order)], narrowed := true }
def IndexPlaysUptoSaid : Prop := indexPlaysUptoRow.holds Tryz.pinned (OpenSpec.upto indexPlaysSpec)

end Rows
end Go.Proofs.YtmgeiaglandedaaGreatDoor
