/-
  No cell of these rows narrows 'for every input' (looked for: loops, veiled, ifaces, maps, wideKeys, modest, calm, conditions, laid).
  DERIVED. THE GIVEN ROWS OF THIS SEAT. 5 by the template 'for every input the law returns true; each argument reads behind the call as it read before'; 0 by the template 'total and deterministic' (their statements: YthokagcjbaibfaaTotals.lean).
  GIVEN WITH THE SEED: the statements are not yours to turn. If you find one false, say at which input.
  Laid BY PROGRAM, IN A SANDBOX (cutbox-rows.mjs): the forced cells as the released guide's own fill.sh prints them over the translation 73cc23a4dcb47951… (all of the seat's roots in one cut). By AI agents, Wed Nov 11 2026. No macro, syntax, notation, axiom, sorry.
-/
import Derived.Test.YthokagcjbaibfaaChecked
import GoSem.Claim
import GoSem.ClaimJoined
import GoSem.ClaimMapViews
import Derived.JoinedTies
import Derived.KernelRfl
namespace Go.Proofs.Ythokagcjbaibfaa
/- THE CELL 'sum', in the pinned program and in every row, IS THE sha256 OF THE DUMP (.gsa) THAT YthokagcjbaibfaaProg.lean LOADS. Nothing in Lean hashes anything: it is a label: what it is worth is what the hold of that sum in a sandbox is worth. -/
noncomputable def Try.pinned : Pinned := { name := "ythokagcjbaibfaa", sum := "73cc23a4dcb47951e561ab355742629901c6e87d305c25b1b2f205c681f16e8b", checked := Try.checked }
namespace Rows
def none {H : Type} : Left H := { results := [], args := [] }

/-- 'columbariumlaw18.ChanceNext': WHATEVER THE INPUT: true; the input reads as it did. -/
def chanceNextSpec : ChangeSpec := { name := "chanceNext", fn := fun _ => fun
  | [d1, d2, d3] => { results := [.lit (.bool true)], args := [d1, d2, d3] }
  | _ => none }
def chanceNextRow : OpenClaim := { program := "ythokagcjbaibfaa", sum := "73cc23a4dcb47951e561ab355742629901c6e87d305c25b1b2f205c681f16e8b", func := "columbarium/columbariumlaw18.ChanceNext", spec := "chanceNext", unfollowed := true, recurses := true, apart := false }
def ChanceNextSaid : Prop := chanceNextRow.holds Try.pinned (OpenSpec.ofChange chanceNextSpec)

/-- ITS FALSE NEIGHBOUR: 'it returns false'. Refute it at one input. -/
def chanceNextWrong : ChangeSpec := { name := "chanceNext", fn := fun _ => fun
  | [d1, d2, d3] => { results := [.lit (.bool false)], args := [d1, d2, d3] }
  | _ => none }
def ChanceNextWrongFalsely : Prop := chanceNextRow.holds Try.pinned (OpenSpec.ofChange chanceNextWrong)

/-- 'columbariumlaw18.ChanceOrder': WHATEVER THE INPUT: true; the input reads as it did. -/
def chanceOrderSpec : ChangeSpec := { name := "chanceOrder", fn := fun _ => fun
  | [d1, d2, d3] => { results := [.lit (.bool true)], args := [d1, d2, d3] }
  | _ => none }
def chanceOrderRow : OpenClaim := { program := "ythokagcjbaibfaa", sum := "73cc23a4dcb47951e561ab355742629901c6e87d305c25b1b2f205c681f16e8b", func := "columbarium/columbariumlaw18.ChanceOrder", spec := "chanceOrder", unfollowed := true, recurses := true, apart := false }
def ChanceOrderSaid : Prop := chanceOrderRow.holds Try.pinned (OpenSpec.ofChange chanceOrderSpec)

/-- ITS FALSE NEIGHBOUR: 'it returns false'. Refute it at one input. -/
def chanceOrderWrong : ChangeSpec := { name := "chanceOrder", fn := fun _ => fun
  | [d1, d2, d3] => { results := [.lit (.bool false)], args := [d1, d2, d3] }
  | _ => none }
def ChanceOrderWrongFalsely : Prop := chanceOrderRow.holds Try.pinned (OpenSpec.ofChange chanceOrderWrong)

/-- 'columbariumlaw18.ChanceBroom': WHATEVER THE INPUT: true; the input reads as it did. -/
def chanceBroomSpec : ChangeSpec := { name := "chanceBroom", fn := fun _ => fun
  | [d1, d2, d3] => { results := [.lit (.bool true)], args := [d1, d2, d3] }
  | _ => none }
def chanceBroomRow : OpenClaim := { program := "ythokagcjbaibfaa", sum := "73cc23a4dcb47951e561ab355742629901c6e87d305c25b1b2f205c681f16e8b", func := "columbarium/columbariumlaw18.ChanceBroom", spec := "chanceBroom", unfollowed := true, recurses := true, apart := false }
def ChanceBroomSaid : Prop := chanceBroomRow.holds Try.pinned (OpenSpec.ofChange chanceBroomSpec)

/-- ITS FALSE NEIGHBOUR: 'it returns false'. Refute it at one input. -/
def chanceBroomWrong : ChangeSpec := { name := "chanceBroom", fn := fun _ => fun
  | [d1, d2, d3] => { results := [.lit (.bool false)], args := [d1, d2, d3] }
  | _ => none }
def ChanceBroomWrongFalsely : Prop := chanceBroomRow.holds Try.pinned (OpenSpec.ofChange chanceBroomWrong)

/-- 'columbariumlaw18.ChanceAll': WHATEVER THE INPUT: true; the input reads as it did. -/
def chanceAllSpec : ChangeSpec := { name := "chanceAll", fn := fun _ => fun
  | [d1, d2, d3] => { results := [.lit (.bool true)], args := [d1, d2, d3] }
  | _ => none }
def chanceAllRow : OpenClaim := { program := "ythokagcjbaibfaa", sum := "73cc23a4dcb47951e561ab355742629901c6e87d305c25b1b2f205c681f16e8b", func := "columbarium/columbariumlaw18.ChanceAll", spec := "chanceAll", unfollowed := true, recurses := true, apart := false }
def ChanceAllSaid : Prop := chanceAllRow.holds Try.pinned (OpenSpec.ofChange chanceAllSpec)

/-- ITS FALSE NEIGHBOUR: 'it returns false'. Refute it at one input. -/
def chanceAllWrong : ChangeSpec := { name := "chanceAll", fn := fun _ => fun
  | [d1, d2, d3] => { results := [.lit (.bool false)], args := [d1, d2, d3] }
  | _ => none }
def ChanceAllWrongFalsely : Prop := chanceAllRow.holds Try.pinned (OpenSpec.ofChange chanceAllWrong)

/-- 'columbariumlaw18.ChanceSecond': WHATEVER THE INPUT: true; the input reads as it did. -/
def chanceSecondSpec : ChangeSpec := { name := "chanceSecond", fn := fun _ => fun
  | [d1, d2] => { results := [.lit (.bool true)], args := [d1, d2] }
  | _ => none }
def chanceSecondRow : OpenClaim := { program := "ythokagcjbaibfaa", sum := "73cc23a4dcb47951e561ab355742629901c6e87d305c25b1b2f205c681f16e8b", func := "columbarium/columbariumlaw18.ChanceSecond", spec := "chanceSecond", unfollowed := true, recurses := true, apart := false }
def ChanceSecondSaid : Prop := chanceSecondRow.holds Try.pinned (OpenSpec.ofChange chanceSecondSpec)

/-- ITS FALSE NEIGHBOUR: 'it returns false'. Refute it at one input. -/
def chanceSecondWrong : ChangeSpec := { name := "chanceSecond", fn := fun _ => fun
  | [d1, d2] => { results := [.lit (.bool false)], args := [d1, d2] }
  | _ => none }
def ChanceSecondWrongFalsely : Prop := chanceSecondRow.holds Try.pinned (OpenSpec.ofChange chanceSecondWrong)

/- THE SECOND FORM. 'bulk': how many values and letters a reading holds, each counted each time it is reached (what is shared counts as often as it is met; a slice's spare places count too). A statement '..UptoSaid' is the law's where the arguments, and the package variables that the reading takes, are together of bulk at most 1048576: NARROWER than '..Said'. Prove '..Said' where nothing that the law and all that it calls make is longer than what came in: it says more and counts as full. Else prove '..UptoSaid'. A law counts once. -/
mutual
def uptoBulk {H : Type} : DataW H → Nat
  | .lit (.string bytes) => bytes.length + 1
  | .lit _ => 1
  | .nil => 1
  | .ptr d => uptoBulk d + 1
  | .slice elems spare => uptoBulkAll elems + uptoBulkAll spare + 1
  | .agg parts => uptoBulkAll parts + 1
  | .iface _ d => uptoBulk d + 1
  | .map entries => uptoBulkEntries entries + 1
  | .held _ => 1
def uptoBulkAll {H : Type} : List (DataW H) → Nat
  | [] => 0
  | d :: r => uptoBulk d + uptoBulkAll r
def uptoBulkEntries {H : Type} : List (Lit × DataW H) → Nat
  | [] => 0
  | x :: r => uptoBulkEntry x + uptoBulkEntries r
def uptoBulkEntry {H : Type} : Lit × DataW H → Nat
  | (.string bytes, d) => bytes.length + uptoBulk d + 1
  | (_, d) => uptoBulk d + 1
 end
def uptoSmall : (H : Type) → List (DataW H) → Bool := fun _ ds => decide (uptoBulkAll ds ≤ 1048576)
def OpenSpec.upto (s : _root_.Go.ChangeSpec) : _root_.Go.OpenSpec := { _root_.Go.OpenSpec.ofChange s with cond := some uptoSmall }

/-- 'columbariumlaw18.ChanceNext', WHERE WHAT IT READS IS OF BULK AT MOST 1048576: true; the input reads as it did. -/
def chanceNextUptoRow : OpenClaim := { program := "ythokagcjbaibfaa", sum := "73cc23a4dcb47951e561ab355742629901c6e87d305c25b1b2f205c681f16e8b", func := "columbarium/columbariumlaw18.ChanceNext", spec := "chanceNext", unfollowed := true, recurses := true, apart := false, narrowed := true }
def ChanceNextUptoSaid : Prop := chanceNextUptoRow.holds Try.pinned (OpenSpec.upto chanceNextSpec)

/-- 'columbariumlaw18.ChanceOrder', WHERE WHAT IT READS IS OF BULK AT MOST 1048576: true; the input reads as it did. -/
def chanceOrderUptoRow : OpenClaim := { program := "ythokagcjbaibfaa", sum := "73cc23a4dcb47951e561ab355742629901c6e87d305c25b1b2f205c681f16e8b", func := "columbarium/columbariumlaw18.ChanceOrder", spec := "chanceOrder", unfollowed := true, recurses := true, apart := false, narrowed := true }
def ChanceOrderUptoSaid : Prop := chanceOrderUptoRow.holds Try.pinned (OpenSpec.upto chanceOrderSpec)

/-- 'columbariumlaw18.ChanceBroom', WHERE WHAT IT READS IS OF BULK AT MOST 1048576: true; the input reads as it did. -/
def chanceBroomUptoRow : OpenClaim := { program := "ythokagcjbaibfaa", sum := "73cc23a4dcb47951e561ab355742629901c6e87d305c25b1b2f205c681f16e8b", func := "columbarium/columbariumlaw18.ChanceBroom", spec := "chanceBroom", unfollowed := true, recurses := true, apart := false, narrowed := true }
def ChanceBroomUptoSaid : Prop := chanceBroomUptoRow.holds Try.pinned (OpenSpec.upto chanceBroomSpec)

/-- 'columbariumlaw18.ChanceAll', WHERE WHAT IT READS IS OF BULK AT MOST 1048576: true; the input reads as it did. -/
def chanceAllUptoRow : OpenClaim := { program := "ythokagcjbaibfaa", sum := "73cc23a4dcb47951e561ab355742629901c6e87d305c25b1b2f205c681f16e8b", func := "columbarium/columbariumlaw18.ChanceAll", spec := "chanceAll", unfollowed := true, recurses := true, apart := false, narrowed := true }
def ChanceAllUptoSaid : Prop := chanceAllUptoRow.holds Try.pinned (OpenSpec.upto chanceAllSpec)

/-- 'columbariumlaw18.ChanceSecond', WHERE WHAT IT READS IS OF BULK AT MOST 1048576: true; the input reads as it did. -/
def chanceSecondUptoRow : OpenClaim := { program := "ythokagcjbaibfaa", sum := "73cc23a4dcb47951e561ab355742629901c6e87d305c25b1b2f205c681f16e8b", func := "columbarium/columbariumlaw18.ChanceSecond", spec := "chanceSecond", unfollowed := true, recurses := true, apart := false, narrowed := true }
def ChanceSecondUptoSaid : Prop := chanceSecondUptoRow.holds Try.pinned (OpenSpec.upto chanceSecondSpec)

end Rows
end Go.Proofs.Ythokagcjbaibfaa
