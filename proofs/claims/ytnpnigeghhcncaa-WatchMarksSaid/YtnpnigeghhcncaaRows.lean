/-
  No cell of these rows narrows 'for every input' (looked for: loops, veiled, ifaces, maps, wideKeys, modest, calm, conditions, laid).
  DERIVED. THE GIVEN ROWS OF THIS SEAT. 5 by the template 'for every input the law returns true; each argument reads behind the call as it read before'; 0 by the template 'total and deterministic' (their statements: YtnpnigeghhcncaaTotals.lean).
  GIVEN WITH THE SEED: the statements are not yours to turn. If you find one false, say at which input.
  Laid BY PROGRAM, IN A SANDBOX (cutbox-rows.mjs): the forced cells as the released guide's own fill.sh prints them over the translation 6108c98b80f2c1da… (all of the seat's roots in one cut). By AI agents, Wed Nov 11 2026. No macro, syntax, notation, axiom, sorry.
-/
import Derived.Test.YtnpnigeghhcncaaChecked
import GoSem.Claim
import GoSem.ClaimJoined
import GoSem.ClaimMapViews
import Derived.JoinedTies
import Derived.KernelRfl
namespace Go.Proofs.Ytnpnigeghhcncaa
/- THE CELL 'sum', in the pinned program and in every row, IS THE sha256 OF THE DUMP (.gsa) THAT YtnpnigeghhcncaaProg.lean LOADS. Nothing in Lean hashes anything: it is a label: what it is worth is what the hold of that sum in a sandbox is worth. -/
noncomputable def Try.pinned : Pinned := { name := "ytnpnigeghhcncaa", sum := "6108c98b80f2c1daed246edd70ee0371bab6e528d65b34a13b175bfcac1d8a9b", checked := Try.checked }
namespace Rows
def none {H : Type} : Left H := { results := [], args := [] }

/-- 'columbariumlaw11.WatchPlays': WHATEVER THE INPUT: true; the input reads as it did. -/
def watchPlaysSpec : ChangeSpec := { name := "watchPlays", fn := fun _ => fun
  | [d1, d2] => { results := [.lit (.bool true)], args := [d1, d2] }
  | _ => none }
def watchPlaysRow : OpenClaim := { program := "ytnpnigeghhcncaa", sum := "6108c98b80f2c1daed246edd70ee0371bab6e528d65b34a13b175bfcac1d8a9b", func := "columbarium/columbariumlaw11.WatchPlays", spec := "watchPlays", unfollowed := true, recurses := true, apart := false }
def WatchPlaysSaid : Prop := watchPlaysRow.holds Try.pinned (OpenSpec.ofChange watchPlaysSpec)

/-- ITS FALSE NEIGHBOUR: 'it returns false'. Refute it at one input. -/
def watchPlaysWrong : ChangeSpec := { name := "watchPlays", fn := fun _ => fun
  | [d1, d2] => { results := [.lit (.bool false)], args := [d1, d2] }
  | _ => none }
def WatchPlaysWrongFalsely : Prop := watchPlaysRow.holds Try.pinned (OpenSpec.ofChange watchPlaysWrong)

/-- 'columbariumlaw11.WatchMarks': WHATEVER THE INPUT: true; the input reads as it did. -/
def watchMarksSpec : ChangeSpec := { name := "watchMarks", fn := fun _ => fun
  | [d1, d2, d3] => { results := [.lit (.bool true)], args := [d1, d2, d3] }
  | _ => none }
def watchMarksRow : OpenClaim := { program := "ytnpnigeghhcncaa", sum := "6108c98b80f2c1daed246edd70ee0371bab6e528d65b34a13b175bfcac1d8a9b", func := "columbarium/columbariumlaw11.WatchMarks", spec := "watchMarks", unfollowed := true, recurses := true, apart := false }
def WatchMarksSaid : Prop := watchMarksRow.holds Try.pinned (OpenSpec.ofChange watchMarksSpec)

/-- ITS FALSE NEIGHBOUR: 'it returns false'. Refute it at one input. -/
def watchMarksWrong : ChangeSpec := { name := "watchMarks", fn := fun _ => fun
  | [d1, d2, d3] => { results := [.lit (.bool false)], args := [d1, d2, d3] }
  | _ => none }
def WatchMarksWrongFalsely : Prop := watchMarksRow.holds Try.pinned (OpenSpec.ofChange watchMarksWrong)

/-- 'columbariumlaw11.WatchSums': WHATEVER THE INPUT: true; the input reads as it did. -/
def watchSumsSpec : ChangeSpec := { name := "watchSums", fn := fun _ => fun
  | [d1, d2] => { results := [.lit (.bool true)], args := [d1, d2] }
  | _ => none }
def watchSumsRow : OpenClaim := { program := "ytnpnigeghhcncaa", sum := "6108c98b80f2c1daed246edd70ee0371bab6e528d65b34a13b175bfcac1d8a9b", func := "columbarium/columbariumlaw11.WatchSums", spec := "watchSums", unfollowed := true, recurses := true, apart := false }
def WatchSumsSaid : Prop := watchSumsRow.holds Try.pinned (OpenSpec.ofChange watchSumsSpec)

/-- ITS FALSE NEIGHBOUR: 'it returns false'. Refute it at one input. -/
def watchSumsWrong : ChangeSpec := { name := "watchSums", fn := fun _ => fun
  | [d1, d2] => { results := [.lit (.bool false)], args := [d1, d2] }
  | _ => none }
def WatchSumsWrongFalsely : Prop := watchSumsRow.holds Try.pinned (OpenSpec.ofChange watchSumsWrong)

/-- 'columbariumlaw11.WatchLooks': WHATEVER THE INPUT: true; the input reads as it did. -/
def watchLooksSpec : ChangeSpec := { name := "watchLooks", fn := fun _ => fun
  | [d1, d2, d3, d4, d5] => { results := [.lit (.bool true)], args := [d1, d2, d3, d4, d5] }
  | _ => none }
def watchLooksRow : OpenClaim := { program := "ytnpnigeghhcncaa", sum := "6108c98b80f2c1daed246edd70ee0371bab6e528d65b34a13b175bfcac1d8a9b", func := "columbarium/columbariumlaw11.WatchLooks", spec := "watchLooks", unfollowed := true, recurses := true, apart := false }
def WatchLooksSaid : Prop := watchLooksRow.holds Try.pinned (OpenSpec.ofChange watchLooksSpec)

/-- ITS FALSE NEIGHBOUR: 'it returns false'. Refute it at one input. -/
def watchLooksWrong : ChangeSpec := { name := "watchLooks", fn := fun _ => fun
  | [d1, d2, d3, d4, d5] => { results := [.lit (.bool false)], args := [d1, d2, d3, d4, d5] }
  | _ => none }
def WatchLooksWrongFalsely : Prop := watchLooksRow.holds Try.pinned (OpenSpec.ofChange watchLooksWrong)

/-- 'columbariumlaw11.WatchNil': WHATEVER THE INPUT: true; the input reads as it did. -/
def watchNilSpec : ChangeSpec := { name := "watchNil", fn := fun _ => fun
  | [d] => { results := [.lit (.bool true)], args := [d] }
  | _ => none }
def watchNilRow : OpenClaim := { program := "ytnpnigeghhcncaa", sum := "6108c98b80f2c1daed246edd70ee0371bab6e528d65b34a13b175bfcac1d8a9b", func := "columbarium/columbariumlaw11.WatchNil", spec := "watchNil", unfollowed := true, recurses := true, apart := false }
def WatchNilSaid : Prop := watchNilRow.holds Try.pinned (OpenSpec.ofChange watchNilSpec)

/-- ITS FALSE NEIGHBOUR: 'it returns false'. Refute it at one input. -/
def watchNilWrong : ChangeSpec := { name := "watchNil", fn := fun _ => fun
  | [d] => { results := [.lit (.bool false)], args := [d] }
  | _ => none }
def WatchNilWrongFalsely : Prop := watchNilRow.holds Try.pinned (OpenSpec.ofChange watchNilWrong)

/- THE SECOND FORM. 'bulk': how many values and letters a reading holds, each counted each time it is reached (what is shared counts as often as it is met; a slice's spare places count too). A statement '..UptoSaid' is the law's where the arguments, and the package variables that the reading takes, are together of bulk at most 1048576: NARROWER than '..Said'. Prove '..Said' where nothing that the law and all that it calls make is longer than what came in: it says more and counts as full. Else prove '..UptoSaid'. A law counts once. -/
mutual
def uptoBulk {H : Type} : DataW H → Nat
  | .lit (.string bytes) => bytes.length + 1
  | .lit _ => 1
  | .nil => 1
  | .ptr d => uptoBulk d + 1
  | .slice elems spare => uptoBulkAll elems + uptoBulkAll spare + 1
  | .agg parts => uptoBulkAll parts + 1
  | .iface _ d => uptoBulk d + 1
  | .map entries => uptoBulkEntries entries + 1
  | .held _ => 1
def uptoBulkAll {H : Type} : List (DataW H) → Nat
  | [] => 0
  | d :: r => uptoBulk d + uptoBulkAll r
def uptoBulkEntries {H : Type} : List (Lit × DataW H) → Nat
  | [] => 0
  | x :: r => uptoBulkEntry x + uptoBulkEntries r
def uptoBulkEntry {H : Type} : Lit × DataW H → Nat
  | (.string bytes, d) => bytes.length + uptoBulk d + 1
  | (_, d) => uptoBulk d + 1
 end
def uptoSmall : (H : Type) → List (DataW H) → Bool := fun _ ds => decide (uptoBulkAll ds ≤ 1048576)
def OpenSpec.upto (s : _root_.Go.ChangeSpec) : _root_.Go.OpenSpec := { _root_.Go.OpenSpec.ofChange s with cond := some uptoSmall }

/-- 'columbariumlaw11.WatchPlays', WHERE WHAT IT READS IS OF BULK AT MOST 1048576: true; the input reads as it did. -/
def watchPlaysUptoRow : OpenClaim := { program := "ytnpnigeghhcncaa", sum := "6108c98b80f2c1daed246edd70ee0371bab6e528d65b34a13b175bfcac1d8a9b", func := "columbarium/columbariumlaw11.WatchPlays", spec := "watchPlays", unfollowed := true, recurses := true, apart := false, narrowed := true }
def WatchPlaysUptoSaid : Prop := watchPlaysUptoRow.holds Try.pinned (OpenSpec.upto watchPlaysSpec)

/-- 'columbariumlaw11.WatchMarks', WHERE WHAT IT READS IS OF BULK AT MOST 1048576: true; the input reads as it did. -/
def watchMarksUptoRow : OpenClaim := { program := "ytnpnigeghhcncaa", sum := "6108c98b80f2c1daed246edd70ee0371bab6e528d65b34a13b175bfcac1d8a9b", func := "columbarium/columbariumlaw11.WatchMarks", spec := "watchMarks", unfollowed := true, recurses := true, apart := false, narrowed := true }
def WatchMarksUptoSaid : Prop := watchMarksUptoRow.holds Try.pinned (OpenSpec.upto watchMarksSpec)

/-- 'columbariumlaw11.WatchSums', WHERE WHAT IT READS IS OF BULK AT MOST 1048576: true; the input reads as it did. -/
def watchSumsUptoRow : OpenClaim := { program := "ytnpnigeghhcncaa", sum := "6108c98b80f2c1daed246edd70ee0371bab6e528d65b34a13b175bfcac1d8a9b", func := "columbarium/columbariumlaw11.WatchSums", spec := "watchSums", unfollowed := true, recurses := true, apart := false, narrowed := true }
def WatchSumsUptoSaid : Prop := watchSumsUptoRow.holds Try.pinned (OpenSpec.upto watchSumsSpec)

/-- 'columbariumlaw11.WatchLooks', WHERE WHAT IT READS IS OF BULK AT MOST 1048576: true; the input reads as it did. -/
def watchLooksUptoRow : OpenClaim := { program := "ytnpnigeghhcncaa", sum := "6108c98b80f2c1daed246edd70ee0371bab6e528d65b34a13b175bfcac1d8a9b", func := "columbarium/columbariumlaw11.WatchLooks", spec := "watchLooks", unfollowed := true, recurses := true, apart := false, narrowed := true }
def WatchLooksUptoSaid : Prop := watchLooksUptoRow.holds Try.pinned (OpenSpec.upto watchLooksSpec)

/-- 'columbariumlaw11.WatchNil', WHERE WHAT IT READS IS OF BULK AT MOST 1048576: true; the input reads as it did. -/
def watchNilUptoRow : OpenClaim := { program := "ytnpnigeghhcncaa", sum := "6108c98b80f2c1daed246edd70ee0371bab6e528d65b34a13b175bfcac1d8a9b", func := "columbarium/columbariumlaw11.WatchNil", spec := "watchNil", unfollowed := true, recurses := true, apart := false, narrowed := true }
def WatchNilUptoSaid : Prop := watchNilUptoRow.holds Try.pinned (OpenSpec.upto watchNilSpec)

end Rows
end Go.Proofs.Ytnpnigeghhcncaa
