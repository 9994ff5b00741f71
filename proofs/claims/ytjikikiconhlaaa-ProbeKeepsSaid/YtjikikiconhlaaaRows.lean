/-
  No cell of these rows narrows 'for every input' (looked for: loops, veiled, ifaces, maps, wideKeys, modest, calm, conditions, laid).
  DERIVED. THE GIVEN ROWS OF THIS SEAT. 5 by the template 'for every input the law returns true; each argument reads behind the call as it read before'; 0 by the template 'total and deterministic' (their statements: YtjikikiconhlaaaTotals.lean).
  GIVEN WITH THE SEED: the statements are not yours to turn. If you find one false, say at which input.
  Laid BY PROGRAM, IN A SANDBOX (cutbox-rows.mjs): the forced cells as the released guide's own fill.sh prints them over the translation c1db298695c2a95f… (all of the seat's roots in one cut). By AI agents, Wed Nov 11 2026. No macro, syntax, notation, axiom, sorry.
-/
import Derived.Test.YtjikikiconhlaaaChecked
import GoSem.Claim
import GoSem.ClaimJoined
import GoSem.ClaimMapViews
import Derived.JoinedTies
import Derived.KernelRfl
namespace Go.Proofs.Ytjikikiconhlaaa
/- THE CELL 'sum', in the pinned program and in every row, IS THE sha256 OF THE DUMP (.gsa) THAT YtjikikiconhlaaaProg.lean LOADS. Nothing in Lean hashes anything: it is a label: what it is worth is what the hold of that sum in a sandbox is worth. -/
noncomputable def Try.pinned : Pinned := { name := "ytjikikiconhlaaa", sum := "c1db298695c2a95f1b2eea2b66be3c12dc081fffcec5866475f588d7282303c3", checked := Try.checked }
namespace Rows
def none {H : Type} : Left H := { results := [], args := [] }

/-- 'columbariumlaw19.ProbeTables': WHATEVER THE INPUT: true; the input reads as it did. -/
def probeTablesSpec : ChangeSpec := { name := "probeTables", fn := fun _ => fun
  | [d1, d2, d3] => { results := [.lit (.bool true)], args := [d1, d2, d3] }
  | _ => none }
def probeTablesRow : OpenClaim := { program := "ytjikikiconhlaaa", sum := "c1db298695c2a95f1b2eea2b66be3c12dc081fffcec5866475f588d7282303c3", func := "columbarium/columbariumlaw19.ProbeTables", spec := "probeTables", unfollowed := true, recurses := true, apart := false }
def ProbeTablesSaid : Prop := probeTablesRow.holds Try.pinned (OpenSpec.ofChange probeTablesSpec)

/-- ITS FALSE NEIGHBOUR: 'it returns false'. Refute it at one input. -/
def probeTablesWrong : ChangeSpec := { name := "probeTables", fn := fun _ => fun
  | [d1, d2, d3] => { results := [.lit (.bool false)], args := [d1, d2, d3] }
  | _ => none }
def ProbeTablesWrongFalsely : Prop := probeTablesRow.holds Try.pinned (OpenSpec.ofChange probeTablesWrong)

/-- 'columbariumlaw19.ProbeDistance': WHATEVER THE INPUT: true; the input reads as it did. -/
def probeDistanceSpec : ChangeSpec := { name := "probeDistance", fn := fun _ => fun
  | [d1, d2, d3] => { results := [.lit (.bool true)], args := [d1, d2, d3] }
  | _ => none }
def probeDistanceRow : OpenClaim := { program := "ytjikikiconhlaaa", sum := "c1db298695c2a95f1b2eea2b66be3c12dc081fffcec5866475f588d7282303c3", func := "columbarium/columbariumlaw19.ProbeDistance", spec := "probeDistance", unfollowed := true, recurses := true, apart := false }
def ProbeDistanceSaid : Prop := probeDistanceRow.holds Try.pinned (OpenSpec.ofChange probeDistanceSpec)

/-- ITS FALSE NEIGHBOUR: 'it returns false'. Refute it at one input. -/
def probeDistanceWrong : ChangeSpec := { name := "probeDistance", fn := fun _ => fun
  | [d1, d2, d3] => { results := [.lit (.bool false)], args := [d1, d2, d3] }
  | _ => none }
def ProbeDistanceWrongFalsely : Prop := probeDistanceRow.holds Try.pinned (OpenSpec.ofChange probeDistanceWrong)

/-- 'columbariumlaw19.ProbeKeeps': WHATEVER THE INPUT: true; the input reads as it did. -/
def probeKeepsSpec : ChangeSpec := { name := "probeKeeps", fn := fun _ => fun
  | [d1, d2] => { results := [.lit (.bool true)], args := [d1, d2] }
  | _ => none }
def probeKeepsRow : OpenClaim := { program := "ytjikikiconhlaaa", sum := "c1db298695c2a95f1b2eea2b66be3c12dc081fffcec5866475f588d7282303c3", func := "columbarium/columbariumlaw19.ProbeKeeps", spec := "probeKeeps", unfollowed := true, recurses := true, apart := false }
def ProbeKeepsSaid : Prop := probeKeepsRow.holds Try.pinned (OpenSpec.ofChange probeKeepsSpec)

/-- ITS FALSE NEIGHBOUR: 'it returns false'. Refute it at one input. -/
def probeKeepsWrong : ChangeSpec := { name := "probeKeeps", fn := fun _ => fun
  | [d1, d2] => { results := [.lit (.bool false)], args := [d1, d2] }
  | _ => none }
def ProbeKeepsWrongFalsely : Prop := probeKeepsRow.holds Try.pinned (OpenSpec.ofChange probeKeepsWrong)

/-- 'columbariumlaw19.ProbeBack': WHATEVER THE INPUT: true; the input reads as it did. -/
def probeBackSpec : ChangeSpec := { name := "probeBack", fn := fun _ => fun
  | [d1, d2, d3] => { results := [.lit (.bool true)], args := [d1, d2, d3] }
  | _ => none }
def probeBackRow : OpenClaim := { program := "ytjikikiconhlaaa", sum := "c1db298695c2a95f1b2eea2b66be3c12dc081fffcec5866475f588d7282303c3", func := "columbarium/columbariumlaw19.ProbeBack", spec := "probeBack", unfollowed := true, recurses := true, apart := false }
def ProbeBackSaid : Prop := probeBackRow.holds Try.pinned (OpenSpec.ofChange probeBackSpec)

/-- ITS FALSE NEIGHBOUR: 'it returns false'. Refute it at one input. -/
def probeBackWrong : ChangeSpec := { name := "probeBack", fn := fun _ => fun
  | [d1, d2, d3] => { results := [.lit (.bool false)], args := [d1, d2, d3] }
  | _ => none }
def ProbeBackWrongFalsely : Prop := probeBackRow.holds Try.pinned (OpenSpec.ofChange probeBackWrong)

/-- 'columbariumlaw19.ProbeNear': WHATEVER THE INPUT: true; the input reads as it did. -/
def probeNearSpec : ChangeSpec := { name := "probeNear", fn := fun _ => fun
  | [d] => { results := [.lit (.bool true)], args := [d] }
  | _ => none }
def probeNearRow : OpenClaim := { program := "ytjikikiconhlaaa", sum := "c1db298695c2a95f1b2eea2b66be3c12dc081fffcec5866475f588d7282303c3", func := "columbarium/columbariumlaw19.ProbeNear", spec := "probeNear", unfollowed := true, recurses := true, apart := false }
def ProbeNearSaid : Prop := probeNearRow.holds Try.pinned (OpenSpec.ofChange probeNearSpec)

/-- ITS FALSE NEIGHBOUR: 'it returns false'. Refute it at one input. -/
def probeNearWrong : ChangeSpec := { name := "probeNear", fn := fun _ => fun
  | [d] => { results := [.lit (.bool false)], args := [d] }
  | _ => none }
def ProbeNearWrongFalsely : Prop := probeNearRow.holds Try.pinned (OpenSpec.ofChange probeNearWrong)

/- THE SECOND FORM. 'bulk': how many values and letters a reading holds, each counted each time it is reached (what is shared counts as often as it is met; a slice's spare places count too). A statement '..UptoSaid' is the law's where the arguments, and the package variables that the reading takes, are together of bulk at most 1048576: NARROWER than '..Said'. Prove '..Said' where nothing that the law and all that it calls make is longer than what came in: it says more and counts as full. Else prove '..UptoSaid'. A law counts once. -/
mutual
def uptoBulk {H : Type} : DataW H → Nat
  | .lit (.string bytes) => bytes.length + 1
  | .lit _ => 1
  | .nil => 1
  | .ptr d => uptoBulk d + 1
  | .slice elems spare => uptoBulkAll elems + uptoBulkAll spare + 1
  | .agg parts => uptoBulkAll parts + 1
  | .iface _ d => uptoBulk d + 1
  | .map entries => uptoBulkEntries entries + 1
  | .held _ => 1
def uptoBulkAll {H : Type} : List (DataW H) → Nat
  | [] => 0
  | d :: r => uptoBulk d + uptoBulkAll r
def uptoBulkEntries {H : Type} : List (Lit × DataW H) → Nat
  | [] => 0
  | x :: r => uptoBulkEntry x + uptoBulkEntries r
def uptoBulkEntry {H : Type} : Lit × DataW H → Nat
  | (.string bytes, d) => bytes.length + uptoBulk d + 1
  | (_, d) => uptoBulk d + 1
 end
def uptoSmall : (H : Type) → List (DataW H) → Bool := fun _ ds => decide (uptoBulkAll ds ≤ 1048576)
def OpenSpec.upto (s : _root_.Go.ChangeSpec) : _root_.Go.OpenSpec := { _root_.Go.OpenSpec.ofChange s with cond := some uptoSmall }

/-- 'columbariumlaw19.ProbeTables', WHERE WHAT IT READS IS OF BULK AT MOST 1048576: true; the input reads as it did. -/
def probeTablesUptoRow : OpenClaim := { program := "ytjikikiconhlaaa", sum := "c1db298695c2a95f1b2eea2b66be3c12dc081fffcec5866475f588d7282303c3", func := "columbarium/columbariumlaw19.ProbeTables", spec := "probeTables", unfollowed := true, recurses := true, apart := false, narrowed := true }
def ProbeTablesUptoSaid : Prop := probeTablesUptoRow.holds Try.pinned (OpenSpec.upto probeTablesSpec)

/-- 'columbariumlaw19.ProbeDistance', WHERE WHAT IT READS IS OF BULK AT MOST 1048576: true; the input reads as it did. -/
def probeDistanceUptoRow : OpenClaim := { program := "ytjikikiconhlaaa", sum := "c1db298695c2a95f1b2eea2b66be3c12dc081fffcec5866475f588d7282303c3", func := "columbarium/columbariumlaw19.ProbeDistance", spec := "probeDistance", unfollowed := true, recurses := true, apart := false, narrowed := true }
def ProbeDistanceUptoSaid : Prop := probeDistanceUptoRow.holds Try.pinned (OpenSpec.upto probeDistanceSpec)

/-- 'columbariumlaw19.ProbeKeeps', WHERE WHAT IT READS IS OF BULK AT MOST 1048576: true; the input reads as it did. -/
def probeKeepsUptoRow : OpenClaim := { program := "ytjikikiconhlaaa", sum := "c1db298695c2a95f1b2eea2b66be3c12dc081fffcec5866475f588d7282303c3", func := "columbarium/columbariumlaw19.ProbeKeeps", spec := "probeKeeps", unfollowed := true, recurses := true, apart := false, narrowed := true }
def ProbeKeepsUptoSaid : Prop := probeKeepsUptoRow.holds Try.pinned (OpenSpec.upto probeKeepsSpec)

/-- 'columbariumlaw19.ProbeBack', WHERE WHAT IT READS IS OF BULK AT MOST 1048576: true; the input reads as it did. -/
def probeBackUptoRow : OpenClaim := { program := "ytjikikiconhlaaa", sum := "c1db298695c2a95f1b2eea2b66be3c12dc081fffcec5866475f588d7282303c3", func := "columbarium/columbariumlaw19.ProbeBack", spec := "probeBack", unfollowed := true, recurses := true, apart := false, narrowed := true }
def ProbeBackUptoSaid : Prop := probeBackUptoRow.holds Try.pinned (OpenSpec.upto probeBackSpec)

/-- 'columbariumlaw19.ProbeNear', WHERE WHAT IT READS IS OF BULK AT MOST 1048576: true; the input reads as it did. -/
def probeNearUptoRow : OpenClaim := { program := "ytjikikiconhlaaa", sum := "c1db298695c2a95f1b2eea2b66be3c12dc081fffcec5866475f588d7282303c3", func := "columbarium/columbariumlaw19.ProbeNear", spec := "probeNear", unfollowed := true, recurses := true, apart := false, narrowed := true }
def ProbeNearUptoSaid : Prop := probeNearUptoRow.holds Try.pinned (OpenSpec.upto probeNearSpec)

end Rows
end Go.Proofs.Ytjikikiconhlaaa
