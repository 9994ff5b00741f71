/-
  DERIVED. GIVEN WITH THE SEED: THE CARDS: each row of YtcakoikcafiolaaDoorRows.lean that lists a variable, with what it lists TIED to the program's text (the seventh form; the later family's looks); each row that meets fmt, with fmt's text TOLD by the authors' own Lean function (tested against real Go, not proved from fmt's source: count such statements apart). THE CARD IS WHAT COUNTS. Prove the row's statement (the work); the ties are given (YtcakoikcafiolaaDoorTie.lean); close each card by the builder's one call (the guide's Derived/Test/ToyasCard.lean, 'card_holds'). Laid BY PROGRAM, IN A SANDBOX (cutbox-door.mjs). By AI agents, Wed Nov 11 2026. No macro, syntax, notation, axiom, sorry.
-/
import Derived.Test.YtcakoikcafiolaaDoorRows
import GoSem.ClaimSeven
namespace Go.Proofs.YtcakoikcafiolaaDoor
namespace Rows

/-- THE TIED CARD OF 'columbariumlaw14.ListsPlays'. -/
def listsPlaysCard : Claim7 := { stood := { row := listsPlaysRow, standIns := [], harness := (true, "d707a82ce495e2f92187731ae1013a9d08e7526ade3a058c4a30874df6da87a2"), looks := false }, kinds := [], alts := [], laidByText := true, laidKinds := [.data, .data], laidTests := true, laidLooks := .later }
def ListsPlaysCardSaid : Prop := Claim7.holds Tryd.pinned (.plain (OpenSpec.ofChange listsPlaysSpec)) listsPlaysCard

/-- THE TIED CARD OF 'columbariumlaw14.ListsSorted'. -/
def listsSortedCard : Claim7 := { stood := { row := listsSortedRow, standIns := [], harness := (true, "d707a82ce495e2f92187731ae1013a9d08e7526ade3a058c4a30874df6da87a2"), looks := false }, kinds := [], alts := [], laidByText := true, laidKinds := [.data, .data], laidTests := true, laidLooks := .later }
def ListsSortedCardSaid : Prop := Claim7.holds Tryd.pinned (.plain (OpenSpec.ofChange listsSortedSpec)) listsSortedCard

/-- THE TIED CARD OF 'columbariumlaw14.ListsBack'. -/
def listsBackCard : Claim7 := { stood := { row := listsBackRow, standIns := [], harness := (true, "d707a82ce495e2f92187731ae1013a9d08e7526ade3a058c4a30874df6da87a2"), looks := false }, kinds := [], alts := [], laidByText := true, laidKinds := [.data, .data], laidTests := true, laidLooks := .later }
def ListsBackCardSaid : Prop := Claim7.holds Tryd.pinned (.plain (OpenSpec.ofChange listsBackSpec)) listsBackCard

/-- THE SECOND FORM's CARD OF 'columbariumlaw14.ListsPlays'. -/
def listsPlaysUptoCard : Claim7 := { stood := { row := listsPlaysUptoRow, standIns := [], harness := (true, "d707a82ce495e2f92187731ae1013a9d08e7526ade3a058c4a30874df6da87a2"), looks := false }, kinds := [], alts := [], laidByText := true, laidKinds := [.data, .data], laidTests := true, laidLooks := .later }
def ListsPlaysUptoCardSaid : Prop := Claim7.holds Tryd.pinned (.plain (OpenSpec.upto listsPlaysSpec)) listsPlaysUptoCard

/-- THE SECOND FORM's CARD OF 'columbariumlaw14.ListsSorted'. -/
def listsSortedUptoCard : Claim7 := { stood := { row := listsSortedUptoRow, standIns := [], harness := (true, "d707a82ce495e2f92187731ae1013a9d08e7526ade3a058c4a30874df6da87a2"), looks := false }, kinds := [], alts := [], laidByText := true, laidKinds := [.data, .data], laidTests := true, laidLooks := .later }
def ListsSortedUptoCardSaid : Prop := Claim7.holds Tryd.pinned (.plain (OpenSpec.upto listsSortedSpec)) listsSortedUptoCard

/-- THE SECOND FORM's CARD OF 'columbariumlaw14.ListsBack'. -/
def listsBackUptoCard : Claim7 := { stood := { row := listsBackUptoRow, standIns := [], harness := (true, "d707a82ce495e2f92187731ae1013a9d08e7526ade3a058c4a30874df6da87a2"), looks := false }, kinds := [], alts := [], laidByText := true, laidKinds := [.data, .data], laidTests := true, laidLooks := .later }
def ListsBackUptoCardSaid : Prop := Claim7.holds Tryd.pinned (.plain (OpenSpec.upto listsBackSpec)) listsBackUptoCard
end Rows
end Go.Proofs.YtcakoikcafiolaaDoor
