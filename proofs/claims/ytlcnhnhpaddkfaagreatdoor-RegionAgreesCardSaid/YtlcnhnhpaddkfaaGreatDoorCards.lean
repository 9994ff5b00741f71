/-
  DERIVED. GIVEN WITH THE SEED: THE CARDS: each row of YtlcnhnhpaddkfaaGreatDoorRows.lean that lists a variable, with what it lists TIED to the program's text (the seventh form; the later family's looks); each row that meets fmt, with fmt's text TOLD by the authors' own Lean function (tested against real Go, not proved from fmt's source: count such statements apart). THE CARD IS WHAT COUNTS. Prove the row's statement (the work); the ties are given (YtlcnhnhpaddkfaaGreatDoorTie.lean); close each card by the builder's one call (the guide's Derived/Test/ToyasCard.lean, 'card_holds'). Laid BY PROGRAM, IN A SANDBOX (cutbox-door.mjs). By AI agents, Wed Nov 11 2026. No macro, syntax, notation, axiom, sorry.
-/
import Derived.Test.YtlcnhnhpaddkfaaGreatDoorRows
import GoSem.ClaimSeven
namespace Go.Proofs.YtlcnhnhpaddkfaaGreatDoor
namespace Rows

/-- THE TIED CARD OF 'columbariumlaw15.SlabPlays'. -/
def slabPlaysCard : Claim7 := { stood := { row := slabPlaysRow, standIns := [], harness := (true, "41d4091d3189a2666ad1d2689c411789a7cadd7eb993b21bc8a87653431ab131"), looks := true }, kinds := [], alts := [], laidByText := true, laidKinds := [.data, .data, .data, .data], laidTests := true, laidLooks := .later }
def SlabPlaysCardSaid : Prop := Claim7.holds Tryz.pinned (.plain (OpenSpec.ofChange slabPlaysSpec)) slabPlaysCard

/-- THE TIED CARD OF 'columbariumlaw15.SlabBlocks'. -/
def slabBlocksCard : Claim7 := { stood := { row := slabBlocksRow, standIns := [], harness := (true, "41d4091d3189a2666ad1d2689c411789a7cadd7eb993b21bc8a87653431ab131"), looks := true }, kinds := [], alts := [], laidByText := true, laidKinds := [.data, .data, .data, .data], laidTests := true, laidLooks := .later }
def SlabBlocksCardSaid : Prop := Claim7.holds Tryz.pinned (.plain (OpenSpec.ofChange slabBlocksSpec)) slabBlocksCard

/-- THE TIED CARD OF 'columbariumlaw15.SlabOnce'. -/
def slabOnceCard : Claim7 := { stood := { row := slabOnceRow, standIns := [], harness := (true, "41d4091d3189a2666ad1d2689c411789a7cadd7eb993b21bc8a87653431ab131"), looks := true }, kinds := [], alts := [], laidByText := true, laidKinds := [.data, .data, .data, .data], laidTests := true, laidLooks := .later }
def SlabOnceCardSaid : Prop := Claim7.holds Tryz.pinned (.plain (OpenSpec.ofChange slabOnceSpec)) slabOnceCard

/-- THE TIED CARD OF 'columbariumlaw15.SlabBack'. -/
def slabBackCard : Claim7 := { stood := { row := slabBackRow, standIns := [], harness := (true, "41d4091d3189a2666ad1d2689c411789a7cadd7eb993b21bc8a87653431ab131"), looks := true }, kinds := [], alts := [], laidByText := true, laidKinds := [.data, .data, .data, .data], laidTests := true, laidLooks := .later }
def SlabBackCardSaid : Prop := Claim7.holds Tryz.pinned (.plain (OpenSpec.ofChange slabBackSpec)) slabBackCard

/-- THE TIED CARD OF 'columbariumlaw15.SlabClean'. -/
def slabCleanCard : Claim7 := { stood := { row := slabCleanRow, standIns := [], harness := (true, "41d4091d3189a2666ad1d2689c411789a7cadd7eb993b21bc8a87653431ab131"), looks := true }, kinds := [], alts := [], laidByText := true, laidKinds := [.data, .data, .data, .data], laidTests := true, laidLooks := .later }
def SlabCleanCardSaid : Prop := Claim7.holds Tryz.pinned (.plain (OpenSpec.ofChange slabCleanSpec)) slabCleanCard

/-- THE TIED CARD OF 'columbariumlaw16.RegionRuns'. -/
def regionRunsCard : Claim7 := { stood := { row := regionRunsRow, standIns := [], harness := (true, "41d4091d3189a2666ad1d2689c411789a7cadd7eb993b21bc8a87653431ab131"), looks := true }, kinds := [], alts := [], laidByText := true, laidKinds := [.data, .handle, .data, .data, .data], laidTests := true, laidLooks := .later }
def RegionRunsCardSaid : Prop := Claim7.holds Tryz.pinned (.plain (OpenSpec.ofChange regionRunsSpec)) regionRunsCard

/-- THE TIED CARD OF 'columbariumlaw16.RegionAgrees'. -/
def regionAgreesCard : Claim7 := { stood := { row := regionAgreesRow, standIns := [], harness := (true, "41d4091d3189a2666ad1d2689c411789a7cadd7eb993b21bc8a87653431ab131"), looks := true }, kinds := [], alts := [], laidByText := true, laidKinds := [.data, .handle, .data, .data, .data], laidTests := true, laidLooks := .later }
def RegionAgreesCardSaid : Prop := Claim7.holds Tryz.pinned (.plain (OpenSpec.ofChange regionAgreesSpec)) regionAgreesCard

/-- THE TIED CARD OF 'columbariumlaw16.RegionBack'. -/
def regionBackCard : Claim7 := { stood := { row := regionBackRow, standIns := [], harness := (true, "41d4091d3189a2666ad1d2689c411789a7cadd7eb993b21bc8a87653431ab131"), looks := true }, kinds := [], alts := [], laidByText := true, laidKinds := [.data, .handle, .data, .data, .data], laidTests := true, laidLooks := .later }
def RegionBackCardSaid : Prop := Claim7.holds Tryz.pinned (.plain (OpenSpec.ofChange regionBackSpec)) regionBackCard

/-- THE TIED CARD OF 'columbariumlaw16.RegionRestores'. -/
def regionRestoresCard : Claim7 := { stood := { row := regionRestoresRow, standIns := [], harness := (true, "41d4091d3189a2666ad1d2689c411789a7cadd7eb993b21bc8a87653431ab131"), looks := true }, kinds := [], alts := [], laidByText := true, laidKinds := [.data, .handle, .data, .data, .data], laidTests := true, laidLooks := .later }
def RegionRestoresCardSaid : Prop := Claim7.holds Tryz.pinned (.plain (OpenSpec.ofChange regionRestoresSpec)) regionRestoresCard

/-- THE SECOND FORM's CARD OF 'columbariumlaw15.SlabPlays'. -/
def slabPlaysUptoCard : Claim7 := { stood := { row := slabPlaysUptoRow, standIns := [], harness := (true, "41d4091d3189a2666ad1d2689c411789a7cadd7eb993b21bc8a87653431ab131"), looks := true }, kinds := [], alts := [], laidByText := true, laidKinds := [.data, .data, .data, .data], laidTests := true, laidLooks := .later }
def SlabPlaysUptoCardSaid : Prop := Claim7.holds Tryz.pinned (.plain (OpenSpec.upto slabPlaysSpec)) slabPlaysUptoCard

/-- THE SECOND FORM's CARD OF 'columbariumlaw15.SlabBlocks'. -/
def slabBlocksUptoCard : Claim7 := { stood := { row := slabBlocksUptoRow, standIns := [], harness := (true, "41d4091d3189a2666ad1d2689c411789a7cadd7eb993b21bc8a87653431ab131"), looks := true }, kinds := [], alts := [], laidByText := true, laidKinds := [.data, .data, .data, .data], laidTests := true, laidLooks := .later }
def SlabBlocksUptoCardSaid : Prop := Claim7.holds Tryz.pinned (.plain (OpenSpec.upto slabBlocksSpec)) slabBlocksUptoCard

/-- THE SECOND FORM's CARD OF 'columbariumlaw15.SlabOnce'. -/
def slabOnceUptoCard : Claim7 := { stood := { row := slabOnceUptoRow, standIns := [], harness := (true, "41d4091d3189a2666ad1d2689c411789a7cadd7eb993b21bc8a87653431ab131"), looks := true }, kinds := [], alts := [], laidByText := true, laidKinds := [.data, .data, .data, .data], laidTests := true, laidLooks := .later }
def SlabOnceUptoCardSaid : Prop := Claim7.holds Tryz.pinned (.plain (OpenSpec.upto slabOnceSpec)) slabOnceUptoCard

/-- THE SECOND FORM's CARD OF 'columbariumlaw15.SlabBack'. -/
def slabBackUptoCard : Claim7 := { stood := { row := slabBackUptoRow, standIns := [], harness := (true, "41d4091d3189a2666ad1d2689c411789a7cadd7eb993b21bc8a87653431ab131"), looks := true }, kinds := [], alts := [], laidByText := true, laidKinds := [.data, .data, .data, .data], laidTests := true, laidLooks := .later }
def SlabBackUptoCardSaid : Prop := Claim7.holds Tryz.pinned (.plain (OpenSpec.upto slabBackSpec)) slabBackUptoCard

/-- THE SECOND FORM's CARD OF 'columbariumlaw15.SlabClean'. -/
def slabCleanUptoCard : Claim7 := { stood := { row := slabCleanUptoRow, standIns := [], harness := (true, "41d4091d3189a2666ad1d2689c411789a7cadd7eb993b21bc8a87653431ab131"), looks := true }, kinds := [], alts := [], laidByText := true, laidKinds := [.data, .data, .data, .data], laidTests := true, laidLooks := .later }
def SlabCleanUptoCardSaid : Prop := Claim7.holds Tryz.pinned (.plain (OpenSpec.upto slabCleanSpec)) slabCleanUptoCard

/-- THE SECOND FORM's CARD OF 'columbariumlaw16.RegionRuns'. -/
def regionRunsUptoCard : Claim7 := { stood := { row := regionRunsUptoRow, standIns := [], harness := (true, "41d4091d3189a2666ad1d2689c411789a7cadd7eb993b21bc8a87653431ab131"), looks := true }, kinds := [], alts := [], laidByText := true, laidKinds := [.data, .handle, .data, .data, .data], laidTests := true, laidLooks := .later }
def RegionRunsUptoCardSaid : Prop := Claim7.holds Tryz.pinned (.plain (OpenSpec.upto regionRunsSpec)) regionRunsUptoCard

/-- THE SECOND FORM's CARD OF 'columbariumlaw16.RegionAgrees'. -/
def regionAgreesUptoCard : Claim7 := { stood := { row := regionAgreesUptoRow, standIns := [], harness := (true, "41d4091d3189a2666ad1d2689c411789a7cadd7eb993b21bc8a87653431ab131"), looks := true }, kinds := [], alts := [], laidByText := true, laidKinds := [.data, .handle, .data, .data, .data], laidTests := true, laidLooks := .later }
def RegionAgreesUptoCardSaid : Prop := Claim7.holds Tryz.pinned (.plain (OpenSpec.upto regionAgreesSpec)) regionAgreesUptoCard

/-- THE SECOND FORM's CARD OF 'columbariumlaw16.RegionBack'. -/
def regionBackUptoCard : Claim7 := { stood := { row := regionBackUptoRow, standIns := [], harness := (true, "41d4091d3189a2666ad1d2689c411789a7cadd7eb993b21bc8a87653431ab131"), looks := true }, kinds := [], alts := [], laidByText := true, laidKinds := [.data, .handle, .data, .data, .data], laidTests := true, laidLooks := .later }
def RegionBackUptoCardSaid : Prop := Claim7.holds Tryz.pinned (.plain (OpenSpec.upto regionBackSpec)) regionBackUptoCard

/-- THE SECOND FORM's CARD OF 'columbariumlaw16.RegionRestores'. -/
def regionRestoresUptoCard : Claim7 := { stood := { row := regionRestoresUptoRow, standIns := [], harness := (true, "41d4091d3189a2666ad1d2689c411789a7cadd7eb993b21bc8a87653431ab131"), looks := true }, kinds := [], alts := [], laidByText := true, laidKinds := [.data, .handle, .data, .data, .data], laidTests := true, laidLooks := .later }
def RegionRestoresUptoCardSaid : Prop := Claim7.holds Tryz.pinned (.plain (OpenSpec.upto regionRestoresSpec)) regionRestoresUptoCard
end Rows
end Go.Proofs.YtlcnhnhpaddkfaaGreatDoor
