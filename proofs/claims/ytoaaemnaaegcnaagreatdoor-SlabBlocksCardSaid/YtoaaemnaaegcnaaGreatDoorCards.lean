/-
  DERIVED. GIVEN WITH THE SEED: THE CARDS: each row of YtoaaemnaaegcnaaGreatDoorRows.lean that lists a variable, with what it lists TIED to the program's text (the seventh form; the later family's looks); each row that meets fmt, with fmt's text TOLD by the authors' own Lean function (tested against real Go, not proved from fmt's source: count such statements apart). THE CARD IS WHAT COUNTS. Prove the row's statement (the work); the ties are given (YtoaaemnaaegcnaaGreatDoorTie.lean); close each card by the builder's one call (the guide's Derived/Test/ToyasCard.lean, 'card_holds'). Laid BY PROGRAM, IN A SANDBOX (cutbox-door.mjs). By AI agents, Wed Nov 11 2026. No macro, syntax, notation, axiom, sorry.
-/
import Derived.Test.YtoaaemnaaegcnaaGreatDoorRows
import GoSem.ClaimSeven
namespace Go.Proofs.YtoaaemnaaegcnaaGreatDoor
namespace Rows

/-- THE TIED CARD OF 'columbariumlaw15.SlabPlays'. -/
def slabPlaysCard : Claim7 := { stood := { row := slabPlaysRow, standIns := [], harness := (true, "6b5f68da6e9304a1681a1356972f1e15ec5803b910d25164fe5f0ed1c6abf3cc"), looks := false }, kinds := [], alts := [], laidByText := true, laidKinds := [.data, .data, .data, .data], laidTests := true, laidLooks := .later }
def SlabPlaysCardSaid : Prop := Claim7.holds Tryz.pinned (.plain (OpenSpec.ofChange slabPlaysSpec)) slabPlaysCard

/-- THE TIED CARD OF 'columbariumlaw15.SlabBlocks'. -/
def slabBlocksCard : Claim7 := { stood := { row := slabBlocksRow, standIns := [], harness := (true, "6b5f68da6e9304a1681a1356972f1e15ec5803b910d25164fe5f0ed1c6abf3cc"), looks := false }, kinds := [], alts := [], laidByText := true, laidKinds := [.data, .data, .data, .data], laidTests := true, laidLooks := .later }
def SlabBlocksCardSaid : Prop := Claim7.holds Tryz.pinned (.plain (OpenSpec.ofChange slabBlocksSpec)) slabBlocksCard

/-- THE TIED CARD OF 'columbariumlaw15.SlabOnce'. -/
def slabOnceCard : Claim7 := { stood := { row := slabOnceRow, standIns := [], harness := (true, "6b5f68da6e9304a1681a1356972f1e15ec5803b910d25164fe5f0ed1c6abf3cc"), looks := false }, kinds := [], alts := [], laidByText := true, laidKinds := [.data, .data, .data, .data], laidTests := true, laidLooks := .later }
def SlabOnceCardSaid : Prop := Claim7.holds Tryz.pinned (.plain (OpenSpec.ofChange slabOnceSpec)) slabOnceCard

/-- THE TIED CARD OF 'columbariumlaw15.SlabBack'. -/
def slabBackCard : Claim7 := { stood := { row := slabBackRow, standIns := [], harness := (true, "6b5f68da6e9304a1681a1356972f1e15ec5803b910d25164fe5f0ed1c6abf3cc"), looks := false }, kinds := [], alts := [], laidByText := true, laidKinds := [.data, .data, .data, .data], laidTests := true, laidLooks := .later }
def SlabBackCardSaid : Prop := Claim7.holds Tryz.pinned (.plain (OpenSpec.ofChange slabBackSpec)) slabBackCard

/-- THE TIED CARD OF 'columbariumlaw15.SlabClean'. -/
def slabCleanCard : Claim7 := { stood := { row := slabCleanRow, standIns := [], harness := (true, "6b5f68da6e9304a1681a1356972f1e15ec5803b910d25164fe5f0ed1c6abf3cc"), looks := false }, kinds := [], alts := [], laidByText := true, laidKinds := [.data, .data, .data, .data], laidTests := true, laidLooks := .later }
def SlabCleanCardSaid : Prop := Claim7.holds Tryz.pinned (.plain (OpenSpec.ofChange slabCleanSpec)) slabCleanCard

/-- THE SECOND FORM's CARD OF 'columbariumlaw15.SlabPlays'. -/
def slabPlaysUptoCard : Claim7 := { stood := { row := slabPlaysUptoRow, standIns := [], harness := (true, "6b5f68da6e9304a1681a1356972f1e15ec5803b910d25164fe5f0ed1c6abf3cc"), looks := false }, kinds := [], alts := [], laidByText := true, laidKinds := [.data, .data, .data, .data], laidTests := true, laidLooks := .later }
def SlabPlaysUptoCardSaid : Prop := Claim7.holds Tryz.pinned (.plain (OpenSpec.upto slabPlaysSpec)) slabPlaysUptoCard

/-- THE SECOND FORM's CARD OF 'columbariumlaw15.SlabBlocks'. -/
def slabBlocksUptoCard : Claim7 := { stood := { row := slabBlocksUptoRow, standIns := [], harness := (true, "6b5f68da6e9304a1681a1356972f1e15ec5803b910d25164fe5f0ed1c6abf3cc"), looks := false }, kinds := [], alts := [], laidByText := true, laidKinds := [.data, .data, .data, .data], laidTests := true, laidLooks := .later }
def SlabBlocksUptoCardSaid : Prop := Claim7.holds Tryz.pinned (.plain (OpenSpec.upto slabBlocksSpec)) slabBlocksUptoCard

/-- THE SECOND FORM's CARD OF 'columbariumlaw15.SlabOnce'. -/
def slabOnceUptoCard : Claim7 := { stood := { row := slabOnceUptoRow, standIns := [], harness := (true, "6b5f68da6e9304a1681a1356972f1e15ec5803b910d25164fe5f0ed1c6abf3cc"), looks := false }, kinds := [], alts := [], laidByText := true, laidKinds := [.data, .data, .data, .data], laidTests := true, laidLooks := .later }
def SlabOnceUptoCardSaid : Prop := Claim7.holds Tryz.pinned (.plain (OpenSpec.upto slabOnceSpec)) slabOnceUptoCard

/-- THE SECOND FORM's CARD OF 'columbariumlaw15.SlabBack'. -/
def slabBackUptoCard : Claim7 := { stood := { row := slabBackUptoRow, standIns := [], harness := (true, "6b5f68da6e9304a1681a1356972f1e15ec5803b910d25164fe5f0ed1c6abf3cc"), looks := false }, kinds := [], alts := [], laidByText := true, laidKinds := [.data, .data, .data, .data], laidTests := true, laidLooks := .later }
def SlabBackUptoCardSaid : Prop := Claim7.holds Tryz.pinned (.plain (OpenSpec.upto slabBackSpec)) slabBackUptoCard

/-- THE SECOND FORM's CARD OF 'columbariumlaw15.SlabClean'. -/
def slabCleanUptoCard : Claim7 := { stood := { row := slabCleanUptoRow, standIns := [], harness := (true, "6b5f68da6e9304a1681a1356972f1e15ec5803b910d25164fe5f0ed1c6abf3cc"), looks := false }, kinds := [], alts := [], laidByText := true, laidKinds := [.data, .data, .data, .data], laidTests := true, laidLooks := .later }
def SlabCleanUptoCardSaid : Prop := Claim7.holds Tryz.pinned (.plain (OpenSpec.upto slabCleanSpec)) slabCleanUptoCard
end Rows
end Go.Proofs.YtoaaemnaaegcnaaGreatDoor
