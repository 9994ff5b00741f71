/-
  DERIVED. GIVEN WITH THE SEED: THE CARDS: each row of YtjjfihoplkddfaaGreatDoorRows.lean that lists a variable, with what it lists TIED to the program's text (the seventh form; the later family's looks); each row that meets fmt, with fmt's text TOLD by the authors' own Lean function (tested against real Go, not proved from fmt's source: count such statements apart). THE CARD IS WHAT COUNTS. Prove the row's statement (the work); the ties are given (YtjjfihoplkddfaaGreatDoorTie.lean); close each card by the builder's one call (the guide's Derived/Test/ToyasCard.lean, 'card_holds'). Laid BY PROGRAM, IN A SANDBOX (cutbox-door.mjs). By AI agents, Wed Nov 11 2026. No macro, syntax, notation, axiom, sorry.
-/
import Derived.Test.YtjjfihoplkddfaaGreatDoorRows
import GoSem.ClaimSeven
namespace Go.Proofs.YtjjfihoplkddfaaGreatDoor
namespace Rows

/-- THE TIED CARD OF 'columbariumlaw15.SlabPlays'. -/
def slabPlaysCard : Claim7 := { stood := { row := slabPlaysRow, standIns := [], harness := (true, "993852f941ca129c62b96726ac0152d288094b3bd0c89f069280c0581bbd74da"), looks := true }, kinds := [], alts := [], laidByText := true, laidKinds := [.data, .data, .data, .data], laidTests := true, laidLooks := .later }
def SlabPlaysCardSaid : Prop := Claim7.holds Tryz.pinned (.plain (OpenSpec.ofChange slabPlaysSpec)) slabPlaysCard

/-- THE TIED CARD OF 'columbariumlaw15.SlabClean'. -/
def slabCleanCard : Claim7 := { stood := { row := slabCleanRow, standIns := [], harness := (true, "993852f941ca129c62b96726ac0152d288094b3bd0c89f069280c0581bbd74da"), looks := true }, kinds := [], alts := [], laidByText := true, laidKinds := [.data, .data, .data, .data], laidTests := true, laidLooks := .later }
def SlabCleanCardSaid : Prop := Claim7.holds Tryz.pinned (.plain (OpenSpec.ofChange slabCleanSpec)) slabCleanCard

/-- THE TIED CARD OF 'columbariumlaw16.RegionBack'. -/
def regionBackCard : Claim7 := { stood := { row := regionBackRow, standIns := [], harness := (true, "993852f941ca129c62b96726ac0152d288094b3bd0c89f069280c0581bbd74da"), looks := true }, kinds := [], alts := [], laidByText := true, laidKinds := [.data, .handle, .data, .data, .data], laidTests := true, laidLooks := .later }
def RegionBackCardSaid : Prop := Claim7.holds Tryz.pinned (.plain (OpenSpec.ofChange regionBackSpec)) regionBackCard

/-- THE TIED CARD OF 'columbariumlaw16.RegionRestores'. -/
def regionRestoresCard : Claim7 := { stood := { row := regionRestoresRow, standIns := [], harness := (true, "993852f941ca129c62b96726ac0152d288094b3bd0c89f069280c0581bbd74da"), looks := true }, kinds := [], alts := [], laidByText := true, laidKinds := [.data, .handle, .data, .data, .data], laidTests := true, laidLooks := .later }
def RegionRestoresCardSaid : Prop := Claim7.holds Tryz.pinned (.plain (OpenSpec.ofChange regionRestoresSpec)) regionRestoresCard

/-- THE TIED CARD OF 'columbariumlaw17.RingPlays'. -/
def ringPlaysCard : Claim7 := { stood := { row := ringPlaysRow, standIns := [], harness := (true, "993852f941ca129c62b96726ac0152d288094b3bd0c89f069280c0581bbd74da"), looks := true }, kinds := [], alts := [], laidByText := true, laidKinds := [.data, .data, .data, .data, .data], laidTests := true, laidLooks := .later }
def RingPlaysCardSaid : Prop := Claim7.holds Tryz.pinned (.plain (OpenSpec.ofChange ringPlaysSpec)) ringPlaysCard

/-- THE SECOND FORM's CARD OF 'columbariumlaw15.SlabPlays'. -/
def slabPlaysUptoCard : Claim7 := { stood := { row := slabPlaysUptoRow, standIns := [], harness := (true, "993852f941ca129c62b96726ac0152d288094b3bd0c89f069280c0581bbd74da"), looks := true }, kinds := [], alts := [], laidByText := true, laidKinds := [.data, .data, .data, .data], laidTests := true, laidLooks := .later }
def SlabPlaysUptoCardSaid : Prop := Claim7.holds Tryz.pinned (.plain (OpenSpec.upto slabPlaysSpec)) slabPlaysUptoCard

/-- THE SECOND FORM's CARD OF 'columbariumlaw15.SlabClean'. -/
def slabCleanUptoCard : Claim7 := { stood := { row := slabCleanUptoRow, standIns := [], harness := (true, "993852f941ca129c62b96726ac0152d288094b3bd0c89f069280c0581bbd74da"), looks := true }, kinds := [], alts := [], laidByText := true, laidKinds := [.data, .data, .data, .data], laidTests := true, laidLooks := .later }
def SlabCleanUptoCardSaid : Prop := Claim7.holds Tryz.pinned (.plain (OpenSpec.upto slabCleanSpec)) slabCleanUptoCard

/-- THE SECOND FORM's CARD OF 'columbariumlaw16.RegionBack'. -/
def regionBackUptoCard : Claim7 := { stood := { row := regionBackUptoRow, standIns := [], harness := (true, "993852f941ca129c62b96726ac0152d288094b3bd0c89f069280c0581bbd74da"), looks := true }, kinds := [], alts := [], laidByText := true, laidKinds := [.data, .handle, .data, .data, .data], laidTests := true, laidLooks := .later }
def RegionBackUptoCardSaid : Prop := Claim7.holds Tryz.pinned (.plain (OpenSpec.upto regionBackSpec)) regionBackUptoCard

/-- THE SECOND FORM's CARD OF 'columbariumlaw16.RegionRestores'. -/
def regionRestoresUptoCard : Claim7 := { stood := { row := regionRestoresUptoRow, standIns := [], harness := (true, "993852f941ca129c62b96726ac0152d288094b3bd0c89f069280c0581bbd74da"), looks := true }, kinds := [], alts := [], laidByText := true, laidKinds := [.data, .handle, .data, .data, .data], laidTests := true, laidLooks := .later }
def RegionRestoresUptoCardSaid : Prop := Claim7.holds Tryz.pinned (.plain (OpenSpec.upto regionRestoresSpec)) regionRestoresUptoCard

/-- THE SECOND FORM's CARD OF 'columbariumlaw17.RingPlays'. -/
def ringPlaysUptoCard : Claim7 := { stood := { row := ringPlaysUptoRow, standIns := [], harness := (true, "993852f941ca129c62b96726ac0152d288094b3bd0c89f069280c0581bbd74da"), looks := true }, kinds := [], alts := [], laidByText := true, laidKinds := [.data, .data, .data, .data, .data], laidTests := true, laidLooks := .later }
def RingPlaysUptoCardSaid : Prop := Claim7.holds Tryz.pinned (.plain (OpenSpec.upto ringPlaysSpec)) ringPlaysUptoCard
end Rows
end Go.Proofs.YtjjfihoplkddfaaGreatDoor
