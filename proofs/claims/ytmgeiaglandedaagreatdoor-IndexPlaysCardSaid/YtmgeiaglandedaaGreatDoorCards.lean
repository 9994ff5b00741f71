/-
  DERIVED. GIVEN WITH THE SEED: THE CARDS: each row of YtmgeiaglandedaaGreatDoorRows.lean that lists a variable, with what it lists TIED to the program's text (the seventh form; the later family's looks); each row that meets fmt, with fmt's text TOLD by the authors' own Lean function (tested against real Go, not proved from fmt's source: count such statements apart). THE CARD IS WHAT COUNTS. Prove the row's statement (the work); the ties are given (YtmgeiaglandedaaGreatDoorTie.lean); close each card by the builder's one call (the guide's Derived/Test/ToyasCard.lean, 'card_holds'). Laid BY PROGRAM, IN A SANDBOX (cutbox-door.mjs). By AI agents, Wed Nov 11 2026. No macro, syntax, notation, axiom, sorry.
-/
import Derived.Test.YtmgeiaglandedaaGreatDoorRows
import GoSem.ClaimSeven
namespace Go.Proofs.YtmgeiaglandedaaGreatDoor
namespace Rows

/-- THE TIED CARD OF 'columbariumlaw21.NodeHeld'. -/
def nodeHeldCard : Claim7 := { stood := { row := nodeHeldRow, standIns := [], harness := (true, "f36d965bc06cb1129c081082297b688459dc19449b0f73c50e0cf3730bf76fab"), looks := false }, kinds := [], alts := [], laidByText := true, laidKinds := [.data, .data, .data, .data], laidTests := true, laidLooks := .later }
def NodeHeldCardSaid : Prop := Claim7.holds Tryz.pinned (.plain (OpenSpec.ofChange nodeHeldSpec)) nodeHeldCard

/-- THE TIED CARD OF 'columbariumlaw21.NodeShares'. -/
def nodeSharesCard : Claim7 := { stood := { row := nodeSharesRow, standIns := [], harness := (true, "f36d965bc06cb1129c081082297b688459dc19449b0f73c50e0cf3730bf76fab"), looks := false }, kinds := [], alts := [], laidByText := true, laidKinds := [.data, .data, .data, .data], laidTests := true, laidLooks := .later }
def NodeSharesCardSaid : Prop := Claim7.holds Tryz.pinned (.plain (OpenSpec.ofChange nodeSharesSpec)) nodeSharesCard

/-- THE TIED CARD OF 'columbariumlaw21.NodeGone'. -/
def nodeGoneCard : Claim7 := { stood := { row := nodeGoneRow, standIns := [], harness := (true, "f36d965bc06cb1129c081082297b688459dc19449b0f73c50e0cf3730bf76fab"), looks := false }, kinds := [], alts := [], laidByText := true, laidKinds := [.data, .data, .data, .data], laidTests := true, laidLooks := .later }
def NodeGoneCardSaid : Prop := Claim7.holds Tryz.pinned (.plain (OpenSpec.ofChange nodeGoneSpec)) nodeGoneCard

/-- THE TIED CARD OF 'columbariumlaw20.IndexPlays'. -/
def indexPlaysCard : Claim7 := { stood := { row := indexPlaysRow, standIns := [], harness := (true, "f36d965bc06cb1129c081082297b688459dc19449b0f73c50e0cf3730bf76fab"), looks := false }, kinds := [], alts := [], laidByText := true, laidKinds := [.data, .data, .data, .data], laidTests := true, laidLooks := .later }
def IndexPlaysCardSaid : Prop := Claim7.holds Tryz.pinned (.plain (OpenSpec.ofChange indexPlaysSpec)) indexPlaysCard

/-- THE SECOND FORM's CARD OF 'columbariumlaw21.NodeHeld'. -/
def nodeHeldUptoCard : Claim7 := { stood := { row := nodeHeldUptoRow, standIns := [], harness := (true, "f36d965bc06cb1129c081082297b688459dc19449b0f73c50e0cf3730bf76fab"), looks := false }, kinds := [], alts := [], laidByText := true, laidKinds := [.data, .data, .data, .data], laidTests := true, laidLooks := .later }
def NodeHeldUptoCardSaid : Prop := Claim7.holds Tryz.pinned (.plain (OpenSpec.upto nodeHeldSpec)) nodeHeldUptoCard

/-- THE SECOND FORM's CARD OF 'columbariumlaw21.NodeShares'. -/
def nodeSharesUptoCard : Claim7 := { stood := { row := nodeSharesUptoRow, standIns := [], harness := (true, "f36d965bc06cb1129c081082297b688459dc19449b0f73c50e0cf3730bf76fab"), looks := false }, kinds := [], alts := [], laidByText := true, laidKinds := [.data, .data, .data, .data], laidTests := true, laidLooks := .later }
def NodeSharesUptoCardSaid : Prop := Claim7.holds Tryz.pinned (.plain (OpenSpec.upto nodeSharesSpec)) nodeSharesUptoCard

/-- THE SECOND FORM's CARD OF 'columbariumlaw21.NodeGone'. -/
def nodeGoneUptoCard : Claim7 := { stood := { row := nodeGoneUptoRow, standIns := [], harness := (true, "f36d965bc06cb1129c081082297b688459dc19449b0f73c50e0cf3730bf76fab"), looks := false }, kinds := [], alts := [], laidByText := true, laidKinds := [.data, .data, .data, .data], laidTests := true, laidLooks := .later }
def NodeGoneUptoCardSaid : Prop := Claim7.holds Tryz.pinned (.plain (OpenSpec.upto nodeGoneSpec)) nodeGoneUptoCard

/-- THE SECOND FORM's CARD OF 'columbariumlaw20.IndexPlays'. -/
def indexPlaysUptoCard : Claim7 := { stood := { row := indexPlaysUptoRow, standIns := [], harness := (true, "f36d965bc06cb1129c081082297b688459dc19449b0f73c50e0cf3730bf76fab"), looks := false }, kinds := [], alts := [], laidByText := true, laidKinds := [.data, .data, .data, .data], laidTests := true, laidLooks := .later }
def IndexPlaysUptoCardSaid : Prop := Claim7.holds Tryz.pinned (.plain (OpenSpec.upto indexPlaysSpec)) indexPlaysUptoCard
end Rows
end Go.Proofs.YtmgeiaglandedaaGreatDoor
