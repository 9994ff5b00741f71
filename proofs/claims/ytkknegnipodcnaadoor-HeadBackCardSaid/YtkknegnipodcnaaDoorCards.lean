/-
  DERIVED. GIVEN WITH THE SEED: THE CARDS: each row of YtkknegnipodcnaaDoorRows.lean that lists a variable, with what it lists TIED to the program's text (the seventh form; the later family's looks); each row that meets fmt, with fmt's text TOLD by the authors' own Lean function (tested against real Go, not proved from fmt's source: count such statements apart). THE CARD IS WHAT COUNTS. Prove the row's statement (the work); the ties are given (YtkknegnipodcnaaDoorTie.lean); close each card by the builder's one call (the guide's Derived/Test/ToyasCard.lean, 'card_holds'). Laid BY PROGRAM, IN A SANDBOX (cutbox-door.mjs). By AI agents, Wed Nov 11 2026. No macro, syntax, notation, axiom, sorry.
-/
import Derived.Test.YtkknegnipodcnaaDoorRows
import GoSem.ClaimSeven
namespace Go.Proofs.YtkknegnipodcnaaDoor
namespace Rows

/-- THE TIED CARD OF 'columbariumlaw13.HeadCodes'. -/
def headCodesCard : Claim7 := { stood := { row := headCodesRow, standIns := [], harness := (true, "5ee6d8b731b3e3ee2f00fc8d459333c739b50777fc9a1f8770a1e2495ffecd44"), looks := false }, kinds := [], alts := [], laidByText := true, laidKinds := [.data, .data], laidTests := true, laidLooks := .later }
def HeadCodesCardSaid : Prop := Claim7.holds Tryd.pinned (.plain (OpenSpec.ofChange headCodesSpec)) headCodesCard

/-- THE TIED CARD OF 'columbariumlaw13.HeadWhere'. -/
def headWhereCard : Claim7 := { stood := { row := headWhereRow, standIns := [], harness := (true, "5ee6d8b731b3e3ee2f00fc8d459333c739b50777fc9a1f8770a1e2495ffecd44"), looks := false }, kinds := [], alts := [], laidByText := true, laidKinds := [.data, .data], laidTests := true, laidLooks := .later }
def HeadWhereCardSaid : Prop := Claim7.holds Tryd.pinned (.plain (OpenSpec.ofChange headWhereSpec)) headWhereCard

/-- THE TIED CARD OF 'columbariumlaw13.HeadBack'. -/
def headBackCard : Claim7 := { stood := { row := headBackRow, standIns := [], harness := (true, "5ee6d8b731b3e3ee2f00fc8d459333c739b50777fc9a1f8770a1e2495ffecd44"), looks := false }, kinds := [], alts := [], laidByText := true, laidKinds := [.data, .data], laidTests := true, laidLooks := .later }
def HeadBackCardSaid : Prop := Claim7.holds Tryd.pinned (.plain (OpenSpec.ofChange headBackSpec)) headBackCard

/-- THE TIED CARD OF 'columbariumlaw13.HeadFields'. -/
def headFieldsCard : Claim7 := { stood := { row := headFieldsRow, standIns := [], harness := (true, "5ee6d8b731b3e3ee2f00fc8d459333c739b50777fc9a1f8770a1e2495ffecd44"), looks := false }, kinds := [], alts := [], laidByText := true, laidKinds := [.data, .data], laidTests := true, laidLooks := .later }
def HeadFieldsCardSaid : Prop := Claim7.holds Tryd.pinned (.plain (OpenSpec.ofChange headFieldsSpec)) headFieldsCard

/-- THE TIED CARD OF 'columbariumlaw13.HeadApart'. -/
def headApartCard : Claim7 := { stood := { row := headApartRow, standIns := [], harness := (true, "5ee6d8b731b3e3ee2f00fc8d459333c739b50777fc9a1f8770a1e2495ffecd44"), looks := false }, kinds := [], alts := [], laidByText := true, laidKinds := [.data, .data, .data, .data], laidTests := true, laidLooks := .later }
def HeadApartCardSaid : Prop := Claim7.holds Tryd.pinned (.plain (OpenSpec.ofChange headApartSpec)) headApartCard

/-- THE SECOND FORM's CARD OF 'columbariumlaw13.HeadCodes'. -/
def headCodesUptoCard : Claim7 := { stood := { row := headCodesUptoRow, standIns := [], harness := (true, "5ee6d8b731b3e3ee2f00fc8d459333c739b50777fc9a1f8770a1e2495ffecd44"), looks := false }, kinds := [], alts := [], laidByText := true, laidKinds := [.data, .data], laidTests := true, laidLooks := .later }
def HeadCodesUptoCardSaid : Prop := Claim7.holds Tryd.pinned (.plain (OpenSpec.upto headCodesSpec)) headCodesUptoCard

/-- THE SECOND FORM's CARD OF 'columbariumlaw13.HeadWhere'. -/
def headWhereUptoCard : Claim7 := { stood := { row := headWhereUptoRow, standIns := [], harness := (true, "5ee6d8b731b3e3ee2f00fc8d459333c739b50777fc9a1f8770a1e2495ffecd44"), looks := false }, kinds := [], alts := [], laidByText := true, laidKinds := [.data, .data], laidTests := true, laidLooks := .later }
def HeadWhereUptoCardSaid : Prop := Claim7.holds Tryd.pinned (.plain (OpenSpec.upto headWhereSpec)) headWhereUptoCard

/-- THE SECOND FORM's CARD OF 'columbariumlaw13.HeadBack'. -/
def headBackUptoCard : Claim7 := { stood := { row := headBackUptoRow, standIns := [], harness := (true, "5ee6d8b731b3e3ee2f00fc8d459333c739b50777fc9a1f8770a1e2495ffecd44"), looks := false }, kinds := [], alts := [], laidByText := true, laidKinds := [.data, .data], laidTests := true, laidLooks := .later }
def HeadBackUptoCardSaid : Prop := Claim7.holds Tryd.pinned (.plain (OpenSpec.upto headBackSpec)) headBackUptoCard

/-- THE SECOND FORM's CARD OF 'columbariumlaw13.HeadFields'. -/
def headFieldsUptoCard : Claim7 := { stood := { row := headFieldsUptoRow, standIns := [], harness := (true, "5ee6d8b731b3e3ee2f00fc8d459333c739b50777fc9a1f8770a1e2495ffecd44"), looks := false }, kinds := [], alts := [], laidByText := true, laidKinds := [.data, .data], laidTests := true, laidLooks := .later }
def HeadFieldsUptoCardSaid : Prop := Claim7.holds Tryd.pinned (.plain (OpenSpec.upto headFieldsSpec)) headFieldsUptoCard

/-- THE SECOND FORM's CARD OF 'columbariumlaw13.HeadApart'. -/
def headApartUptoCard : Claim7 := { stood := { row := headApartUptoRow, standIns := [], harness := (true, "5ee6d8b731b3e3ee2f00fc8d459333c739b50777fc9a1f8770a1e2495ffecd44"), looks := false }, kinds := [], alts := [], laidByText := true, laidKinds := [.data, .data, .data, .data], laidTests := true, laidLooks := .later }
def HeadApartUptoCardSaid : Prop := Claim7.holds Tryd.pinned (.plain (OpenSpec.upto headApartSpec)) headApartUptoCard
end Rows
end Go.Proofs.YtkknegnipodcnaaDoor
