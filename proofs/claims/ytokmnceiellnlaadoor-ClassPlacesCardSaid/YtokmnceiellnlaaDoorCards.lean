/-
  DERIVED. GIVEN WITH THE SEED: THE CARDS: each row of YtokmnceiellnlaaDoorRows.lean that lists a variable, with what it lists TIED to the program's text (the seventh form; the later family's looks); each row that meets fmt, with fmt's text TOLD by the authors' own Lean function (tested against real Go, not proved from fmt's source: count such statements apart). THE CARD IS WHAT COUNTS. Prove the row's statement (the work); the ties are given (YtokmnceiellnlaaDoorTie.lean); close each card by the builder's one call (the guide's Derived/Test/ToyasCard.lean, 'card_holds'). Laid BY PROGRAM, IN A SANDBOX (cutbox-door.mjs). By AI agents, Wed Nov 11 2026. No macro, syntax, notation, axiom, sorry.
-/
import Derived.Test.YtokmnceiellnlaaDoorRows
import GoSem.ClaimSeven
namespace Go.Proofs.YtokmnceiellnlaaDoor
namespace Rows

/-- THE TIED CARD OF 'columbariumlaw08.ClassTells'. -/
def classTellsCard : Claim7 := { stood := { row := classTellsRow, standIns := [], harness := (true, "976dfd403746f234696f89921e0ee10f32a1033b1258698dfb7bbc42fab46eae"), looks := false }, kinds := [], alts := [], laidByText := true, laidKinds := [.data], laidTests := true, laidLooks := .later }
def ClassTellsCardSaid : Prop := Claim7.holds Tryd.pinned (.plain (OpenSpec.ofChange classTellsSpec)) classTellsCard

/-- THE TIED CARD OF 'columbariumlaw08.ClassPlaces'. -/
def classPlacesCard : Claim7 := { stood := { row := classPlacesRow, standIns := [], harness := (true, "976dfd403746f234696f89921e0ee10f32a1033b1258698dfb7bbc42fab46eae"), looks := false }, kinds := [], alts := [], laidByText := true, laidKinds := [.data], laidTests := true, laidLooks := .later }
def ClassPlacesCardSaid : Prop := Claim7.holds Tryd.pinned (.plain (OpenSpec.ofChange classPlacesSpec)) classPlacesCard

/-- THE TIED CARD OF 'columbariumlaw08.ClassHolds'. -/
def classHoldsCard : Claim7 := { stood := { row := classHoldsRow, standIns := [], harness := (true, "976dfd403746f234696f89921e0ee10f32a1033b1258698dfb7bbc42fab46eae"), looks := false }, kinds := [], alts := [], laidByText := true, laidKinds := [.data], laidTests := true, laidLooks := .later }
def ClassHoldsCardSaid : Prop := Claim7.holds Tryd.pinned (.plain (OpenSpec.ofChange classHoldsSpec)) classHoldsCard

/-- THE TIED CARD OF 'columbariumlaw08.ClassLeast'. -/
def classLeastCard : Claim7 := { stood := { row := classLeastRow, standIns := [], harness := (true, "976dfd403746f234696f89921e0ee10f32a1033b1258698dfb7bbc42fab46eae"), looks := false }, kinds := [], alts := [], laidByText := true, laidKinds := [.data], laidTests := true, laidLooks := .later }
def ClassLeastCardSaid : Prop := Claim7.holds Tryd.pinned (.plain (OpenSpec.ofChange classLeastSpec)) classLeastCard

/-- THE TIED CARD OF 'columbariumlaw08.ClassTiles'. -/
def classTilesCard : Claim7 := { stood := { row := classTilesRow, standIns := [], harness := (true, "976dfd403746f234696f89921e0ee10f32a1033b1258698dfb7bbc42fab46eae"), looks := false }, kinds := [], alts := [], laidByText := true, laidKinds := [.data], laidTests := true, laidLooks := .later }
def ClassTilesCardSaid : Prop := Claim7.holds Tryd.pinned (.plain (OpenSpec.ofChange classTilesSpec)) classTilesCard

/-- THE SECOND FORM's CARD OF 'columbariumlaw08.ClassTells'. -/
def classTellsUptoCard : Claim7 := { stood := { row := classTellsUptoRow, standIns := [], harness := (true, "976dfd403746f234696f89921e0ee10f32a1033b1258698dfb7bbc42fab46eae"), looks := false }, kinds := [], alts := [], laidByText := true, laidKinds := [.data], laidTests := true, laidLooks := .later }
def ClassTellsUptoCardSaid : Prop := Claim7.holds Tryd.pinned (.plain (OpenSpec.upto classTellsSpec)) classTellsUptoCard

/-- THE SECOND FORM's CARD OF 'columbariumlaw08.ClassPlaces'. -/
def classPlacesUptoCard : Claim7 := { stood := { row := classPlacesUptoRow, standIns := [], harness := (true, "976dfd403746f234696f89921e0ee10f32a1033b1258698dfb7bbc42fab46eae"), looks := false }, kinds := [], alts := [], laidByText := true, laidKinds := [.data], laidTests := true, laidLooks := .later }
def ClassPlacesUptoCardSaid : Prop := Claim7.holds Tryd.pinned (.plain (OpenSpec.upto classPlacesSpec)) classPlacesUptoCard

/-- THE SECOND FORM's CARD OF 'columbariumlaw08.ClassHolds'. -/
def classHoldsUptoCard : Claim7 := { stood := { row := classHoldsUptoRow, standIns := [], harness := (true, "976dfd403746f234696f89921e0ee10f32a1033b1258698dfb7bbc42fab46eae"), looks := false }, kinds := [], alts := [], laidByText := true, laidKinds := [.data], laidTests := true, laidLooks := .later }
def ClassHoldsUptoCardSaid : Prop := Claim7.holds Tryd.pinned (.plain (OpenSpec.upto classHoldsSpec)) classHoldsUptoCard

/-- THE SECOND FORM's CARD OF 'columbariumlaw08.ClassLeast'. -/
def classLeastUptoCard : Claim7 := { stood := { row := classLeastUptoRow, standIns := [], harness := (true, "976dfd403746f234696f89921e0ee10f32a1033b1258698dfb7bbc42fab46eae"), looks := false }, kinds := [], alts := [], laidByText := true, laidKinds := [.data], laidTests := true, laidLooks := .later }
def ClassLeastUptoCardSaid : Prop := Claim7.holds Tryd.pinned (.plain (OpenSpec.upto classLeastSpec)) classLeastUptoCard

/-- THE SECOND FORM's CARD OF 'columbariumlaw08.ClassTiles'. -/
def classTilesUptoCard : Claim7 := { stood := { row := classTilesUptoRow, standIns := [], harness := (true, "976dfd403746f234696f89921e0ee10f32a1033b1258698dfb7bbc42fab46eae"), looks := false }, kinds := [], alts := [], laidByText := true, laidKinds := [.data], laidTests := true, laidLooks := .later }
def ClassTilesUptoCardSaid : Prop := Claim7.holds Tryd.pinned (.plain (OpenSpec.upto classTilesSpec)) classTilesUptoCard
end Rows
end Go.Proofs.YtokmnceiellnlaaDoor
