/-
  DERIVED. GIVEN WITH THE SEED: THE CARDS: each row of YtilffmalkegioaaDoorRows.lean that lists a variable, with what it lists TIED to the program's text (the seventh form; the later family's looks); each row that meets fmt, with fmt's text TOLD by the authors' own Lean function (tested against real Go, not proved from fmt's source: count such statements apart). THE CARD IS WHAT COUNTS. Prove the row's statement (the work); the ties are given (YtilffmalkegioaaDoorTie.lean); close each card by the builder's one call (the guide's Derived/Test/ToyasCard.lean, 'card_holds'). Laid BY PROGRAM, IN A SANDBOX (cutbox-door.mjs). By AI agents, Wed Nov 11 2026. No macro, syntax, notation, axiom, sorry.
-/
import Derived.Test.YtilffmalkegioaaDoorRows
import GoSem.ClaimSeven
namespace Go.Proofs.YtilffmalkegioaaDoor
namespace Rows

/-- THE TIED CARD OF 'watershedlaw.MobiusTables'. -/
def mobiusTablesCard : Claim7 := { stood := { row := mobiusTablesRow, standIns := [], harness := (true, "3c983d284716f2608798a76fb9ac6e3d944f1ef01ef079b661433e828e21fca6"), looks := false }, kinds := [], alts := [], laidByText := true, laidKinds := [.data], laidTests := true, laidLooks := .later }
def MobiusTablesCardSaid : Prop := Claim7.holds Tryd.pinned (.plain (OpenSpec.ofChange mobiusTablesSpec)) mobiusTablesCard

/-- THE TIED CARD OF 'watershedlaw.MobiusTimes'. -/
def mobiusTimesCard : Claim7 := { stood := { row := mobiusTimesRow, standIns := [], harness := (true, "3c983d284716f2608798a76fb9ac6e3d944f1ef01ef079b661433e828e21fca6"), looks := false }, kinds := [], alts := [], laidByText := true, laidKinds := [.data], laidTests := true, laidLooks := .later }
def MobiusTimesCardSaid : Prop := Claim7.holds Tryd.pinned (.plain (OpenSpec.ofChange mobiusTimesSpec)) mobiusTimesCard

/-- THE TIED CARD OF 'watershedlaw.MobiusInverses'. -/
def mobiusInversesCard : Claim7 := { stood := { row := mobiusInversesRow, standIns := [], harness := (true, "3c983d284716f2608798a76fb9ac6e3d944f1ef01ef079b661433e828e21fca6"), looks := false }, kinds := [], alts := [], laidByText := true, laidKinds := [.data], laidTests := true, laidLooks := .later }
def MobiusInversesCardSaid : Prop := Claim7.holds Tryd.pinned (.plain (OpenSpec.ofChange mobiusInversesSpec)) mobiusInversesCard

/-- THE TIED CARD OF 'watershedlaw.MobiusSums'. -/
def mobiusSumsCard : Claim7 := { stood := { row := mobiusSumsRow, standIns := [], harness := (true, "3c983d284716f2608798a76fb9ac6e3d944f1ef01ef079b661433e828e21fca6"), looks := false }, kinds := [], alts := [], laidByText := true, laidKinds := [.data], laidTests := true, laidLooks := .later }
def MobiusSumsCardSaid : Prop := Claim7.holds Tryd.pinned (.plain (OpenSpec.ofChange mobiusSumsSpec)) mobiusSumsCard

/-- THE TIED CARD OF 'watershedlaw.MobiusChains'. -/
def mobiusChainsCard : Claim7 := { stood := { row := mobiusChainsRow, standIns := [], harness := (true, "3c983d284716f2608798a76fb9ac6e3d944f1ef01ef079b661433e828e21fca6"), looks := false }, kinds := [], alts := [], laidByText := true, laidKinds := [.data], laidTests := true, laidLooks := .later }
def MobiusChainsCardSaid : Prop := Claim7.holds Tryd.pinned (.plain (OpenSpec.ofChange mobiusChainsSpec)) mobiusChainsCard

/-- THE TIED CARD OF 'watershedkeep.MobiusAlgebra'. -/
def mobiusAlgebraCard : Claim7 := { stood := { row := mobiusAlgebraRow, standIns := [], harness := (true, "3c983d284716f2608798a76fb9ac6e3d944f1ef01ef079b661433e828e21fca6"), looks := false }, kinds := [], alts := [], laidByText := true, laidKinds := [.data], laidTests := true, laidLooks := .later }
def MobiusAlgebraCardSaid : Prop := Claim7.holds Tryd.pinned (.plain (OpenSpec.ofChange mobiusAlgebraSpec)) mobiusAlgebraCard

/-- THE TIED CARD OF 'watershedkeep.MobiusTurns'. -/
def mobiusTurnsCard : Claim7 := { stood := { row := mobiusTurnsRow, standIns := [], harness := (true, "3c983d284716f2608798a76fb9ac6e3d944f1ef01ef079b661433e828e21fca6"), looks := false }, kinds := [], alts := [], laidByText := true, laidKinds := [.data], laidTests := true, laidLooks := .later }
def MobiusTurnsCardSaid : Prop := Claim7.holds Tryd.pinned (.plain (OpenSpec.ofChange mobiusTurnsSpec)) mobiusTurnsCard

/-- THE TIED CARD OF 'watershedkeep.MobiusRota'. -/
def mobiusRotaCard : Claim7 := { stood := { row := mobiusRotaRow, standIns := [], harness := (true, "3c983d284716f2608798a76fb9ac6e3d944f1ef01ef079b661433e828e21fca6"), looks := false }, kinds := [], alts := [], laidByText := true, laidKinds := [.data], laidTests := true, laidLooks := .later }
def MobiusRotaCardSaid : Prop := Claim7.holds Tryd.pinned (.plain (OpenSpec.ofChange mobiusRotaSpec)) mobiusRotaCard

/-- THE TIED CARD OF 'watershedkeep.MobiusHall'. -/
def mobiusHallCard : Claim7 := { stood := { row := mobiusHallRow, standIns := [], harness := (true, "3c983d284716f2608798a76fb9ac6e3d944f1ef01ef079b661433e828e21fca6"), looks := false }, kinds := [], alts := [], laidByText := true, laidKinds := [.data], laidTests := true, laidLooks := .later }
def MobiusHallCardSaid : Prop := Claim7.holds Tryd.pinned (.plain (OpenSpec.ofChange mobiusHallSpec)) mobiusHallCard

/-- THE TIED CARD OF 'watershedkeep.MobiusDual'. -/
def mobiusDualCard : Claim7 := { stood := { row := mobiusDualRow, standIns := [], harness := (true, "3c983d284716f2608798a76fb9ac6e3d944f1ef01ef079b661433e828e21fca6"), looks := false }, kinds := [], alts := [], laidByText := true, laidKinds := [.data], laidTests := true, laidLooks := .later }
def MobiusDualCardSaid : Prop := Claim7.holds Tryd.pinned (.plain (OpenSpec.ofChange mobiusDualSpec)) mobiusDualCard

/-- THE TIED CARD OF 'watershedkeep.MobiusProducts'. -/
def mobiusProductsCard : Claim7 := { stood := { row := mobiusProductsRow, standIns := [], harness := (true, "3c983d284716f2608798a76fb9ac6e3d944f1ef01ef079b661433e828e21fca6"), looks := false }, kinds := [], alts := [], laidByText := true, laidKinds := [.data], laidTests := true, laidLooks := .later }
def MobiusProductsCardSaid : Prop := Claim7.holds Tryd.pinned (.plain (OpenSpec.ofChange mobiusProductsSpec)) mobiusProductsCard

/-- THE SECOND FORM's CARD OF 'watershedlaw.MobiusTables'. -/
def mobiusTablesUptoCard : Claim7 := { stood := { row := mobiusTablesUptoRow, standIns := [], harness := (true, "3c983d284716f2608798a76fb9ac6e3d944f1ef01ef079b661433e828e21fca6"), looks := false }, kinds := [], alts := [], laidByText := true, laidKinds := [.data], laidTests := true, laidLooks := .later }
def MobiusTablesUptoCardSaid : Prop := Claim7.holds Tryd.pinned (.plain (OpenSpec.upto mobiusTablesSpec)) mobiusTablesUptoCard

/-- THE SECOND FORM's CARD OF 'watershedlaw.MobiusTimes'. -/
def mobiusTimesUptoCard : Claim7 := { stood := { row := mobiusTimesUptoRow, standIns := [], harness := (true, "3c983d284716f2608798a76fb9ac6e3d944f1ef01ef079b661433e828e21fca6"), looks := false }, kinds := [], alts := [], laidByText := true, laidKinds := [.data], laidTests := true, laidLooks := .later }
def MobiusTimesUptoCardSaid : Prop := Claim7.holds Tryd.pinned (.plain (OpenSpec.upto mobiusTimesSpec)) mobiusTimesUptoCard

/-- THE SECOND FORM's CARD OF 'watershedlaw.MobiusInverses'. -/
def mobiusInversesUptoCard : Claim7 := { stood := { row := mobiusInversesUptoRow, standIns := [], harness := (true, "3c983d284716f2608798a76fb9ac6e3d944f1ef01ef079b661433e828e21fca6"), looks := false }, kinds := [], alts := [], laidByText := true, laidKinds := [.data], laidTests := true, laidLooks := .later }
def MobiusInversesUptoCardSaid : Prop := Claim7.holds Tryd.pinned (.plain (OpenSpec.upto mobiusInversesSpec)) mobiusInversesUptoCard

/-- THE SECOND FORM's CARD OF 'watershedlaw.MobiusSums'. -/
def mobiusSumsUptoCard : Claim7 := { stood := { row := mobiusSumsUptoRow, standIns := [], harness := (true, "3c983d284716f2608798a76fb9ac6e3d944f1ef01ef079b661433e828e21fca6"), looks := false }, kinds := [], alts := [], laidByText := true, laidKinds := [.data], laidTests := true, laidLooks := .later }
def MobiusSumsUptoCardSaid : Prop := Claim7.holds Tryd.pinned (.plain (OpenSpec.upto mobiusSumsSpec)) mobiusSumsUptoCard

/-- THE SECOND FORM's CARD OF 'watershedlaw.MobiusChains'. -/
def mobiusChainsUptoCard : Claim7 := { stood := { row := mobiusChainsUptoRow, standIns := [], harness := (true, "3c983d284716f2608798a76fb9ac6e3d944f1ef01ef079b661433e828e21fca6"), looks := false }, kinds := [], alts := [], laidByText := true, laidKinds := [.data], laidTests := true, laidLooks := .later }
def MobiusChainsUptoCardSaid : Prop := Claim7.holds Tryd.pinned (.plain (OpenSpec.upto mobiusChainsSpec)) mobiusChainsUptoCard

/-- THE SECOND FORM's CARD OF 'watershedkeep.MobiusAlgebra'. -/
def mobiusAlgebraUptoCard : Claim7 := { stood := { row := mobiusAlgebraUptoRow, standIns := [], harness := (true, "3c983d284716f2608798a76fb9ac6e3d944f1ef01ef079b661433e828e21fca6"), looks := false }, kinds := [], alts := [], laidByText := true, laidKinds := [.data], laidTests := true, laidLooks := .later }
def MobiusAlgebraUptoCardSaid : Prop := Claim7.holds Tryd.pinned (.plain (OpenSpec.upto mobiusAlgebraSpec)) mobiusAlgebraUptoCard

/-- THE SECOND FORM's CARD OF 'watershedkeep.MobiusTurns'. -/
def mobiusTurnsUptoCard : Claim7 := { stood := { row := mobiusTurnsUptoRow, standIns := [], harness := (true, "3c983d284716f2608798a76fb9ac6e3d944f1ef01ef079b661433e828e21fca6"), looks := false }, kinds := [], alts := [], laidByText := true, laidKinds := [.data], laidTests := true, laidLooks := .later }
def MobiusTurnsUptoCardSaid : Prop := Claim7.holds Tryd.pinned (.plain (OpenSpec.upto mobiusTurnsSpec)) mobiusTurnsUptoCard

/-- THE SECOND FORM's CARD OF 'watershedkeep.MobiusRota'. -/
def mobiusRotaUptoCard : Claim7 := { stood := { row := mobiusRotaUptoRow, standIns := [], harness := (true, "3c983d284716f2608798a76fb9ac6e3d944f1ef01ef079b661433e828e21fca6"), looks := false }, kinds := [], alts := [], laidByText := true, laidKinds := [.data], laidTests := true, laidLooks := .later }
def MobiusRotaUptoCardSaid : Prop := Claim7.holds Tryd.pinned (.plain (OpenSpec.upto mobiusRotaSpec)) mobiusRotaUptoCard

/-- THE SECOND FORM's CARD OF 'watershedkeep.MobiusHall'. -/
def mobiusHallUptoCard : Claim7 := { stood := { row := mobiusHallUptoRow, standIns := [], harness := (true, "3c983d284716f2608798a76fb9ac6e3d944f1ef01ef079b661433e828e21fca6"), looks := false }, kinds := [], alts := [], laidByText := true, laidKinds := [.data], laidTests := true, laidLooks := .later }
def MobiusHallUptoCardSaid : Prop := Claim7.holds Tryd.pinned (.plain (OpenSpec.upto mobiusHallSpec)) mobiusHallUptoCard

/-- THE SECOND FORM's CARD OF 'watershedkeep.MobiusDual'. -/
def mobiusDualUptoCard : Claim7 := { stood := { row := mobiusDualUptoRow, standIns := [], harness := (true, "3c983d284716f2608798a76fb9ac6e3d944f1ef01ef079b661433e828e21fca6"), looks := false }, kinds := [], alts := [], laidByText := true, laidKinds := [.data], laidTests := true, laidLooks := .later }
def MobiusDualUptoCardSaid : Prop := Claim7.holds Tryd.pinned (.plain (OpenSpec.upto mobiusDualSpec)) mobiusDualUptoCard

/-- THE SECOND FORM's CARD OF 'watershedkeep.MobiusProducts'. -/
def mobiusProductsUptoCard : Claim7 := { stood := { row := mobiusProductsUptoRow, standIns := [], harness := (true, "3c983d284716f2608798a76fb9ac6e3d944f1ef01ef079b661433e828e21fca6"), looks := false }, kinds := [], alts := [], laidByText := true, laidKinds := [.data], laidTests := true, laidLooks := .later }
def MobiusProductsUptoCardSaid : Prop := Claim7.holds Tryd.pinned (.plain (OpenSpec.upto mobiusProductsSpec)) mobiusProductsUptoCard
end Rows
end Go.Proofs.YtilffmalkegioaaDoor
