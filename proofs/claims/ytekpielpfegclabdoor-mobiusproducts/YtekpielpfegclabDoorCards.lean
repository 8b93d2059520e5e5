/-
  DERIVED. GIVEN WITH THE SEED: THE CARDS: each row of YtekpielpfegclabDoorRows.lean that lists a variable, with what it lists TIED to the program's text (the seventh form; the later family's looks); each row that meets fmt, with fmt's text TOLD by the authors' own Lean function (tested against real Go, not proved from fmt's source: count such statements apart). THE CARD IS WHAT COUNTS. Prove the row's statement (the work); the ties are given (YtekpielpfegclabDoorTie.lean); close each card by the builder's one call (the guide's Derived/Test/ToyasCard.lean, 'card_holds'). Laid BY PROGRAM, IN A SANDBOX (cutbox-door.mjs). By AI agents, Wed Nov 11 2026. No macro, syntax, notation, axiom, sorry.
-/
import Derived.Test.YtekpielpfegclabDoorRows
import GoSem.ClaimSeven
namespace Go.Proofs.YtekpielpfegclabDoor
namespace Rows

/-- THE TIED CARD OF 'watershedkeep.MobiusTurns'. -/
def mobiusTurnsCard : Claim7 := { stood := { row := mobiusTurnsRow, standIns := [], harness := (true, "d3663f38f4fcadf16b58a579bc83a31ef53a3e9649cba1b4a0bd900345031673"), looks := false }, kinds := [], alts := [], laidByText := true, laidKinds := [.data], laidTests := true, laidLooks := .later }
def MobiusTurnsCardSaid : Prop := Claim7.holds Tryd.pinned (.plain (OpenSpec.ofChange mobiusTurnsSpec)) mobiusTurnsCard

/-- THE TIED CARD OF 'watershedkeep.MobiusRota'. -/
def mobiusRotaCard : Claim7 := { stood := { row := mobiusRotaRow, standIns := [], harness := (true, "d3663f38f4fcadf16b58a579bc83a31ef53a3e9649cba1b4a0bd900345031673"), looks := false }, kinds := [], alts := [], laidByText := true, laidKinds := [.data], laidTests := true, laidLooks := .later }
def MobiusRotaCardSaid : Prop := Claim7.holds Tryd.pinned (.plain (OpenSpec.ofChange mobiusRotaSpec)) mobiusRotaCard

/-- THE TIED CARD OF 'watershedkeep.MobiusHall'. -/
def mobiusHallCard : Claim7 := { stood := { row := mobiusHallRow, standIns := [], harness := (true, "d3663f38f4fcadf16b58a579bc83a31ef53a3e9649cba1b4a0bd900345031673"), looks := false }, kinds := [], alts := [], laidByText := true, laidKinds := [.data], laidTests := true, laidLooks := .later }
def MobiusHallCardSaid : Prop := Claim7.holds Tryd.pinned (.plain (OpenSpec.ofChange mobiusHallSpec)) mobiusHallCard

/-- THE TIED CARD OF 'watershedkeep.MobiusDual'. -/
def mobiusDualCard : Claim7 := { stood := { row := mobiusDualRow, standIns := [], harness := (true, "d3663f38f4fcadf16b58a579bc83a31ef53a3e9649cba1b4a0bd900345031673"), looks := false }, kinds := [], alts := [], laidByText := true, laidKinds := [.data], laidTests := true, laidLooks := .later }
def MobiusDualCardSaid : Prop := Claim7.holds Tryd.pinned (.plain (OpenSpec.ofChange mobiusDualSpec)) mobiusDualCard

/-- THE TIED CARD OF 'watershedkeep.MobiusProducts'. -/
def mobiusProductsCard : Claim7 := { stood := { row := mobiusProductsRow, standIns := [], harness := (true, "d3663f38f4fcadf16b58a579bc83a31ef53a3e9649cba1b4a0bd900345031673"), looks := false }, kinds := [], alts := [], laidByText := true, laidKinds := [.data], laidTests := true, laidLooks := .later }
def MobiusProductsCardSaid : Prop := Claim7.holds Tryd.pinned (.plain (OpenSpec.ofChange mobiusProductsSpec)) mobiusProductsCard

/-- THE SECOND FORM's CARD OF 'watershedkeep.MobiusTurns'. -/
def mobiusTurnsUptoCard : Claim7 := { stood := { row := mobiusTurnsUptoRow, standIns := [], harness := (true, "d3663f38f4fcadf16b58a579bc83a31ef53a3e9649cba1b4a0bd900345031673"), looks := false }, kinds := [], alts := [], laidByText := true, laidKinds := [.data], laidTests := true, laidLooks := .later }
def MobiusTurnsUptoCardSaid : Prop := Claim7.holds Tryd.pinned (.plain (OpenSpec.upto mobiusTurnsSpec)) mobiusTurnsUptoCard

/-- THE SECOND FORM's CARD OF 'watershedkeep.MobiusRota'. -/
def mobiusRotaUptoCard : Claim7 := { stood := { row := mobiusRotaUptoRow, standIns := [], harness := (true, "d3663f38f4fcadf16b58a579bc83a31ef53a3e9649cba1b4a0bd900345031673"), looks := false }, kinds := [], alts := [], laidByText := true, laidKinds := [.data], laidTests := true, laidLooks := .later }
def MobiusRotaUptoCardSaid : Prop := Claim7.holds Tryd.pinned (.plain (OpenSpec.upto mobiusRotaSpec)) mobiusRotaUptoCard

/-- THE SECOND FORM's CARD OF 'watershedkeep.MobiusHall'. -/
def mobiusHallUptoCard : Claim7 := { stood := { row := mobiusHallUptoRow, standIns := [], harness := (true, "d3663f38f4fcadf16b58a579bc83a31ef53a3e9649cba1b4a0bd900345031673"), looks := false }, kinds := [], alts := [], laidByText := true, laidKinds := [.data], laidTests := true, laidLooks := .later }
def MobiusHallUptoCardSaid : Prop := Claim7.holds Tryd.pinned (.plain (OpenSpec.upto mobiusHallSpec)) mobiusHallUptoCard

/-- THE SECOND FORM's CARD OF 'watershedkeep.MobiusDual'. -/
def mobiusDualUptoCard : Claim7 := { stood := { row := mobiusDualUptoRow, standIns := [], harness := (true, "d3663f38f4fcadf16b58a579bc83a31ef53a3e9649cba1b4a0bd900345031673"), looks := false }, kinds := [], alts := [], laidByText := true, laidKinds := [.data], laidTests := true, laidLooks := .later }
def MobiusDualUptoCardSaid : Prop := Claim7.holds Tryd.pinned (.plain (OpenSpec.upto mobiusDualSpec)) mobiusDualUptoCard

/-- THE SECOND FORM's CARD OF 'watershedkeep.MobiusProducts'. -/
def mobiusProductsUptoCard : Claim7 := { stood := { row := mobiusProductsUptoRow, standIns := [], harness := (true, "d3663f38f4fcadf16b58a579bc83a31ef53a3e9649cba1b4a0bd900345031673"), looks := false }, kinds := [], alts := [], laidByText := true, laidKinds := [.data], laidTests := true, laidLooks := .later }
def MobiusProductsUptoCardSaid : Prop := Claim7.holds Tryd.pinned (.plain (OpenSpec.upto mobiusProductsSpec)) mobiusProductsUptoCard
end Rows
end Go.Proofs.YtekpielpfegclabDoor
