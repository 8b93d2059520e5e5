/-
  DERIVED. GIVEN WITH THE SEED: THE CARDS: each row of YtjbfjdijgfhjfaaDoorRows.lean that lists a variable, with what it lists TIED to the program's text (the seventh form; the later family's looks); each row that meets fmt, with fmt's text TOLD by the authors' own Lean function (tested against real Go, not proved from fmt's source: count such statements apart). THE CARD IS WHAT COUNTS. Prove the row's statement (the work); the ties are given (YtjbfjdijgfhjfaaDoorTie.lean); close each card by the builder's one call (the guide's Derived/Test/ToyasCard.lean, 'card_holds'). Laid BY PROGRAM, IN A SANDBOX (cutbox-door.mjs). By AI agents, Wed Nov 11 2026. No macro, syntax, notation, axiom, sorry.
-/
import Derived.Test.YtjbfjdijgfhjfaaDoorRows
import GoSem.ClaimSeven
namespace Go.Proofs.YtjbfjdijgfhjfaaDoor
namespace Rows

/-- THE TIED CARD OF 'watershedkeep.MobiusWeisner'. -/
def mobiusWeisnerCard : Claim7 := { stood := { row := mobiusWeisnerRow, standIns := [], harness := (true, "ce9620908697af5f054c4daafb678f980322e4b1b48b2bed8c2948c54281c42f"), looks := false }, kinds := [], alts := [], laidByText := true, laidKinds := [.data], laidTests := true, laidLooks := .later }
def MobiusWeisnerCardSaid : Prop := Claim7.holds Tryd.pinned (.plain (OpenSpec.ofChange mobiusWeisnerSpec)) mobiusWeisnerCard

/-- THE TIED CARD OF 'watershedkeep.MobiusAtoms'. -/
def mobiusAtomsCard : Claim7 := { stood := { row := mobiusAtomsRow, standIns := [], harness := (true, "ce9620908697af5f054c4daafb678f980322e4b1b48b2bed8c2948c54281c42f"), looks := false }, kinds := [], alts := [], laidByText := true, laidKinds := [.data], laidTests := true, laidLooks := .later }
def MobiusAtomsCardSaid : Prop := Claim7.holds Tryd.pinned (.plain (OpenSpec.ofChange mobiusAtomsSpec)) mobiusAtomsCard

/-- THE TIED CARD OF 'watershedkeep.MobiusDowns'. -/
def mobiusDownsCard : Claim7 := { stood := { row := mobiusDownsRow, standIns := [], harness := (true, "ce9620908697af5f054c4daafb678f980322e4b1b48b2bed8c2948c54281c42f"), looks := false }, kinds := [], alts := [], laidByText := true, laidKinds := [.data], laidTests := true, laidLooks := .later }
def MobiusDownsCardSaid : Prop := Claim7.holds Tryd.pinned (.plain (OpenSpec.ofChange mobiusDownsSpec)) mobiusDownsCard

/-- THE SECOND FORM's CARD OF 'watershedkeep.MobiusWeisner'. -/
def mobiusWeisnerUptoCard : Claim7 := { stood := { row := mobiusWeisnerUptoRow, standIns := [], harness := (true, "ce9620908697af5f054c4daafb678f980322e4b1b48b2bed8c2948c54281c42f"), looks := false }, kinds := [], alts := [], laidByText := true, laidKinds := [.data], laidTests := true, laidLooks := .later }
def MobiusWeisnerUptoCardSaid : Prop := Claim7.holds Tryd.pinned (.plain (OpenSpec.upto mobiusWeisnerSpec)) mobiusWeisnerUptoCard

/-- THE SECOND FORM's CARD OF 'watershedkeep.MobiusAtoms'. -/
def mobiusAtomsUptoCard : Claim7 := { stood := { row := mobiusAtomsUptoRow, standIns := [], harness := (true, "ce9620908697af5f054c4daafb678f980322e4b1b48b2bed8c2948c54281c42f"), looks := false }, kinds := [], alts := [], laidByText := true, laidKinds := [.data], laidTests := true, laidLooks := .later }
def MobiusAtomsUptoCardSaid : Prop := Claim7.holds Tryd.pinned (.plain (OpenSpec.upto mobiusAtomsSpec)) mobiusAtomsUptoCard

/-- THE SECOND FORM's CARD OF 'watershedkeep.MobiusDowns'. -/
def mobiusDownsUptoCard : Claim7 := { stood := { row := mobiusDownsUptoRow, standIns := [], harness := (true, "ce9620908697af5f054c4daafb678f980322e4b1b48b2bed8c2948c54281c42f"), looks := false }, kinds := [], alts := [], laidByText := true, laidKinds := [.data], laidTests := true, laidLooks := .later }
def MobiusDownsUptoCardSaid : Prop := Claim7.holds Tryd.pinned (.plain (OpenSpec.upto mobiusDownsSpec)) mobiusDownsUptoCard
end Rows
end Go.Proofs.YtjbfjdijgfhjfaaDoor
