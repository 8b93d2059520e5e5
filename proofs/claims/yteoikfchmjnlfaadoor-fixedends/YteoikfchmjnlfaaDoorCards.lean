/-
  DERIVED. GIVEN WITH THE SEED: THE CARDS: each row of YteoikfchmjnlfaaDoorRows.lean that lists a variable, with what it lists TIED to the program's text (the seventh form; the later family's looks); each row that meets fmt, with fmt's text TOLD by the authors' own Lean function (tested against real Go, not proved from fmt's source: count such statements apart). THE CARD IS WHAT COUNTS. Prove the row's statement (the work); the ties are given (YteoikfchmjnlfaaDoorTie.lean); close each card by the builder's one call (the guide's Derived/Test/ToyasCard.lean, 'card_holds'). Laid BY PROGRAM, IN A SANDBOX (cutbox-door.mjs). By AI agents, Wed Nov 11 2026. No macro, syntax, notation, axiom, sorry.
-/
import Derived.Test.YteoikfchmjnlfaaDoorRows
import GoSem.ClaimSeven
namespace Go.Proofs.YteoikfchmjnlfaaDoor
namespace Rows

/-- THE TIED CARD OF 'watershedlaw.FixedEnds'. -/
def fixedEndsCard : Claim7 := { stood := { row := fixedEndsRow, standIns := [], harness := (true, "b9a7cec6e3c1be45a809289d5e98a4fd23f001fe563df481311a7546c4eb08b8"), looks := false }, kinds := [], alts := [], laidByText := true, laidKinds := [.data], laidTests := true, laidLooks := .later }
def FixedEndsCardSaid : Prop := Claim7.holds Tryd.pinned (.plain (OpenSpec.ofChange fixedEndsSpec)) fixedEndsCard

/-- THE TIED CARD OF 'watershedlaw.FixedAdjoints'. -/
def fixedAdjointsCard : Claim7 := { stood := { row := fixedAdjointsRow, standIns := [], harness := (true, "b9a7cec6e3c1be45a809289d5e98a4fd23f001fe563df481311a7546c4eb08b8"), looks := false }, kinds := [], alts := [], laidByText := true, laidKinds := [.data], laidTests := true, laidLooks := .later }
def FixedAdjointsCardSaid : Prop := Claim7.holds Tryd.pinned (.plain (OpenSpec.ofChange fixedAdjointsSpec)) fixedAdjointsCard

/-- THE TIED CARD OF 'watershedkeep.FixedTarski'. -/
def fixedTarskiCard : Claim7 := { stood := { row := fixedTarskiRow, standIns := [], harness := (true, "b9a7cec6e3c1be45a809289d5e98a4fd23f001fe563df481311a7546c4eb08b8"), looks := false }, kinds := [], alts := [], laidByText := true, laidKinds := [.data], laidTests := true, laidLooks := .later }
def FixedTarskiCardSaid : Prop := Claim7.holds Tryd.pinned (.plain (OpenSpec.ofChange fixedTarskiSpec)) fixedTarskiCard

/-- THE TIED CARD OF 'watershedkeep.FixedLattice'. -/
def fixedLatticeCard : Claim7 := { stood := { row := fixedLatticeRow, standIns := [], harness := (true, "b9a7cec6e3c1be45a809289d5e98a4fd23f001fe563df481311a7546c4eb08b8"), looks := false }, kinds := [], alts := [], laidByText := true, laidKinds := [.data], laidTests := true, laidLooks := .later }
def FixedLatticeCardSaid : Prop := Claim7.holds Tryd.pinned (.plain (OpenSpec.ofChange fixedLatticeSpec)) fixedLatticeCard

/-- THE TIED CARD OF 'watershedkeep.FixedKleene'. -/
def fixedKleeneCard : Claim7 := { stood := { row := fixedKleeneRow, standIns := [], harness := (true, "b9a7cec6e3c1be45a809289d5e98a4fd23f001fe563df481311a7546c4eb08b8"), looks := false }, kinds := [], alts := [], laidByText := true, laidKinds := [.data], laidTests := true, laidLooks := .later }
def FixedKleeneCardSaid : Prop := Claim7.holds Tryd.pinned (.plain (OpenSpec.ofChange fixedKleeneSpec)) fixedKleeneCard

/-- THE TIED CARD OF 'watershedkeep.FixedGalois'. -/
def fixedGaloisCard : Claim7 := { stood := { row := fixedGaloisRow, standIns := [], harness := (true, "b9a7cec6e3c1be45a809289d5e98a4fd23f001fe563df481311a7546c4eb08b8"), looks := false }, kinds := [], alts := [], laidByText := true, laidKinds := [.data], laidTests := true, laidLooks := .later }
def FixedGaloisCardSaid : Prop := Claim7.holds Tryd.pinned (.plain (OpenSpec.ofChange fixedGaloisSpec)) fixedGaloisCard

/-- THE SECOND FORM's CARD OF 'watershedlaw.FixedEnds'. -/
def fixedEndsUptoCard : Claim7 := { stood := { row := fixedEndsUptoRow, standIns := [], harness := (true, "b9a7cec6e3c1be45a809289d5e98a4fd23f001fe563df481311a7546c4eb08b8"), looks := false }, kinds := [], alts := [], laidByText := true, laidKinds := [.data], laidTests := true, laidLooks := .later }
def FixedEndsUptoCardSaid : Prop := Claim7.holds Tryd.pinned (.plain (OpenSpec.upto fixedEndsSpec)) fixedEndsUptoCard

/-- THE SECOND FORM's CARD OF 'watershedlaw.FixedAdjoints'. -/
def fixedAdjointsUptoCard : Claim7 := { stood := { row := fixedAdjointsUptoRow, standIns := [], harness := (true, "b9a7cec6e3c1be45a809289d5e98a4fd23f001fe563df481311a7546c4eb08b8"), looks := false }, kinds := [], alts := [], laidByText := true, laidKinds := [.data], laidTests := true, laidLooks := .later }
def FixedAdjointsUptoCardSaid : Prop := Claim7.holds Tryd.pinned (.plain (OpenSpec.upto fixedAdjointsSpec)) fixedAdjointsUptoCard

/-- THE SECOND FORM's CARD OF 'watershedkeep.FixedTarski'. -/
def fixedTarskiUptoCard : Claim7 := { stood := { row := fixedTarskiUptoRow, standIns := [], harness := (true, "b9a7cec6e3c1be45a809289d5e98a4fd23f001fe563df481311a7546c4eb08b8"), looks := false }, kinds := [], alts := [], laidByText := true, laidKinds := [.data], laidTests := true, laidLooks := .later }
def FixedTarskiUptoCardSaid : Prop := Claim7.holds Tryd.pinned (.plain (OpenSpec.upto fixedTarskiSpec)) fixedTarskiUptoCard

/-- THE SECOND FORM's CARD OF 'watershedkeep.FixedLattice'. -/
def fixedLatticeUptoCard : Claim7 := { stood := { row := fixedLatticeUptoRow, standIns := [], harness := (true, "b9a7cec6e3c1be45a809289d5e98a4fd23f001fe563df481311a7546c4eb08b8"), looks := false }, kinds := [], alts := [], laidByText := true, laidKinds := [.data], laidTests := true, laidLooks := .later }
def FixedLatticeUptoCardSaid : Prop := Claim7.holds Tryd.pinned (.plain (OpenSpec.upto fixedLatticeSpec)) fixedLatticeUptoCard

/-- THE SECOND FORM's CARD OF 'watershedkeep.FixedKleene'. -/
def fixedKleeneUptoCard : Claim7 := { stood := { row := fixedKleeneUptoRow, standIns := [], harness := (true, "b9a7cec6e3c1be45a809289d5e98a4fd23f001fe563df481311a7546c4eb08b8"), looks := false }, kinds := [], alts := [], laidByText := true, laidKinds := [.data], laidTests := true, laidLooks := .later }
def FixedKleeneUptoCardSaid : Prop := Claim7.holds Tryd.pinned (.plain (OpenSpec.upto fixedKleeneSpec)) fixedKleeneUptoCard

/-- THE SECOND FORM's CARD OF 'watershedkeep.FixedGalois'. -/
def fixedGaloisUptoCard : Claim7 := { stood := { row := fixedGaloisUptoRow, standIns := [], harness := (true, "b9a7cec6e3c1be45a809289d5e98a4fd23f001fe563df481311a7546c4eb08b8"), looks := false }, kinds := [], alts := [], laidByText := true, laidKinds := [.data], laidTests := true, laidLooks := .later }
def FixedGaloisUptoCardSaid : Prop := Claim7.holds Tryd.pinned (.plain (OpenSpec.upto fixedGaloisSpec)) fixedGaloisUptoCard
end Rows
end Go.Proofs.YteoikfchmjnlfaaDoor
