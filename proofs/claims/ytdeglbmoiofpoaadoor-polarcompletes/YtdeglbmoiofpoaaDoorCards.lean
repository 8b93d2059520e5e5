/-
  DERIVED. GIVEN WITH THE SEED: THE CARDS: each row of YtdeglbmoiofpoaaDoorRows.lean that lists a variable, with what it lists TIED to the program's text (the seventh form; the later family's looks); each row that meets fmt, with fmt's text TOLD by the authors' own Lean function (tested against real Go, not proved from fmt's source: count such statements apart). THE CARD IS WHAT COUNTS. Prove the row's statement (the work); the ties are given (YtdeglbmoiofpoaaDoorTie.lean); close each card by the builder's one call (the guide's Derived/Test/ToyasCard.lean, 'card_holds'). Laid BY PROGRAM, IN A SANDBOX (cutbox-door.mjs). By AI agents, Wed Nov 11 2026. No macro, syntax, notation, axiom, sorry.
-/
import Derived.Test.YtdeglbmoiofpoaaDoorRows
import GoSem.ClaimSeven
namespace Go.Proofs.YtdeglbmoiofpoaaDoor
namespace Rows

/-- THE TIED CARD OF 'watershedlaw.PolarCompletes'. -/
def polarCompletesCard : Claim7 := { stood := { row := polarCompletesRow, standIns := [], harness := (true, "bc16af1282d8c8db0fc45066120e5e6fb58953cda2dd511cd5ef0753b2cf8928"), looks := false }, kinds := [], alts := [], laidByText := true, laidKinds := [.data], laidTests := true, laidLooks := .later }
def PolarCompletesCardSaid : Prop := Claim7.holds Tryd.pinned (.plain (OpenSpec.ofChange polarCompletesSpec)) polarCompletesCard

/-- THE TIED CARD OF 'watershedkeep.PolarMacNeille'. -/
def polarMacNeilleCard : Claim7 := { stood := { row := polarMacNeilleRow, standIns := [], harness := (true, "bc16af1282d8c8db0fc45066120e5e6fb58953cda2dd511cd5ef0753b2cf8928"), looks := false }, kinds := [], alts := [], laidByText := true, laidKinds := [.data], laidTests := true, laidLooks := .later }
def PolarMacNeilleCardSaid : Prop := Claim7.holds Tryd.pinned (.plain (OpenSpec.ofChange polarMacNeilleSpec)) polarMacNeilleCard

/-- THE TIED CARD OF 'watershedlaw.FixedAdjoints'. -/
def fixedAdjointsCard : Claim7 := { stood := { row := fixedAdjointsRow, standIns := [], harness := (true, "bc16af1282d8c8db0fc45066120e5e6fb58953cda2dd511cd5ef0753b2cf8928"), looks := false }, kinds := [], alts := [], laidByText := true, laidKinds := [.data], laidTests := true, laidLooks := .later }
def FixedAdjointsCardSaid : Prop := Claim7.holds Tryd.pinned (.plain (OpenSpec.ofChange fixedAdjointsSpec)) fixedAdjointsCard

/-- THE TIED CARD OF 'watershedkeep.FixedLattice'. -/
def fixedLatticeCard : Claim7 := { stood := { row := fixedLatticeRow, standIns := [], harness := (true, "bc16af1282d8c8db0fc45066120e5e6fb58953cda2dd511cd5ef0753b2cf8928"), looks := false }, kinds := [], alts := [], laidByText := true, laidKinds := [.data], laidTests := true, laidLooks := .later }
def FixedLatticeCardSaid : Prop := Claim7.holds Tryd.pinned (.plain (OpenSpec.ofChange fixedLatticeSpec)) fixedLatticeCard

/-- THE SECOND FORM's CARD OF 'watershedlaw.PolarCompletes'. -/
def polarCompletesUptoCard : Claim7 := { stood := { row := polarCompletesUptoRow, standIns := [], harness := (true, "bc16af1282d8c8db0fc45066120e5e6fb58953cda2dd511cd5ef0753b2cf8928"), looks := false }, kinds := [], alts := [], laidByText := true, laidKinds := [.data], laidTests := true, laidLooks := .later }
def PolarCompletesUptoCardSaid : Prop := Claim7.holds Tryd.pinned (.plain (OpenSpec.upto polarCompletesSpec)) polarCompletesUptoCard

/-- THE SECOND FORM's CARD OF 'watershedkeep.PolarMacNeille'. -/
def polarMacNeilleUptoCard : Claim7 := { stood := { row := polarMacNeilleUptoRow, standIns := [], harness := (true, "bc16af1282d8c8db0fc45066120e5e6fb58953cda2dd511cd5ef0753b2cf8928"), looks := false }, kinds := [], alts := [], laidByText := true, laidKinds := [.data], laidTests := true, laidLooks := .later }
def PolarMacNeilleUptoCardSaid : Prop := Claim7.holds Tryd.pinned (.plain (OpenSpec.upto polarMacNeilleSpec)) polarMacNeilleUptoCard

/-- THE SECOND FORM's CARD OF 'watershedlaw.FixedAdjoints'. -/
def fixedAdjointsUptoCard : Claim7 := { stood := { row := fixedAdjointsUptoRow, standIns := [], harness := (true, "bc16af1282d8c8db0fc45066120e5e6fb58953cda2dd511cd5ef0753b2cf8928"), looks := false }, kinds := [], alts := [], laidByText := true, laidKinds := [.data], laidTests := true, laidLooks := .later }
def FixedAdjointsUptoCardSaid : Prop := Claim7.holds Tryd.pinned (.plain (OpenSpec.upto fixedAdjointsSpec)) fixedAdjointsUptoCard

/-- THE SECOND FORM's CARD OF 'watershedkeep.FixedLattice'. -/
def fixedLatticeUptoCard : Claim7 := { stood := { row := fixedLatticeUptoRow, standIns := [], harness := (true, "bc16af1282d8c8db0fc45066120e5e6fb58953cda2dd511cd5ef0753b2cf8928"), looks := false }, kinds := [], alts := [], laidByText := true, laidKinds := [.data], laidTests := true, laidLooks := .later }
def FixedLatticeUptoCardSaid : Prop := Claim7.holds Tryd.pinned (.plain (OpenSpec.upto fixedLatticeSpec)) fixedLatticeUptoCard
end Rows
end Go.Proofs.YtdeglbmoiofpoaaDoor
