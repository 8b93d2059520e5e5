/-
  DERIVED. GIVEN WITH THE SEED: THE CARDS: each row of YtemabboecmkoaaaDoorRows.lean that lists a variable, with what it lists TIED to the program's text (the seventh form; the later family's looks); each row that meets fmt, with fmt's text TOLD by the authors' own Lean function (tested against real Go, not proved from fmt's source: count such statements apart). THE CARD IS WHAT COUNTS. Prove the row's statement (the work); the ties are given (YtemabboecmkoaaaDoorTie.lean); close each card by the builder's one call (the guide's Derived/Test/ToyasCard.lean, 'card_holds'). Laid BY PROGRAM, IN A SANDBOX (cutbox-door.mjs). By AI agents, Wed Nov 11 2026. No macro, syntax, notation, axiom, sorry.
-/
import Derived.Test.YtemabboecmkoaaaDoorRows
import GoSem.ClaimSeven
namespace Go.Proofs.YtemabboecmkoaaaDoor
namespace Rows

/-- THE TIED CARD OF 'watershedkeep.FixedDual'. -/
def fixedDualCard : Claim7 := { stood := { row := fixedDualRow, standIns := [], harness := (true, "d13127af7338e50c7b09870d0c366d0892260367ef64598280ae9ef9949ec2e4"), looks := false }, kinds := [], alts := [], laidByText := true, laidKinds := [.data], laidTests := true, laidLooks := .later }
def FixedDualCardSaid : Prop := Claim7.holds Tryd.pinned (.plain (OpenSpec.ofChange fixedDualSpec)) fixedDualCard

/-- THE TIED CARD OF 'watershedkeep.FixedTarski'. -/
def fixedTarskiCard : Claim7 := { stood := { row := fixedTarskiRow, standIns := [], harness := (true, "d13127af7338e50c7b09870d0c366d0892260367ef64598280ae9ef9949ec2e4"), looks := false }, kinds := [], alts := [], laidByText := true, laidKinds := [.data], laidTests := true, laidLooks := .later }
def FixedTarskiCardSaid : Prop := Claim7.holds Tryd.pinned (.plain (OpenSpec.ofChange fixedTarskiSpec)) fixedTarskiCard

/-- THE TIED CARD OF 'watershedkeep.FixedLattice'. -/
def fixedLatticeCard : Claim7 := { stood := { row := fixedLatticeRow, standIns := [], harness := (true, "d13127af7338e50c7b09870d0c366d0892260367ef64598280ae9ef9949ec2e4"), looks := false }, kinds := [], alts := [], laidByText := true, laidKinds := [.data], laidTests := true, laidLooks := .later }
def FixedLatticeCardSaid : Prop := Claim7.holds Tryd.pinned (.plain (OpenSpec.ofChange fixedLatticeSpec)) fixedLatticeCard

/-- THE TIED CARD OF 'watershedkeep.FixedKleene'. -/
def fixedKleeneCard : Claim7 := { stood := { row := fixedKleeneRow, standIns := [], harness := (true, "d13127af7338e50c7b09870d0c366d0892260367ef64598280ae9ef9949ec2e4"), looks := false }, kinds := [], alts := [], laidByText := true, laidKinds := [.data], laidTests := true, laidLooks := .later }
def FixedKleeneCardSaid : Prop := Claim7.holds Tryd.pinned (.plain (OpenSpec.ofChange fixedKleeneSpec)) fixedKleeneCard

/-- THE TIED CARD OF 'watershedkeep.FixedRolls'. -/
def fixedRollsCard : Claim7 := { stood := { row := fixedRollsRow, standIns := [], harness := (true, "d13127af7338e50c7b09870d0c366d0892260367ef64598280ae9ef9949ec2e4"), looks := false }, kinds := [], alts := [], laidByText := true, laidKinds := [.data], laidTests := true, laidLooks := .later }
def FixedRollsCardSaid : Prop := Claim7.holds Tryd.pinned (.plain (OpenSpec.ofChange fixedRollsSpec)) fixedRollsCard

/-- THE TIED CARD OF 'watershedkeep.FixedGrows'. -/
def fixedGrowsCard : Claim7 := { stood := { row := fixedGrowsRow, standIns := [], harness := (true, "d13127af7338e50c7b09870d0c366d0892260367ef64598280ae9ef9949ec2e4"), looks := false }, kinds := [], alts := [], laidByText := true, laidKinds := [.data], laidTests := true, laidLooks := .later }
def FixedGrowsCardSaid : Prop := Claim7.holds Tryd.pinned (.plain (OpenSpec.ofChange fixedGrowsSpec)) fixedGrowsCard

/-- THE SECOND FORM's CARD OF 'watershedkeep.FixedDual'. -/
def fixedDualUptoCard : Claim7 := { stood := { row := fixedDualUptoRow, standIns := [], harness := (true, "d13127af7338e50c7b09870d0c366d0892260367ef64598280ae9ef9949ec2e4"), looks := false }, kinds := [], alts := [], laidByText := true, laidKinds := [.data], laidTests := true, laidLooks := .later }
def FixedDualUptoCardSaid : Prop := Claim7.holds Tryd.pinned (.plain (OpenSpec.upto fixedDualSpec)) fixedDualUptoCard

/-- THE SECOND FORM's CARD OF 'watershedkeep.FixedTarski'. -/
def fixedTarskiUptoCard : Claim7 := { stood := { row := fixedTarskiUptoRow, standIns := [], harness := (true, "d13127af7338e50c7b09870d0c366d0892260367ef64598280ae9ef9949ec2e4"), looks := false }, kinds := [], alts := [], laidByText := true, laidKinds := [.data], laidTests := true, laidLooks := .later }
def FixedTarskiUptoCardSaid : Prop := Claim7.holds Tryd.pinned (.plain (OpenSpec.upto fixedTarskiSpec)) fixedTarskiUptoCard

/-- THE SECOND FORM's CARD OF 'watershedkeep.FixedLattice'. -/
def fixedLatticeUptoCard : Claim7 := { stood := { row := fixedLatticeUptoRow, standIns := [], harness := (true, "d13127af7338e50c7b09870d0c366d0892260367ef64598280ae9ef9949ec2e4"), looks := false }, kinds := [], alts := [], laidByText := true, laidKinds := [.data], laidTests := true, laidLooks := .later }
def FixedLatticeUptoCardSaid : Prop := Claim7.holds Tryd.pinned (.plain (OpenSpec.upto fixedLatticeSpec)) fixedLatticeUptoCard

/-- THE SECOND FORM's CARD OF 'watershedkeep.FixedKleene'. -/
def fixedKleeneUptoCard : Claim7 := { stood := { row := fixedKleeneUptoRow, standIns := [], harness := (true, "d13127af7338e50c7b09870d0c366d0892260367ef64598280ae9ef9949ec2e4"), looks := false }, kinds := [], alts := [], laidByText := true, laidKinds := [.data], laidTests := true, laidLooks := .later }
def FixedKleeneUptoCardSaid : Prop := Claim7.holds Tryd.pinned (.plain (OpenSpec.upto fixedKleeneSpec)) fixedKleeneUptoCard

/-- THE SECOND FORM's CARD OF 'watershedkeep.FixedRolls'. -/
def fixedRollsUptoCard : Claim7 := { stood := { row := fixedRollsUptoRow, standIns := [], harness := (true, "d13127af7338e50c7b09870d0c366d0892260367ef64598280ae9ef9949ec2e4"), looks := false }, kinds := [], alts := [], laidByText := true, laidKinds := [.data], laidTests := true, laidLooks := .later }
def FixedRollsUptoCardSaid : Prop := Claim7.holds Tryd.pinned (.plain (OpenSpec.upto fixedRollsSpec)) fixedRollsUptoCard

/-- THE SECOND FORM's CARD OF 'watershedkeep.FixedGrows'. -/
def fixedGrowsUptoCard : Claim7 := { stood := { row := fixedGrowsUptoRow, standIns := [], harness := (true, "d13127af7338e50c7b09870d0c366d0892260367ef64598280ae9ef9949ec2e4"), looks := false }, kinds := [], alts := [], laidByText := true, laidKinds := [.data], laidTests := true, laidLooks := .later }
def FixedGrowsUptoCardSaid : Prop := Claim7.holds Tryd.pinned (.plain (OpenSpec.upto fixedGrowsSpec)) fixedGrowsUptoCard
end Rows
end Go.Proofs.YtemabboecmkoaaaDoor
