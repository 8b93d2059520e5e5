/-
  DERIVED. GIVEN WITH THE SEED: THE CARDS: each row of YtbdigkjahfdmjabDoorRows.lean that lists a variable, with what it lists TIED to the program's text (the seventh form; the later family's looks); each row that meets fmt, with fmt's text TOLD by the authors' own Lean function (tested against real Go, not proved from fmt's source: count such statements apart). THE CARD IS WHAT COUNTS. Prove the row's statement (the work); the ties are given (YtbdigkjahfdmjabDoorTie.lean); close each card by the builder's one call (the guide's Derived/Test/ToyasCard.lean, 'card_holds'). Laid BY PROGRAM, IN A SANDBOX (cutbox-door.mjs). By AI agents, Wed Nov 11 2026. No macro, syntax, notation, axiom, sorry.
-/
import Derived.Test.YtbdigkjahfdmjabDoorRows
import GoSem.ClaimSeven
namespace Go.Proofs.YtbdigkjahfdmjabDoor
namespace Rows

/-- THE TIED CARD OF 'watershedlaw.LatticeKinds'. -/
def latticeKindsCard : Claim7 := { stood := { row := latticeKindsRow, standIns := [], harness := (true, "f4cdfff9a81627484b82110467e78e32c79087744dcb37dc4e4a3c6e114bbed2"), looks := false }, kinds := [], alts := [], laidByText := true, laidKinds := [.data], laidTests := true, laidLooks := .later }
def LatticeKindsCardSaid : Prop := Claim7.holds Tryd.pinned (.plain (OpenSpec.ofChange latticeKindsSpec)) latticeKindsCard

/-- THE TIED CARD OF 'watershedlaw.LatticeSubs'. -/
def latticeSubsCard : Claim7 := { stood := { row := latticeSubsRow, standIns := [], harness := (true, "f4cdfff9a81627484b82110467e78e32c79087744dcb37dc4e4a3c6e114bbed2"), looks := false }, kinds := [], alts := [], laidByText := true, laidKinds := [.data], laidTests := true, laidLooks := .later }
def LatticeSubsCardSaid : Prop := Claim7.holds Tryd.pinned (.plain (OpenSpec.ofChange latticeSubsSpec)) latticeSubsCard

/-- THE TIED CARD OF 'watershedkeep.LatticeAlgebra'. -/
def latticeAlgebraCard : Claim7 := { stood := { row := latticeAlgebraRow, standIns := [], harness := (true, "f4cdfff9a81627484b82110467e78e32c79087744dcb37dc4e4a3c6e114bbed2"), looks := false }, kinds := [], alts := [], laidByText := true, laidKinds := [.data], laidTests := true, laidLooks := .later }
def LatticeAlgebraCardSaid : Prop := Claim7.holds Tryd.pinned (.plain (OpenSpec.ofChange latticeAlgebraSpec)) latticeAlgebraCard

/-- THE TIED CARD OF 'watershedkeep.LatticeBounds'. -/
def latticeBoundsCard : Claim7 := { stood := { row := latticeBoundsRow, standIns := [], harness := (true, "f4cdfff9a81627484b82110467e78e32c79087744dcb37dc4e4a3c6e114bbed2"), looks := false }, kinds := [], alts := [], laidByText := true, laidKinds := [.data], laidTests := true, laidLooks := .later }
def LatticeBoundsCardSaid : Prop := Claim7.holds Tryd.pinned (.plain (OpenSpec.ofChange latticeBoundsSpec)) latticeBoundsCard

/-- THE TIED CARD OF 'watershedkeep.LatticeDual'. -/
def latticeDualCard : Claim7 := { stood := { row := latticeDualRow, standIns := [], harness := (true, "f4cdfff9a81627484b82110467e78e32c79087744dcb37dc4e4a3c6e114bbed2"), looks := false }, kinds := [], alts := [], laidByText := true, laidKinds := [.data], laidTests := true, laidLooks := .later }
def LatticeDualCardSaid : Prop := Claim7.holds Tryd.pinned (.plain (OpenSpec.ofChange latticeDualSpec)) latticeDualCard

/-- THE TIED CARD OF 'watershedkeep.LatticeDistributes'. -/
def latticeDistributesCard : Claim7 := { stood := { row := latticeDistributesRow, standIns := [], harness := (true, "f4cdfff9a81627484b82110467e78e32c79087744dcb37dc4e4a3c6e114bbed2"), looks := false }, kinds := [], alts := [], laidByText := true, laidKinds := [.data], laidTests := true, laidLooks := .later }
def LatticeDistributesCardSaid : Prop := Claim7.holds Tryd.pinned (.plain (OpenSpec.ofChange latticeDistributesSpec)) latticeDistributesCard

/-- THE SECOND FORM's CARD OF 'watershedlaw.LatticeKinds'. -/
def latticeKindsUptoCard : Claim7 := { stood := { row := latticeKindsUptoRow, standIns := [], harness := (true, "f4cdfff9a81627484b82110467e78e32c79087744dcb37dc4e4a3c6e114bbed2"), looks := false }, kinds := [], alts := [], laidByText := true, laidKinds := [.data], laidTests := true, laidLooks := .later }
def LatticeKindsUptoCardSaid : Prop := Claim7.holds Tryd.pinned (.plain (OpenSpec.upto latticeKindsSpec)) latticeKindsUptoCard

/-- THE SECOND FORM's CARD OF 'watershedlaw.LatticeSubs'. -/
def latticeSubsUptoCard : Claim7 := { stood := { row := latticeSubsUptoRow, standIns := [], harness := (true, "f4cdfff9a81627484b82110467e78e32c79087744dcb37dc4e4a3c6e114bbed2"), looks := false }, kinds := [], alts := [], laidByText := true, laidKinds := [.data], laidTests := true, laidLooks := .later }
def LatticeSubsUptoCardSaid : Prop := Claim7.holds Tryd.pinned (.plain (OpenSpec.upto latticeSubsSpec)) latticeSubsUptoCard

/-- THE SECOND FORM's CARD OF 'watershedkeep.LatticeAlgebra'. -/
def latticeAlgebraUptoCard : Claim7 := { stood := { row := latticeAlgebraUptoRow, standIns := [], harness := (true, "f4cdfff9a81627484b82110467e78e32c79087744dcb37dc4e4a3c6e114bbed2"), looks := false }, kinds := [], alts := [], laidByText := true, laidKinds := [.data], laidTests := true, laidLooks := .later }
def LatticeAlgebraUptoCardSaid : Prop := Claim7.holds Tryd.pinned (.plain (OpenSpec.upto latticeAlgebraSpec)) latticeAlgebraUptoCard

/-- THE SECOND FORM's CARD OF 'watershedkeep.LatticeBounds'. -/
def latticeBoundsUptoCard : Claim7 := { stood := { row := latticeBoundsUptoRow, standIns := [], harness := (true, "f4cdfff9a81627484b82110467e78e32c79087744dcb37dc4e4a3c6e114bbed2"), looks := false }, kinds := [], alts := [], laidByText := true, laidKinds := [.data], laidTests := true, laidLooks := .later }
def LatticeBoundsUptoCardSaid : Prop := Claim7.holds Tryd.pinned (.plain (OpenSpec.upto latticeBoundsSpec)) latticeBoundsUptoCard

/-- THE SECOND FORM's CARD OF 'watershedkeep.LatticeDual'. -/
def latticeDualUptoCard : Claim7 := { stood := { row := latticeDualUptoRow, standIns := [], harness := (true, "f4cdfff9a81627484b82110467e78e32c79087744dcb37dc4e4a3c6e114bbed2"), looks := false }, kinds := [], alts := [], laidByText := true, laidKinds := [.data], laidTests := true, laidLooks := .later }
def LatticeDualUptoCardSaid : Prop := Claim7.holds Tryd.pinned (.plain (OpenSpec.upto latticeDualSpec)) latticeDualUptoCard

/-- THE SECOND FORM's CARD OF 'watershedkeep.LatticeDistributes'. -/
def latticeDistributesUptoCard : Claim7 := { stood := { row := latticeDistributesUptoRow, standIns := [], harness := (true, "f4cdfff9a81627484b82110467e78e32c79087744dcb37dc4e4a3c6e114bbed2"), looks := false }, kinds := [], alts := [], laidByText := true, laidKinds := [.data], laidTests := true, laidLooks := .later }
def LatticeDistributesUptoCardSaid : Prop := Claim7.holds Tryd.pinned (.plain (OpenSpec.upto latticeDistributesSpec)) latticeDistributesUptoCard
end Rows
end Go.Proofs.YtbdigkjahfdmjabDoor
