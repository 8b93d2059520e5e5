/-
  DERIVED. GIVEN WITH THE SEED: THE CARDS: each row of YtobjgfjikmgdeaaDoorRows.lean that lists a variable, with what it lists TIED to the program's text (the seventh form; the later family's looks); each row that meets fmt, with fmt's text TOLD by the authors' own Lean function (tested against real Go, not proved from fmt's source: count such statements apart). THE CARD IS WHAT COUNTS. Prove the row's statement (the work); the ties are given (YtobjgfjikmgdeaaDoorTie.lean); close each card by the builder's one call (the guide's Derived/Test/ToyasCard.lean, 'card_holds'). Laid BY PROGRAM, IN A SANDBOX (cutbox-door.mjs). By AI agents, Wed Nov 11 2026. No macro, syntax, notation, axiom, sorry.
-/
import Derived.Test.YtobjgfjikmgdeaaDoorRows
import GoSem.ClaimSeven
namespace Go.Proofs.YtobjgfjikmgdeaaDoor
namespace Rows

/-- THE TIED CARD OF 'watershedlaw.LatticeKinds'. -/
def latticeKindsCard : Claim7 := { stood := { row := latticeKindsRow, standIns := [], harness := (true, "595891a1ea8da5ee1fabcbe4509cf06e183695ffb792973ab66503d5eec2ea15"), looks := false }, kinds := [], alts := [], laidByText := true, laidKinds := [.data], laidTests := true, laidLooks := .later }
def LatticeKindsCardSaid : Prop := Claim7.holds Tryd.pinned (.plain (OpenSpec.ofChange latticeKindsSpec)) latticeKindsCard

/-- THE TIED CARD OF 'watershedkeep.LatticeDual'. -/
def latticeDualCard : Claim7 := { stood := { row := latticeDualRow, standIns := [], harness := (true, "595891a1ea8da5ee1fabcbe4509cf06e183695ffb792973ab66503d5eec2ea15"), looks := false }, kinds := [], alts := [], laidByText := true, laidKinds := [.data], laidTests := true, laidLooks := .later }
def LatticeDualCardSaid : Prop := Claim7.holds Tryd.pinned (.plain (OpenSpec.ofChange latticeDualSpec)) latticeDualCard

/-- THE TIED CARD OF 'watershedkeep.LatticeDistributes'. -/
def latticeDistributesCard : Claim7 := { stood := { row := latticeDistributesRow, standIns := [], harness := (true, "595891a1ea8da5ee1fabcbe4509cf06e183695ffb792973ab66503d5eec2ea15"), looks := false }, kinds := [], alts := [], laidByText := true, laidKinds := [.data], laidTests := true, laidLooks := .later }
def LatticeDistributesCardSaid : Prop := Claim7.holds Tryd.pinned (.plain (OpenSpec.ofChange latticeDistributesSpec)) latticeDistributesCard

/-- THE TIED CARD OF 'watershedkeep.LatticeMedian'. -/
def latticeMedianCard : Claim7 := { stood := { row := latticeMedianRow, standIns := [], harness := (true, "595891a1ea8da5ee1fabcbe4509cf06e183695ffb792973ab66503d5eec2ea15"), looks := false }, kinds := [], alts := [], laidByText := true, laidKinds := [.data], laidTests := true, laidLooks := .later }
def LatticeMedianCardSaid : Prop := Claim7.holds Tryd.pinned (.plain (OpenSpec.ofChange latticeMedianSpec)) latticeMedianCard

/-- THE TIED CARD OF 'watershedkeep.LatticeDedekind'. -/
def latticeDedekindCard : Claim7 := { stood := { row := latticeDedekindRow, standIns := [], harness := (true, "595891a1ea8da5ee1fabcbe4509cf06e183695ffb792973ab66503d5eec2ea15"), looks := false }, kinds := [], alts := [], laidByText := true, laidKinds := [.data], laidTests := true, laidLooks := .later }
def LatticeDedekindCardSaid : Prop := Claim7.holds Tryd.pinned (.plain (OpenSpec.ofChange latticeDedekindSpec)) latticeDedekindCard

/-- THE TIED CARD OF 'watershedkeep.LatticeCancels'. -/
def latticeCancelsCard : Claim7 := { stood := { row := latticeCancelsRow, standIns := [], harness := (true, "595891a1ea8da5ee1fabcbe4509cf06e183695ffb792973ab66503d5eec2ea15"), looks := false }, kinds := [], alts := [], laidByText := true, laidKinds := [.data], laidTests := true, laidLooks := .later }
def LatticeCancelsCardSaid : Prop := Claim7.holds Tryd.pinned (.plain (OpenSpec.ofChange latticeCancelsSpec)) latticeCancelsCard

/-- THE SECOND FORM's CARD OF 'watershedlaw.LatticeKinds'. -/
def latticeKindsUptoCard : Claim7 := { stood := { row := latticeKindsUptoRow, standIns := [], harness := (true, "595891a1ea8da5ee1fabcbe4509cf06e183695ffb792973ab66503d5eec2ea15"), looks := false }, kinds := [], alts := [], laidByText := true, laidKinds := [.data], laidTests := true, laidLooks := .later }
def LatticeKindsUptoCardSaid : Prop := Claim7.holds Tryd.pinned (.plain (OpenSpec.upto latticeKindsSpec)) latticeKindsUptoCard

/-- THE SECOND FORM's CARD OF 'watershedkeep.LatticeDual'. -/
def latticeDualUptoCard : Claim7 := { stood := { row := latticeDualUptoRow, standIns := [], harness := (true, "595891a1ea8da5ee1fabcbe4509cf06e183695ffb792973ab66503d5eec2ea15"), looks := false }, kinds := [], alts := [], laidByText := true, laidKinds := [.data], laidTests := true, laidLooks := .later }
def LatticeDualUptoCardSaid : Prop := Claim7.holds Tryd.pinned (.plain (OpenSpec.upto latticeDualSpec)) latticeDualUptoCard

/-- THE SECOND FORM's CARD OF 'watershedkeep.LatticeDistributes'. -/
def latticeDistributesUptoCard : Claim7 := { stood := { row := latticeDistributesUptoRow, standIns := [], harness := (true, "595891a1ea8da5ee1fabcbe4509cf06e183695ffb792973ab66503d5eec2ea15"), looks := false }, kinds := [], alts := [], laidByText := true, laidKinds := [.data], laidTests := true, laidLooks := .later }
def LatticeDistributesUptoCardSaid : Prop := Claim7.holds Tryd.pinned (.plain (OpenSpec.upto latticeDistributesSpec)) latticeDistributesUptoCard

/-- THE SECOND FORM's CARD OF 'watershedkeep.LatticeMedian'. -/
def latticeMedianUptoCard : Claim7 := { stood := { row := latticeMedianUptoRow, standIns := [], harness := (true, "595891a1ea8da5ee1fabcbe4509cf06e183695ffb792973ab66503d5eec2ea15"), looks := false }, kinds := [], alts := [], laidByText := true, laidKinds := [.data], laidTests := true, laidLooks := .later }
def LatticeMedianUptoCardSaid : Prop := Claim7.holds Tryd.pinned (.plain (OpenSpec.upto latticeMedianSpec)) latticeMedianUptoCard

/-- THE SECOND FORM's CARD OF 'watershedkeep.LatticeDedekind'. -/
def latticeDedekindUptoCard : Claim7 := { stood := { row := latticeDedekindUptoRow, standIns := [], harness := (true, "595891a1ea8da5ee1fabcbe4509cf06e183695ffb792973ab66503d5eec2ea15"), looks := false }, kinds := [], alts := [], laidByText := true, laidKinds := [.data], laidTests := true, laidLooks := .later }
def LatticeDedekindUptoCardSaid : Prop := Claim7.holds Tryd.pinned (.plain (OpenSpec.upto latticeDedekindSpec)) latticeDedekindUptoCard

/-- THE SECOND FORM's CARD OF 'watershedkeep.LatticeCancels'. -/
def latticeCancelsUptoCard : Claim7 := { stood := { row := latticeCancelsUptoRow, standIns := [], harness := (true, "595891a1ea8da5ee1fabcbe4509cf06e183695ffb792973ab66503d5eec2ea15"), looks := false }, kinds := [], alts := [], laidByText := true, laidKinds := [.data], laidTests := true, laidLooks := .later }
def LatticeCancelsUptoCardSaid : Prop := Claim7.holds Tryd.pinned (.plain (OpenSpec.upto latticeCancelsSpec)) latticeCancelsUptoCard
end Rows
end Go.Proofs.YtobjgfjikmgdeaaDoor
