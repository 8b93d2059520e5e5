/-
  DERIVED. GIVEN WITH THE SEED: THE CARDS: each row of YtbdigkjahfdmjaaDoorRows.lean that lists a variable, with what it lists TIED to the program's text (the seventh form; the later family's looks); each row that meets fmt, with fmt's text TOLD by the authors' own Lean function (tested against real Go, not proved from fmt's source: count such statements apart). THE CARD IS WHAT COUNTS. Prove the row's statement (the work); the ties are given (YtbdigkjahfdmjaaDoorTie.lean); close each card by the builder's one call (the guide's Derived/Test/ToyasCard.lean, 'card_holds'). Laid BY PROGRAM, IN A SANDBOX (cutbox-door.mjs). By AI agents, Wed Nov 11 2026. No macro, syntax, notation, axiom, sorry.
-/
import Derived.Test.YtbdigkjahfdmjaaDoorRows
import GoSem.ClaimSeven
namespace Go.Proofs.YtbdigkjahfdmjaaDoor
namespace Rows

/-- THE TIED CARD OF 'watershedlaw.OrderMakes'. -/
def orderMakesCard : Claim7 := { stood := { row := orderMakesRow, standIns := [], harness := (true, "513ed92c04b080dadc9aea55b581d72a4c97775fc8da92a3c68d3123e07e0240"), looks := false }, kinds := [], alts := [], laidByText := true, laidKinds := [.data], laidTests := true, laidLooks := .later }
def OrderMakesCardSaid : Prop := Claim7.holds Tryd.pinned (.plain (OpenSpec.ofChange orderMakesSpec)) orderMakesCard

/-- THE TIED CARD OF 'watershedkeep.OrderLeast'. -/
def orderLeastCard : Claim7 := { stood := { row := orderLeastRow, standIns := [], harness := (true, "513ed92c04b080dadc9aea55b581d72a4c97775fc8da92a3c68d3123e07e0240"), looks := false }, kinds := [], alts := [], laidByText := true, laidKinds := [.data], laidTests := true, laidLooks := .later }
def OrderLeastCardSaid : Prop := Claim7.holds Tryd.pinned (.plain (OpenSpec.ofChange orderLeastSpec)) orderLeastCard

/-- THE TIED CARD OF 'watershedkeep.OrderHasse'. -/
def orderHasseCard : Claim7 := { stood := { row := orderHasseRow, standIns := [], harness := (true, "513ed92c04b080dadc9aea55b581d72a4c97775fc8da92a3c68d3123e07e0240"), looks := false }, kinds := [], alts := [], laidByText := true, laidKinds := [.data], laidTests := true, laidLooks := .later }
def OrderHasseCardSaid : Prop := Claim7.holds Tryd.pinned (.plain (OpenSpec.ofChange orderHasseSpec)) orderHasseCard

/-- THE TIED CARD OF 'watershedkeep.OrderDilworth'. -/
def orderDilworthCard : Claim7 := { stood := { row := orderDilworthRow, standIns := [], harness := (true, "513ed92c04b080dadc9aea55b581d72a4c97775fc8da92a3c68d3123e07e0240"), looks := false }, kinds := [], alts := [], laidByText := true, laidKinds := [.data], laidTests := true, laidLooks := .later }
def OrderDilworthCardSaid : Prop := Claim7.holds Tryd.pinned (.plain (OpenSpec.ofChange orderDilworthSpec)) orderDilworthCard

/-- THE TIED CARD OF 'watershedlaw.LatticeMakes'. -/
def latticeMakesCard : Claim7 := { stood := { row := latticeMakesRow, standIns := [], harness := (true, "513ed92c04b080dadc9aea55b581d72a4c97775fc8da92a3c68d3123e07e0240"), looks := false }, kinds := [], alts := [], laidByText := true, laidKinds := [.data], laidTests := true, laidLooks := .later }
def LatticeMakesCardSaid : Prop := Claim7.holds Tryd.pinned (.plain (OpenSpec.ofChange latticeMakesSpec)) latticeMakesCard

/-- THE TIED CARD OF 'watershedlaw.LatticeIrreducible'. -/
def latticeIrreducibleCard : Claim7 := { stood := { row := latticeIrreducibleRow, standIns := [], harness := (true, "513ed92c04b080dadc9aea55b581d72a4c97775fc8da92a3c68d3123e07e0240"), looks := false }, kinds := [], alts := [], laidByText := true, laidKinds := [.data], laidTests := true, laidLooks := .later }
def LatticeIrreducibleCardSaid : Prop := Claim7.holds Tryd.pinned (.plain (OpenSpec.ofChange latticeIrreducibleSpec)) latticeIrreducibleCard

/-- THE SECOND FORM's CARD OF 'watershedlaw.OrderMakes'. -/
def orderMakesUptoCard : Claim7 := { stood := { row := orderMakesUptoRow, standIns := [], harness := (true, "513ed92c04b080dadc9aea55b581d72a4c97775fc8da92a3c68d3123e07e0240"), looks := false }, kinds := [], alts := [], laidByText := true, laidKinds := [.data], laidTests := true, laidLooks := .later }
def OrderMakesUptoCardSaid : Prop := Claim7.holds Tryd.pinned (.plain (OpenSpec.upto orderMakesSpec)) orderMakesUptoCard

/-- THE SECOND FORM's CARD OF 'watershedkeep.OrderLeast'. -/
def orderLeastUptoCard : Claim7 := { stood := { row := orderLeastUptoRow, standIns := [], harness := (true, "513ed92c04b080dadc9aea55b581d72a4c97775fc8da92a3c68d3123e07e0240"), looks := false }, kinds := [], alts := [], laidByText := true, laidKinds := [.data], laidTests := true, laidLooks := .later }
def OrderLeastUptoCardSaid : Prop := Claim7.holds Tryd.pinned (.plain (OpenSpec.upto orderLeastSpec)) orderLeastUptoCard

/-- THE SECOND FORM's CARD OF 'watershedkeep.OrderHasse'. -/
def orderHasseUptoCard : Claim7 := { stood := { row := orderHasseUptoRow, standIns := [], harness := (true, "513ed92c04b080dadc9aea55b581d72a4c97775fc8da92a3c68d3123e07e0240"), looks := false }, kinds := [], alts := [], laidByText := true, laidKinds := [.data], laidTests := true, laidLooks := .later }
def OrderHasseUptoCardSaid : Prop := Claim7.holds Tryd.pinned (.plain (OpenSpec.upto orderHasseSpec)) orderHasseUptoCard

/-- THE SECOND FORM's CARD OF 'watershedkeep.OrderDilworth'. -/
def orderDilworthUptoCard : Claim7 := { stood := { row := orderDilworthUptoRow, standIns := [], harness := (true, "513ed92c04b080dadc9aea55b581d72a4c97775fc8da92a3c68d3123e07e0240"), looks := false }, kinds := [], alts := [], laidByText := true, laidKinds := [.data], laidTests := true, laidLooks := .later }
def OrderDilworthUptoCardSaid : Prop := Claim7.holds Tryd.pinned (.plain (OpenSpec.upto orderDilworthSpec)) orderDilworthUptoCard

/-- THE SECOND FORM's CARD OF 'watershedlaw.LatticeMakes'. -/
def latticeMakesUptoCard : Claim7 := { stood := { row := latticeMakesUptoRow, standIns := [], harness := (true, "513ed92c04b080dadc9aea55b581d72a4c97775fc8da92a3c68d3123e07e0240"), looks := false }, kinds := [], alts := [], laidByText := true, laidKinds := [.data], laidTests := true, laidLooks := .later }
def LatticeMakesUptoCardSaid : Prop := Claim7.holds Tryd.pinned (.plain (OpenSpec.upto latticeMakesSpec)) latticeMakesUptoCard

/-- THE SECOND FORM's CARD OF 'watershedlaw.LatticeIrreducible'. -/
def latticeIrreducibleUptoCard : Claim7 := { stood := { row := latticeIrreducibleUptoRow, standIns := [], harness := (true, "513ed92c04b080dadc9aea55b581d72a4c97775fc8da92a3c68d3123e07e0240"), looks := false }, kinds := [], alts := [], laidByText := true, laidKinds := [.data], laidTests := true, laidLooks := .later }
def LatticeIrreducibleUptoCardSaid : Prop := Claim7.holds Tryd.pinned (.plain (OpenSpec.upto latticeIrreducibleSpec)) latticeIrreducibleUptoCard
end Rows
end Go.Proofs.YtbdigkjahfdmjaaDoor
