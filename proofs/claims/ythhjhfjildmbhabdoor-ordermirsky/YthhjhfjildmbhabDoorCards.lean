/-
  DERIVED. GIVEN WITH THE SEED: THE CARDS: each row of YthhjhfjildmbhabDoorRows.lean that lists a variable, with what it lists TIED to the program's text (the seventh form; the later family's looks); each row that meets fmt, with fmt's text TOLD by the authors' own Lean function (tested against real Go, not proved from fmt's source: count such statements apart). THE CARD IS WHAT COUNTS. Prove the row's statement (the work); the ties are given (YthhjhfjildmbhabDoorTie.lean); close each card by the builder's one call (the guide's Derived/Test/ToyasCard.lean, 'card_holds'). Laid BY PROGRAM, IN A SANDBOX (cutbox-door.mjs). By AI agents, Wed Nov 11 2026. No macro, syntax, notation, axiom, sorry.
-/
import Derived.Test.YthhjhfjildmbhabDoorRows
import GoSem.ClaimSeven
namespace Go.Proofs.YthhjhfjildmbhabDoor
namespace Rows

/-- THE TIED CARD OF 'watershedkeep.OrderLeast'. -/
def orderLeastCard : Claim7 := { stood := { row := orderLeastRow, standIns := [], harness := (true, "73245175cea52349b53f6bf6d2a3d7cdf03a56eef3c8b6df31a8a7807e7c56fc"), looks := false }, kinds := [], alts := [], laidByText := true, laidKinds := [.data], laidTests := true, laidLooks := .later }
def OrderLeastCardSaid : Prop := Claim7.holds Tryd.pinned (.plain (OpenSpec.ofChange orderLeastSpec)) orderLeastCard

/-- THE TIED CARD OF 'watershedkeep.OrderHasse'. -/
def orderHasseCard : Claim7 := { stood := { row := orderHasseRow, standIns := [], harness := (true, "73245175cea52349b53f6bf6d2a3d7cdf03a56eef3c8b6df31a8a7807e7c56fc"), looks := false }, kinds := [], alts := [], laidByText := true, laidKinds := [.data], laidTests := true, laidLooks := .later }
def OrderHasseCardSaid : Prop := Claim7.holds Tryd.pinned (.plain (OpenSpec.ofChange orderHasseSpec)) orderHasseCard

/-- THE TIED CARD OF 'watershedkeep.OrderMirsky'. -/
def orderMirskyCard : Claim7 := { stood := { row := orderMirskyRow, standIns := [], harness := (true, "73245175cea52349b53f6bf6d2a3d7cdf03a56eef3c8b6df31a8a7807e7c56fc"), looks := false }, kinds := [], alts := [], laidByText := true, laidKinds := [.data], laidTests := true, laidLooks := .later }
def OrderMirskyCardSaid : Prop := Claim7.holds Tryd.pinned (.plain (OpenSpec.ofChange orderMirskySpec)) orderMirskyCard

/-- THE TIED CARD OF 'watershedkeep.OrderDilworth'. -/
def orderDilworthCard : Claim7 := { stood := { row := orderDilworthRow, standIns := [], harness := (true, "73245175cea52349b53f6bf6d2a3d7cdf03a56eef3c8b6df31a8a7807e7c56fc"), looks := false }, kinds := [], alts := [], laidByText := true, laidKinds := [.data], laidTests := true, laidLooks := .later }
def OrderDilworthCardSaid : Prop := Claim7.holds Tryd.pinned (.plain (OpenSpec.ofChange orderDilworthSpec)) orderDilworthCard

/-- THE TIED CARD OF 'watershedkeep.OrderSzpilrajn'. -/
def orderSzpilrajnCard : Claim7 := { stood := { row := orderSzpilrajnRow, standIns := [], harness := (true, "73245175cea52349b53f6bf6d2a3d7cdf03a56eef3c8b6df31a8a7807e7c56fc"), looks := false }, kinds := [], alts := [], laidByText := true, laidKinds := [.data], laidTests := true, laidLooks := .later }
def OrderSzpilrajnCardSaid : Prop := Claim7.holds Tryd.pinned (.plain (OpenSpec.ofChange orderSzpilrajnSpec)) orderSzpilrajnCard

/-- THE SECOND FORM's CARD OF 'watershedkeep.OrderLeast'. -/
def orderLeastUptoCard : Claim7 := { stood := { row := orderLeastUptoRow, standIns := [], harness := (true, "73245175cea52349b53f6bf6d2a3d7cdf03a56eef3c8b6df31a8a7807e7c56fc"), looks := false }, kinds := [], alts := [], laidByText := true, laidKinds := [.data], laidTests := true, laidLooks := .later }
def OrderLeastUptoCardSaid : Prop := Claim7.holds Tryd.pinned (.plain (OpenSpec.upto orderLeastSpec)) orderLeastUptoCard

/-- THE SECOND FORM's CARD OF 'watershedkeep.OrderHasse'. -/
def orderHasseUptoCard : Claim7 := { stood := { row := orderHasseUptoRow, standIns := [], harness := (true, "73245175cea52349b53f6bf6d2a3d7cdf03a56eef3c8b6df31a8a7807e7c56fc"), looks := false }, kinds := [], alts := [], laidByText := true, laidKinds := [.data], laidTests := true, laidLooks := .later }
def OrderHasseUptoCardSaid : Prop := Claim7.holds Tryd.pinned (.plain (OpenSpec.upto orderHasseSpec)) orderHasseUptoCard

/-- THE SECOND FORM's CARD OF 'watershedkeep.OrderMirsky'. -/
def orderMirskyUptoCard : Claim7 := { stood := { row := orderMirskyUptoRow, standIns := [], harness := (true, "73245175cea52349b53f6bf6d2a3d7cdf03a56eef3c8b6df31a8a7807e7c56fc"), looks := false }, kinds := [], alts := [], laidByText := true, laidKinds := [.data], laidTests := true, laidLooks := .later }
def OrderMirskyUptoCardSaid : Prop := Claim7.holds Tryd.pinned (.plain (OpenSpec.upto orderMirskySpec)) orderMirskyUptoCard

/-- THE SECOND FORM's CARD OF 'watershedkeep.OrderDilworth'. -/
def orderDilworthUptoCard : Claim7 := { stood := { row := orderDilworthUptoRow, standIns := [], harness := (true, "73245175cea52349b53f6bf6d2a3d7cdf03a56eef3c8b6df31a8a7807e7c56fc"), looks := false }, kinds := [], alts := [], laidByText := true, laidKinds := [.data], laidTests := true, laidLooks := .later }
def OrderDilworthUptoCardSaid : Prop := Claim7.holds Tryd.pinned (.plain (OpenSpec.upto orderDilworthSpec)) orderDilworthUptoCard

/-- THE SECOND FORM's CARD OF 'watershedkeep.OrderSzpilrajn'. -/
def orderSzpilrajnUptoCard : Claim7 := { stood := { row := orderSzpilrajnUptoRow, standIns := [], harness := (true, "73245175cea52349b53f6bf6d2a3d7cdf03a56eef3c8b6df31a8a7807e7c56fc"), looks := false }, kinds := [], alts := [], laidByText := true, laidKinds := [.data], laidTests := true, laidLooks := .later }
def OrderSzpilrajnUptoCardSaid : Prop := Claim7.holds Tryd.pinned (.plain (OpenSpec.upto orderSzpilrajnSpec)) orderSzpilrajnUptoCard
end Rows
end Go.Proofs.YthhjhfjildmbhabDoor
