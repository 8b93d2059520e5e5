/-
  DERIVED. GIVEN WITH THE SEED: THE CARDS: each row of YtbdigkjahfdmjacDoorRows.lean that lists a variable, with what it lists TIED to the program's text (the seventh form; the later family's looks); each row that meets fmt, with fmt's text TOLD by the authors' own Lean function (tested against real Go, not proved from fmt's source: count such statements apart). THE CARD IS WHAT COUNTS. Prove the row's statement (the work); the ties are given (YtbdigkjahfdmjacDoorTie.lean); close each card by the builder's one call (the guide's Derived/Test/ToyasCard.lean, 'card_holds'). Laid BY PROGRAM, IN A SANDBOX (cutbox-door.mjs). By AI agents, Wed Nov 11 2026. No macro, syntax, notation, axiom, sorry.
-/
import Derived.Test.YtbdigkjahfdmjacDoorRows
import GoSem.ClaimSeven
namespace Go.Proofs.YtbdigkjahfdmjacDoor
namespace Rows

/-- THE TIED CARD OF 'watershedkeep.LatticeMedian'. -/
def latticeMedianCard : Claim7 := { stood := { row := latticeMedianRow, standIns := [], harness := (true, "7962b12871f70b708c2a3aea4552fdb25d73b931dd3234bb8454495a04e6cbaf"), looks := false }, kinds := [], alts := [], laidByText := true, laidKinds := [.data], laidTests := true, laidLooks := .later }
def LatticeMedianCardSaid : Prop := Claim7.holds Tryd.pinned (.plain (OpenSpec.ofChange latticeMedianSpec)) latticeMedianCard

/-- THE TIED CARD OF 'watershedkeep.LatticeDedekind'. -/
def latticeDedekindCard : Claim7 := { stood := { row := latticeDedekindRow, standIns := [], harness := (true, "7962b12871f70b708c2a3aea4552fdb25d73b931dd3234bb8454495a04e6cbaf"), looks := false }, kinds := [], alts := [], laidByText := true, laidKinds := [.data], laidTests := true, laidLooks := .later }
def LatticeDedekindCardSaid : Prop := Claim7.holds Tryd.pinned (.plain (OpenSpec.ofChange latticeDedekindSpec)) latticeDedekindCard

/-- THE TIED CARD OF 'watershedkeep.LatticeCancels'. -/
def latticeCancelsCard : Claim7 := { stood := { row := latticeCancelsRow, standIns := [], harness := (true, "7962b12871f70b708c2a3aea4552fdb25d73b931dd3234bb8454495a04e6cbaf"), looks := false }, kinds := [], alts := [], laidByText := true, laidKinds := [.data], laidTests := true, laidLooks := .later }
def LatticeCancelsCardSaid : Prop := Claim7.holds Tryd.pinned (.plain (OpenSpec.ofChange latticeCancelsSpec)) latticeCancelsCard

/-- THE TIED CARD OF 'watershedkeep.LatticeGenerated'. -/
def latticeGeneratedCard : Claim7 := { stood := { row := latticeGeneratedRow, standIns := [], harness := (true, "7962b12871f70b708c2a3aea4552fdb25d73b931dd3234bb8454495a04e6cbaf"), looks := false }, kinds := [], alts := [], laidByText := true, laidKinds := [.data], laidTests := true, laidLooks := .later }
def LatticeGeneratedCardSaid : Prop := Claim7.holds Tryd.pinned (.plain (OpenSpec.ofChange latticeGeneratedSpec)) latticeGeneratedCard

/-- THE TIED CARD OF 'watershedkeep.LatticeCloses'. -/
def latticeClosesCard : Claim7 := { stood := { row := latticeClosesRow, standIns := [], harness := (true, "7962b12871f70b708c2a3aea4552fdb25d73b931dd3234bb8454495a04e6cbaf"), looks := false }, kinds := [], alts := [], laidByText := true, laidKinds := [.data], laidTests := true, laidLooks := .later }
def LatticeClosesCardSaid : Prop := Claim7.holds Tryd.pinned (.plain (OpenSpec.ofChange latticeClosesSpec)) latticeClosesCard

/-- THE SECOND FORM's CARD OF 'watershedkeep.LatticeMedian'. -/
def latticeMedianUptoCard : Claim7 := { stood := { row := latticeMedianUptoRow, standIns := [], harness := (true, "7962b12871f70b708c2a3aea4552fdb25d73b931dd3234bb8454495a04e6cbaf"), looks := false }, kinds := [], alts := [], laidByText := true, laidKinds := [.data], laidTests := true, laidLooks := .later }
def LatticeMedianUptoCardSaid : Prop := Claim7.holds Tryd.pinned (.plain (OpenSpec.upto latticeMedianSpec)) latticeMedianUptoCard

/-- THE SECOND FORM's CARD OF 'watershedkeep.LatticeDedekind'. -/
def latticeDedekindUptoCard : Claim7 := { stood := { row := latticeDedekindUptoRow, standIns := [], harness := (true, "7962b12871f70b708c2a3aea4552fdb25d73b931dd3234bb8454495a04e6cbaf"), looks := false }, kinds := [], alts := [], laidByText := true, laidKinds := [.data], laidTests := true, laidLooks := .later }
def LatticeDedekindUptoCardSaid : Prop := Claim7.holds Tryd.pinned (.plain (OpenSpec.upto latticeDedekindSpec)) latticeDedekindUptoCard

/-- THE SECOND FORM's CARD OF 'watershedkeep.LatticeCancels'. -/
def latticeCancelsUptoCard : Claim7 := { stood := { row := latticeCancelsUptoRow, standIns := [], harness := (true, "7962b12871f70b708c2a3aea4552fdb25d73b931dd3234bb8454495a04e6cbaf"), looks := false }, kinds := [], alts := [], laidByText := true, laidKinds := [.data], laidTests := true, laidLooks := .later }
def LatticeCancelsUptoCardSaid : Prop := Claim7.holds Tryd.pinned (.plain (OpenSpec.upto latticeCancelsSpec)) latticeCancelsUptoCard

/-- THE SECOND FORM's CARD OF 'watershedkeep.LatticeGenerated'. -/
def latticeGeneratedUptoCard : Claim7 := { stood := { row := latticeGeneratedUptoRow, standIns := [], harness := (true, "7962b12871f70b708c2a3aea4552fdb25d73b931dd3234bb8454495a04e6cbaf"), looks := false }, kinds := [], alts := [], laidByText := true, laidKinds := [.data], laidTests := true, laidLooks := .later }
def LatticeGeneratedUptoCardSaid : Prop := Claim7.holds Tryd.pinned (.plain (OpenSpec.upto latticeGeneratedSpec)) latticeGeneratedUptoCard

/-- THE SECOND FORM's CARD OF 'watershedkeep.LatticeCloses'. -/
def latticeClosesUptoCard : Claim7 := { stood := { row := latticeClosesUptoRow, standIns := [], harness := (true, "7962b12871f70b708c2a3aea4552fdb25d73b931dd3234bb8454495a04e6cbaf"), looks := false }, kinds := [], alts := [], laidByText := true, laidKinds := [.data], laidTests := true, laidLooks := .later }
def LatticeClosesUptoCardSaid : Prop := Claim7.holds Tryd.pinned (.plain (OpenSpec.upto latticeClosesSpec)) latticeClosesUptoCard
end Rows
end Go.Proofs.YtbdigkjahfdmjacDoor
