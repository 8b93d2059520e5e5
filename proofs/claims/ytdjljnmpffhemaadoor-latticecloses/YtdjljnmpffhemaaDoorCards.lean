/-
  DERIVED. GIVEN WITH THE SEED: THE CARDS: each row of YtdjljnmpffhemaaDoorRows.lean that lists a variable, with what it lists TIED to the program's text (the seventh form; the later family's looks); each row that meets fmt, with fmt's text TOLD by the authors' own Lean function (tested against real Go, not proved from fmt's source: count such statements apart). THE CARD IS WHAT COUNTS. Prove the row's statement (the work); the ties are given (YtdjljnmpffhemaaDoorTie.lean); close each card by the builder's one call (the guide's Derived/Test/ToyasCard.lean, 'card_holds'). Laid BY PROGRAM, IN A SANDBOX (cutbox-door.mjs). By AI agents, Wed Nov 11 2026. No macro, syntax, notation, axiom, sorry.
-/
import Derived.Test.YtdjljnmpffhemaaDoorRows
import GoSem.ClaimSeven
namespace Go.Proofs.YtdjljnmpffhemaaDoor
namespace Rows

/-- THE TIED CARD OF 'watershedkeep.OrderDilworth'. -/
def orderDilworthCard : Claim7 := { stood := { row := orderDilworthRow, standIns := [], harness := (true, "9fd4029d47bde374941e9e9a897c226a2423dc612ef88403dba72d965e258e51"), looks := false }, kinds := [], alts := [], laidByText := true, laidKinds := [.data], laidTests := true, laidLooks := .later }
def OrderDilworthCardSaid : Prop := Claim7.holds Tryd.pinned (.plain (OpenSpec.ofChange orderDilworthSpec)) orderDilworthCard

/-- THE TIED CARD OF 'watershedlaw.LatticeSubs'. -/
def latticeSubsCard : Claim7 := { stood := { row := latticeSubsRow, standIns := [], harness := (true, "9fd4029d47bde374941e9e9a897c226a2423dc612ef88403dba72d965e258e51"), looks := false }, kinds := [], alts := [], laidByText := true, laidKinds := [.data], laidTests := true, laidLooks := .later }
def LatticeSubsCardSaid : Prop := Claim7.holds Tryd.pinned (.plain (OpenSpec.ofChange latticeSubsSpec)) latticeSubsCard

/-- THE TIED CARD OF 'watershedkeep.LatticeCloses'. -/
def latticeClosesCard : Claim7 := { stood := { row := latticeClosesRow, standIns := [], harness := (true, "9fd4029d47bde374941e9e9a897c226a2423dc612ef88403dba72d965e258e51"), looks := false }, kinds := [], alts := [], laidByText := true, laidKinds := [.data], laidTests := true, laidLooks := .later }
def LatticeClosesCardSaid : Prop := Claim7.holds Tryd.pinned (.plain (OpenSpec.ofChange latticeClosesSpec)) latticeClosesCard

/-- THE SECOND FORM's CARD OF 'watershedkeep.OrderDilworth'. -/
def orderDilworthUptoCard : Claim7 := { stood := { row := orderDilworthUptoRow, standIns := [], harness := (true, "9fd4029d47bde374941e9e9a897c226a2423dc612ef88403dba72d965e258e51"), looks := false }, kinds := [], alts := [], laidByText := true, laidKinds := [.data], laidTests := true, laidLooks := .later }
def OrderDilworthUptoCardSaid : Prop := Claim7.holds Tryd.pinned (.plain (OpenSpec.upto orderDilworthSpec)) orderDilworthUptoCard

/-- THE SECOND FORM's CARD OF 'watershedlaw.LatticeSubs'. -/
def latticeSubsUptoCard : Claim7 := { stood := { row := latticeSubsUptoRow, standIns := [], harness := (true, "9fd4029d47bde374941e9e9a897c226a2423dc612ef88403dba72d965e258e51"), looks := false }, kinds := [], alts := [], laidByText := true, laidKinds := [.data], laidTests := true, laidLooks := .later }
def LatticeSubsUptoCardSaid : Prop := Claim7.holds Tryd.pinned (.plain (OpenSpec.upto latticeSubsSpec)) latticeSubsUptoCard

/-- THE SECOND FORM's CARD OF 'watershedkeep.LatticeCloses'. -/
def latticeClosesUptoCard : Claim7 := { stood := { row := latticeClosesUptoRow, standIns := [], harness := (true, "9fd4029d47bde374941e9e9a897c226a2423dc612ef88403dba72d965e258e51"), looks := false }, kinds := [], alts := [], laidByText := true, laidKinds := [.data], laidTests := true, laidLooks := .later }
def LatticeClosesUptoCardSaid : Prop := Claim7.holds Tryd.pinned (.plain (OpenSpec.upto latticeClosesSpec)) latticeClosesUptoCard
end Rows
end Go.Proofs.YtdjljnmpffhemaaDoor
