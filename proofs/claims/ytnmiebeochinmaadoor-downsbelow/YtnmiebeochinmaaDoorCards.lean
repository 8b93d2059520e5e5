/-
  DERIVED. GIVEN WITH THE SEED: THE CARDS: each row of YtnmiebeochinmaaDoorRows.lean that lists a variable, with what it lists TIED to the program's text (the seventh form; the later family's looks); each row that meets fmt, with fmt's text TOLD by the authors' own Lean function (tested against real Go, not proved from fmt's source: count such statements apart). THE CARD IS WHAT COUNTS. Prove the row's statement (the work); the ties are given (YtnmiebeochinmaaDoorTie.lean); close each card by the builder's one call (the guide's Derived/Test/ToyasCard.lean, 'card_holds'). Laid BY PROGRAM, IN A SANDBOX (cutbox-door.mjs). By AI agents, Wed Nov 11 2026. No macro, syntax, notation, axiom, sorry.
-/
import Derived.Test.YtnmiebeochinmaaDoorRows
import GoSem.ClaimSeven
namespace Go.Proofs.YtnmiebeochinmaaDoor
namespace Rows

/-- THE TIED CARD OF 'watershedlaw.DownsTells'. -/
def downsTellsCard : Claim7 := { stood := { row := downsTellsRow, standIns := [], harness := (true, "8c20603ff3da3d72c02fbda5db34bdf9efadad7edb9c05f79fa6f5da3327f486"), looks := false }, kinds := [], alts := [], laidByText := true, laidKinds := [.data], laidTests := true, laidLooks := .later }
def DownsTellsCardSaid : Prop := Claim7.holds Tryd.pinned (.plain (OpenSpec.ofChange downsTellsSpec)) downsTellsCard

/-- THE TIED CARD OF 'watershedlaw.DownsBelow'. -/
def downsBelowCard : Claim7 := { stood := { row := downsBelowRow, standIns := [], harness := (true, "8c20603ff3da3d72c02fbda5db34bdf9efadad7edb9c05f79fa6f5da3327f486"), looks := false }, kinds := [], alts := [], laidByText := true, laidKinds := [.data], laidTests := true, laidLooks := .later }
def DownsBelowCardSaid : Prop := Claim7.holds Tryd.pinned (.plain (OpenSpec.ofChange downsBelowSpec)) downsBelowCard

/-- THE TIED CARD OF 'watershedkeep.DownsCloses'. -/
def downsClosesCard : Claim7 := { stood := { row := downsClosesRow, standIns := [], harness := (true, "8c20603ff3da3d72c02fbda5db34bdf9efadad7edb9c05f79fa6f5da3327f486"), looks := false }, kinds := [], alts := [], laidByText := true, laidKinds := [.data], laidTests := true, laidLooks := .later }
def DownsClosesCardSaid : Prop := Claim7.holds Tryd.pinned (.plain (OpenSpec.ofChange downsClosesSpec)) downsClosesCard

/-- THE TIED CARD OF 'watershedkeep.DownsAntichains'. -/
def downsAntichainsCard : Claim7 := { stood := { row := downsAntichainsRow, standIns := [], harness := (true, "8c20603ff3da3d72c02fbda5db34bdf9efadad7edb9c05f79fa6f5da3327f486"), looks := false }, kinds := [], alts := [], laidByText := true, laidKinds := [.data], laidTests := true, laidLooks := .later }
def DownsAntichainsCardSaid : Prop := Claim7.holds Tryd.pinned (.plain (OpenSpec.ofChange downsAntichainsSpec)) downsAntichainsCard

/-- THE SECOND FORM's CARD OF 'watershedlaw.DownsTells'. -/
def downsTellsUptoCard : Claim7 := { stood := { row := downsTellsUptoRow, standIns := [], harness := (true, "8c20603ff3da3d72c02fbda5db34bdf9efadad7edb9c05f79fa6f5da3327f486"), looks := false }, kinds := [], alts := [], laidByText := true, laidKinds := [.data], laidTests := true, laidLooks := .later }
def DownsTellsUptoCardSaid : Prop := Claim7.holds Tryd.pinned (.plain (OpenSpec.upto downsTellsSpec)) downsTellsUptoCard

/-- THE SECOND FORM's CARD OF 'watershedlaw.DownsBelow'. -/
def downsBelowUptoCard : Claim7 := { stood := { row := downsBelowUptoRow, standIns := [], harness := (true, "8c20603ff3da3d72c02fbda5db34bdf9efadad7edb9c05f79fa6f5da3327f486"), looks := false }, kinds := [], alts := [], laidByText := true, laidKinds := [.data], laidTests := true, laidLooks := .later }
def DownsBelowUptoCardSaid : Prop := Claim7.holds Tryd.pinned (.plain (OpenSpec.upto downsBelowSpec)) downsBelowUptoCard

/-- THE SECOND FORM's CARD OF 'watershedkeep.DownsCloses'. -/
def downsClosesUptoCard : Claim7 := { stood := { row := downsClosesUptoRow, standIns := [], harness := (true, "8c20603ff3da3d72c02fbda5db34bdf9efadad7edb9c05f79fa6f5da3327f486"), looks := false }, kinds := [], alts := [], laidByText := true, laidKinds := [.data], laidTests := true, laidLooks := .later }
def DownsClosesUptoCardSaid : Prop := Claim7.holds Tryd.pinned (.plain (OpenSpec.upto downsClosesSpec)) downsClosesUptoCard

/-- THE SECOND FORM's CARD OF 'watershedkeep.DownsAntichains'. -/
def downsAntichainsUptoCard : Claim7 := { stood := { row := downsAntichainsUptoRow, standIns := [], harness := (true, "8c20603ff3da3d72c02fbda5db34bdf9efadad7edb9c05f79fa6f5da3327f486"), looks := false }, kinds := [], alts := [], laidByText := true, laidKinds := [.data], laidTests := true, laidLooks := .later }
def DownsAntichainsUptoCardSaid : Prop := Claim7.holds Tryd.pinned (.plain (OpenSpec.upto downsAntichainsSpec)) downsAntichainsUptoCard
end Rows
end Go.Proofs.YtnmiebeochinmaaDoor
