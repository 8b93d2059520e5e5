/-
  DERIVED. GIVEN WITH THE SEED: THE CARDS: each row of YtdomcjfgmnpbmaaDoorRows.lean that lists a variable, with what it lists TIED to the program's text (the seventh form; the later family's looks); each row that meets fmt, with fmt's text TOLD by the authors' own Lean function (tested against real Go, not proved from fmt's source: count such statements apart). THE CARD IS WHAT COUNTS. Prove the row's statement (the work); the ties are given (YtdomcjfgmnpbmaaDoorTie.lean); close each card by the builder's one call (the guide's Derived/Test/ToyasCard.lean, 'card_holds'). Laid BY PROGRAM, IN A SANDBOX (cutbox-door.mjs). By AI agents, Wed Nov 11 2026. No macro, syntax, notation, axiom, sorry.
-/
import Derived.Test.YtdomcjfgmnpbmaaDoorRows
import GoSem.ClaimSeven
namespace Go.Proofs.YtdomcjfgmnpbmaaDoor
namespace Rows

/-- THE TIED CARD OF 'watershedlaw.DownsAll'. -/
def downsAllCard : Claim7 := { stood := { row := downsAllRow, standIns := [], harness := (true, "fe4e61cb777e27994f704a8820c89f3de2358e2124a50782a1b062286066e427"), looks := false }, kinds := [], alts := [], laidByText := true, laidKinds := [.data], laidTests := true, laidLooks := .later }
def DownsAllCardSaid : Prop := Claim7.holds Tryd.pinned (.plain (OpenSpec.ofChange downsAllSpec)) downsAllCard

/-- THE TIED CARD OF 'watershedlaw.DownsInclusion'. -/
def downsInclusionCard : Claim7 := { stood := { row := downsInclusionRow, standIns := [], harness := (true, "fe4e61cb777e27994f704a8820c89f3de2358e2124a50782a1b062286066e427"), looks := false }, kinds := [], alts := [], laidByText := true, laidKinds := [.data], laidTests := true, laidLooks := .later }
def DownsInclusionCardSaid : Prop := Claim7.holds Tryd.pinned (.plain (OpenSpec.ofChange downsInclusionSpec)) downsInclusionCard

/-- THE TIED CARD OF 'watershedkeep.DownsBirkhoff'. -/
def downsBirkhoffCard : Claim7 := { stood := { row := downsBirkhoffRow, standIns := [], harness := (true, "fe4e61cb777e27994f704a8820c89f3de2358e2124a50782a1b062286066e427"), looks := false }, kinds := [], alts := [], laidByText := true, laidKinds := [.data], laidTests := true, laidLooks := .later }
def DownsBirkhoffCardSaid : Prop := Claim7.holds Tryd.pinned (.plain (OpenSpec.ofChange downsBirkhoffSpec)) downsBirkhoffCard

/-- THE TIED CARD OF 'watershedkeep.DownsDistributive'. -/
def downsDistributiveCard : Claim7 := { stood := { row := downsDistributiveRow, standIns := [], harness := (true, "fe4e61cb777e27994f704a8820c89f3de2358e2124a50782a1b062286066e427"), looks := false }, kinds := [], alts := [], laidByText := true, laidKinds := [.data], laidTests := true, laidLooks := .later }
def DownsDistributiveCardSaid : Prop := Claim7.holds Tryd.pinned (.plain (OpenSpec.ofChange downsDistributiveSpec)) downsDistributiveCard

/-- THE TIED CARD OF 'watershedkeep.DownsTurned'. -/
def downsTurnedCard : Claim7 := { stood := { row := downsTurnedRow, standIns := [], harness := (true, "fe4e61cb777e27994f704a8820c89f3de2358e2124a50782a1b062286066e427"), looks := false }, kinds := [], alts := [], laidByText := true, laidKinds := [.data], laidTests := true, laidLooks := .later }
def DownsTurnedCardSaid : Prop := Claim7.holds Tryd.pinned (.plain (OpenSpec.ofChange downsTurnedSpec)) downsTurnedCard

/-- THE TIED CARD OF 'watershedkeep.DownsSplits'. -/
def downsSplitsCard : Claim7 := { stood := { row := downsSplitsRow, standIns := [], harness := (true, "fe4e61cb777e27994f704a8820c89f3de2358e2124a50782a1b062286066e427"), looks := false }, kinds := [], alts := [], laidByText := true, laidKinds := [.data], laidTests := true, laidLooks := .later }
def DownsSplitsCardSaid : Prop := Claim7.holds Tryd.pinned (.plain (OpenSpec.ofChange downsSplitsSpec)) downsSplitsCard

/-- THE SECOND FORM's CARD OF 'watershedlaw.DownsAll'. -/
def downsAllUptoCard : Claim7 := { stood := { row := downsAllUptoRow, standIns := [], harness := (true, "fe4e61cb777e27994f704a8820c89f3de2358e2124a50782a1b062286066e427"), looks := false }, kinds := [], alts := [], laidByText := true, laidKinds := [.data], laidTests := true, laidLooks := .later }
def DownsAllUptoCardSaid : Prop := Claim7.holds Tryd.pinned (.plain (OpenSpec.upto downsAllSpec)) downsAllUptoCard

/-- THE SECOND FORM's CARD OF 'watershedlaw.DownsInclusion'. -/
def downsInclusionUptoCard : Claim7 := { stood := { row := downsInclusionUptoRow, standIns := [], harness := (true, "fe4e61cb777e27994f704a8820c89f3de2358e2124a50782a1b062286066e427"), looks := false }, kinds := [], alts := [], laidByText := true, laidKinds := [.data], laidTests := true, laidLooks := .later }
def DownsInclusionUptoCardSaid : Prop := Claim7.holds Tryd.pinned (.plain (OpenSpec.upto downsInclusionSpec)) downsInclusionUptoCard

/-- THE SECOND FORM's CARD OF 'watershedkeep.DownsBirkhoff'. -/
def downsBirkhoffUptoCard : Claim7 := { stood := { row := downsBirkhoffUptoRow, standIns := [], harness := (true, "fe4e61cb777e27994f704a8820c89f3de2358e2124a50782a1b062286066e427"), looks := false }, kinds := [], alts := [], laidByText := true, laidKinds := [.data], laidTests := true, laidLooks := .later }
def DownsBirkhoffUptoCardSaid : Prop := Claim7.holds Tryd.pinned (.plain (OpenSpec.upto downsBirkhoffSpec)) downsBirkhoffUptoCard

/-- THE SECOND FORM's CARD OF 'watershedkeep.DownsDistributive'. -/
def downsDistributiveUptoCard : Claim7 := { stood := { row := downsDistributiveUptoRow, standIns := [], harness := (true, "fe4e61cb777e27994f704a8820c89f3de2358e2124a50782a1b062286066e427"), looks := false }, kinds := [], alts := [], laidByText := true, laidKinds := [.data], laidTests := true, laidLooks := .later }
def DownsDistributiveUptoCardSaid : Prop := Claim7.holds Tryd.pinned (.plain (OpenSpec.upto downsDistributiveSpec)) downsDistributiveUptoCard

/-- THE SECOND FORM's CARD OF 'watershedkeep.DownsTurned'. -/
def downsTurnedUptoCard : Claim7 := { stood := { row := downsTurnedUptoRow, standIns := [], harness := (true, "fe4e61cb777e27994f704a8820c89f3de2358e2124a50782a1b062286066e427"), looks := false }, kinds := [], alts := [], laidByText := true, laidKinds := [.data], laidTests := true, laidLooks := .later }
def DownsTurnedUptoCardSaid : Prop := Claim7.holds Tryd.pinned (.plain (OpenSpec.upto downsTurnedSpec)) downsTurnedUptoCard

/-- THE SECOND FORM's CARD OF 'watershedkeep.DownsSplits'. -/
def downsSplitsUptoCard : Claim7 := { stood := { row := downsSplitsUptoRow, standIns := [], harness := (true, "fe4e61cb777e27994f704a8820c89f3de2358e2124a50782a1b062286066e427"), looks := false }, kinds := [], alts := [], laidByText := true, laidKinds := [.data], laidTests := true, laidLooks := .later }
def DownsSplitsUptoCardSaid : Prop := Claim7.holds Tryd.pinned (.plain (OpenSpec.upto downsSplitsSpec)) downsSplitsUptoCard
end Rows
end Go.Proofs.YtdomcjfgmnpbmaaDoor
