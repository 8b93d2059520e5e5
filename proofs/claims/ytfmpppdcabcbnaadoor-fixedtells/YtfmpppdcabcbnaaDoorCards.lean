/-
  DERIVED. GIVEN WITH THE SEED: THE CARDS: each row of YtfmpppdcabcbnaaDoorRows.lean that lists a variable, with what it lists TIED to the program's text (the seventh form; the later family's looks); each row that meets fmt, with fmt's text TOLD by the authors' own Lean function (tested against real Go, not proved from fmt's source: count such statements apart). THE CARD IS WHAT COUNTS. Prove the row's statement (the work); the ties are given (YtfmpppdcabcbnaaDoorTie.lean); close each card by the builder's one call (the guide's Derived/Test/ToyasCard.lean, 'card_holds'). Laid BY PROGRAM, IN A SANDBOX (cutbox-door.mjs). By AI agents, Wed Nov 11 2026. No macro, syntax, notation, axiom, sorry.
-/
import Derived.Test.YtfmpppdcabcbnaaDoorRows
import GoSem.ClaimSeven
namespace Go.Proofs.YtfmpppdcabcbnaaDoor
namespace Rows

/-- THE TIED CARD OF 'watershedlaw.FixedTells'. -/
def fixedTellsCard : Claim7 := { stood := { row := fixedTellsRow, standIns := [], harness := (true, "67ac61481580fe6a5469ab1b3b5a580296469c2ee549a0e3847c2869ca517b47"), looks := false }, kinds := [], alts := [], laidByText := true, laidKinds := [.data], laidTests := true, laidLooks := .later }
def FixedTellsCardSaid : Prop := Claim7.holds Tryd.pinned (.plain (OpenSpec.ofChange fixedTellsSpec)) fixedTellsCard

/-- THE TIED CARD OF 'watershedlaw.FixedEnds'. -/
def fixedEndsCard : Claim7 := { stood := { row := fixedEndsRow, standIns := [], harness := (true, "67ac61481580fe6a5469ab1b3b5a580296469c2ee549a0e3847c2869ca517b47"), looks := false }, kinds := [], alts := [], laidByText := true, laidKinds := [.data], laidTests := true, laidLooks := .later }
def FixedEndsCardSaid : Prop := Claim7.holds Tryd.pinned (.plain (OpenSpec.ofChange fixedEndsSpec)) fixedEndsCard

/-- THE TIED CARD OF 'watershedlaw.FixedAdjoints'. -/
def fixedAdjointsCard : Claim7 := { stood := { row := fixedAdjointsRow, standIns := [], harness := (true, "67ac61481580fe6a5469ab1b3b5a580296469c2ee549a0e3847c2869ca517b47"), looks := false }, kinds := [], alts := [], laidByText := true, laidKinds := [.data], laidTests := true, laidLooks := .later }
def FixedAdjointsCardSaid : Prop := Claim7.holds Tryd.pinned (.plain (OpenSpec.ofChange fixedAdjointsSpec)) fixedAdjointsCard

/-- THE TIED CARD OF 'watershedkeep.FixedTarski'. -/
def fixedTarskiCard : Claim7 := { stood := { row := fixedTarskiRow, standIns := [], harness := (true, "67ac61481580fe6a5469ab1b3b5a580296469c2ee549a0e3847c2869ca517b47"), looks := false }, kinds := [], alts := [], laidByText := true, laidKinds := [.data], laidTests := true, laidLooks := .later }
def FixedTarskiCardSaid : Prop := Claim7.holds Tryd.pinned (.plain (OpenSpec.ofChange fixedTarskiSpec)) fixedTarskiCard

/-- THE TIED CARD OF 'watershedkeep.FixedLattice'. -/
def fixedLatticeCard : Claim7 := { stood := { row := fixedLatticeRow, standIns := [], harness := (true, "67ac61481580fe6a5469ab1b3b5a580296469c2ee549a0e3847c2869ca517b47"), looks := false }, kinds := [], alts := [], laidByText := true, laidKinds := [.data], laidTests := true, laidLooks := .later }
def FixedLatticeCardSaid : Prop := Claim7.holds Tryd.pinned (.plain (OpenSpec.ofChange fixedLatticeSpec)) fixedLatticeCard

/-- THE TIED CARD OF 'watershedkeep.FixedKleene'. -/
def fixedKleeneCard : Claim7 := { stood := { row := fixedKleeneRow, standIns := [], harness := (true, "67ac61481580fe6a5469ab1b3b5a580296469c2ee549a0e3847c2869ca517b47"), looks := false }, kinds := [], alts := [], laidByText := true, laidKinds := [.data], laidTests := true, laidLooks := .later }
def FixedKleeneCardSaid : Prop := Claim7.holds Tryd.pinned (.plain (OpenSpec.ofChange fixedKleeneSpec)) fixedKleeneCard

/-- THE SECOND FORM's CARD OF 'watershedlaw.FixedTells'. -/
def fixedTellsUptoCard : Claim7 := { stood := { row := fixedTellsUptoRow, standIns := [], harness := (true, "67ac61481580fe6a5469ab1b3b5a580296469c2ee549a0e3847c2869ca517b47"), looks := false }, kinds := [], alts := [], laidByText := true, laidKinds := [.data], laidTests := true, laidLooks := .later }
def FixedTellsUptoCardSaid : Prop := Claim7.holds Tryd.pinned (.plain (OpenSpec.upto fixedTellsSpec)) fixedTellsUptoCard

/-- THE SECOND FORM's CARD OF 'watershedlaw.FixedEnds'. -/
def fixedEndsUptoCard : Claim7 := { stood := { row := fixedEndsUptoRow, standIns := [], harness := (true, "67ac61481580fe6a5469ab1b3b5a580296469c2ee549a0e3847c2869ca517b47"), looks := false }, kinds := [], alts := [], laidByText := true, laidKinds := [.data], laidTests := true, laidLooks := .later }
def FixedEndsUptoCardSaid : Prop := Claim7.holds Tryd.pinned (.plain (OpenSpec.upto fixedEndsSpec)) fixedEndsUptoCard

/-- THE SECOND FORM's CARD OF 'watershedlaw.FixedAdjoints'. -/
def fixedAdjointsUptoCard : Claim7 := { stood := { row := fixedAdjointsUptoRow, standIns := [], harness := (true, "67ac61481580fe6a5469ab1b3b5a580296469c2ee549a0e3847c2869ca517b47"), looks := false }, kinds := [], alts := [], laidByText := true, laidKinds := [.data], laidTests := true, laidLooks := .later }
def FixedAdjointsUptoCardSaid : Prop := Claim7.holds Tryd.pinned (.plain (OpenSpec.upto fixedAdjointsSpec)) fixedAdjointsUptoCard

/-- THE SECOND FORM's CARD OF 'watershedkeep.FixedTarski'. -/
def fixedTarskiUptoCard : Claim7 := { stood := { row := fixedTarskiUptoRow, standIns := [], harness := (true, "67ac61481580fe6a5469ab1b3b5a580296469c2ee549a0e3847c2869ca517b47"), looks := false }, kinds := [], alts := [], laidByText := true, laidKinds := [.data], laidTests := true, laidLooks := .later }
def FixedTarskiUptoCardSaid : Prop := Claim7.holds Tryd.pinned (.plain (OpenSpec.upto fixedTarskiSpec)) fixedTarskiUptoCard

/-- THE SECOND FORM's CARD OF 'watershedkeep.FixedLattice'. -/
def fixedLatticeUptoCard : Claim7 := { stood := { row := fixedLatticeUptoRow, standIns := [], harness := (true, "67ac61481580fe6a5469ab1b3b5a580296469c2ee549a0e3847c2869ca517b47"), looks := false }, kinds := [], alts := [], laidByText := true, laidKinds := [.data], laidTests := true, laidLooks := .later }
def FixedLatticeUptoCardSaid : Prop := Claim7.holds Tryd.pinned (.plain (OpenSpec.upto fixedLatticeSpec)) fixedLatticeUptoCard

/-- THE SECOND FORM's CARD OF 'watershedkeep.FixedKleene'. -/
def fixedKleeneUptoCard : Claim7 := { stood := { row := fixedKleeneUptoRow, standIns := [], harness := (true, "67ac61481580fe6a5469ab1b3b5a580296469c2ee549a0e3847c2869ca517b47"), looks := false }, kinds := [], alts := [], laidByText := true, laidKinds := [.data], laidTests := true, laidLooks := .later }
def FixedKleeneUptoCardSaid : Prop := Claim7.holds Tryd.pinned (.plain (OpenSpec.upto fixedKleeneSpec)) fixedKleeneUptoCard
end Rows
end Go.Proofs.YtfmpppdcabcbnaaDoor
