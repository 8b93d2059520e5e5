/-
  NARROWER THAN 'FOR EVERY INPUT', by the rows' own cells (each row's printed sentence says how): LatticeKinds: laid · LatticeSubs: laid · LatticeAlgebra: laid · LatticeBounds: laid · LatticeDual: laid · LatticeDistributes: laid.
  DERIVED. THE GIVEN ROWS OF THIS SEAT. 6 by the template 'for every input the law returns true; each argument reads behind the call as it read before'; 0 by the template 'total and deterministic' (their statements: YtbdigkjahfdmjabDoorTotals.lean).
  GIVEN WITH THE SEED: the statements are not yours to turn. If you find one false, say at which input.
  Laid BY PROGRAM, IN A SANDBOX (cutbox-rows.mjs): the forced cells as the released guide's own fill.sh prints them over the translation 5c80206ee76134ba… (all of the seat's roots in one cut). By AI agents, Wed Nov 11 2026. No macro, syntax, notation, axiom, sorry.
-/
import Derived.Test.YtbdigkjahfdmjabDoorChecked
import GoSem.Claim
import GoSem.ClaimJoined
import GoSem.ClaimMapViews
import Derived.JoinedTies
import Derived.KernelRfl
namespace Go.Proofs.YtbdigkjahfdmjabDoor
/- THE CELL 'sum', in the pinned program and in every row, IS THE sha256 OF THE DUMP (.gsa) THAT YtbdigkjahfdmjabDoorProg.lean LOADS. Nothing in Lean hashes anything: it is a label: what it is worth is what the hold of that sum in a sandbox is worth. -/
noncomputable def Tryd.pinned : Pinned := { name := "ytbdigkjahfdmjabdoor", sum := "5c80206ee76134ba33b71ce185b0fb339faf9a84cc0b1a1c6e4a739778a892dc", checked := Tryd.checked }
namespace Rows
def none {H : Type} : Left H := { results := [], args := [] }

/- WHAT THE LISTED PACKAGE-LEVEL VARIABLES READ AS WHEN THE CALL BEGINS. Each datum BY PROGRAM (the guide's laid-datum.mjs) off the statement by which the dump's own 'gosem.cut.vars' lays the variable. In a bare row this is a premise. The card (YtbdigkjahfdmjabDoorCards.lean) ties it to the program's text. -/
def laid_math_bits_deBruijn64tab {H : Type} : DataW H := .agg [.lit (.int .u8 0), .lit (.int .u8 1), .lit (.int .u8 56), .lit (.int .u8 2), .lit (.int .u8 57), .lit (.int .u8 49), .lit (.int .u8 28), .lit (.int .u8 3), .lit (.int .u8 61), .lit (.int .u8 58), .lit (.int .u8 42), .lit (.int .u8 50), .lit (.int .u8 38), .lit (.int .u8 29), .lit (.int .u8 17), .lit (.int .u8 4), .lit (.int .u8 62), .lit (.int .u8 47), .lit (.int .u8 59), .lit (.int .u8 36), .lit (.int .u8 45), .lit (.int .u8 43), .lit (.int .u8 51), .lit (.int .u8 22), .lit (.int .u8 53), .lit (.int .u8 39), .lit (.int .u8 33), .lit (.int .u8 30), .lit (.int .u8 24), .lit (.int .u8 18), .lit (.int .u8 12), .lit (.int .u8 5), .lit (.int .u8 63), .lit (.int .u8 55), .lit (.int .u8 48), .lit (.int .u8 27), .lit (.int .u8 60), .lit (.int .u8 41), .lit (.int .u8 37), .lit (.int .u8 16), .lit (.int .u8 46), .lit (.int .u8 35), .lit (.int .u8 44), .lit (.int .u8 21), .lit (.int .u8 52), .lit (.int .u8 32), .lit (.int .u8 23), .lit (.int .u8 11), .lit (.int .u8 54), .lit (.int .u8 26), .lit (.int .u8 40), .lit (.int .u8 15), .lit (.int .u8 34), .lit (.int .u8 20), .lit (.int .u8 31), .lit (.int .u8 10), .lit (.int .u8 25), .lit (.int .u8 14), .lit (.int .u8 19), .lit (.int .u8 9), .lit (.int .u8 13), .lit (.int .u8 8), .lit (.int .u8 7), .lit (.int .u8 6)]

/-- 'watershedlaw.LatticeKinds': WHATEVER THE INPUT: true; the input reads as it did. -/
def latticeKindsSpec : ChangeSpec := { name := "latticeKinds", fn := fun _ => fun
  | [d] => { results := [.lit (.bool true)], args := [d] }
  | _ => none }
def latticeKindsRow : OpenClaim := { program := "ytbdigkjahfdmjabdoor", sum := "5c80206ee76134ba33b71ce185b0fb339faf9a84cc0b1a1c6e4a739778a892dc", func := "watershed/watershedlaw.LatticeKinds", spec := "latticeKinds", unfollowed := true, recurses := true, named := ["math/bits.deBruijn64tab"], apart := false, laid := [("math/bits.deBruijn64tab", laid_math_bits_deBruijn64tab)] }
def LatticeKindsSaid : Prop := latticeKindsRow.holds Tryd.pinned (OpenSpec.ofChange latticeKindsSpec)

/-- ITS FALSE NEIGHBOUR: 'it returns false'. Refute it at one input. -/
def latticeKindsWrong : ChangeSpec := { name := "latticeKinds", fn := fun _ => fun
  | [d] => { results := [.lit (.bool false)], args := [d] }
  | _ => none }
def LatticeKindsWrongFalsely : Prop := latticeKindsRow.holds Tryd.pinned (OpenSpec.ofChange latticeKindsWrong)

/-- 'watershedlaw.LatticeSubs': WHATEVER THE INPUT: true; the input reads as it did. -/
def latticeSubsSpec : ChangeSpec := { name := "latticeSubs", fn := fun _ => fun
  | [d1, d2] => { results := [.lit (.bool true)], args := [d1, d2] }
  | _ => none }
def latticeSubsRow : OpenClaim := { program := "ytbdigkjahfdmjabdoor", sum := "5c80206ee76134ba33b71ce185b0fb339faf9a84cc0b1a1c6e4a739778a892dc", func := "watershed/watershedlaw.LatticeSubs", spec := "latticeSubs", unfollowed := true, recurses := true, named := ["math/bits.deBruijn64tab"], apart := false, laid := [("math/bits.deBruijn64tab", laid_math_bits_deBruijn64tab)] }
def LatticeSubsSaid : Prop := latticeSubsRow.holds Tryd.pinned (OpenSpec.ofChange latticeSubsSpec)

/-- ITS FALSE NEIGHBOUR: 'it returns false'. Refute it at one input. -/
def latticeSubsWrong : ChangeSpec := { name := "latticeSubs", fn := fun _ => fun
  | [d1, d2] => { results := [.lit (.bool false)], args := [d1, d2] }
  | _ => none }
def LatticeSubsWrongFalsely : Prop := latticeSubsRow.holds Tryd.pinned (OpenSpec.ofChange latticeSubsWrong)

/-- 'watershedkeep.LatticeAlgebra': WHATEVER THE INPUT: true; the input reads as it did. -/
def latticeAlgebraSpec : ChangeSpec := { name := "latticeAlgebra", fn := fun _ => fun
  | [d1, d2, d3, d4] => { results := [.lit (.bool true)], args := [d1, d2, d3, d4] }
  | _ => none }
def latticeAlgebraRow : OpenClaim := { program := "ytbdigkjahfdmjabdoor", sum := "5c80206ee76134ba33b71ce185b0fb339faf9a84cc0b1a1c6e4a739778a892dc", func := "watershed/watershedkeep.LatticeAlgebra", spec := "latticeAlgebra", unfollowed := true, recurses := true, named := ["math/bits.deBruijn64tab"], apart := false, laid := [("math/bits.deBruijn64tab", laid_math_bits_deBruijn64tab)] }
def LatticeAlgebraSaid : Prop := latticeAlgebraRow.holds Tryd.pinned (OpenSpec.ofChange latticeAlgebraSpec)

/-- ITS FALSE NEIGHBOUR: 'it returns false'. Refute it at one input. -/
def latticeAlgebraWrong : ChangeSpec := { name := "latticeAlgebra", fn := fun _ => fun
  | [d1, d2, d3, d4] => { results := [.lit (.bool false)], args := [d1, d2, d3, d4] }
  | _ => none }
def LatticeAlgebraWrongFalsely : Prop := latticeAlgebraRow.holds Tryd.pinned (OpenSpec.ofChange latticeAlgebraWrong)

/-- 'watershedkeep.LatticeBounds': WHATEVER THE INPUT: true; the input reads as it did. -/
def latticeBoundsSpec : ChangeSpec := { name := "latticeBounds", fn := fun _ => fun
  | [d1, d2, d3, d4] => { results := [.lit (.bool true)], args := [d1, d2, d3, d4] }
  | _ => none }
def latticeBoundsRow : OpenClaim := { program := "ytbdigkjahfdmjabdoor", sum := "5c80206ee76134ba33b71ce185b0fb339faf9a84cc0b1a1c6e4a739778a892dc", func := "watershed/watershedkeep.LatticeBounds", spec := "latticeBounds", unfollowed := true, recurses := true, named := ["math/bits.deBruijn64tab"], apart := false, laid := [("math/bits.deBruijn64tab", laid_math_bits_deBruijn64tab)] }
def LatticeBoundsSaid : Prop := latticeBoundsRow.holds Tryd.pinned (OpenSpec.ofChange latticeBoundsSpec)

/-- ITS FALSE NEIGHBOUR: 'it returns false'. Refute it at one input. -/
def latticeBoundsWrong : ChangeSpec := { name := "latticeBounds", fn := fun _ => fun
  | [d1, d2, d3, d4] => { results := [.lit (.bool false)], args := [d1, d2, d3, d4] }
  | _ => none }
def LatticeBoundsWrongFalsely : Prop := latticeBoundsRow.holds Tryd.pinned (OpenSpec.ofChange latticeBoundsWrong)

/-- 'watershedkeep.LatticeDual': WHATEVER THE INPUT: true; the input reads as it did. -/
def latticeDualSpec : ChangeSpec := { name := "latticeDual", fn := fun _ => fun
  | [d] => { results := [.lit (.bool true)], args := [d] }
  | _ => none }
def latticeDualRow : OpenClaim := { program := "ytbdigkjahfdmjabdoor", sum := "5c80206ee76134ba33b71ce185b0fb339faf9a84cc0b1a1c6e4a739778a892dc", func := "watershed/watershedkeep.LatticeDual", spec := "latticeDual", unfollowed := true, recurses := true, named := ["math/bits.deBruijn64tab"], apart := false, laid := [("math/bits.deBruijn64tab", laid_math_bits_deBruijn64tab)] }
def LatticeDualSaid : Prop := latticeDualRow.holds Tryd.pinned (OpenSpec.ofChange latticeDualSpec)

/-- ITS FALSE NEIGHBOUR: 'it returns false'. Refute it at one input. -/
def latticeDualWrong : ChangeSpec := { name := "latticeDual", fn := fun _ => fun
  | [d] => { results := [.lit (.bool false)], args := [d] }
  | _ => none }
def LatticeDualWrongFalsely : Prop := latticeDualRow.holds Tryd.pinned (OpenSpec.ofChange latticeDualWrong)

/-- 'watershedkeep.LatticeDistributes': WHATEVER THE INPUT: true; the input reads as it did. -/
def latticeDistributesSpec : ChangeSpec := { name := "latticeDistributes", fn := fun _ => fun
  | [d1, d2, d3, d4] => { results := [.lit (.bool true)], args := [d1, d2, d3, d4] }
  | _ => none }
def latticeDistributesRow : OpenClaim := { program := "ytbdigkjahfdmjabdoor", sum := "5c80206ee76134ba33b71ce185b0fb339faf9a84cc0b1a1c6e4a739778a892dc", func := "watershed/watershedkeep.LatticeDistributes", spec := "latticeDistributes", unfollowed := true, recurses := true, named := ["math/bits.deBruijn64tab"], apart := false, laid := [("math/bits.deBruijn64tab", laid_math_bits_deBruijn64tab)] }
def LatticeDistributesSaid : Prop := latticeDistributesRow.holds Tryd.pinned (OpenSpec.ofChange latticeDistributesSpec)

/-- ITS FALSE NEIGHBOUR: 'it returns false'. Refute it at one input. -/
def latticeDistributesWrong : ChangeSpec := { name := "latticeDistributes", fn := fun _ => fun
  | [d1, d2, d3, d4] => { results := [.lit (.bool false)], args := [d1, d2, d3, d4] }
  | _ => none }
def LatticeDistributesWrongFalsely : Prop := latticeDistributesRow.holds Tryd.pinned (OpenSpec.ofChange latticeDistributesWrong)

/- THE SECOND FORM. 'bulk': how many values and letters a reading holds, each counted each time it is reached (what is shared counts as often as it is met; a slice's spare places count too). A statement '..UptoSaid' is the law's where the arguments, and the package variables that the reading takes, are together of bulk at most 1048576: NARROWER than '..Said'. Prove '..Said' where nothing that the law and all that it calls make is longer than what came in: it says more and counts as full. Else prove '..UptoSaid'. A law counts once. -/
mutual
def uptoBulk {H : Type} : DataW H → Nat
  | .lit (.string bytes) => bytes.length + 1
  | .lit _ => 1
  | .nil => 1
  | .ptr d => uptoBulk d + 1
  | .slice elems spare => uptoBulkAll elems + uptoBulkAll spare + 1
  | .agg parts => uptoBulkAll parts + 1
  | .iface _ d => uptoBulk d + 1
  | .map entries => uptoBulkEntries entries + 1
  | .held _ => 1
def uptoBulkAll {H : Type} : List (DataW H) → Nat
  | [] => 0
  | d :: r => uptoBulk d + uptoBulkAll r
def uptoBulkEntries {H : Type} : List (Lit × DataW H) → Nat
  | [] => 0
  | x :: r => uptoBulkEntry x + uptoBulkEntries r
def uptoBulkEntry {H : Type} : Lit × DataW H → Nat
  | (.string bytes, d) => bytes.length + uptoBulk d + 1
  | (_, d) => uptoBulk d + 1
 end
def uptoSmall : (H : Type) → List (DataW H) → Bool := fun _ ds => decide (uptoBulkAll ds ≤ 1048576)
def OpenSpec.upto (s : _root_.Go.ChangeSpec) : _root_.Go.OpenSpec := { _root_.Go.OpenSpec.ofChange s with cond := some uptoSmall }

/-- 'watershedlaw.LatticeKinds', WHERE WHAT IT READS IS OF BULK AT MOST 1048576: true; the input reads as it did. -/
def latticeKindsUptoRow : OpenClaim := { program := "ytbdigkjahfdmjabdoor", sum := "5c80206ee76134ba33b71ce185b0fb339faf9a84cc0b1a1c6e4a739778a892dc", func := "watershed/watershedlaw.LatticeKinds", spec := "latticeKinds", unfollowed := true, recurses := true, named := ["math/bits.deBruijn64tab"], apart := false, laid := [("math/bits.deBruijn64tab", laid_math_bits_deBruijn64tab)], narrowed := true }
def LatticeKindsUptoSaid : Prop := latticeKindsUptoRow.holds Tryd.pinned (OpenSpec.upto latticeKindsSpec)

/-- 'watershedlaw.LatticeSubs', WHERE WHAT IT READS IS OF BULK AT MOST 1048576: true; the input reads as it did. -/
def latticeSubsUptoRow : OpenClaim := { program := "ytbdigkjahfdmjabdoor", sum := "5c80206ee76134ba33b71ce185b0fb339faf9a84cc0b1a1c6e4a739778a892dc", func := "watershed/watershedlaw.LatticeSubs", spec := "latticeSubs", unfollowed := true, recurses := true, named := ["math/bits.deBruijn64tab"], apart := false, laid := [("math/bits.deBruijn64tab", laid_math_bits_deBruijn64tab)], narrowed := true }
def LatticeSubsUptoSaid : Prop := latticeSubsUptoRow.holds Tryd.pinned (OpenSpec.upto latticeSubsSpec)

/-- 'watershedkeep.LatticeAlgebra', WHERE WHAT IT READS IS OF BULK AT MOST 1048576: true; the input reads as it did. -/
def latticeAlgebraUptoRow : OpenClaim := { program := "ytbdigkjahfdmjabdoor", sum := "5c80206ee76134ba33b71ce185b0fb339faf9a84cc0b1a1c6e4a739778a892dc", func := "watershed/watershedkeep.LatticeAlgebra", spec := "latticeAlgebra", unfollowed := true, recurses := true, named := ["math/bits.deBruijn64tab"], apart := false, laid := [("math/bits.deBruijn64tab", laid_math_bits_deBruijn64tab)], narrowed := true }
def LatticeAlgebraUptoSaid : Prop := latticeAlgebraUptoRow.holds Tryd.pinned (OpenSpec.upto latticeAlgebraSpec)

/-- 'watershedkeep.LatticeBounds', WHERE WHAT IT READS IS OF BULK AT MOST 1048576: true; the input reads as it did. -/
def latticeBoundsUptoRow : OpenClaim := { program := "ytbdigkjahfdmjabdoor", sum := "5c80206ee76134ba33b71ce185b0fb339faf9a84cc0b1a1c6e4a739778a892dc", func := "watershed/watershedkeep.LatticeBounds", spec := "latticeBounds", unfollowed := true, recurses := true, named := ["math/bits.deBruijn64tab"], apart := false, laid := [("math/bits.deBruijn64tab", laid_math_bits_deBruijn64tab)], narrowed := true }
def LatticeBoundsUptoSaid : Prop := latticeBoundsUptoRow.holds Tryd.pinned (OpenSpec.upto latticeBoundsSpec)

/-- 'watershedkeep.LatticeDual', WHERE WHAT IT READS IS OF BULK AT MOST 1048576: true; the input reads as it did. -/
def latticeDualUptoRow : OpenClaim := { program := "ytbdigkjahfdmjabdoor", sum := "5c80206ee76134ba33b71ce185b0fb339faf9a84cc0b1a1c6e4a739778a892dc", func := "watershed/watershedkeep.LatticeDual", spec := "latticeDual", unfollowed := true, recurses := true, named := ["math/bits.deBruijn64tab"], apart := false, laid := [("math/bits.deBruijn64tab", laid_math_bits_deBruijn64tab)], narrowed := true }
def LatticeDualUptoSaid : Prop := latticeDualUptoRow.holds Tryd.pinned (OpenSpec.upto latticeDualSpec)

/-- 'watershedkeep.LatticeDistributes', WHERE WHAT IT READS IS OF BULK AT MOST 1048576: true; the input reads as it did. -/
def latticeDistributesUptoRow : OpenClaim := { program := "ytbdigkjahfdmjabdoor", sum := "5c80206ee76134ba33b71ce185b0fb339faf9a84cc0b1a1c6e4a739778a892dc", func := "watershed/watershedkeep.LatticeDistributes", spec := "latticeDistributes", unfollowed := true, recurses := true, named := ["math/bits.deBruijn64tab"], apart := false, laid := [("math/bits.deBruijn64tab", laid_math_bits_deBruijn64tab)], narrowed := true }
def LatticeDistributesUptoSaid : Prop := latticeDistributesUptoRow.holds Tryd.pinned (OpenSpec.upto latticeDistributesSpec)

end Rows
end Go.Proofs.YtbdigkjahfdmjabDoor
