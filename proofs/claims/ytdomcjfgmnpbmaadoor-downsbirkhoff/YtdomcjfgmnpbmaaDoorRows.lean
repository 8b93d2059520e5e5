/-
  NARROWER THAN 'FOR EVERY INPUT', by the rows' own cells (each row's printed sentence says how): DownsAll: laid · DownsInclusion: laid · DownsBirkhoff: laid · DownsDistributive: laid · DownsTurned: laid · DownsSplits: laid.
  DERIVED. THE GIVEN ROWS OF THIS SEAT. 6 by the template 'for every input the law returns true; each argument reads behind the call as it read before'; 0 by the template 'total and deterministic' (their statements: YtdomcjfgmnpbmaaDoorTotals.lean).
  GIVEN WITH THE SEED: the statements are not yours to turn. If you find one false, say at which input.
  Laid BY PROGRAM, IN A SANDBOX (cutbox-rows.mjs): the forced cells as the released guide's own fill.sh prints them over the translation e62e49673d49ec04… (all of the seat's roots in one cut). By AI agents, Wed Nov 11 2026. No macro, syntax, notation, axiom, sorry.
-/
import Derived.Test.YtdomcjfgmnpbmaaDoorChecked
import GoSem.Claim
import GoSem.ClaimJoined
import GoSem.ClaimMapViews
import Derived.JoinedTies
import Derived.KernelRfl
namespace Go.Proofs.YtdomcjfgmnpbmaaDoor
/- THE CELL 'sum', in the pinned program and in every row, IS THE sha256 OF THE DUMP (.gsa) THAT YtdomcjfgmnpbmaaDoorProg.lean LOADS. Nothing in Lean hashes anything: it is a label: what it is worth is what the hold of that sum in a sandbox is worth. -/
noncomputable def Tryd.pinned : Pinned := { name := "ytdomcjfgmnpbmaadoor", sum := "e62e49673d49ec046cd75ec5705340cb2dde18f2546fb79e38df558c08f7d3f7", checked := Tryd.checked }
namespace Rows
def none {H : Type} : Left H := { results := [], args := [] }

/- WHAT THE LISTED PACKAGE-LEVEL VARIABLES READ AS WHEN THE CALL BEGINS. Each datum BY PROGRAM (the guide's laid-datum.mjs) off the statement by which the dump's own 'gosem.cut.vars' lays the variable. In a bare row this is a premise. The card (YtdomcjfgmnpbmaaDoorCards.lean) ties it to the program's text. -/
def laid_math_bits_deBruijn64tab {H : Type} : DataW H := .agg [.lit (.int .u8 0), .lit (.int .u8 1), .lit (.int .u8 56), .lit (.int .u8 2), .lit (.int .u8 57), .lit (.int .u8 49), .lit (.int .u8 28), .lit (.int .u8 3), .lit (.int .u8 61), .lit (.int .u8 58), .lit (.int .u8 42), .lit (.int .u8 50), .lit (.int .u8 38), .lit (.int .u8 29), .lit (.int .u8 17), .lit (.int .u8 4), .lit (.int .u8 62), .lit (.int .u8 47), .lit (.int .u8 59), .lit (.int .u8 36), .lit (.int .u8 45), .lit (.int .u8 43), .lit (.int .u8 51), .lit (.int .u8 22), .lit (.int .u8 53), .lit (.int .u8 39), .lit (.int .u8 33), .lit (.int .u8 30), .lit (.int .u8 24), .lit (.int .u8 18), .lit (.int .u8 12), .lit (.int .u8 5), .lit (.int .u8 63), .lit (.int .u8 55), .lit (.int .u8 48), .lit (.int .u8 27), .lit (.int .u8 60), .lit (.int .u8 41), .lit (.int .u8 37), .lit (.int .u8 16), .lit (.int .u8 46), .lit (.int .u8 35), .lit (.int .u8 44), .lit (.int .u8 21), .lit (.int .u8 52), .lit (.int .u8 32), .lit (.int .u8 23), .lit (.int .u8 11), .lit (.int .u8 54), .lit (.int .u8 26), .lit (.int .u8 40), .lit (.int .u8 15), .lit (.int .u8 34), .lit (.int .u8 20), .lit (.int .u8 31), .lit (.int .u8 10), .lit (.int .u8 25), .lit (.int .u8 14), .lit (.int .u8 19), .lit (.int .u8 9), .lit (.int .u8 13), .lit (.int .u8 8), .lit (.int .u8 7), .lit (.int .u8 6)]

/-- 'watershedlaw.DownsAll': WHATEVER THE INPUT: true; the input reads as it did. -/
def downsAllSpec : ChangeSpec := { name := "downsAll", fn := fun _ => fun
  | [d] => { results := [.lit (.bool true)], args := [d] }
  | _ => none }
def downsAllRow : OpenClaim := { program := "ytdomcjfgmnpbmaadoor", sum := "e62e49673d49ec046cd75ec5705340cb2dde18f2546fb79e38df558c08f7d3f7", func := "watershed/watershedlaw.DownsAll", spec := "downsAll", unfollowed := true, recurses := true, named := ["math/bits.deBruijn64tab"], apart := false, laid := [("math/bits.deBruijn64tab", laid_math_bits_deBruijn64tab)] }
def DownsAllSaid : Prop := downsAllRow.holds Tryd.pinned (OpenSpec.ofChange downsAllSpec)

/-- ITS FALSE NEIGHBOUR: 'it returns false'. Refute it at one input. -/
def downsAllWrong : ChangeSpec := { name := "downsAll", fn := fun _ => fun
  | [d] => { results := [.lit (.bool false)], args := [d] }
  | _ => none }
def DownsAllWrongFalsely : Prop := downsAllRow.holds Tryd.pinned (OpenSpec.ofChange downsAllWrong)

/-- 'watershedlaw.DownsInclusion': WHATEVER THE INPUT: true; the input reads as it did. -/
def downsInclusionSpec : ChangeSpec := { name := "downsInclusion", fn := fun _ => fun
  | [d] => { results := [.lit (.bool true)], args := [d] }
  | _ => none }
def downsInclusionRow : OpenClaim := { program := "ytdomcjfgmnpbmaadoor", sum := "e62e49673d49ec046cd75ec5705340cb2dde18f2546fb79e38df558c08f7d3f7", func := "watershed/watershedlaw.DownsInclusion", spec := "downsInclusion", unfollowed := true, recurses := true, named := ["math/bits.deBruijn64tab"], apart := false, laid := [("math/bits.deBruijn64tab", laid_math_bits_deBruijn64tab)] }
def DownsInclusionSaid : Prop := downsInclusionRow.holds Tryd.pinned (OpenSpec.ofChange downsInclusionSpec)

/-- ITS FALSE NEIGHBOUR: 'it returns false'. Refute it at one input. -/
def downsInclusionWrong : ChangeSpec := { name := "downsInclusion", fn := fun _ => fun
  | [d] => { results := [.lit (.bool false)], args := [d] }
  | _ => none }
def DownsInclusionWrongFalsely : Prop := downsInclusionRow.holds Tryd.pinned (OpenSpec.ofChange downsInclusionWrong)

/-- 'watershedkeep.DownsBirkhoff': WHATEVER THE INPUT: true; the input reads as it did. -/
def downsBirkhoffSpec : ChangeSpec := { name := "downsBirkhoff", fn := fun _ => fun
  | [d] => { results := [.lit (.bool true)], args := [d] }
  | _ => none }
def downsBirkhoffRow : OpenClaim := { program := "ytdomcjfgmnpbmaadoor", sum := "e62e49673d49ec046cd75ec5705340cb2dde18f2546fb79e38df558c08f7d3f7", func := "watershed/watershedkeep.DownsBirkhoff", spec := "downsBirkhoff", unfollowed := true, recurses := true, named := ["math/bits.deBruijn64tab"], apart := false, laid := [("math/bits.deBruijn64tab", laid_math_bits_deBruijn64tab)] }
def DownsBirkhoffSaid : Prop := downsBirkhoffRow.holds Tryd.pinned (OpenSpec.ofChange downsBirkhoffSpec)

/-- ITS FALSE NEIGHBOUR: 'it returns false'. Refute it at one input. -/
def downsBirkhoffWrong : ChangeSpec := { name := "downsBirkhoff", fn := fun _ => fun
  | [d] => { results := [.lit (.bool false)], args := [d] }
  | _ => none }
def DownsBirkhoffWrongFalsely : Prop := downsBirkhoffRow.holds Tryd.pinned (OpenSpec.ofChange downsBirkhoffWrong)

/-- 'watershedkeep.DownsDistributive': WHATEVER THE INPUT: true; the input reads as it did. -/
def downsDistributiveSpec : ChangeSpec := { name := "downsDistributive", fn := fun _ => fun
  | [d] => { results := [.lit (.bool true)], args := [d] }
  | _ => none }
def downsDistributiveRow : OpenClaim := { program := "ytdomcjfgmnpbmaadoor", sum := "e62e49673d49ec046cd75ec5705340cb2dde18f2546fb79e38df558c08f7d3f7", func := "watershed/watershedkeep.DownsDistributive", spec := "downsDistributive", unfollowed := true, recurses := true, named := ["math/bits.deBruijn64tab"], apart := false, laid := [("math/bits.deBruijn64tab", laid_math_bits_deBruijn64tab)] }
def DownsDistributiveSaid : Prop := downsDistributiveRow.holds Tryd.pinned (OpenSpec.ofChange downsDistributiveSpec)

/-- ITS FALSE NEIGHBOUR: 'it returns false'. Refute it at one input. -/
def downsDistributiveWrong : ChangeSpec := { name := "downsDistributive", fn := fun _ => fun
  | [d] => { results := [.lit (.bool false)], args := [d] }
  | _ => none }
def DownsDistributiveWrongFalsely : Prop := downsDistributiveRow.holds Tryd.pinned (OpenSpec.ofChange downsDistributiveWrong)

/-- 'watershedkeep.DownsTurned': WHATEVER THE INPUT: true; the input reads as it did. -/
def downsTurnedSpec : ChangeSpec := { name := "downsTurned", fn := fun _ => fun
  | [d] => { results := [.lit (.bool true)], args := [d] }
  | _ => none }
def downsTurnedRow : OpenClaim := { program := "ytdomcjfgmnpbmaadoor", sum := "e62e49673d49ec046cd75ec5705340cb2dde18f2546fb79e38df558c08f7d3f7", func := "watershed/watershedkeep.DownsTurned", spec := "downsTurned", unfollowed := true, recurses := true, named := ["math/bits.deBruijn64tab"], apart := false, laid := [("math/bits.deBruijn64tab", laid_math_bits_deBruijn64tab)] }
def DownsTurnedSaid : Prop := downsTurnedRow.holds Tryd.pinned (OpenSpec.ofChange downsTurnedSpec)

/-- ITS FALSE NEIGHBOUR: 'it returns false'. Refute it at one input. -/
def downsTurnedWrong : ChangeSpec := { name := "downsTurned", fn := fun _ => fun
  | [d] => { results := [.lit (.bool false)], args := [d] }
  | _ => none }
def DownsTurnedWrongFalsely : Prop := downsTurnedRow.holds Tryd.pinned (OpenSpec.ofChange downsTurnedWrong)

/-- 'watershedkeep.DownsSplits': WHATEVER THE INPUT: true; the input reads as it did. -/
def downsSplitsSpec : ChangeSpec := { name := "downsSplits", fn := fun _ => fun
  | [d1, d2] => { results := [.lit (.bool true)], args := [d1, d2] }
  | _ => none }
def downsSplitsRow : OpenClaim := { program := "ytdomcjfgmnpbmaadoor", sum := "e62e49673d49ec046cd75ec5705340cb2dde18f2546fb79e38df558c08f7d3f7", func := "watershed/watershedkeep.DownsSplits", spec := "downsSplits", unfollowed := true, recurses := true, named := ["math/bits.deBruijn64tab"], apart := false, laid := [("math/bits.deBruijn64tab", laid_math_bits_deBruijn64tab)] }
def DownsSplitsSaid : Prop := downsSplitsRow.holds Tryd.pinned (OpenSpec.ofChange downsSplitsSpec)

/-- ITS FALSE NEIGHBOUR: 'it returns false'. Refute it at one input. -/
def downsSplitsWrong : ChangeSpec := { name := "downsSplits", fn := fun _ => fun
  | [d1, d2] => { results := [.lit (.bool false)], args := [d1, d2] }
  | _ => none }
def DownsSplitsWrongFalsely : Prop := downsSplitsRow.holds Tryd.pinned (OpenSpec.ofChange downsSplitsWrong)

/- THE SECOND FORM. 'bulk': how many values and letters a reading holds, each counted each time it is reached (what is shared counts as often as it is met; a slice's spare places count too). A statement '..UptoSaid' is the law's where the arguments, and the package variables that the reading takes, are together of bulk at most 1048576: NARROWER than '..Said'. Prove '..Said' where nothing that the law and all that it calls make is longer than what came in: it says more and counts as full. Else prove '..UptoSaid'. A law counts once. -/
mutual
def uptoBulk {H : Type} : DataW H → Nat
  | .lit (.string bytes) => bytes.length + 1
  | .lit _ => 1
  | .nil => 1
  | .ptr d => uptoBulk d + 1
  | .slice elems spare => uptoBulkAll elems + uptoBulkAll spare + 1
  | .agg parts => uptoBulkAll parts + 1
  | .iface _ d => uptoBulk d + 1
  | .map entries => uptoBulkEntries entries + 1
  | .held _ => 1
def uptoBulkAll {H : Type} : List (DataW H) → Nat
  | [] => 0
  | d :: r => uptoBulk d + uptoBulkAll r
def uptoBulkEntries {H : Type} : List (Lit × DataW H) → Nat
  | [] => 0
  | x :: r => uptoBulkEntry x + uptoBulkEntries r
def uptoBulkEntry {H : Type} : Lit × DataW H → Nat
  | (.string bytes, d) => bytes.length + uptoBulk d + 1
  | (_, d) => uptoBulk d + 1
 end
def uptoSmall : (H : Type) → List (DataW H) → Bool := fun _ ds => decide (uptoBulkAll ds ≤ 1048576)
def OpenSpec.upto (s : _root_.Go.ChangeSpec) : _root_.Go.OpenSpec := { _root_.Go.OpenSpec.ofChange s with cond := some uptoSmall }

/-- 'watershedlaw.DownsAll', WHERE WHAT IT READS IS OF BULK AT MOST 1048576: true; the input reads as it did. -/
def downsAllUptoRow : OpenClaim := { program := "ytdomcjfgmnpbmaadoor", sum := "e62e49673d49ec046cd75ec5705340cb2dde18f2546fb79e38df558c08f7d3f7", func := "watershed/watershedlaw.DownsAll", spec := "downsAll", unfollowed := true, recurses := true, named := ["math/bits.deBruijn64tab"], apart := false, laid := [("math/bits.deBruijn64tab", laid_math_bits_deBruijn64tab)], narrowed := true }
def DownsAllUptoSaid : Prop := downsAllUptoRow.holds Tryd.pinned (OpenSpec.upto downsAllSpec)

/-- 'watershedlaw.DownsInclusion', WHERE WHAT IT READS IS OF BULK AT MOST 1048576: true; the input reads as it did. -/
def downsInclusionUptoRow : OpenClaim := { program := "ytdomcjfgmnpbmaadoor", sum := "e62e49673d49ec046cd75ec5705340cb2dde18f2546fb79e38df558c08f7d3f7", func := "watershed/watershedlaw.DownsInclusion", spec := "downsInclusion", unfollowed := true, recurses := true, named := ["math/bits.deBruijn64tab"], apart := false, laid := [("math/bits.deBruijn64tab", laid_math_bits_deBruijn64tab)], narrowed := true }
def DownsInclusionUptoSaid : Prop := downsInclusionUptoRow.holds Tryd.pinned (OpenSpec.upto downsInclusionSpec)

/-- 'watershedkeep.DownsBirkhoff', WHERE WHAT IT READS IS OF BULK AT MOST 1048576: true; the input reads as it did. -/
def downsBirkhoffUptoRow : OpenClaim := { program := "ytdomcjfgmnpbmaadoor", sum := "e62e49673d49ec046cd75ec5705340cb2dde18f2546fb79e38df558c08f7d3f7", func := "watershed/watershedkeep.DownsBirkhoff", spec := "downsBirkhoff", unfollowed := true, recurses := true, named := ["math/bits.deBruijn64tab"], apart := false, laid := [("math/bits.deBruijn64tab", laid_math_bits_deBruijn64tab)], narrowed := true }
def DownsBirkhoffUptoSaid : Prop := downsBirkhoffUptoRow.holds Tryd.pinned (OpenSpec.upto downsBirkhoffSpec)

/-- 'watershedkeep.DownsDistributive', WHERE WHAT IT READS IS OF BULK AT MOST 1048576: true; the input reads as it did. -/
def downsDistributiveUptoRow : OpenClaim := { program := "ytdomcjfgmnpbmaadoor", sum := "e62e49673d49ec046cd75ec5705340cb2dde18f2546fb79e38df558c08f7d3f7", func := "watershed/watershedkeep.DownsDistributive", spec := "downsDistributive", unfollowed := true, recurses := true, named := ["math/bits.deBruijn64tab"], apart := false, laid := [("math/bits.deBruijn64tab", laid_math_bits_deBruijn64tab)], narrowed := true }
def DownsDistributiveUptoSaid : Prop := downsDistributiveUptoRow.holds Tryd.pinned (OpenSpec.upto downsDistributiveSpec)

/-- 'watershedkeep.DownsTurned', WHERE WHAT IT READS IS OF BULK AT MOST 1048576: true; the input reads as it did. -/
def downsTurnedUptoRow : OpenClaim := { program := "ytdomcjfgmnpbmaadoor", sum := "e62e49673d49ec046cd75ec5705340cb2dde18f2546fb79e38df558c08f7d3f7", func := "watershed/watershedkeep.DownsTurned", spec := "downsTurned", unfollowed := true, recurses := true, named := ["math/bits.deBruijn64tab"], apart := false, laid := [("math/bits.deBruijn64tab", laid_math_bits_deBruijn64tab)], narrowed := true }
def DownsTurnedUptoSaid : Prop := downsTurnedUptoRow.holds Tryd.pinned (OpenSpec.upto downsTurnedSpec)

/-- 'watershedkeep.DownsSplits', WHERE WHAT IT READS IS OF BULK AT MOST 1048576: true; the input reads as it did. -/
def downsSplitsUptoRow : OpenClaim := { program := "ytdomcjfgmnpbmaadoor", sum := "e62e49673d49ec046cd75ec5705340cb2dde18f2546fb79e38df558c08f7d3f7", func := "watershed/watershedkeep.DownsSplits", spec := "downsSplits", unfollowed := true, recurses := true, named := ["math/bits.deBruijn64tab"], apart := false, laid := [("math/bits.deBruijn64tab", laid_math_bits_deBruijn64tab)], narrowed := true }
def DownsSplitsUptoSaid : Prop := downsSplitsUptoRow.holds Tryd.pinned (OpenSpec.upto downsSplitsSpec)

end Rows
end Go.Proofs.YtdomcjfgmnpbmaaDoor
