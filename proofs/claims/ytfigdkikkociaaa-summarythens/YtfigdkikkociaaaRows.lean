/-
  No cell of these rows narrows 'for every input' (looked for: loops, veiled, ifaces, maps, wideKeys, modest, calm, conditions, laid).
  DERIVED. THE GIVEN ROWS OF THIS SEAT. 6 by the template 'for every input the law returns true; each argument reads behind the call as it read before'; 0 by the template 'total and deterministic' (their statements: YtfigdkikkociaaaTotals.lean).
  GIVEN WITH THE SEED: the statements are not yours to turn. If you find one false, say at which input.
  Laid BY PROGRAM, IN A SANDBOX (cutbox-rows.mjs): the forced cells as the released guide's own fill.sh prints them over the translation 42246460cbea33c0… (all of the seat's roots in one cut). By AI agents, Wed Nov 11 2026. No macro, syntax, notation, axiom, sorry.
-/
import Derived.Test.YtfigdkikkociaaaChecked
import GoSem.Claim
import GoSem.ClaimJoined
import GoSem.ClaimMapViews
import Derived.JoinedTies
import Derived.KernelRfl
namespace Go.Proofs.Ytfigdkikkociaaa
/- THE CELL 'sum', in the pinned program and in every row, IS THE sha256 OF THE DUMP (.gsa) THAT YtfigdkikkociaaaProg.lean LOADS. Nothing in Lean hashes anything: it is a label: what it is worth is what the hold of that sum in a sandbox is worth. -/
noncomputable def Try.pinned : Pinned := { name := "ytfigdkikkociaaa", sum := "42246460cbea33c0177c62c375fb32900e8d103e53a47351fc668e9a0e7bf66a", checked := Try.checked }
namespace Rows
def none {H : Type} : Left H := { results := [], args := [] }

/-- 'watershedlaw.SummaryTells': WHATEVER THE INPUT: true; the input reads as it did. -/
def summaryTellsSpec : ChangeSpec := { name := "summaryTells", fn := fun _ => fun
  | [d1, d2, d3] => { results := [.lit (.bool true)], args := [d1, d2, d3] }
  | _ => none }
def summaryTellsRow : OpenClaim := { program := "ytfigdkikkociaaa", sum := "42246460cbea33c0177c62c375fb32900e8d103e53a47351fc668e9a0e7bf66a", func := "watershed/watershedlaw.SummaryTells", spec := "summaryTells", unfollowed := true, recurses := true, apart := false }
def SummaryTellsSaid : Prop := summaryTellsRow.holds Try.pinned (OpenSpec.ofChange summaryTellsSpec)

/-- ITS FALSE NEIGHBOUR: 'it returns false'. Refute it at one input. -/
def summaryTellsWrong : ChangeSpec := { name := "summaryTells", fn := fun _ => fun
  | [d1, d2, d3] => { results := [.lit (.bool false)], args := [d1, d2, d3] }
  | _ => none }
def SummaryTellsWrongFalsely : Prop := summaryTellsRow.holds Try.pinned (OpenSpec.ofChange summaryTellsWrong)

/-- 'watershedlaw.SummaryThens': WHATEVER THE INPUT: true; the input reads as it did. -/
def summaryThensSpec : ChangeSpec := { name := "summaryThens", fn := fun _ => fun
  | [d1, d2] => { results := [.lit (.bool true)], args := [d1, d2] }
  | _ => none }
def summaryThensRow : OpenClaim := { program := "ytfigdkikkociaaa", sum := "42246460cbea33c0177c62c375fb32900e8d103e53a47351fc668e9a0e7bf66a", func := "watershed/watershedlaw.SummaryThens", spec := "summaryThens", unfollowed := true, recurses := true, apart := false }
def SummaryThensSaid : Prop := summaryThensRow.holds Try.pinned (OpenSpec.ofChange summaryThensSpec)

/-- ITS FALSE NEIGHBOUR: 'it returns false'. Refute it at one input. -/
def summaryThensWrong : ChangeSpec := { name := "summaryThens", fn := fun _ => fun
  | [d1, d2] => { results := [.lit (.bool false)], args := [d1, d2] }
  | _ => none }
def SummaryThensWrongFalsely : Prop := summaryThensRow.holds Try.pinned (OpenSpec.ofChange summaryThensWrong)

/-- 'watershedlaw.SummaryFronts': WHATEVER THE INPUT: true; the input reads as it did. -/
def summaryFrontsSpec : ChangeSpec := { name := "summaryFronts", fn := fun _ => fun
  | [d] => { results := [.lit (.bool true)], args := [d] }
  | _ => none }
def summaryFrontsRow : OpenClaim := { program := "ytfigdkikkociaaa", sum := "42246460cbea33c0177c62c375fb32900e8d103e53a47351fc668e9a0e7bf66a", func := "watershed/watershedlaw.SummaryFronts", spec := "summaryFronts", unfollowed := true, recurses := true, apart := false }
def SummaryFrontsSaid : Prop := summaryFrontsRow.holds Try.pinned (OpenSpec.ofChange summaryFrontsSpec)

/-- ITS FALSE NEIGHBOUR: 'it returns false'. Refute it at one input. -/
def summaryFrontsWrong : ChangeSpec := { name := "summaryFronts", fn := fun _ => fun
  | [d] => { results := [.lit (.bool false)], args := [d] }
  | _ => none }
def SummaryFrontsWrongFalsely : Prop := summaryFrontsRow.holds Try.pinned (OpenSpec.ofChange summaryFrontsWrong)

/-- 'watershedkeep.SummaryMonotone': WHATEVER THE INPUT: true; the input reads as it did. -/
def summaryMonotoneSpec : ChangeSpec := { name := "summaryMonotone", fn := fun _ => fun
  | [d1, d2, d3] => { results := [.lit (.bool true)], args := [d1, d2, d3] }
  | _ => none }
def summaryMonotoneRow : OpenClaim := { program := "ytfigdkikkociaaa", sum := "42246460cbea33c0177c62c375fb32900e8d103e53a47351fc668e9a0e7bf66a", func := "watershed/watershedkeep.SummaryMonotone", spec := "summaryMonotone", unfollowed := true, recurses := true, apart := false }
def SummaryMonotoneSaid : Prop := summaryMonotoneRow.holds Try.pinned (OpenSpec.ofChange summaryMonotoneSpec)

/-- ITS FALSE NEIGHBOUR: 'it returns false'. Refute it at one input. -/
def summaryMonotoneWrong : ChangeSpec := { name := "summaryMonotone", fn := fun _ => fun
  | [d1, d2, d3] => { results := [.lit (.bool false)], args := [d1, d2, d3] }
  | _ => none }
def SummaryMonotoneWrongFalsely : Prop := summaryMonotoneRow.holds Try.pinned (OpenSpec.ofChange summaryMonotoneWrong)

/-- 'watershedkeep.SummaryComposes': WHATEVER THE INPUT: true; the input reads as it did. -/
def summaryComposesSpec : ChangeSpec := { name := "summaryComposes", fn := fun _ => fun
  | [d1, d2, d3] => { results := [.lit (.bool true)], args := [d1, d2, d3] }
  | _ => none }
def summaryComposesRow : OpenClaim := { program := "ytfigdkikkociaaa", sum := "42246460cbea33c0177c62c375fb32900e8d103e53a47351fc668e9a0e7bf66a", func := "watershed/watershedkeep.SummaryComposes", spec := "summaryComposes", unfollowed := true, recurses := true, apart := false }
def SummaryComposesSaid : Prop := summaryComposesRow.holds Try.pinned (OpenSpec.ofChange summaryComposesSpec)

/-- ITS FALSE NEIGHBOUR: 'it returns false'. Refute it at one input. -/
def summaryComposesWrong : ChangeSpec := { name := "summaryComposes", fn := fun _ => fun
  | [d1, d2, d3] => { results := [.lit (.bool false)], args := [d1, d2, d3] }
  | _ => none }
def SummaryComposesWrongFalsely : Prop := summaryComposesRow.holds Try.pinned (OpenSpec.ofChange summaryComposesWrong)

/-- 'watershedkeep.SummaryBrackets': WHATEVER THE INPUT: true; the input reads as it did. -/
def summaryBracketsSpec : ChangeSpec := { name := "summaryBrackets", fn := fun _ => fun
  | [d1, d2, d3] => { results := [.lit (.bool true)], args := [d1, d2, d3] }
  | _ => none }
def summaryBracketsRow : OpenClaim := { program := "ytfigdkikkociaaa", sum := "42246460cbea33c0177c62c375fb32900e8d103e53a47351fc668e9a0e7bf66a", func := "watershed/watershedkeep.SummaryBrackets", spec := "summaryBrackets", unfollowed := true, recurses := true, apart := false }
def SummaryBracketsSaid : Prop := summaryBracketsRow.holds Try.pinned (OpenSpec.ofChange summaryBracketsSpec)

/-- ITS FALSE NEIGHBOUR: 'it returns false'. Refute it at one input. -/
def summaryBracketsWrong : ChangeSpec := { name := "summaryBrackets", fn := fun _ => fun
  | [d1, d2, d3] => { results := [.lit (.bool false)], args := [d1, d2, d3] }
  | _ => none }
def SummaryBracketsWrongFalsely : Prop := summaryBracketsRow.holds Try.pinned (OpenSpec.ofChange summaryBracketsWrong)

/- THE SECOND FORM. 'bulk': how many values and letters a reading holds, each counted each time it is reached (what is shared counts as often as it is met; a slice's spare places count too). A statement '..UptoSaid' is the law's where the arguments, and the package variables that the reading takes, are together of bulk at most 1048576: NARROWER than '..Said'. Prove '..Said' where nothing that the law and all that it calls make is longer than what came in: it says more and counts as full. Else prove '..UptoSaid'. A law counts once. -/
mutual
def uptoBulk {H : Type} : DataW H → Nat
  | .lit (.string bytes) => bytes.length + 1
  | .lit _ => 1
  | .nil => 1
  | .ptr d => uptoBulk d + 1
  | .slice elems spare => uptoBulkAll elems + uptoBulkAll spare + 1
  | .agg parts => uptoBulkAll parts + 1
  | .iface _ d => uptoBulk d + 1
  | .map entries => uptoBulkEntries entries + 1
  | .held _ => 1
def uptoBulkAll {H : Type} : List (DataW H) → Nat
  | [] => 0
  | d :: r => uptoBulk d + uptoBulkAll r
def uptoBulkEntries {H : Type} : List (Lit × DataW H) → Nat
  | [] => 0
  | x :: r => uptoBulkEntry x + uptoBulkEntries r
def uptoBulkEntry {H : Type} : Lit × DataW H → Nat
  | (.string bytes, d) => bytes.length + uptoBulk d + 1
  | (_, d) => uptoBulk d + 1
 end
def uptoSmall : (H : Type) → List (DataW H) → Bool := fun _ ds => decide (uptoBulkAll ds ≤ 1048576)
def OpenSpec.upto (s : _root_.Go.ChangeSpec) : _root_.Go.OpenSpec := { _root_.Go.OpenSpec.ofChange s with cond := some uptoSmall }

/-- 'watershedlaw.SummaryTells', WHERE WHAT IT READS IS OF BULK AT MOST 1048576: true; the input reads as it did. -/
def summaryTellsUptoRow : OpenClaim := { program := "ytfigdkikkociaaa", sum := "42246460cbea33c0177c62c375fb32900e8d103e53a47351fc668e9a0e7bf66a", func := "watershed/watershedlaw.SummaryTells", spec := "summaryTells", unfollowed := true, recurses := true, apart := false, narrowed := true }
def SummaryTellsUptoSaid : Prop := summaryTellsUptoRow.holds Try.pinned (OpenSpec.upto summaryTellsSpec)

/-- 'watershedlaw.SummaryThens', WHERE WHAT IT READS IS OF BULK AT MOST 1048576: true; the input reads as it did. -/
def summaryThensUptoRow : OpenClaim := { program := "ytfigdkikkociaaa", sum := "42246460cbea33c0177c62c375fb32900e8d103e53a47351fc668e9a0e7bf66a", func := "watershed/watershedlaw.SummaryThens", spec := "summaryThens", unfollowed := true, recurses := true, apart := false, narrowed := true }
def SummaryThensUptoSaid : Prop := summaryThensUptoRow.holds Try.pinned (OpenSpec.upto summaryThensSpec)

/-- 'watershedlaw.SummaryFronts', WHERE WHAT IT READS IS OF BULK AT MOST 1048576: true; the input reads as it did. -/
def summaryFrontsUptoRow : OpenClaim := { program := "ytfigdkikkociaaa", sum := "42246460cbea33c0177c62c375fb32900e8d103e53a47351fc668e9a0e7bf66a", func := "watershed/watershedlaw.SummaryFronts", spec := "summaryFronts", unfollowed := true, recurses := true, apart := false, narrowed := true }
def SummaryFrontsUptoSaid : Prop := summaryFrontsUptoRow.holds Try.pinned (OpenSpec.upto summaryFrontsSpec)

/-- 'watershedkeep.SummaryMonotone', WHERE WHAT IT READS IS OF BULK AT MOST 1048576: true; the input reads as it did. -/
def summaryMonotoneUptoRow : OpenClaim := { program := "ytfigdkikkociaaa", sum := "42246460cbea33c0177c62c375fb32900e8d103e53a47351fc668e9a0e7bf66a", func := "watershed/watershedkeep.SummaryMonotone", spec := "summaryMonotone", unfollowed := true, recurses := true, apart := false, narrowed := true }
def SummaryMonotoneUptoSaid : Prop := summaryMonotoneUptoRow.holds Try.pinned (OpenSpec.upto summaryMonotoneSpec)

/-- 'watershedkeep.SummaryComposes', WHERE WHAT IT READS IS OF BULK AT MOST 1048576: true; the input reads as it did. -/
def summaryComposesUptoRow : OpenClaim := { program := "ytfigdkikkociaaa", sum := "42246460cbea33c0177c62c375fb32900e8d103e53a47351fc668e9a0e7bf66a", func := "watershed/watershedkeep.SummaryComposes", spec := "summaryComposes", unfollowed := true, recurses := true, apart := false, narrowed := true }
def SummaryComposesUptoSaid : Prop := summaryComposesUptoRow.holds Try.pinned (OpenSpec.upto summaryComposesSpec)

/-- 'watershedkeep.SummaryBrackets', WHERE WHAT IT READS IS OF BULK AT MOST 1048576: true; the input reads as it did. -/
def summaryBracketsUptoRow : OpenClaim := { program := "ytfigdkikkociaaa", sum := "42246460cbea33c0177c62c375fb32900e8d103e53a47351fc668e9a0e7bf66a", func := "watershed/watershedkeep.SummaryBrackets", spec := "summaryBrackets", unfollowed := true, recurses := true, apart := false, narrowed := true }
def SummaryBracketsUptoSaid : Prop := summaryBracketsUptoRow.holds Try.pinned (OpenSpec.upto summaryBracketsSpec)

end Rows
end Go.Proofs.Ytfigdkikkociaaa
