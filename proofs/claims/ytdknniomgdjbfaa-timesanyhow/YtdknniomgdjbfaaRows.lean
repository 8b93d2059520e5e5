/-
  No cell of these rows narrows 'for every input' (looked for: loops, veiled, ifaces, maps, wideKeys, modest, calm, conditions, laid).
  DERIVED. THE GIVEN ROWS OF THIS SEAT. 6 by the template 'for every input the law returns true; each argument reads behind the call as it read before'; 0 by the template 'total and deterministic' (their statements: YtdknniomgdjbfaaTotals.lean).
  GIVEN WITH THE SEED: the statements are not yours to turn. If you find one false, say at which input.
  Laid BY PROGRAM, IN A SANDBOX (cutbox-rows.mjs): the forced cells as the released guide's own fill.sh prints them over the translation d00aa0ea931d1ee4… (all of the seat's roots in one cut). By AI agents, Wed Nov 11 2026. No macro, syntax, notation, axiom, sorry.
-/
import Derived.Test.YtdknniomgdjbfaaChecked
import GoSem.Claim
import GoSem.ClaimJoined
import GoSem.ClaimMapViews
import Derived.JoinedTies
import Derived.KernelRfl
namespace Go.Proofs.Ytdknniomgdjbfaa
/- THE CELL 'sum', in the pinned program and in every row, IS THE sha256 OF THE DUMP (.gsa) THAT YtdknniomgdjbfaaProg.lean LOADS. Nothing in Lean hashes anything: it is a label: what it is worth is what the hold of that sum in a sandbox is worth. -/
noncomputable def Try.pinned : Pinned := { name := "ytdknniomgdjbfaa", sum := "d00aa0ea931d1ee4fff6cb5a06aefd58108d651ef27e8f5468e362ac8b04fac5", checked := Try.checked }
namespace Rows
def none {H : Type} : Left H := { results := [], args := [] }

/-- 'watershedlaw.TimesFronts': WHATEVER THE INPUT: true; the input reads as it did. -/
def timesFrontsSpec : ChangeSpec := { name := "timesFronts", fn := fun _ => fun
  | [d1, d2] => { results := [.lit (.bool true)], args := [d1, d2] }
  | _ => none }
def timesFrontsRow : OpenClaim := { program := "ytdknniomgdjbfaa", sum := "d00aa0ea931d1ee4fff6cb5a06aefd58108d651ef27e8f5468e362ac8b04fac5", func := "watershed/watershedlaw.TimesFronts", spec := "timesFronts", unfollowed := true, recurses := true, apart := false }
def TimesFrontsSaid : Prop := timesFrontsRow.holds Try.pinned (OpenSpec.ofChange timesFrontsSpec)

/-- ITS FALSE NEIGHBOUR: 'it returns false'. Refute it at one input. -/
def timesFrontsWrong : ChangeSpec := { name := "timesFronts", fn := fun _ => fun
  | [d1, d2] => { results := [.lit (.bool false)], args := [d1, d2] }
  | _ => none }
def TimesFrontsWrongFalsely : Prop := timesFrontsRow.holds Try.pinned (OpenSpec.ofChange timesFrontsWrong)

/-- 'watershedlaw.TimesBefores': WHATEVER THE INPUT: true; the input reads as it did. -/
def timesBeforesSpec : ChangeSpec := { name := "timesBefores", fn := fun _ => fun
  | [d1, d2] => { results := [.lit (.bool true)], args := [d1, d2] }
  | _ => none }
def timesBeforesRow : OpenClaim := { program := "ytdknniomgdjbfaa", sum := "d00aa0ea931d1ee4fff6cb5a06aefd58108d651ef27e8f5468e362ac8b04fac5", func := "watershed/watershedlaw.TimesBefores", spec := "timesBefores", unfollowed := true, recurses := true, apart := false }
def TimesBeforesSaid : Prop := timesBeforesRow.holds Try.pinned (OpenSpec.ofChange timesBeforesSpec)

/-- ITS FALSE NEIGHBOUR: 'it returns false'. Refute it at one input. -/
def timesBeforesWrong : ChangeSpec := { name := "timesBefores", fn := fun _ => fun
  | [d1, d2] => { results := [.lit (.bool false)], args := [d1, d2] }
  | _ => none }
def TimesBeforesWrongFalsely : Prop := timesBeforesRow.holds Try.pinned (OpenSpec.ofChange timesBeforesWrong)

/-- 'watershedkeep.TimesOpens': WHATEVER THE INPUT: true; the input reads as it did. -/
def timesOpensSpec : ChangeSpec := { name := "timesOpens", fn := fun _ => fun
  | [d1, d2] => { results := [.lit (.bool true)], args := [d1, d2] }
  | _ => none }
def timesOpensRow : OpenClaim := { program := "ytdknniomgdjbfaa", sum := "d00aa0ea931d1ee4fff6cb5a06aefd58108d651ef27e8f5468e362ac8b04fac5", func := "watershed/watershedkeep.TimesOpens", spec := "timesOpens", unfollowed := true, recurses := true, apart := false }
def TimesOpensSaid : Prop := timesOpensRow.holds Try.pinned (OpenSpec.ofChange timesOpensSpec)

/-- ITS FALSE NEIGHBOUR: 'it returns false'. Refute it at one input. -/
def timesOpensWrong : ChangeSpec := { name := "timesOpens", fn := fun _ => fun
  | [d1, d2] => { results := [.lit (.bool false)], args := [d1, d2] }
  | _ => none }
def TimesOpensWrongFalsely : Prop := timesOpensRow.holds Try.pinned (OpenSpec.ofChange timesOpensWrong)

/-- 'watershedkeep.TimesOrders': WHATEVER THE INPUT: true; the input reads as it did. -/
def timesOrdersSpec : ChangeSpec := { name := "timesOrders", fn := fun _ => fun
  | [d1, d2] => { results := [.lit (.bool true)], args := [d1, d2] }
  | _ => none }
def timesOrdersRow : OpenClaim := { program := "ytdknniomgdjbfaa", sum := "d00aa0ea931d1ee4fff6cb5a06aefd58108d651ef27e8f5468e362ac8b04fac5", func := "watershed/watershedkeep.TimesOrders", spec := "timesOrders", unfollowed := true, recurses := true, apart := false }
def TimesOrdersSaid : Prop := timesOrdersRow.holds Try.pinned (OpenSpec.ofChange timesOrdersSpec)

/-- ITS FALSE NEIGHBOUR: 'it returns false'. Refute it at one input. -/
def timesOrdersWrong : ChangeSpec := { name := "timesOrders", fn := fun _ => fun
  | [d1, d2] => { results := [.lit (.bool false)], args := [d1, d2] }
  | _ => none }
def TimesOrdersWrongFalsely : Prop := timesOrdersRow.holds Try.pinned (OpenSpec.ofChange timesOrdersWrong)

/-- 'watershedkeep.TimesMeets': WHATEVER THE INPUT: true; the input reads as it did. -/
def timesMeetsSpec : ChangeSpec := { name := "timesMeets", fn := fun _ => fun
  | [d1, d2, d3] => { results := [.lit (.bool true)], args := [d1, d2, d3] }
  | _ => none }
def timesMeetsRow : OpenClaim := { program := "ytdknniomgdjbfaa", sum := "d00aa0ea931d1ee4fff6cb5a06aefd58108d651ef27e8f5468e362ac8b04fac5", func := "watershed/watershedkeep.TimesMeets", spec := "timesMeets", unfollowed := true, recurses := true, apart := false }
def TimesMeetsSaid : Prop := timesMeetsRow.holds Try.pinned (OpenSpec.ofChange timesMeetsSpec)

/-- ITS FALSE NEIGHBOUR: 'it returns false'. Refute it at one input. -/
def timesMeetsWrong : ChangeSpec := { name := "timesMeets", fn := fun _ => fun
  | [d1, d2, d3] => { results := [.lit (.bool false)], args := [d1, d2, d3] }
  | _ => none }
def TimesMeetsWrongFalsely : Prop := timesMeetsRow.holds Try.pinned (OpenSpec.ofChange timesMeetsWrong)

/-- 'watershedkeep.TimesAnyhow': WHATEVER THE INPUT: true; the input reads as it did. -/
def timesAnyhowSpec : ChangeSpec := { name := "timesAnyhow", fn := fun _ => fun
  | [d1, d2] => { results := [.lit (.bool true)], args := [d1, d2] }
  | _ => none }
def timesAnyhowRow : OpenClaim := { program := "ytdknniomgdjbfaa", sum := "d00aa0ea931d1ee4fff6cb5a06aefd58108d651ef27e8f5468e362ac8b04fac5", func := "watershed/watershedkeep.TimesAnyhow", spec := "timesAnyhow", unfollowed := true, recurses := true, apart := false }
def TimesAnyhowSaid : Prop := timesAnyhowRow.holds Try.pinned (OpenSpec.ofChange timesAnyhowSpec)

/-- ITS FALSE NEIGHBOUR: 'it returns false'. Refute it at one input. -/
def timesAnyhowWrong : ChangeSpec := { name := "timesAnyhow", fn := fun _ => fun
  | [d1, d2] => { results := [.lit (.bool false)], args := [d1, d2] }
  | _ => none }
def TimesAnyhowWrongFalsely : Prop := timesAnyhowRow.holds Try.pinned (OpenSpec.ofChange timesAnyhowWrong)

/- THE SECOND FORM. 'bulk': how many values and letters a reading holds, each counted each time it is reached (what is shared counts as often as it is met; a slice's spare places count too). A statement '..UptoSaid' is the law's where the arguments, and the package variables that the reading takes, are together of bulk at most 1048576: NARROWER than '..Said'. Prove '..Said' where nothing that the law and all that it calls make is longer than what came in: it says more and counts as full. Else prove '..UptoSaid'. A law counts once. -/
mutual
def uptoBulk {H : Type} : DataW H → Nat
  | .lit (.string bytes) => bytes.length + 1
  | .lit _ => 1
  | .nil => 1
  | .ptr d => uptoBulk d + 1
  | .slice elems spare => uptoBulkAll elems + uptoBulkAll spare + 1
  | .agg parts => uptoBulkAll parts + 1
  | .iface _ d => uptoBulk d + 1
  | .map entries => uptoBulkEntries entries + 1
  | .held _ => 1
def uptoBulkAll {H : Type} : List (DataW H) → Nat
  | [] => 0
  | d :: r => uptoBulk d + uptoBulkAll r
def uptoBulkEntries {H : Type} : List (Lit × DataW H) → Nat
  | [] => 0
  | x :: r => uptoBulkEntry x + uptoBulkEntries r
def uptoBulkEntry {H : Type} : Lit × DataW H → Nat
  | (.string bytes, d) => bytes.length + uptoBulk d + 1
  | (_, d) => uptoBulk d + 1
 end
def uptoSmall : (H : Type) → List (DataW H) → Bool := fun _ ds => decide (uptoBulkAll ds ≤ 1048576)
def OpenSpec.upto (s : _root_.Go.ChangeSpec) : _root_.Go.OpenSpec := { _root_.Go.OpenSpec.ofChange s with cond := some uptoSmall }

/-- 'watershedlaw.TimesFronts', WHERE WHAT IT READS IS OF BULK AT MOST 1048576: true; the input reads as it did. -/
def timesFrontsUptoRow : OpenClaim := { program := "ytdknniomgdjbfaa", sum := "d00aa0ea931d1ee4fff6cb5a06aefd58108d651ef27e8f5468e362ac8b04fac5", func := "watershed/watershedlaw.TimesFronts", spec := "timesFronts", unfollowed := true, recurses := true, apart := false, narrowed := true }
def TimesFrontsUptoSaid : Prop := timesFrontsUptoRow.holds Try.pinned (OpenSpec.upto timesFrontsSpec)

/-- 'watershedlaw.TimesBefores', WHERE WHAT IT READS IS OF BULK AT MOST 1048576: true; the input reads as it did. -/
def timesBeforesUptoRow : OpenClaim := { program := "ytdknniomgdjbfaa", sum := "d00aa0ea931d1ee4fff6cb5a06aefd58108d651ef27e8f5468e362ac8b04fac5", func := "watershed/watershedlaw.TimesBefores", spec := "timesBefores", unfollowed := true, recurses := true, apart := false, narrowed := true }
def TimesBeforesUptoSaid : Prop := timesBeforesUptoRow.holds Try.pinned (OpenSpec.upto timesBeforesSpec)

/-- 'watershedkeep.TimesOpens', WHERE WHAT IT READS IS OF BULK AT MOST 1048576: true; the input reads as it did. -/
def timesOpensUptoRow : OpenClaim := { program := "ytdknniomgdjbfaa", sum := "d00aa0ea931d1ee4fff6cb5a06aefd58108d651ef27e8f5468e362ac8b04fac5", func := "watershed/watershedkeep.TimesOpens", spec := "timesOpens", unfollowed := true, recurses := true, apart := false, narrowed := true }
def TimesOpensUptoSaid : Prop := timesOpensUptoRow.holds Try.pinned (OpenSpec.upto timesOpensSpec)

/-- 'watershedkeep.TimesOrders', WHERE WHAT IT READS IS OF BULK AT MOST 1048576: true; the input reads as it did. -/
def timesOrdersUptoRow : OpenClaim := { program := "ytdknniomgdjbfaa", sum := "d00aa0ea931d1ee4fff6cb5a06aefd58108d651ef27e8f5468e362ac8b04fac5", func := "watershed/watershedkeep.TimesOrders", spec := "timesOrders", unfollowed := true, recurses := true, apart := false, narrowed := true }
def TimesOrdersUptoSaid : Prop := timesOrdersUptoRow.holds Try.pinned (OpenSpec.upto timesOrdersSpec)

/-- 'watershedkeep.TimesMeets', WHERE WHAT IT READS IS OF BULK AT MOST 1048576: true; the input reads as it did. -/
def timesMeetsUptoRow : OpenClaim := { program := "ytdknniomgdjbfaa", sum := "d00aa0ea931d1ee4fff6cb5a06aefd58108d651ef27e8f5468e362ac8b04fac5", func := "watershed/watershedkeep.TimesMeets", spec := "timesMeets", unfollowed := true, recurses := true, apart := false, narrowed := true }
def TimesMeetsUptoSaid : Prop := timesMeetsUptoRow.holds Try.pinned (OpenSpec.upto timesMeetsSpec)

/-- 'watershedkeep.TimesAnyhow', WHERE WHAT IT READS IS OF BULK AT MOST 1048576: true; the input reads as it did. -/
def timesAnyhowUptoRow : OpenClaim := { program := "ytdknniomgdjbfaa", sum := "d00aa0ea931d1ee4fff6cb5a06aefd58108d651ef27e8f5468e362ac8b04fac5", func := "watershed/watershedkeep.TimesAnyhow", spec := "timesAnyhow", unfollowed := true, recurses := true, apart := false, narrowed := true }
def TimesAnyhowUptoSaid : Prop := timesAnyhowUptoRow.holds Try.pinned (OpenSpec.upto timesAnyhowSpec)

end Rows
end Go.Proofs.Ytdknniomgdjbfaa
