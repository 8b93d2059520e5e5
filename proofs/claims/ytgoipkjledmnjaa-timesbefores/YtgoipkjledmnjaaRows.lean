/-
  No cell of these rows narrows 'for every input' (looked for: loops, veiled, ifaces, maps, wideKeys, modest, calm, conditions, laid).
  DERIVED. THE GIVEN ROWS OF THIS SEAT. 6 by the template 'for every input the law returns true; each argument reads behind the call as it read before'; 0 by the template 'total and deterministic' (their statements: YtgoipkjledmnjaaTotals.lean).
  GIVEN WITH THE SEED: the statements are not yours to turn. If you find one false, say at which input.
  Laid BY PROGRAM, IN A SANDBOX (cutbox-rows.mjs): the forced cells as the released guide's own fill.sh prints them over the translation 995b950b8e70ab42… (all of the seat's roots in one cut). By AI agents, Wed Nov 11 2026. No macro, syntax, notation, axiom, sorry.
-/
import Derived.Test.YtgoipkjledmnjaaChecked
import GoSem.Claim
import GoSem.ClaimJoined
import GoSem.ClaimMapViews
import Derived.JoinedTies
import Derived.KernelRfl
namespace Go.Proofs.Ytgoipkjledmnjaa
/- THE CELL 'sum', in the pinned program and in every row, IS THE sha256 OF THE DUMP (.gsa) THAT YtgoipkjledmnjaaProg.lean LOADS. Nothing in Lean hashes anything: it is a label: what it is worth is what the hold of that sum in a sandbox is worth. -/
noncomputable def Try.pinned : Pinned := { name := "ytgoipkjledmnjaa", sum := "995b950b8e70ab422f47b7fabaa65f821d11417af42942e017652a414ebbebf8", checked := Try.checked }
namespace Rows
def none {H : Type} : Left H := { results := [], args := [] }

/-- 'watershedlaw.TimesTells': WHATEVER THE INPUT: true; the input reads as it did. -/
def timesTellsSpec : ChangeSpec := { name := "timesTells", fn := fun _ => fun
  | [d1, d2] => { results := [.lit (.bool true)], args := [d1, d2] }
  | _ => none }
def timesTellsRow : OpenClaim := { program := "ytgoipkjledmnjaa", sum := "995b950b8e70ab422f47b7fabaa65f821d11417af42942e017652a414ebbebf8", func := "watershed/watershedlaw.TimesTells", spec := "timesTells", unfollowed := true, recurses := true, apart := false }
def TimesTellsSaid : Prop := timesTellsRow.holds Try.pinned (OpenSpec.ofChange timesTellsSpec)

/-- ITS FALSE NEIGHBOUR: 'it returns false'. Refute it at one input. -/
def timesTellsWrong : ChangeSpec := { name := "timesTells", fn := fun _ => fun
  | [d1, d2] => { results := [.lit (.bool false)], args := [d1, d2] }
  | _ => none }
def TimesTellsWrongFalsely : Prop := timesTellsRow.holds Try.pinned (OpenSpec.ofChange timesTellsWrong)

/-- 'watershedlaw.TimesFronts': WHATEVER THE INPUT: true; the input reads as it did. -/
def timesFrontsSpec : ChangeSpec := { name := "timesFronts", fn := fun _ => fun
  | [d1, d2] => { results := [.lit (.bool true)], args := [d1, d2] }
  | _ => none }
def timesFrontsRow : OpenClaim := { program := "ytgoipkjledmnjaa", sum := "995b950b8e70ab422f47b7fabaa65f821d11417af42942e017652a414ebbebf8", func := "watershed/watershedlaw.TimesFronts", spec := "timesFronts", unfollowed := true, recurses := true, apart := false }
def TimesFrontsSaid : Prop := timesFrontsRow.holds Try.pinned (OpenSpec.ofChange timesFrontsSpec)

/-- ITS FALSE NEIGHBOUR: 'it returns false'. Refute it at one input. -/
def timesFrontsWrong : ChangeSpec := { name := "timesFronts", fn := fun _ => fun
  | [d1, d2] => { results := [.lit (.bool false)], args := [d1, d2] }
  | _ => none }
def TimesFrontsWrongFalsely : Prop := timesFrontsRow.holds Try.pinned (OpenSpec.ofChange timesFrontsWrong)

/-- 'watershedlaw.TimesBefores': WHATEVER THE INPUT: true; the input reads as it did. -/
def timesBeforesSpec : ChangeSpec := { name := "timesBefores", fn := fun _ => fun
  | [d1, d2] => { results := [.lit (.bool true)], args := [d1, d2] }
  | _ => none }
def timesBeforesRow : OpenClaim := { program := "ytgoipkjledmnjaa", sum := "995b950b8e70ab422f47b7fabaa65f821d11417af42942e017652a414ebbebf8", func := "watershed/watershedlaw.TimesBefores", spec := "timesBefores", unfollowed := true, recurses := true, apart := false }
def TimesBeforesSaid : Prop := timesBeforesRow.holds Try.pinned (OpenSpec.ofChange timesBeforesSpec)

/-- ITS FALSE NEIGHBOUR: 'it returns false'. Refute it at one input. -/
def timesBeforesWrong : ChangeSpec := { name := "timesBefores", fn := fun _ => fun
  | [d1, d2] => { results := [.lit (.bool false)], args := [d1, d2] }
  | _ => none }
def TimesBeforesWrongFalsely : Prop := timesBeforesRow.holds Try.pinned (OpenSpec.ofChange timesBeforesWrong)

/-- 'watershedkeep.TimesLattice': WHATEVER THE INPUT: true; the input reads as it did. -/
def timesLatticeSpec : ChangeSpec := { name := "timesLattice", fn := fun _ => fun
  | [d1, d2, d3] => { results := [.lit (.bool true)], args := [d1, d2, d3] }
  | _ => none }
def timesLatticeRow : OpenClaim := { program := "ytgoipkjledmnjaa", sum := "995b950b8e70ab422f47b7fabaa65f821d11417af42942e017652a414ebbebf8", func := "watershed/watershedkeep.TimesLattice", spec := "timesLattice", unfollowed := true, recurses := true, apart := false }
def TimesLatticeSaid : Prop := timesLatticeRow.holds Try.pinned (OpenSpec.ofChange timesLatticeSpec)

/-- ITS FALSE NEIGHBOUR: 'it returns false'. Refute it at one input. -/
def timesLatticeWrong : ChangeSpec := { name := "timesLattice", fn := fun _ => fun
  | [d1, d2, d3] => { results := [.lit (.bool false)], args := [d1, d2, d3] }
  | _ => none }
def TimesLatticeWrongFalsely : Prop := timesLatticeRow.holds Try.pinned (OpenSpec.ofChange timesLatticeWrong)

/-- 'watershedkeep.TimesExtends': WHATEVER THE INPUT: true; the input reads as it did. -/
def timesExtendsSpec : ChangeSpec := { name := "timesExtends", fn := fun _ => fun
  | [d1, d2, d3] => { results := [.lit (.bool true)], args := [d1, d2, d3] }
  | _ => none }
def timesExtendsRow : OpenClaim := { program := "ytgoipkjledmnjaa", sum := "995b950b8e70ab422f47b7fabaa65f821d11417af42942e017652a414ebbebf8", func := "watershed/watershedkeep.TimesExtends", spec := "timesExtends", unfollowed := true, recurses := true, apart := false }
def TimesExtendsSaid : Prop := timesExtendsRow.holds Try.pinned (OpenSpec.ofChange timesExtendsSpec)

/-- ITS FALSE NEIGHBOUR: 'it returns false'. Refute it at one input. -/
def timesExtendsWrong : ChangeSpec := { name := "timesExtends", fn := fun _ => fun
  | [d1, d2, d3] => { results := [.lit (.bool false)], args := [d1, d2, d3] }
  | _ => none }
def TimesExtendsWrongFalsely : Prop := timesExtendsRow.holds Try.pinned (OpenSpec.ofChange timesExtendsWrong)

/-- 'watershedkeep.TimesOpens': WHATEVER THE INPUT: true; the input reads as it did. -/
def timesOpensSpec : ChangeSpec := { name := "timesOpens", fn := fun _ => fun
  | [d1, d2] => { results := [.lit (.bool true)], args := [d1, d2] }
  | _ => none }
def timesOpensRow : OpenClaim := { program := "ytgoipkjledmnjaa", sum := "995b950b8e70ab422f47b7fabaa65f821d11417af42942e017652a414ebbebf8", func := "watershed/watershedkeep.TimesOpens", spec := "timesOpens", unfollowed := true, recurses := true, apart := false }
def TimesOpensSaid : Prop := timesOpensRow.holds Try.pinned (OpenSpec.ofChange timesOpensSpec)

/-- ITS FALSE NEIGHBOUR: 'it returns false'. Refute it at one input. -/
def timesOpensWrong : ChangeSpec := { name := "timesOpens", fn := fun _ => fun
  | [d1, d2] => { results := [.lit (.bool false)], args := [d1, d2] }
  | _ => none }
def TimesOpensWrongFalsely : Prop := timesOpensRow.holds Try.pinned (OpenSpec.ofChange timesOpensWrong)

/- THE SECOND FORM. 'bulk': how many values and letters a reading holds, each counted each time it is reached (what is shared counts as often as it is met; a slice's spare places count too). A statement '..UptoSaid' is the law's where the arguments, and the package variables that the reading takes, are together of bulk at most 1048576: NARROWER than '..Said'. Prove '..Said' where nothing that the law and all that it calls make is longer than what came in: it says more and counts as full. Else prove '..UptoSaid'. A law counts once. -/
mutual
def uptoBulk {H : Type} : DataW H → Nat
  | .lit (.string bytes) => bytes.length + 1
  | .lit _ => 1
  | .nil => 1
  | .ptr d => uptoBulk d + 1
  | .slice elems spare => uptoBulkAll elems + uptoBulkAll spare + 1
  | .agg parts => uptoBulkAll parts + 1
  | .iface _ d => uptoBulk d + 1
  | .map entries => uptoBulkEntries entries + 1
  | .held _ => 1
def uptoBulkAll {H : Type} : List (DataW H) → Nat
  | [] => 0
  | d :: r => uptoBulk d + uptoBulkAll r
def uptoBulkEntries {H : Type} : List (Lit × DataW H) → Nat
  | [] => 0
  | x :: r => uptoBulkEntry x + uptoBulkEntries r
def uptoBulkEntry {H : Type} : Lit × DataW H → Nat
  | (.string bytes, d) => bytes.length + uptoBulk d + 1
  | (_, d) => uptoBulk d + 1
 end
def uptoSmall : (H : Type) → List (DataW H) → Bool := fun _ ds => decide (uptoBulkAll ds ≤ 1048576)
def OpenSpec.upto (s : _root_.Go.ChangeSpec) : _root_.Go.OpenSpec := { _root_.Go.OpenSpec.ofChange s with cond := some uptoSmall }

/-- 'watershedlaw.TimesTells', WHERE WHAT IT READS IS OF BULK AT MOST 1048576: true; the input reads as it did. -/
def timesTellsUptoRow : OpenClaim := { program := "ytgoipkjledmnjaa", sum := "995b950b8e70ab422f47b7fabaa65f821d11417af42942e017652a414ebbebf8", func := "watershed/watershedlaw.TimesTells", spec := "timesTells", unfollowed := true, recurses := true, apart := false, narrowed := true }
def TimesTellsUptoSaid : Prop := timesTellsUptoRow.holds Try.pinned (OpenSpec.upto timesTellsSpec)

/-- 'watershedlaw.TimesFronts', WHERE WHAT IT READS IS OF BULK AT MOST 1048576: true; the input reads as it did. -/
def timesFrontsUptoRow : OpenClaim := { program := "ytgoipkjledmnjaa", sum := "995b950b8e70ab422f47b7fabaa65f821d11417af42942e017652a414ebbebf8", func := "watershed/watershedlaw.TimesFronts", spec := "timesFronts", unfollowed := true, recurses := true, apart := false, narrowed := true }
def TimesFrontsUptoSaid : Prop := timesFrontsUptoRow.holds Try.pinned (OpenSpec.upto timesFrontsSpec)

/-- 'watershedlaw.TimesBefores', WHERE WHAT IT READS IS OF BULK AT MOST 1048576: true; the input reads as it did. -/
def timesBeforesUptoRow : OpenClaim := { program := "ytgoipkjledmnjaa", sum := "995b950b8e70ab422f47b7fabaa65f821d11417af42942e017652a414ebbebf8", func := "watershed/watershedlaw.TimesBefores", spec := "timesBefores", unfollowed := true, recurses := true, apart := false, narrowed := true }
def TimesBeforesUptoSaid : Prop := timesBeforesUptoRow.holds Try.pinned (OpenSpec.upto timesBeforesSpec)

/-- 'watershedkeep.TimesLattice', WHERE WHAT IT READS IS OF BULK AT MOST 1048576: true; the input reads as it did. -/
def timesLatticeUptoRow : OpenClaim := { program := "ytgoipkjledmnjaa", sum := "995b950b8e70ab422f47b7fabaa65f821d11417af42942e017652a414ebbebf8", func := "watershed/watershedkeep.TimesLattice", spec := "timesLattice", unfollowed := true, recurses := true, apart := false, narrowed := true }
def TimesLatticeUptoSaid : Prop := timesLatticeUptoRow.holds Try.pinned (OpenSpec.upto timesLatticeSpec)

/-- 'watershedkeep.TimesExtends', WHERE WHAT IT READS IS OF BULK AT MOST 1048576: true; the input reads as it did. -/
def timesExtendsUptoRow : OpenClaim := { program := "ytgoipkjledmnjaa", sum := "995b950b8e70ab422f47b7fabaa65f821d11417af42942e017652a414ebbebf8", func := "watershed/watershedkeep.TimesExtends", spec := "timesExtends", unfollowed := true, recurses := true, apart := false, narrowed := true }
def TimesExtendsUptoSaid : Prop := timesExtendsUptoRow.holds Try.pinned (OpenSpec.upto timesExtendsSpec)

/-- 'watershedkeep.TimesOpens', WHERE WHAT IT READS IS OF BULK AT MOST 1048576: true; the input reads as it did. -/
def timesOpensUptoRow : OpenClaim := { program := "ytgoipkjledmnjaa", sum := "995b950b8e70ab422f47b7fabaa65f821d11417af42942e017652a414ebbebf8", func := "watershed/watershedkeep.TimesOpens", spec := "timesOpens", unfollowed := true, recurses := true, apart := false, narrowed := true }
def TimesOpensUptoSaid : Prop := timesOpensUptoRow.holds Try.pinned (OpenSpec.upto timesOpensSpec)

end Rows
end Go.Proofs.Ytgoipkjledmnjaa
