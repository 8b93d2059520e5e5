/-
  No cell of these rows narrows 'for every input' (looked for: loops, veiled, ifaces, maps, wideKeys, modest, calm, conditions, laid).
  DERIVED. THE GIVEN ROWS OF THIS SEAT. 2 by the template 'for every input the law returns true; each argument reads behind the call as it read before'; 0 by the template 'total and deterministic' (their statements: YtdeglbmoiofpoaaTotals.lean).
  GIVEN WITH THE SEED: the statements are not yours to turn. If you find one false, say at which input.
  Laid BY PROGRAM, IN A SANDBOX (cutbox-rows.mjs): the forced cells as the released guide's own fill.sh prints them over the translation c63aa9e9f236ebb9… (all of the seat's roots in one cut). By AI agents, Wed Nov 11 2026. No macro, syntax, notation, axiom, sorry.
-/
import Derived.Test.YtdeglbmoiofpoaaChecked
import GoSem.Claim
import GoSem.ClaimJoined
import GoSem.ClaimMapViews
import Derived.JoinedTies
import Derived.KernelRfl
namespace Go.Proofs.Ytdeglbmoiofpoaa
/- THE CELL 'sum', in the pinned program and in every row, IS THE sha256 OF THE DUMP (.gsa) THAT YtdeglbmoiofpoaaProg.lean LOADS. Nothing in Lean hashes anything: it is a label: what it is worth is what the hold of that sum in a sandbox is worth. -/
noncomputable def Try.pinned : Pinned := { name := "ytdeglbmoiofpoaa", sum := "c63aa9e9f236ebb985f713838f84b4591d9c885b4cd53305e9bc58548bb06b2e", checked := Try.checked }
namespace Rows
def none {H : Type} : Left H := { results := [], args := [] }

/-- 'watershedlaw.PolarConcepts': WHATEVER THE INPUT: true; the input reads as it did. -/
def polarConceptsSpec : ChangeSpec := { name := "polarConcepts", fn := fun _ => fun
  | [d] => { results := [.lit (.bool true)], args := [d] }
  | _ => none }
def polarConceptsRow : OpenClaim := { program := "ytdeglbmoiofpoaa", sum := "c63aa9e9f236ebb985f713838f84b4591d9c885b4cd53305e9bc58548bb06b2e", func := "watershed/watershedlaw.PolarConcepts", spec := "polarConcepts", unfollowed := true, recurses := true, apart := false }
def PolarConceptsSaid : Prop := polarConceptsRow.holds Try.pinned (OpenSpec.ofChange polarConceptsSpec)

/-- ITS FALSE NEIGHBOUR: 'it returns false'. Refute it at one input. -/
def polarConceptsWrong : ChangeSpec := { name := "polarConcepts", fn := fun _ => fun
  | [d] => { results := [.lit (.bool false)], args := [d] }
  | _ => none }
def PolarConceptsWrongFalsely : Prop := polarConceptsRow.holds Try.pinned (OpenSpec.ofChange polarConceptsWrong)

/-- 'watershedkeep.PolarMeets': WHATEVER THE INPUT: true; the input reads as it did. -/
def polarMeetsSpec : ChangeSpec := { name := "polarMeets", fn := fun _ => fun
  | [d] => { results := [.lit (.bool true)], args := [d] }
  | _ => none }
def polarMeetsRow : OpenClaim := { program := "ytdeglbmoiofpoaa", sum := "c63aa9e9f236ebb985f713838f84b4591d9c885b4cd53305e9bc58548bb06b2e", func := "watershed/watershedkeep.PolarMeets", spec := "polarMeets", unfollowed := true, recurses := true, apart := false }
def PolarMeetsSaid : Prop := polarMeetsRow.holds Try.pinned (OpenSpec.ofChange polarMeetsSpec)

/-- ITS FALSE NEIGHBOUR: 'it returns false'. Refute it at one input. -/
def polarMeetsWrong : ChangeSpec := { name := "polarMeets", fn := fun _ => fun
  | [d] => { results := [.lit (.bool false)], args := [d] }
  | _ => none }
def PolarMeetsWrongFalsely : Prop := polarMeetsRow.holds Try.pinned (OpenSpec.ofChange polarMeetsWrong)

/- THE SECOND FORM. 'bulk': how many values and letters a reading holds, each counted each time it is reached (what is shared counts as often as it is met; a slice's spare places count too). A statement '..UptoSaid' is the law's where the arguments, and the package variables that the reading takes, are together of bulk at most 1048576: NARROWER than '..Said'. Prove '..Said' where nothing that the law and all that it calls make is longer than what came in: it says more and counts as full. Else prove '..UptoSaid'. A law counts once. -/
mutual
def uptoBulk {H : Type} : DataW H → Nat
  | .lit (.string bytes) => bytes.length + 1
  | .lit _ => 1
  | .nil => 1
  | .ptr d => uptoBulk d + 1
  | .slice elems spare => uptoBulkAll elems + uptoBulkAll spare + 1
  | .agg parts => uptoBulkAll parts + 1
  | .iface _ d => uptoBulk d + 1
  | .map entries => uptoBulkEntries entries + 1
  | .held _ => 1
def uptoBulkAll {H : Type} : List (DataW H) → Nat
  | [] => 0
  | d :: r => uptoBulk d + uptoBulkAll r
def uptoBulkEntries {H : Type} : List (Lit × DataW H) → Nat
  | [] => 0
  | x :: r => uptoBulkEntry x + uptoBulkEntries r
def uptoBulkEntry {H : Type} : Lit × DataW H → Nat
  | (.string bytes, d) => bytes.length + uptoBulk d + 1
  | (_, d) => uptoBulk d + 1
 end
def uptoSmall : (H : Type) → List (DataW H) → Bool := fun _ ds => decide (uptoBulkAll ds ≤ 1048576)
def OpenSpec.upto (s : _root_.Go.ChangeSpec) : _root_.Go.OpenSpec := { _root_.Go.OpenSpec.ofChange s with cond := some uptoSmall }

/-- 'watershedlaw.PolarConcepts', WHERE WHAT IT READS IS OF BULK AT MOST 1048576: true; the input reads as it did. -/
def polarConceptsUptoRow : OpenClaim := { program := "ytdeglbmoiofpoaa", sum := "c63aa9e9f236ebb985f713838f84b4591d9c885b4cd53305e9bc58548bb06b2e", func := "watershed/watershedlaw.PolarConcepts", spec := "polarConcepts", unfollowed := true, recurses := true, apart := false, narrowed := true }
def PolarConceptsUptoSaid : Prop := polarConceptsUptoRow.holds Try.pinned (OpenSpec.upto polarConceptsSpec)

/-- 'watershedkeep.PolarMeets', WHERE WHAT IT READS IS OF BULK AT MOST 1048576: true; the input reads as it did. -/
def polarMeetsUptoRow : OpenClaim := { program := "ytdeglbmoiofpoaa", sum := "c63aa9e9f236ebb985f713838f84b4591d9c885b4cd53305e9bc58548bb06b2e", func := "watershed/watershedkeep.PolarMeets", spec := "polarMeets", unfollowed := true, recurses := true, apart := false, narrowed := true }
def PolarMeetsUptoSaid : Prop := polarMeetsUptoRow.holds Try.pinned (OpenSpec.upto polarMeetsSpec)

end Rows
end Go.Proofs.Ytdeglbmoiofpoaa
