/- The contracts of a table's complemented, of its closure, and of slices.ContainsFunc and IndexFunc at it. -/
import Derived.Test.YtjbfjdijgfhjfaaDoorKindLow
import Derived.Laws.EntriesVeiled
import Derived.Test.YtjbfjdijgfhjfaaDoorTableOk
namespace Go.Proofs.YtjbfjdijgfhjfaaDoor
open Go.RowKit Go.Shelf

/-- are x and y complements of each other? -/
def compB (js ms : List Nat) (n bt tp x y : Nat) : Bool := decide (at2 js n x y = tp) && decide (at2 ms n x y = bt)

/-- is there one of the first k? -/
def anyTo (js ms : List Nat) (n bt tp x k : Nat) : Bool := (List.range k).any fun y => compB js ms n bt tp x y

/-- has each of the first k a complement? -/
def complTo (js ms : List Nat) (n bt tp k : Nat) : Bool := (List.range k).all fun x => anyTo js ms n bt tp x n

end Go.Proofs.YtjbfjdijgfhjfaaDoor
