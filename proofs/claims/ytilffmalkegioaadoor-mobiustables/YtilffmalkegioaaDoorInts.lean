/- Slices of ints in memory; the contract of the document's TimesSame. -/
import Derived.Test.YtilffmalkegioaaDoorIntVals
import Derived.Test.YtilffmalkegioaaDoorRefCheck
namespace Go.Proofs.YtilffmalkegioaaDoor
open Go.RowKit Go.Shelf

def sameIB (l m : List Nat) : Bool := decide (l = m)
end Go.Proofs.YtilffmalkegioaaDoor
