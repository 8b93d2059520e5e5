/- Contracts: the document's Under, Covered, OrderCovers. Slices of ints in memory; the contract of the document's TimesSame. -/
import Derived.Test.YtilffmalkegioaaDoorPart24
import Derived.Test.YtilffmalkegioaaDoorPart23
import Derived.Test.YtilffmalkegioaaDoorPart5
import Derived.Test.YtilffmalkegioaaDoorPart10
namespace Go.Proofs.YtilffmalkegioaaDoor
open Go.RowKit Go.Shelf

end Go.Proofs.YtilffmalkegioaaDoor

namespace Go.Proofs.YtilffmalkegioaaDoor
open Go.RowKit Go.Shelf

def sameIB (l m : List Nat) : Bool := decide (l = m)
end Go.Proofs.YtilffmalkegioaaDoor
