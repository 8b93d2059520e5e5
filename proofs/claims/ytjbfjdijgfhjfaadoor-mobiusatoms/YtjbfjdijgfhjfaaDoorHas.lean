/- Slices of ints in memory; the contract of the document's Has. -/
import Derived.Test.YtjbfjdijgfhjfaaDoorIntVals
import Derived.Test.YtjbfjdijgfhjfaaDoorRefCheck
namespace Go.Proofs.YtjbfjdijgfhjfaaDoor
open Go.RowKit Go.Shelf

end Go.Proofs.YtjbfjdijgfhjfaaDoor
