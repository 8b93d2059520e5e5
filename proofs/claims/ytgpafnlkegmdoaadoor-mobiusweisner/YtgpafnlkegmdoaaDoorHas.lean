/- Slices of ints in memory; the contract of the document's Has. -/
import Derived.Test.YtgpafnlkegmdoaaDoorIntVals
import Derived.Test.YtgpafnlkegmdoaaDoorRefCheck
namespace Go.Proofs.YtgpafnlkegmdoaaDoor
open Go.RowKit Go.Shelf

end Go.Proofs.YtgpafnlkegmdoaaDoor
