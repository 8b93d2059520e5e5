/- Contracts: the document's Under, Covered, OrderCovers. -/
import Derived.Test.YtilffmalkegioaaDoorRefCovered
import Derived.Test.YtilffmalkegioaaDoorPairMem
import Derived.Test.YtilffmalkegioaaDoorBoxMore
namespace Go.Proofs.YtilffmalkegioaaDoor
open Go.RowKit Go.Shelf

end Go.Proofs.YtilffmalkegioaaDoor
