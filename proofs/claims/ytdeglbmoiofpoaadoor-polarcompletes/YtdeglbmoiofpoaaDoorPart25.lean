/- The contracts of package times' Check, of its closure, of slices' ContainsFunc and IndexFunc at it; and of the document's TimesCheck. The contracts of package times' checkPair and Leq, of slices.Compare and Less; and of the document's TimesPair, TimesLeq, TimesLess, TimesSame. -/
import Derived.Test.YtdeglbmoiofpoaaDoorPart24
import Derived.Lib.QuietBelow
import Derived.BigQuiet
namespace Go.Proofs.YtdeglbmoiofpoaaDoor
open Go.RowKit Go.Shelf

end Go.Proofs.YtdeglbmoiofpoaaDoor

namespace Go.Proofs.YtdeglbmoiofpoaaDoor
open Go.RowKit Go.Shelf

end Go.Proofs.YtdeglbmoiofpoaaDoor
