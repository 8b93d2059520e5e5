/- The contracts of package times' checkPair and Leq, of slices.Compare and Less; and of the document's TimesPair, TimesLeq, TimesLess, TimesSame. -/
import Derived.Test.YtbnjbnjgfjpegaaTimLow
namespace Go.Proofs.Ytbnjbnjgfjpegaa
open Go.RowKit Go.Shelf

end Go.Proofs.Ytbnjbnjgfjpegaa
