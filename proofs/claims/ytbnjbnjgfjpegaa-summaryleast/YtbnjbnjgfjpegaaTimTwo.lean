/- The contracts of package times' Leq, of the document's TimesLeq and TimesPair. -/
import Derived.Test.YtbnjbnjgfjpegaaTimPair
import Derived.Test.YtbnjbnjgfjpegaaTimSame
namespace Go.Proofs.Ytbnjbnjgfjpegaa
open Go.RowKit Go.Shelf

end Go.Proofs.Ytbnjbnjgfjpegaa
