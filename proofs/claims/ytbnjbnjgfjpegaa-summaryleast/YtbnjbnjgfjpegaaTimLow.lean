/- The contracts of package times' Check, of its closure, of slices' ContainsFunc and IndexFunc at it; and of the document's TimesCheck. -/
import Derived.Test.YtbnjbnjgfjpegaaTimPlain
import Derived.Lib.QuietBelow
import Derived.BigQuiet
namespace Go.Proofs.Ytbnjbnjgfjpegaa
open Go.RowKit Go.Shelf

end Go.Proofs.Ytbnjbnjgfjpegaa
