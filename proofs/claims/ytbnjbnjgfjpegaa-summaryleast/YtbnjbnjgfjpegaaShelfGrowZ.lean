/- A contract of the library is laid at this program. -/
import Derived.Shelf.Spec.SlicesGrow
import Derived.Test.YtbnjbnjgfjpegaaProg
namespace Go.Proofs
open Go.Shelf
end Go.Proofs
