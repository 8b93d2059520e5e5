/- Slices of ints in memory; the contract of the document's Has. -/
import Derived.Test.YtekpielpfegclabDoorIntVals
import Derived.Test.YtekpielpfegclabDoorRefCheck
namespace Go.Proofs.YtekpielpfegclabDoor
open Go.RowKit Go.Shelf

end Go.Proofs.YtekpielpfegclabDoor
