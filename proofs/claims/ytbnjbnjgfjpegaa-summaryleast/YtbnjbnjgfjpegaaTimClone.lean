/- The contracts of slices.Clone at numbers and at lists of numbers. -/
import Derived.Test.YtbnjbnjgfjpegaaTimOpen
import Derived.Lib.SliceRun
namespace Go.Proofs.Ytbnjbnjgfjpegaa
open Go.RowKit Go.Shelf

theorem info_zs : (Try.prog.info? 30).map (fun i => (i.zero, i.size, i.bytes)) = some (some (.slice none 0 0), 1, 24) := by kernel_rfl
end Go.Proofs.Ytbnjbnjgfjpegaa
