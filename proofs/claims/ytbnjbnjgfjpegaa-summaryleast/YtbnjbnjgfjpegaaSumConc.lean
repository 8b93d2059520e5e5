/- The contract of slices.Concat at two lists of numbers. -/
import Derived.Test.YtbnjbnjgfjpegaaShelfGrowZ
import Derived.Test.YtbnjbnjgfjpegaaSumLow
import Derived.Lib.SliceRun
import Derived.Lib.SmallJoins
import Derived.Laws.AppendOwnNone
namespace Go.Proofs.Ytbnjbnjgfjpegaa
open Go.RowKit Go.Shelf

theorem int_info : ∃ i0, Try.prog.info? 3 = some i0 ∧ i0.zero = some (.int .i64 0) ∧ i0.size = 1 ∧ i0.bytes = 8 := by
  obtain ⟨i0, hi, hz0, hz1, hz2⟩ := info_parts info_int
  exact ⟨i0, hi, hz0, hz1, hz2⟩
/-- an own row's value is a slice -/
theorem own_slice {W : World} {base : Nat} {t : TypeId} {v : Value} {k : Nat} {xs : List Value} (h : W.ownsRow base t 1 v k xs) : ∃ av cv, v = .slice av k cv := by
  rcases h.2 with ⟨h1, h2⟩ | ⟨g, c, cur, h1, _⟩
  · exact ⟨none, 0, by rw [h1, h2]⟩
  · exact ⟨_, _, h1⟩

end Go.Proofs.Ytbnjbnjgfjpegaa
