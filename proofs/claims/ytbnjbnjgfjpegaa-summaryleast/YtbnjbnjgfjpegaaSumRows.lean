/- Two summaries in blocks of their own. -/
import Derived.Test.YtbnjbnjgfjpegaaTimPlain
namespace Go.Proofs.Ytbnjbnjgfjpegaa
open Go.RowKit Go.Shelf

/-- two summaries in blocks of their own -/
theorem sum_rows (w : World) (p0 p1 p2 q0 q1 q2 : Value) {W : World} (h : (w.alloc (.cells #[p0, p1, p2] 32)).alloc (.cells #[q0, q1, q2] 32) = W) :
    Row W w.heap.size 32 [p0, p1, p2] ∧ Row W (w.heap.size + 1) 32 [q0, q1, q2] ∧ Below w.heap.size w W ∧ W.heap.size = w.heap.size + 2 := by
  subst h
  have r0 := Row.new w 32 [p0, p1, p2]
  have r1 := Row.new (w.alloc (.cells #[p0, p1, p2] 32)) 32 [q0, q1, q2]
  rw [World.size_alloc] at r1
  exact ⟨r0.alloc _, r1, ((Below.refl _ _).alloc (Nat.le_refl _) _).alloc (by simp) _, by simp⟩
end Go.Proofs.Ytbnjbnjgfjpegaa
