/- Two summaries in blocks of their own. -/
import Derived.Test.YtfnlcdbhebbimaaTimPlain
namespace Go.Proofs.Ytfnlcdbhebbimaa
open Go.RowKit Go.Shelf

/-- two summaries in blocks of their own -/
theorem sum_rows (w : World) (p0 p1 p2 q0 q1 q2 : Value) {W : World} (h : (w.alloc (.cells #[p0, p1, p2] 37)).alloc (.cells #[q0, q1, q2] 37) = W) :
    Row W w.heap.size 37 [p0, p1, p2] ∧ Row W (w.heap.size + 1) 37 [q0, q1, q2] ∧ Below w.heap.size w W ∧ W.heap.size = w.heap.size + 2 := by
  subst h
  have r0 := Row.new w 37 [p0, p1, p2]
  have r1 := Row.new (w.alloc (.cells #[p0, p1, p2] 37)) 37 [q0, q1, q2]
  rw [World.size_alloc] at r1
  exact ⟨r0.alloc _, r1, ((Below.refl _ _).alloc (Nat.le_refl _) _).alloc (by simp) _, by simp⟩
end Go.Proofs.Ytfnlcdbhebbimaa
