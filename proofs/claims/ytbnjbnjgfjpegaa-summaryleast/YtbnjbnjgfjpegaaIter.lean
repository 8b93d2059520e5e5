/- The contract of bitsOf and of the iterator that it hands back: the elements of the word, the least one first. -/
import Derived.Test.YtbnjbnjgfjpegaaLeaf
namespace Go.Proofs.Ytbnjbnjgfjpegaa
open Go.RowKit Go.Shelf
attribute [local go_sem] Oper.semAt_some

theorem pop_step (r : Nat) (hr : r ≠ 0) (h : r < 4294967296) : bits BinOp.and IntKind.u64 (r : Int) (((r : Int) - 1)) = ((popW r : Nat) : Int) := by
  have e : ((r : Int) - 1) = ((r - 1 : Nat) : Int) := by omega
  rw [e, bits_and_u64_nat r (r - 1) (by omega) (by omega)]; rfl

end Go.Proofs.Ytbnjbnjgfjpegaa
