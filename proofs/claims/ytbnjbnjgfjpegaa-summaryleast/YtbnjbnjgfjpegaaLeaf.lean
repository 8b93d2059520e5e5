/- The contracts of the smallest functions: bit, has, all, bitsOf and its closure, math/bits.TrailingZeros64; and of the document's Bit. -/
import Derived.RangeFuncNested
import Derived.RangeFuncBound
import Derived.RangeFuncCalls
import Derived.RangeFuncLeaves
import Derived.Shelf.Abstract
import Derived.Shelf.RegionOpen
import Derived.WalkKit
import Derived.OwnWalkIn
import Derived.TacticsInMore
import Derived.LoopNIn
import Derived.LoopIn
import Derived.Test.YtbnjbnjgfjpegaaProg
import Derived.Test.YtbnjbnjgfjpegaaWords
namespace Go.Proofs.Ytbnjbnjgfjpegaa
open Go.RowKit Go.Shelf
attribute [local go_sem] Oper.semAt_some

theorem wide_fn : ∀ f, Fence.wide.fn f := fun _ => trivial
theorem wide_depth : Fence.wide.depth.isSome = false := rfl
theorem hide {p : Prop} (h : p) : Hid p := h
theorem ret_int {k : IntKind} {a b : Int} (h : a = b) : Ending.returned (.int k a) = .returned (.int k b) := by rw [h]
theorem ret_bool {a b : Bool} (h : a = b) : Ending.returned (.bool a) = .returned (.bool b) := by rw [h]

theorem bit_raw {i : Nat} (hi : i < 32) : ((2 : Int) ^ i % 4294967296) = ((bitW i : Nat) : Int) := by
  have h := bitW_lt hi
  have e : ((2 : Int) ^ i) = ((bitW i : Nat) : Int) := by unfold bitW; simp
  rw [e]; omega
end Go.Proofs.Ytbnjbnjgfjpegaa
