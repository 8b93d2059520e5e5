/- How a context that came in is opened for the walks: its words in memory. -/
import Derived.Test.YtbnjbnjgfjpegaaRows
import Derived.Test.YtbnjbnjgfjpegaaMarks
import Derived.ProofKit
import Derived.OpenShut
import Derived.Stop.Joined
import Derived.Lib.SmallJoins
import Derived.ChangeOld
import Derived.Below
import Derived.Handed
namespace Go.Proofs.Ytbnjbnjgfjpegaa
open Go.ChangeShapes Go.WideShapes Go.ChangeAt Go.RowKit Go.Joins

theorem own : ownKnob Try.prog.godebug = none := by kernel_rfl
theorem laidOut : laidOutB Try.prog = true := by kernel_rfl
theorem cell_lt {W : World} {a : Addr} {v : Value} (h : W.cell? a = some v) : a.block < W.heap.size := by
  apply Nat.lt_of_not_le
  intro hle
  unfold World.cell? at h
  rw [Array.getElem?_eq_none hle] at h
  simp at h

/-- the numbers of a list of words are words -/
theorem fit_of {zs : List Int} (h : ∀ n ∈ zs, (Lit.int .u32 n).wf = true) (len : Nat) : Fit ((zs.take len).map Int.toNat) := by
  intro i
  unfold wd
  rw [List.getD_eq_getElem?_getD, List.getElem?_map]
  cases hz : (zs.take len)[i]? with
  | none => simp
  | some z =>
    have hm : z ∈ zs := List.mem_of_mem_take (List.mem_of_getElem? hz)
    have hw := bounds_u32 (h z hm)
    simp
    omega

end Go.Proofs.Ytbnjbnjgfjpegaa
