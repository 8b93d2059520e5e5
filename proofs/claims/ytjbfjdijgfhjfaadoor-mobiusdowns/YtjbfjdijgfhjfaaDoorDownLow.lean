/- The contracts of the program's sets of elements: check, Down. -/
import Derived.Test.YtjbfjdijgfhjfaaDoorDownBit
namespace Go.Proofs.YtjbfjdijgfhjfaaDoor
open Go.RowKit Go.Shelf

theorem shr_out {s n : Nat} (hs : s < 4294967296) : ((s : Int) / 2 ^ n != 0) = outsideB s n := by
  have e : ((s : Int) / 2 ^ n) = ((s / 2 ^ n : Nat) : Int) := by simp
  have hz := shr_zero (n := n) hs
  rw [e]
  cases ho : outsideB s n with
  | false => rw [hz.2 ho]; rfl
  | true =>
    rw [bne_iff_ne]
    intro h
    have : s / 2 ^ n = 0 := by omega
    rw [hz.1 this] at ho
    cases ho

/-- what a call that tells a set answers -/
def setAns (c : Int) (x : Nat) : Ending := .returned (.tuple #[.int .u32 (x : Nat), .int .i64 c])

end Go.Proofs.YtjbfjdijgfhjfaaDoor
