/- The contracts of package times' together, Join and Meet; and of the document's TimesJoin. -/
import Derived.Test.YtdknniomgdjbfabTimLess
namespace Go.Proofs.Ytdknniomgdjbfab
open Go.RowKit Go.Shelf

def joinErr (c : Int) : Ending := .returned (.tuple #[.slice none 0 0, .int .i64 c])
theorem joinT_take (up : Bool) (a b : List Int) (k : Nat) : (List.range (k + 1)).map (fun i => if up then max (zd a i) (zd b i) else min (zd a i) (zd b i)) = (List.range k).map (fun i => if up then max (zd a i) (zd b i) else min (zd a i) (zd b i)) ++ [pickZ up (zd a k) (zd b k)] := by
  rw [List.range_succ, List.map_append]; rfl
def joinK (up : Bool) (a b : List Int) (k : Nat) : List Int := (List.range k).map fun i => if up then max (zd a i) (zd b i) else min (zd a i) (zd b i)
theorem joinK_succ (up : Bool) (a b : List Int) (k : Nat) : joinK up a b (k + 1) = joinK up a b k ++ [pickZ up (zd a k) (zd b k)] := joinT_take up a b k
theorem joinK_len (up : Bool) (a b : List Int) (k : Nat) : (joinK up a b k).length = k := by unfold joinK; simp
end Go.Proofs.Ytdknniomgdjbfab
