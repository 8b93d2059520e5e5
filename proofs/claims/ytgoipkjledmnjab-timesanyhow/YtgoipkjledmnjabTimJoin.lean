/- The contracts of package times' together, Join and Meet; and of the document's TimesJoin. -/
import Derived.Test.YtgoipkjledmnjabTimLess
namespace Go.Proofs.Ytgoipkjledmnjab
open Go.RowKit Go.Shelf

theorem greater_any (x y : Int) (w : World) : Calls Try.prog 21 #[.int .i64 x, .int .i64 y] w fun e w' => e = .returned (.int .i64 (pickZ true x y)) ∧ w' = w := by
  go_enter Try.func21, Try.ntmps21
  go_wp2
  all_goals
    go_ret
    exact ⟨ret_int (by unfold pickZ; simp; omega), rfl⟩
def joinErr (c : Int) : Ending := .returned (.tuple #[.slice none 0 0, .int .i64 c])
theorem joinT_take (up : Bool) (a b : List Int) (k : Nat) : (List.range (k + 1)).map (fun i => if up then max (zd a i) (zd b i) else min (zd a i) (zd b i)) = (List.range k).map (fun i => if up then max (zd a i) (zd b i) else min (zd a i) (zd b i)) ++ [pickZ up (zd a k) (zd b k)] := by
  rw [List.range_succ, List.map_append]; rfl
def joinK (up : Bool) (a b : List Int) (k : Nat) : List Int := (List.range k).map fun i => if up then max (zd a i) (zd b i) else min (zd a i) (zd b i)
theorem joinK_succ (up : Bool) (a b : List Int) (k : Nat) : joinK up a b (k + 1) = joinK up a b k ++ [pickZ up (zd a k) (zd b k)] := joinT_take up a b k
theorem joinK_len (up : Bool) (a b : List Int) (k : Nat) : (joinK up a b k).length = k := by unfold joinK; simp
end Go.Proofs.Ytgoipkjledmnjab
