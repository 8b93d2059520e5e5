/- The contracts of a table's Below, distributes, modulates. -/
import Derived.Test.YtjbfjdijgfhjfaaDoorLatTwo
import Derived.Test.YtjbfjdijgfhjfaaDoorLatErr
import Derived.Lib.QuietBelow
import Derived.BigQuiet
import Derived.Laws.Entries
namespace Go.Proofs.YtjbfjdijgfhjfaaDoor
open Go.RowKit Go.Shelf

/-- the table's join and meet, where they are called in whatever order -/
theorem tjoin_re (n : Nat) (a : Option Addr) (cap : Nat) (aj : Option Addr) (cj : Nat) (am : Option Addr) (cm : Nat) (bt tp : Int) (js : List Nat) (n₀ : Nat) (hn : n ≤ 16) (hl : js.length = n * n) (W : World) (hw : IsInts n₀ W aj js) (hn₀ : n₀ ≤ W.heap.size) (x y r : Nat) (hx : x < n) (hy : y < n) (hr : at2 js n x y = r) (d : Nat) (os : Array Obj) :
    Calls Tryd.prog 60 #[.agg #[.int .i64 n, .slice a n cap, .slice aj (n * n) cj, .slice am (n * n) cm, .int .i64 bt, .int .i64 tp], .int .i64 x, .int .i64 y] (Go.Sort.grow (redrawn W d) os) fun e w'' => e = .returned (.int .i64 (r : Nat)) ∧ ∃ p : Regrown, w'' = Go.Sort.grow (redrawn W p.d) p.os := by
  subst hr
  exact Calls.regrown_of (tjoin_any n a cap aj cj am cm bt tp js x y n₀ hn hx hy hl (Go.Sort.grow (redrawn W d) os) (hw.below ((below_regrown W d os).mono hn₀)) (by have := (below_regrown W d os).size; omega))
theorem tmeet_re (n : Nat) (a : Option Addr) (cap : Nat) (aj : Option Addr) (cj : Nat) (am : Option Addr) (cm : Nat) (bt tp : Int) (ms : List Nat) (n₀ : Nat) (hn : n ≤ 16) (hl : ms.length = n * n) (W : World) (hw : IsInts n₀ W am ms) (hn₀ : n₀ ≤ W.heap.size) (x y r : Nat) (hx : x < n) (hy : y < n) (hr : at2 ms n x y = r) (d : Nat) (os : Array Obj) :
    Calls Tryd.prog 59 #[.agg #[.int .i64 n, .slice a n cap, .slice aj (n * n) cj, .slice am (n * n) cm, .int .i64 bt, .int .i64 tp], .int .i64 x, .int .i64 y] (Go.Sort.grow (redrawn W d) os) fun e w'' => e = .returned (.int .i64 (r : Nat)) ∧ ∃ p : Regrown, w'' = Go.Sort.grow (redrawn W p.d) p.os := by
  subst hr
  exact Calls.regrown_of (tmeet_any n a cap aj cj am cm bt tp ms x y n₀ hn hx hy hl (Go.Sort.grow (redrawn W d) os) (hw.below ((below_regrown W d os).mono hn₀)) (by have := (below_regrown W d os).size; omega))

/-- the law of modular lattices at three elements -/
def modB (js ms : List Nat) (n x y z : Nat) : Bool := !decide (at2 js n x z = z) || decide (at2 js n x (at2 ms n y z) = at2 ms n (at2 js n x y) z)
def disB (js ms : List Nat) (n x y z : Nat) : Bool := decide (at2 ms n x (at2 js n y z) = at2 js n (at2 ms n x y) (at2 ms n x z))

end Go.Proofs.YtjbfjdijgfhjfaaDoor
