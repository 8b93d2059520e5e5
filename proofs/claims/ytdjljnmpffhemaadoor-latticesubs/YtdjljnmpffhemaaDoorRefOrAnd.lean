/- The contracts of the document's Or, And, and of its Below, where they are called in whatever order. -/
import Derived.Test.YtdjljnmpffhemaaDoorLatTwo
import Derived.Lib.QuietBelow
import Derived.BigQuiet
import Derived.Laws.Entries
import Derived.Test.YtdjljnmpffhemaaDoorRefCheck
namespace Go.Proofs.YtdjljnmpffhemaaDoor
open Go.RowKit Go.Shelf

set_option maxRecDepth 100000 in
set_option maxHeartbeats 1000000 in
theorem rOr_any (n : Nat) (aj : Option Addr) (cj : Nat) (am : Option Addr) (cm : Nat) (bt tp : Int) (js : List Nat) (x y n₀ : Nat) (hn : n ≤ 16) (hx : x < n) (hy : y < n) (hl : js.length = n * n) (w : World) (hw : IsInts n₀ w aj js) (hn₀ : n₀ ≤ w.heap.size) :
    Calls Tryd.prog 35 #[.agg #[.slice aj (n * n) cj, .slice am (n * n) cm, .int .i64 bt, .int .i64 tp], .int .i64 n, .int .i64 x, .int .i64 y] w fun e w' => e = .returned (.int .i64 (at2 js n x y : Nat)) ∧ Below w.heap.size w w' := by
  have hpl := place_lt hx hy
  obtain ⟨b, off, rfl, hb, hc⟩ := hw.at (show x * n + y < js.length by rw [hl]; exact hpl)
  have hcx := hc (x * n + y) (by rw [hl]; exact hpl)
  have hbw : b < w.heap.size := by omega
  have hm := mul_in hx hn
  have ha := add_in hx hy hn
  have h256 : n * n ≤ 256 := Nat.mul_le_mul hn hn
  have hpi : ((x * n + y : Nat) : Int) < ((n * n : Nat) : Int) := by omega
  generalize hnn : n * n = nn at *
  generalize hxx : x * n = xx at *
  have e2 : at2 js n x y = wd js (xx + y) := by unfold at2; rw [hxx]
  rw [e2]
  clear hc hl e2 hnn hxx
  go_enter Tryd.func35, Tryd.ntmps35
  go_wp2
  go_ret
  exact ⟨rfl, (Below.refl _ _).alloc (Nat.le_refl _) _⟩
set_option maxRecDepth 100000 in
set_option maxHeartbeats 1000000 in
theorem rAnd_any (n : Nat) (aj : Option Addr) (cj : Nat) (am : Option Addr) (cm : Nat) (bt tp : Int) (ms : List Nat) (x y n₀ : Nat) (hn : n ≤ 16) (hx : x < n) (hy : y < n) (hl : ms.length = n * n) (w : World) (hw : IsInts n₀ w am ms) (hn₀ : n₀ ≤ w.heap.size) :
    Calls Tryd.prog 36 #[.agg #[.slice aj (n * n) cj, .slice am (n * n) cm, .int .i64 bt, .int .i64 tp], .int .i64 n, .int .i64 x, .int .i64 y] w fun e w' => e = .returned (.int .i64 (at2 ms n x y : Nat)) ∧ Below w.heap.size w w' := by
  have hpl := place_lt hx hy
  obtain ⟨b, off, rfl, hb, hc⟩ := hw.at (show x * n + y < ms.length by rw [hl]; exact hpl)
  have hcx := hc (x * n + y) (by rw [hl]; exact hpl)
  have hbw : b < w.heap.size := by omega
  have hm := mul_in hx hn
  have ha := add_in hx hy hn
  have h256 : n * n ≤ 256 := Nat.mul_le_mul hn hn
  have hpi : ((x * n + y : Nat) : Int) < ((n * n : Nat) : Int) := by omega
  generalize hnn : n * n = nn at *
  generalize hxx : x * n = xx at *
  have e2 : at2 ms n x y = wd ms (xx + y) := by unfold at2; rw [hxx]
  rw [e2]
  clear hc hl e2 hnn hxx
  go_enter Tryd.func36, Tryd.ntmps36
  go_wp2
  go_ret
  exact ⟨rfl, (Below.refl _ _).alloc (Nat.le_refl _) _⟩

theorem rOr_re (n : Nat) (aj : Option Addr) (cj : Nat) (am : Option Addr) (cm : Nat) (bt tp : Int) (js : List Nat) (n₀ : Nat) (wB : World) (hn : n ≤ 16) (hl : js.length = n * n) (hw : IsInts n₀ wB aj js) (hn₀ : n₀ ≤ wB.heap.size) (W : World) (hW : Below wB.heap.size wB W) (x y r : Nat) (hx : x < n) (hy : y < n) (hr : at2 js n x y = r) (d : Nat) (os : Array Obj) :
    Calls Tryd.prog 35 #[.agg #[.slice aj (n * n) cj, .slice am (n * n) cm, .int .i64 bt, .int .i64 tp], .int .i64 n, .int .i64 x, .int .i64 y] (Go.Sort.grow (redrawn W d) os) fun e w'' => e = .returned (.int .i64 (r : Nat)) ∧ ∃ p : Regrown, w'' = Go.Sort.grow (redrawn W p.d) p.os := by
  subst hr
  exact Calls.regrown_of (rOr_any n aj cj am cm bt tp js x y n₀ hn hx hy hl (Go.Sort.grow (redrawn W d) os) ((hw.below (hW.mono hn₀)).below ((below_regrown W d os).mono (by have := hW.size; omega))) (by have := (below_regrown W d os).size; have := hW.size; omega))
theorem rAnd_re (n : Nat) (aj : Option Addr) (cj : Nat) (am : Option Addr) (cm : Nat) (bt tp : Int) (ms : List Nat) (n₀ : Nat) (wB : World) (hn : n ≤ 16) (hl : ms.length = n * n) (hw : IsInts n₀ wB am ms) (hn₀ : n₀ ≤ wB.heap.size) (W : World) (hW : Below wB.heap.size wB W) (x y r : Nat) (hx : x < n) (hy : y < n) (hr : at2 ms n x y = r) (d : Nat) (os : Array Obj) :
    Calls Tryd.prog 36 #[.agg #[.slice aj (n * n) cj, .slice am (n * n) cm, .int .i64 bt, .int .i64 tp], .int .i64 n, .int .i64 x, .int .i64 y] (Go.Sort.grow (redrawn W d) os) fun e w'' => e = .returned (.int .i64 (r : Nat)) ∧ ∃ p : Regrown, w'' = Go.Sort.grow (redrawn W p.d) p.os := by
  subst hr
  exact Calls.regrown_of (rAnd_any n aj cj am cm bt tp ms x y n₀ hn hx hy hl (Go.Sort.grow (redrawn W d) os) ((hw.below (hW.mono hn₀)).below ((below_regrown W d os).mono (by have := hW.size; omega))) (by have := (below_regrown W d os).size; have := hW.size; omega))
theorem rBelow_re (n : Int) (a : Option Addr) (cap : Nat) (us : List Nat) (n₀ : Nat) (wB : World) (hf : Fit us) (hl : us.length ≤ 16) (hw : IsWords n₀ wB a us) (hn₀ : n₀ ≤ wB.heap.size) (W : World) (hW : Below wB.heap.size wB W) (x y : Nat) (r : Bool) (hx : x < us.length) (hy : y < us.length) (hr : hasB (wd us x) y = r) (d : Nat) (os : Array Obj) :
    Calls Tryd.prog 38 #[.agg #[.int .i64 n, .slice a us.length cap], .int .i64 x, .int .i64 y] (Go.Sort.grow (redrawn W d) os) fun e w'' => e = .returned (.bool r) ∧ ∃ p : Regrown, w'' = Go.Sort.grow (redrawn W p.d) p.os := by
  subst hr
  exact Calls.regrown_of (Below_any n a cap us x y n₀ hf hx (by omega) (Go.Sort.grow (redrawn W d) os) ((hw.below (hW.mono hn₀)).below ((below_regrown W d os).mono (by have := hW.size; omega))) (by have := (below_regrown W d os).size; have := hW.size; omega))
end Go.Proofs.YtdjljnmpffhemaaDoor
