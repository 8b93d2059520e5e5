/- The board's or and and, and watershedkeep's below, where they are called in whatever order; three numbers that are elements. The contract of refused. -/
import Derived.Test.YtdomcjfgmnpbmaaDoorPart32
import Derived.Test.YtdomcjfgmnpbmaaDoorPart33
import Derived.Test.YtdomcjfgmnpbmaaDoorPart17
import Derived.Lib.QuietBelow
import Derived.BigQuiet
import Derived.Test.YtdomcjfgmnpbmaaDoorPart8
import Derived.Test.YtdomcjfgmnpbmaaDoorPart31
namespace Go.Proofs.YtdomcjfgmnpbmaaDoor
open Go.RowKit Go.Shelf

/-- what is asked of three numbers: that they are elements -/
theorem allIn3 {n : Nat} {x y z : Int} : AllIn n [x, y, z] ↔ (0 ≤ x ∧ x < (n : Int)) ∧ (0 ≤ y ∧ y < (n : Int)) ∧ (0 ≤ z ∧ z < (n : Int)) := by
  constructor
  · intro h
    exact ⟨h 0 (by simp), h 1 (by simp), h 2 (by simp)⟩
  · rintro ⟨h1, h2, h3⟩ i hi
    match i, hi with
    | 0, _ => exact h1
    | 1, _ => exact h2
    | 2, _ => exact h3
theorem zints3 (W : World) (t : TypeId) (x y z : Int) : ZInts (W.heap.size + 1) (W.alloc (.cells #[.int .i64 x, .int .i64 y, .int .i64 z] t)) (some ⟨W.heap.size, 0, none⟩) [x, y, z] := by
  have r := Row.new W t [.int .i64 x, .int .i64 y, .int .i64 z]
  refine .inr ⟨W.heap.size, 0, rfl, by omega, fun i hi => ?_⟩
  match i, hi with
  | 0, _ => exact r.cell (i := 0) rfl
  | 1, _ => exact r.cell (i := 1) rfl
  | 2, _ => exact r.cell (i := 2) rfl

/-- the board's or and and, where they are called in whatever order and blocks are made meanwhile -/
theorem bor_re (n : Nat) (a : Option Addr) (cap : Nat) (aj : Option Addr) (cj : Nat) (am : Option Addr) (cm : Nat) (bt tp : Int) (js : List Nat) (wB : World) (hn : n ≤ 16) (hl : js.length = n * n) (hw : IsInts wB.heap.size wB aj js) (W : World) (hW : Below wB.heap.size wB W) (x y r : Nat) (hx : x < n) (hy : y < n) (hr : at2 js n x y = r) (d : Nat) (os : Array Obj) :
    Calls Tryd.prog 25 #[.agg #[.int .i64 n, .slice a n cap, .slice aj (n * n) cj, .slice am (n * n) cm, .int .i64 bt, .int .i64 tp, .bool false], .int .i64 x, .int .i64 y] (Go.Sort.grow (redrawn W d) os) fun e w'' => e = .returned (.int .i64 (r : Nat)) ∧ ∃ p : Regrown, w'' = Go.Sort.grow (redrawn W p.d) p.os := by
  subst hr
  exact Calls.regrown_of (bor_any n a cap aj cj am cm bt tp false js x y wB.heap.size hn hx hy hl (Go.Sort.grow (redrawn W d) os) ((hw.below hW).below ((below_regrown W d os).mono hW.size)) (by have := (below_regrown W d os).size; have := hW.size; omega))
theorem band_re (n : Nat) (a : Option Addr) (cap : Nat) (aj : Option Addr) (cj : Nat) (am : Option Addr) (cm : Nat) (bt tp : Int) (ms : List Nat) (wB : World) (hn : n ≤ 16) (hl : ms.length = n * n) (hw : IsInts wB.heap.size wB am ms) (W : World) (hW : Below wB.heap.size wB W) (x y r : Nat) (hx : x < n) (hy : y < n) (hr : at2 ms n x y = r) (d : Nat) (os : Array Obj) :
    Calls Tryd.prog 24 #[.agg #[.int .i64 n, .slice a n cap, .slice aj (n * n) cj, .slice am (n * n) cm, .int .i64 bt, .int .i64 tp, .bool false], .int .i64 x, .int .i64 y] (Go.Sort.grow (redrawn W d) os) fun e w'' => e = .returned (.int .i64 (r : Nat)) ∧ ∃ p : Regrown, w'' = Go.Sort.grow (redrawn W p.d) p.os := by
  subst hr
  exact Calls.regrown_of (band_any n a cap aj cj am cm bt tp false ms x y wB.heap.size hn hx hy hl (Go.Sort.grow (redrawn W d) os) ((hw.below hW).below ((below_regrown W d os).mono hW.size)) (by have := (below_regrown W d os).size; have := hW.size; omega))

theorem kbelow_re (n : Int) (a : Option Addr) (cap : Nat) (us : List Nat) (n₀ : Nat) (wB : World) (hf : Fit us) (hl : us.length ≤ 16) (hw : IsWords n₀ wB a us) (hn₀ : n₀ ≤ wB.heap.size) (W : World) (hW : Below wB.heap.size wB W) (x y : Nat) (r : Bool) (hx : x < us.length) (hy : y < us.length) (hr : hasB (wd us x) y = r) (d : Nat) (os : Array Obj) :
    Calls Tryd.prog 29 #[.agg #[.int .i64 n, .slice a us.length cap], .int .i64 x, .int .i64 y] (Go.Sort.grow (redrawn W d) os) fun e w'' => e = .returned (.bool r) ∧ ∃ p : Regrown, w'' = Go.Sort.grow (redrawn W p.d) p.os := by
  subst hr
  exact Calls.regrown_of (kbelow_any n a cap us x y n₀ hf hx (by omega) (Go.Sort.grow (redrawn W d) os) ((hw.below (hW.mono hn₀)).below ((below_regrown W d os).mono (by have := hW.size; omega))) (by have := (below_regrown W d os).size; have := hW.size; omega))
end Go.Proofs.YtdomcjfgmnpbmaaDoor

namespace Go.Proofs.YtdomcjfgmnpbmaaDoor
open Go.RowKit Go.Shelf

theorem refused_any (n : Int) (a : Option Addr) (cap : Nat) (us : List Nat) (n₀ : Nat) (hf : Fit us) (w : World) (hT : TabAt w) (hw : IsWords n₀ w a us) (hg : 0 < n₀) (hn₀ : n₀ ≤ w.heap.size) :
    Calls Tryd.prog 18 #[.agg #[.int .i64 n, .slice a us.length cap]] w fun e w' => e = .returned (.bool (codeOf n us != 0)) ∧ Below w.heap.size w w' := by
  have hb0 : Below w.heap.size w (w.alloc (.cells #[.int .i64 n, .slice a us.length cap] 24)) := (Below.refl _ _).alloc (Nat.le_refl _) _
  have hck := Check_any n a cap us n₀ hf _ (hT.below hb0 (by omega)) (hw.below (hb0.mono hn₀)) hg (by simp; omega)
  generalize codeOf n us = c at *
  have Hb := hide hb0
  clear hb0
  go_enter Tryd.func18, Tryd.ntmps18
  go_wp2_with (go_at_call 38; refine hck.mono ?_; rintro e w1 ⟨rfl, hb1⟩)
  go_ret
  exact ⟨rfl, Hb.out.trans (hb1.mono (by simp))⟩

end Go.Proofs.YtdomcjfgmnpbmaaDoor
