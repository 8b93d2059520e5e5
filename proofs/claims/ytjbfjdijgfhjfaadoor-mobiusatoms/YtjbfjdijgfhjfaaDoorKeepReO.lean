/- The board's or where it is called in whatever order; three numbers that are elements. -/
import Derived.Test.YtjbfjdijgfhjfaaDoorKeepOpen
import Derived.Test.YtjbfjdijgfhjfaaDoorKeepZ
import Derived.Test.YtjbfjdijgfhjfaaDoorTurEx
import Derived.Lib.QuietBelow
import Derived.BigQuiet
namespace Go.Proofs.YtjbfjdijgfhjfaaDoor
open Go.RowKit Go.Shelf

/-- what is asked of three numbers: that they are elements -/
theorem allIn3 {n : Nat} {x y z : Int} : AllIn n [x, y, z] ↔ (0 ≤ x ∧ x < (n : Int)) ∧ (0 ≤ y ∧ y < (n : Int)) ∧ (0 ≤ z ∧ z < (n : Int)) := by
  constructor
  · intro h
    exact ⟨h 0 (by simp), h 1 (by simp), h 2 (by simp)⟩
  · rintro ⟨h1, h2, h3⟩ i hi
    match i, hi with
    | 0, _ => exact h1
    | 1, _ => exact h2
    | 2, _ => exact h3
theorem zints3 (W : World) (t : TypeId) (x y z : Int) : ZInts (W.heap.size + 1) (W.alloc (.cells #[.int .i64 x, .int .i64 y, .int .i64 z] t)) (some ⟨W.heap.size, 0, none⟩) [x, y, z] := by
  have r := Row.new W t [.int .i64 x, .int .i64 y, .int .i64 z]
  refine .inr ⟨W.heap.size, 0, rfl, by omega, fun i hi => ?_⟩
  match i, hi with
  | 0, _ => exact r.cell (i := 0) rfl
  | 1, _ => exact r.cell (i := 1) rfl
  | 2, _ => exact r.cell (i := 2) rfl

/-- the board's or and and, where they are called in whatever order and blocks are made meanwhile -/
theorem bor_re (n : Nat) (a : Option Addr) (cap : Nat) (aj : Option Addr) (cj : Nat) (am : Option Addr) (cm : Nat) (bt tp : Int) (js : List Nat) (wB : World) (hn : n ≤ 16) (hl : js.length = n * n) (hw : IsInts wB.heap.size wB aj js) (W : World) (hW : Below wB.heap.size wB W) (x y r : Nat) (hx : x < n) (hy : y < n) (hr : at2 js n x y = r) (d : Nat) (os : Array Obj) :
    Calls Tryd.prog 9 #[.agg #[.int .i64 n, .slice a n cap, .slice aj (n * n) cj, .slice am (n * n) cm, .int .i64 bt, .int .i64 tp, .bool false], .int .i64 x, .int .i64 y] (Go.Sort.grow (redrawn W d) os) fun e w'' => e = .returned (.int .i64 (r : Nat)) ∧ ∃ p : Regrown, w'' = Go.Sort.grow (redrawn W p.d) p.os := by
  subst hr
  exact Calls.regrown_of (bor_any n a cap aj cj am cm bt tp false js x y wB.heap.size hn hx hy hl (Go.Sort.grow (redrawn W d) os) ((hw.below hW).below ((below_regrown W d os).mono hW.size)) (by have := (below_regrown W d os).size; have := hW.size; omega))
end Go.Proofs.YtjbfjdijgfhjfaaDoor
