/- The contracts of package polar's Up, Down and Implies. -/
import Derived.Test.YtdeglbmoiofpoaaPolLow
import Derived.Lib.QuietBelow
import Derived.BigQuiet
namespace Go.Proofs.Ytdeglbmoiofpoaa
open Go.RowKit Go.Shelf

/-- what a call that tells a set answers -/
def polAns (c : Int) (x : Nat) : Ending := .returned (.tuple #[.int .u32 (x : Nat), .int .i64 c])
/-- what a call that tells yes or no answers -/
def polYes (c : Int) (x : Bool) : Ending := .returned (.tuple #[.bool x, .int .i64 c])
/-- what is wrong with a context and a set of m things -/
def codeCS (n : Int) (us : List Nat) (m s : Nat) : Int := if codeC n us ≠ 0 then codeC n us else if outsideB s m = true then 2 else 0
theorem codeCS_bad {n : Int} {us : List Nat} {m s : Nat} (h : codeC n us ≠ 0) : codeCS n us m s = codeC n us := by unfold codeCS; rw [if_pos h]
theorem codeCS_out {n : Int} {us : List Nat} {m s : Nat} (h : codeC n us = 0) (h' : outsideB s m = true) : codeCS n us m s = 2 := by unfold codeCS; rw [if_neg (by simp [h]), if_pos h']
theorem codeCS_ok {n : Int} {us : List Nat} {m s : Nat} (h : codeC n us = 0) (h' : outsideB s m = false) : codeCS n us m s = 0 := by unfold codeCS; rw [if_neg (by simp [h]), if_neg (by simp [h'])]
theorem codeCS_zero {n : Int} {us : List Nat} {m s : Nat} (h : codeCS n us m s = 0) : codeC n us = 0 ∧ outsideB s m = false := by
  by_cases h1 : codeC n us = 0
  · refine ⟨h1, ?_⟩
    cases ho : outsideB s m with
    | false => rfl
    | true => rw [codeCS_out h1 ho] at h; cases h
  · rw [codeCS_bad h1] at h; exact absurd h h1

theorem prows_re (n : Int) (a : Option Addr) (cap : Nat) (us : List Nat) (hl : us.length ≤ 16) (s : Nat) (hs : s < 4294967296) (n₀ : Nat) (W : World) (hR : Rdy a us n₀ W) (r : Nat) (hr : dnW us s = r) (d : Nat) (os : Array Obj) :
    Calls Try.prog 20 #[.agg #[.slice a us.length cap, .int .i64 n], .int .u32 s] (Go.Sort.grow (redrawn W d) os) fun e w'' => e = .returned (.int .u32 (r : Nat)) ∧ ∃ p : Regrown, w'' = Go.Sort.grow (redrawn W p.d) p.os := by
  subst hr
  exact Calls.regrown_of (prows_any n a cap us hl s hs n₀ _ (hR.step (below_regrown W d os)))
theorem pwithin_re (x y : Nat) (hx : x < 4294967296) (hy : y < 4294967296) (W : World) (r : Bool) (hr : withB x y = r) (d : Nat) (os : Array Obj) :
    Calls Try.prog 25 #[.int .u32 x, .int .u32 y] (Go.Sort.grow (redrawn W d) os) fun e w'' => e = .returned (.bool r) ∧ ∃ p : Regrown, w'' = Go.Sort.grow (redrawn W p.d) p.os := by
  subst hr
  exact Calls.regrown_of ((pwithin_any x y hx hy _).mono fun e w' h => ⟨h.1, h.2 ▸ Below.refl _ _⟩)

end Go.Proofs.Ytdeglbmoiofpoaa
