/- The contracts of makes, Check, brings (and of the document's SummaryOut, SummaryCheck, SummaryPlace) where they are called in whatever order and blocks are made meanwhile. -/
import Derived.Test.YtbnjbnjgfjpegaaSumLow
import Derived.Lib.QuietBelow
import Derived.BigQuiet
namespace Go.Proofs.Ytbnjbnjgfjpegaa
open Go.RowKit Go.Shelf

theorem smakes_re (k d : Int) (a : Option Addr) (cap : Nat) (zs : List Int) (hk : 1 ≤ k ∧ k ≤ 4) (h47 : zs.length ≤ 17592186044416) (x : Int) (hx : k + (zs.length : Int) = x) (W : World) (dr : Nat) (os : Array Obj) :
    Calls Try.prog 18 #[.agg #[.int .i64 k, .int .i64 d, .slice a zs.length cap]] (Go.Sort.grow (redrawn W dr) os) fun e w'' => e = .returned (.int .i64 x) ∧ ∃ p : Regrown, w'' = Go.Sort.grow (redrawn W p.d) p.os := by
  subst hx
  exact Calls.regrown_of (smakes_any k d a cap zs hk h47 (Go.Sort.grow (redrawn W dr) os))

theorem rsout_re (k d : Int) (a : Option Addr) (cap : Nat) (zs : List Int) (hk : 1 ≤ k ∧ k ≤ 4) (h47 : zs.length ≤ 17592186044416) (x : Int) (hx : k + (zs.length : Int) = x) (W : World) (dr : Nat) (os : Array Obj) :
    Calls Try.prog 13 #[.agg #[.int .i64 k, .int .i64 d, .slice a zs.length cap]] (Go.Sort.grow (redrawn W dr) os) fun e w'' => e = .returned (.int .i64 x) ∧ ∃ p : Regrown, w'' = Go.Sort.grow (redrawn W p.d) p.os := by
  subst hx
  exact Calls.regrown_of (rsout_any k d a cap zs hk h47 (Go.Sort.grow (redrawn W dr) os))

theorem scheck_re (k d : Int) (a : Option Addr) (cap : Nat) (zs : List Int) (n : Int) (n₀ : Nat) (h47 : zs.length ≤ 17592186044416) (x : Int) (hx : codeS ⟨k, d, zs⟩ n = x) (W : World) (hz : ZInts n₀ W a zs) (hn₀ : n₀ ≤ W.heap.size) (dr : Nat) (os : Array Obj) :
    Calls Try.prog 17 #[.agg #[.int .i64 k, .int .i64 d, .slice a zs.length cap], .int .i64 n] (Go.Sort.grow (redrawn W dr) os) fun e w'' => e = .returned (.int .i64 x) ∧ ∃ p : Regrown, w'' = Go.Sort.grow (redrawn W p.d) p.os := by
  subst hx
  exact Calls.regrown_of (scheck_any k d a cap zs n n₀ h47 (Go.Sort.grow (redrawn W dr) os) (hz.below ((below_regrown W dr os).mono hn₀)) (by have := (below_regrown W dr os).size; omega))

theorem rscheck_re (k d : Int) (a : Option Addr) (cap : Nat) (zs : List Int) (n : Int) (n₀ : Nat) (h47 : zs.length ≤ 17592186044416) (x : Int) (hx : codeS ⟨k, d, zs⟩ n = x) (W : World) (hz : ZInts n₀ W a zs) (hn₀ : n₀ ≤ W.heap.size) (dr : Nat) (os : Array Obj) :
    Calls Try.prog 12 #[.agg #[.int .i64 k, .int .i64 d, .slice a zs.length cap], .int .i64 n] (Go.Sort.grow (redrawn W dr) os) fun e w'' => e = .returned (.int .i64 x) ∧ ∃ p : Regrown, w'' = Go.Sort.grow (redrawn W p.d) p.os := by
  subst hx
  exact Calls.regrown_of (rscheck_any k d a cap zs n n₀ h47 (Go.Sort.grow (redrawn W dr) os) (hz.below ((below_regrown W dr os).mono hn₀)) (by have := (below_regrown W dr os).size; omega))

theorem sbrings_re (k d : Int) (a : Option Addr) (cap : Nat) (zs : List Int) (i : Nat) (n₀ : Nat) (hk : 1 ≤ k ∧ k ≤ 4) (hi : (i : Int) < k + (zs.length : Int)) (hl : zs.length ≤ 4) (x : Int) (hx : (Sm.mk k d zs).at i = x) (W : World) (hz : ZInts n₀ W a zs) (hn₀ : n₀ ≤ W.heap.size) (dr : Nat) (os : Array Obj) :
    Calls Try.prog 19 #[.agg #[.int .i64 k, .int .i64 d, .slice a zs.length cap], .int .i64 i] (Go.Sort.grow (redrawn W dr) os) fun e w'' => e = .returned (.int .i64 x) ∧ ∃ p : Regrown, w'' = Go.Sort.grow (redrawn W p.d) p.os := by
  subst hx
  exact Calls.regrown_of (sbrings_any k d a cap zs i n₀ hk hi hl (Go.Sort.grow (redrawn W dr) os) (hz.below ((below_regrown W dr os).mono hn₀)) (by have := (below_regrown W dr os).size; omega))

theorem rsplace_re (k d : Int) (a : Option Addr) (cap : Nat) (zs : List Int) (i : Nat) (n₀ : Nat) (hk : 1 ≤ k ∧ k ≤ 4) (hi : (i : Int) < k + (zs.length : Int)) (hl : zs.length ≤ 4) (x : Int) (hx : (Sm.mk k d zs).at i = x) (W : World) (hz : ZInts n₀ W a zs) (hn₀ : n₀ ≤ W.heap.size) (dr : Nat) (os : Array Obj) :
    Calls Try.prog 28 #[.agg #[.int .i64 k, .int .i64 d, .slice a zs.length cap], .int .i64 i] (Go.Sort.grow (redrawn W dr) os) fun e w'' => e = .returned (.int .i64 x) ∧ ∃ p : Regrown, w'' = Go.Sort.grow (redrawn W p.d) p.os := by
  subst hx
  exact Calls.regrown_of (rsplace_any k d a cap zs i n₀ hk hi hl (Go.Sort.grow (redrawn W dr) os) (hz.below ((below_regrown W dr os).mono hn₀)) (by have := (below_regrown W dr os).size; omega))

/-- a summary's block, where blocks are made meanwhile -/
theorem Row.re {W : World} {B : Nat} {t : TypeId} {v0 v1 v2 : Value} (h : Row W B t [v0, v1, v2]) : (∀ d os, (Go.Sort.grow (redrawn W d) os).cell? ⟨B, 0, none⟩ = some v0) ∧ (∀ d os, (Go.Sort.grow (redrawn W d) os).cell? ⟨B, 1, none⟩ = some v1) ∧ (∀ d os, (Go.Sort.grow (redrawn W d) os).cell? ⟨B, 2, none⟩ = some v2) :=
  ⟨cell_regrown (h.cell (i := 0) rfl), cell_regrown (h.cell (i := 1) rfl), cell_regrown (h.cell (i := 2) rfl)⟩
end Go.Proofs.Ytbnjbnjgfjpegaa
