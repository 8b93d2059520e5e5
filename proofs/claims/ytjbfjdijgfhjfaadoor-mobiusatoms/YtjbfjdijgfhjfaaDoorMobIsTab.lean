/- Package mobius: isTable; the document's Table. -/
import Derived.Test.YtjbfjdijgfhjfaaDoorMobZeta
import Derived.Lib.QuietBelow
namespace Go.Proofs.YtjbfjdijgfhjfaaDoor
open Go.RowKit Go.Shelf

/-- is a list a table of the order? -/
def IsTab (us : List Nat) (l : List B64) : Prop := l.length = us.length * us.length ∧ Tab us (mat us.length l)
def tabB (us : List Nat) (l : List B64) : Bool := decide (l.length = us.length * us.length) && (List.range us.length).all fun a => (List.range us.length).all fun b => hasB (wd us a) b || decide (mat us.length l a b = 0)
theorem tabB_true {us : List Nat} {l : List B64} : tabB us l = true ↔ IsTab us l := by
  unfold tabB IsTab Tab
  rw [Bool.and_eq_true, decide_eq_true_iff, List.all_eq_true]
  constructor
  · rintro ⟨h1, h2⟩
    refine ⟨h1, fun a ha b hb hno => ?_⟩
    have := List.all_eq_true.1 (h2 a (List.mem_range.2 ha)) b (List.mem_range.2 hb)
    rw [Bool.or_eq_true, decide_eq_true_iff] at this
    exact this.resolve_left hno
  · rintro ⟨h1, h2⟩
    refine ⟨h1, fun a ha => List.all_eq_true.2 fun b hb => ?_⟩
    rw [Bool.or_eq_true, decide_eq_true_iff]
    by_cases h : leW us a b
    · exact .inl h
    · exact .inr (h2 a (List.mem_range.1 ha) b (List.mem_range.1 hb) h)
theorem tabB_false {us : List Nat} {l : List B64} : tabB us l = false ↔ ¬ IsTab us l := by rw [← tabB_true]; cases tabB us l <;> simp
theorem mbelow_re (n : Int) (a : Option Addr) (cap : Nat) (us : List Nat) (n₀ : Nat) (hf : Fit us) (hl : us.length ≤ 16) (W : World) (hw : IsWords n₀ W a us) (hn₀ : n₀ ≤ W.heap.size) (x y : Nat) (r : Bool) (hx : x < us.length) (hy : y < us.length) (hr : hasB (wd us x) y = r) (d : Nat) (os : Array Obj) :
    Calls Tryd.prog 37 #[.agg #[.int .i64 n, .slice a us.length cap], .int .i64 x, .int .i64 y] (Go.Sort.grow (redrawn W d) os) fun e w'' => e = .returned (.bool r) ∧ ∃ p : Regrown, w'' = Go.Sort.grow (redrawn W p.d) p.os := by
  subst hr
  exact Calls.regrown_of (mbelow_any n a cap us x y n₀ hf hx (by omega) (Go.Sort.grow (redrawn W d) os) (hw.below ((below_regrown W d os).mono hn₀)) (by have := (below_regrown W d os).size; omega))

end Go.Proofs.YtjbfjdijgfhjfaaDoor
