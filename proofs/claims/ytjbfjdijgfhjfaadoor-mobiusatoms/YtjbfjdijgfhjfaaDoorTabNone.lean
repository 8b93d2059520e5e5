/- TableOf where there is no lattice. -/
import Derived.Test.YtjbfjdijgfhjfaaDoorTableOk
import Derived.Test.YtjbfjdijgfhjfaaDoorLatErr
namespace Go.Proofs.YtjbfjdijgfhjfaaDoor
open Go.RowKit Go.Shelf

theorem n_zero {n : Int} {us : List Nat} (hc : codeOf n us = 0) : (n == 0) = decide (us.length = 0) := by
  obtain ⟨h0, h16, hlen, hin, hord⟩ := code_zero hc
  by_cases e : us.length = 0
  · rw [decide_eq_true e, beq_iff_eq]; omega
  · rw [decide_eq_false e, beq_eq_false_iff_ne]; omega
theorem TableOf_none (n : Int) (a : Option Addr) (cap : Nat) (us ds : List Nat) (n₀ : Nat) (hf : Fit us) (w : World) (hT : TabAt w) (hw : IsWords n₀ w a us) (hg : 0 < n₀) (hn₀ : n₀ ≤ w.heap.size) (hc : codeOf n us = 0) (hD : Tur us us.length [] ds) (hno : latB us ds = false) :
    Calls Tryd.prog 31 #[.agg #[.int .i64 n, .slice a us.length cap]] w fun e w' => e = tabErr 5 ∧ Below w.heap.size w w' := by
  have hz := n_zero hc
  unfold latB at hno
  cases e0 : decide (us.length = 0) with
  | true =>
    rw [e0] at hz
    exact TableOf_none1 n a cap us ds _ _ n₀ hf w hT hw hg hn₀ hc hD hz rfl rfl
  | false =>
    rw [e0] at hz hno
    cases e1 : nearB us with
    | false => exact TableOf_none2 n a cap us ds _ n₀ hf w hT hw hg hn₀ hc hD hz e1 rfl
    | true =>
      rw [e1] at hno
      exact TableOf_none3 n a cap us ds n₀ hf w hT hw hg hn₀ hc hD hz e1 (by simpa using hno)
theorem latB_parts {us ds : List Nat} (h : latB us ds = true) : us.length ≠ 0 ∧ nearB us = true ∧ nearB ds = true := by
  unfold latB at h
  simpa [Bool.and_eq_true, and_assoc] using h
end Go.Proofs.YtjbfjdijgfhjfaaDoor
