/- The contracts of package graph's mayBe, and of the document's NodeMay. -/
import Derived.Test.YtfnlcdbhebbimaaSumSame
namespace Go.Proofs.Ytfnlcdbhebbimaa
open Go.RowKit Go.Shelf

/-- may there be such a node? -/
def mayN (k d : Int) : Bool := decide (1 ≤ k ∧ k ≤ 6 ∧ 1 ≤ d ∧ d ≤ 4 ∧ (k = 1 → d = 1) ∧ (k = 4 → d ≤ 3) ∧ (5 ≤ k → 2 ≤ d))
theorem mayN_true {k d : Int} : mayN k d = true ↔ (1 ≤ k ∧ k ≤ 6 ∧ 1 ≤ d ∧ d ≤ 4 ∧ (k = 1 → d = 1) ∧ (k = 4 → d ≤ 3) ∧ (5 ≤ k → 2 ≤ d)) := by unfold mayN; exact decide_eq_true_iff
theorem mayN_false {k d : Int} : mayN k d = false ↔ ¬ (1 ≤ k ∧ k ≤ 6 ∧ 1 ≤ d ∧ d ≤ 4 ∧ (k = 1 → d = 1) ∧ (k = 4 → d ≤ 3) ∧ (5 ≤ k → 2 ≤ d)) := by unfold mayN; exact decide_eq_false_iff_not
theorem ret_b {a b : Bool} (h : b = a) : Ending.returned (.bool a) = .returned (.bool b) := by rw [h]

set_option maxRecDepth 100000 in
set_option maxHeartbeats 4000000 in
theorem gmay_any (k d : Int) (o x y : Value) (w : World) :
    Calls Try.prog 20 #[.agg #[.int .i64 k, .int .i64 d, o, x, y]] w fun e w' => e = .returned (.bool (mayN k d)) ∧ Below w.heap.size w w' := by
  go_enter Try.func20, Try.ntmps20
  go_wp2_with fail
  all_goals go_ret
  all_goals refine ⟨ret_b ?_, (Below.refl _ _).alloc (Nat.le_refl _) _⟩
  all_goals try simp only [beq_iff_eq, beq_eq_false_iff_ne, ne_eq] at *
  all_goals first
    | exact mayN_true.2 (by omega)
    | exact mayN_false.2 (by omega)
    | (unfold mayN; exact decide_eq_decide.2 (by omega))

set_option maxRecDepth 100000 in
set_option maxHeartbeats 4000000 in
theorem rmayn_any (k d : Int) (o x y : Value) (w : World) :
    Calls Try.prog 9 #[.agg #[.int .i64 k, .int .i64 d, o, x, y]] w fun e w' => e = .returned (.bool (mayN k d)) ∧ Below w.heap.size w w' := by
  go_enter Try.func9, Try.ntmps9
  go_wp2_with fail
  all_goals go_ret
  all_goals refine ⟨ret_b ?_, (Below.refl _ _).alloc (Nat.le_refl _) _⟩
  all_goals try simp only [beq_iff_eq, beq_eq_false_iff_ne, ne_eq] at *
  all_goals first
    | exact mayN_true.2 (by omega)
    | exact mayN_false.2 (by omega)
    | (unfold mayN; exact decide_eq_decide.2 (by omega))
    | (have e : decide (k < 5) = false := decide_eq_false (by omega); rw [e, Bool.false_or]; unfold mayN; exact decide_eq_decide.2 (by omega))
end Go.Proofs.Ytfnlcdbhebbimaa
