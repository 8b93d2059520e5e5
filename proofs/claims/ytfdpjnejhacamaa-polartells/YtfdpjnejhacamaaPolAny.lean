/- The contracts of package polar's Up, Down and Implies, whatever comes in. -/
import Derived.Test.YtfdpjnejhacamaaPolUp
namespace Go.Proofs.Ytfdpjnejhacamaa
open Go.RowKit Go.Shelf

/-- Up and Down, whatever comes in -/
theorem Up_any (n : Int) (a : Option Addr) (cap : Nat) (us : List Nat) (s : Nat) (hs : s < 4294967296) (n₀ : Nat) (w : World) (hR : Rdy a us n₀ w) :
    Calls Try.prog 8 #[.agg #[.slice a us.length cap, .int .i64 n], .int .u32 s] w fun e w' => e = polAns (codeCS n us us.length s) (if codeCS n us us.length s = 0 then upW n.toNat us s else 0) ∧ Below w.heap.size w w' := by
  by_cases hc : codeCS n us us.length s = 0
  · obtain ⟨_, m, rfl, _⟩ := codeC_zero (codeCS_zero hc).1
    rw [hc, if_pos rfl]
    exact Up_ok m a cap us s hs n₀ w hR hc
  · rw [if_neg hc]
    exact Up_bad n a cap us s hs n₀ w hR hc
theorem Down_any (n : Int) (a : Option Addr) (cap : Nat) (us : List Nat) (s : Nat) (hs : s < 4294967296) (n₀ : Nat) (w : World) (hR : Rdy a us n₀ w) :
    Calls Try.prog 9 #[.agg #[.slice a us.length cap, .int .i64 n], .int .u32 s] w fun e w' => e = polAns (codeCS n us n.toNat s) (if codeCS n us n.toNat s = 0 then dnW us s else 0) ∧ Below w.heap.size w w' := by
  by_cases hc : codeCS n us n.toNat s = 0
  · obtain ⟨_, m, rfl, _⟩ := codeC_zero (codeCS_zero hc).1
    rw [hc, if_pos rfl]
    exact Down_ok m a cap us s hs n₀ w hR hc
  · rw [if_neg hc]
    exact Down_bad n a cap us s hs n₀ w hR hc
theorem Implies_any (n : Int) (a : Option Addr) (cap : Nat) (us : List Nat) (s t : Nat) (hs : s < 4294967296) (ht : t < 4294967296) (n₀ : Nat) (w : World) (hR : Rdy a us n₀ w) :
    Calls Try.prog 10 #[.agg #[.slice a us.length cap, .int .i64 n], .int .u32 s, .int .u32 t] w fun e w' => e = polYes (codeCS n us n.toNat (orW s t)) (decide (codeCS n us n.toNat (orW s t) = 0) && impB us s t) ∧ Below w.heap.size w w' := by
  by_cases hc : codeCS n us n.toNat (orW s t) = 0
  · obtain ⟨_, m, rfl, _⟩ := codeC_zero (codeCS_zero hc).1
    rw [hc, decide_eq_true rfl]
    exact Implies_ok m a cap us s t hs ht n₀ w hR hc
  · rw [decide_eq_false hc]
    exact Implies_bad n a cap us s t hs ht n₀ w hR hc
theorem code_cases (c : Int) : (c = 0 ∧ (c != 0) = false) ∨ (c != 0) = true := by
  by_cases h : c = 0
  · exact .inl ⟨h, by rw [h]; rfl⟩
  · exact .inr (by rw [bne_iff_ne]; exact h)
end Go.Proofs.Ytfdpjnejhacamaa
