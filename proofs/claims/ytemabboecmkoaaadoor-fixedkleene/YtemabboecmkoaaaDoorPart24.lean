/- The contract of the program's Sorted: what is wrong, or all elements, each behind what is strictly below it. The contract of the program's Heights: what is wrong, or how many others are in the longest chain that ends with each element. -/
import Derived.Test.YtemabboecmkoaaaDoorPart13
import Derived.Test.YtemabboecmkoaaaDoorPart22
import Derived.Test.YtemabboecmkoaaaDoorPart9
import Derived.Test.YtemabboecmkoaaaDoorPart5
import Derived.Test.YtemabboecmkoaaaDoorPart23
namespace Go.Proofs.YtemabboecmkoaaaDoor
open Go.RowKit Go.Shelf

/-- all elements of an order, each time the least one that may come -/
def sortL (us : List Nat) : List Nat := sortF (underB us) us.length us.length
theorem ahead_below {us ds : List Nat} (hT : Tur us us.length [] ds) : ∀ i, i < us.length → ∀ x, x < us.length → underB us x i = aheadB (othL ds) x i := fun i hi x _ => by
  unfold aheadB; rw [hasB_below hT hi]

end Go.Proofs.YtemabboecmkoaaaDoor

namespace Go.Proofs.YtemabboecmkoaaaDoor
open Go.RowKit Go.Shelf

theorem inside_below {us ds : List Nat} (hT : Tur us us.length [] ds) : Inside (othL ds) := fun i hi j _ h => by
  have hl : (othL ds).length = us.length := by rw [othL_len, hT.len]
  rw [hl] at hi ⊢
  have hi' : i < ds.length := by rw [hT.len]; exact hi
  rw [hasB_othL hT.fit hi', Bool.and_eq_true, hT.has i hi] at h
  simp at h
  exact h.1.1
theorem inside_above {us : List Nat} (hf : Fit us) (hin : Inside us) : Inside (othL us) := fun i hi j _ h => by
  rw [othL_len] at hi ⊢
  rw [hasB_above hf hi] at h
  exact under_lt hf hin hi h
end Go.Proofs.YtemabboecmkoaaaDoor
