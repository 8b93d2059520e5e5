/- Plain: each word without its own element. -/
import Derived.Test.YtjbfjdijgfhjfaaDoorTurPlain
namespace Go.Proofs.YtjbfjdijgfhjfaaDoor
open Go.RowKit Go.Shelf

/-- each word without its own element -/
def othL (us : List Nat) : List Nat := us.mapIdx fun i u => andN u (bitW i)
theorem othL_len (us : List Nat) : (othL us).length = us.length := by unfold othL; simp
theorem wd_othL {us : List Nat} {i : Nat} (h : i < us.length) : wd (othL us) i = andN (wd us i) (bitW i) := by
  unfold othL wd; simp [List.getD_eq_getElem?_getD, List.getElem?_mapIdx, List.getElem?_eq_getElem h]
theorem wd_out {us : List Nat} {i : Nat} (h : us.length ≤ i) : wd us i = 0 := by
  unfold wd; rw [List.getD_eq_getElem?_getD, List.getElem?_eq_none h]; rfl
theorem othL_fit {us : List Nat} (hf : Fit us) : Fit (othL us) := fun i => by
  by_cases h : i < us.length
  · rw [wd_othL h]; exact andN_lt (hf i)
  · rw [wd_out (by rw [othL_len]; omega)]; omega
theorem wd_ext {us vs : List Nat} (hl : us.length = vs.length) (h : ∀ i, i < us.length → wd us i = wd vs i) : us = vs := by
  apply List.ext_getElem hl
  intro i h1 h2
  have := h i h1
  unfold wd at this
  simpa [List.getD_eq_getElem?_getD, List.getElem?_eq_getElem h1, List.getElem?_eq_getElem h2] using this
/-- strictly below -/
theorem hasB_othL {us : List Nat} (hf : Fit us) {i : Nat} (h : i < us.length) (j : Nat) : hasB (wd (othL us) i) j = (hasB (wd us i) j && !decide (i = j)) := by
  rw [wd_othL h, hasB_andN (hf i), hasB_bitW]
end Go.Proofs.YtjbfjdijgfhjfaaDoor
