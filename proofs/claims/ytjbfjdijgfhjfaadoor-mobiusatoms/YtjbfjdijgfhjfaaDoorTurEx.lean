/- Plain: there is the order upside down. -/
import Derived.Test.YtjbfjdijgfhjfaaDoorTurPlain
namespace Go.Proofs.YtjbfjdijgfhjfaaDoor

/-- the words upside down -/
def turnW (us : List Nat) (j : Nat) : Nat → Nat
  | 0 => 0
  | k + 1 => orW (turnW us j k) (if hasB (wd us k) j then bitW k else 0)
theorem turnW_lt (us : List Nat) (j : Nat) : ∀ k, k ≤ 32 → turnW us j k < 4294967296
  | 0, _ => by unfold turnW; omega
  | k + 1, h => by
    unfold turnW
    refine orW_lt (turnW_lt us j k (by omega)) ?_
    split
    · exact bitW_lt (by omega)
    · omega
theorem hasB_downW (us : List Nat) (j : Nat) : ∀ k i, hasB (turnW us j k) i = (decide (i < k) && hasB (wd us i) j)
  | 0, i => by unfold turnW; rw [hasB_zero]; simp
  | k + 1, i => by
    unfold turnW
    rw [hasB_or, hasB_downW us j k i]
    by_cases e : i = k
    · subst e
      cases h : hasB (wd us i) j with
      | true => simp [hasB_bitW]
      | false => simp [hasB_zero]
    · have h1 : ¬ k = i := fun e' => e e'.symm
      have h2 : (i < k + 1) ↔ i < k := by omega
      cases h : hasB (wd us k) j with
      | true => simp [hasB_bitW, h1, h2]
      | false => simp [hasB_zero, h2]
theorem tur_ex {us : List Nat} (_hf : Fit us) (hl : us.length ≤ 16) : ∃ ds, Tur us us.length [] ds := by
  have hw : ∀ j, j < us.length → wd ((List.range us.length).map fun j => turnW us j us.length) j = turnW us j us.length := fun j hj => by
    unfold wd
    rw [List.getD_eq_getElem?_getD, List.getElem?_map, List.getElem?_range hj]
    rfl
  refine ⟨(List.range us.length).map fun j => turnW us j us.length, by simp, fun i => ?_, fun j hj i => ?_⟩
  · by_cases h : i < us.length
    · rw [hw i h]; exact turnW_lt us i _ (by omega)
    · unfold wd
      rw [List.getD_eq_getElem?_getD, List.getElem?_eq_none (by simp; omega)]
      simp
  · rw [hw j hj, hasB_downW]; simp
end Go.Proofs.YtjbfjdijgfhjfaaDoor
