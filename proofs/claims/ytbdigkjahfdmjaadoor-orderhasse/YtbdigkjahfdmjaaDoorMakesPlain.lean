/- What is come to is an order just if no two unlike ones come to one another. -/
import Derived.Test.YtbdigkjahfdmjaaDoorRefOf
namespace Go.Proofs.YtbdigkjahfdmjaaDoor

theorem ord_iff {n : Nat} {nx up : List Nat} (hl : up.length = n) (hu : ∀ i, i < n → ∀ z, hasB (wd up i) z = true ↔ Reach nx i z) : IsOrd up ↔ ¬ Cyc up n := by
  constructor
  · rintro ho ⟨i, j, hi, hj, h1, h2⟩
    have := ((ho i (by omega)) j (by omega)).1.2 (by omega) h1
    rw [this] at h2; cases h2
  · intro hc i hi j hj
    rw [hl] at hi hj
    refine ⟨⟨fun e => ?_, fun hne h1 => ?_⟩, fun k hk h1 h2 => ?_⟩
    · subst e; exact (hu i hi i).2 (.here i)
    · cases e : hasB (wd up j) i with
      | false => rfl
      | true =>
        exfalso
        rcases Nat.lt_or_gt_of_ne hne with g | g
        · exact hc ⟨j, i, hj, g, e, h1⟩
        · exact hc ⟨i, j, hi, g, h1, e⟩
    · exact (hu i hi k).2 (((hu i hi j).1 h1).trans ((hu j hj k).1 h2))
/-- two rows of what is come to are one -/
theorem up_unique {n : Nat} {nx up vp : List Nat} (hl : up.length = n) (hm : vp.length = n) (hu : ∀ i, i < n → ∀ z, hasB (wd up i) z = true ↔ Reach nx i z) (hv : ∀ i, i < n → ∀ z, hasB (wd vp i) z = true ↔ Reach nx i z) : up = vp := by
  refine wd_ext (by omega) fun i hi => ?_
  apply word_ext
  intro z
  rw [Bool.eq_iff_iff, hu i (by omega) z, hv i (by omega) z]
end Go.Proofs.YtbdigkjahfdmjaaDoor
