/- Plain mathematics behind Mirsky's theorem: heights from below and from above; no chain is longer than the longest one. -/
import Derived.Test.YthhjhfjildmbhabDoorChainPlain
import Derived.Test.YthhjhfjildmbhabDoorKeepChain
namespace Go.Proofs.YthhjhfjildmbhabDoor

section
variable {us : List Nat} {h g : Nat → Nat} {M : Nat}
theorem down_up (hh : IsHt (underB us) us.length h) (hg : IsHt (fun x i => underB us i x) us.length g) (ht : TopOf g us.length M) : ∀ d i, i < us.length → h i = d → d + g i + 1 ≤ M
  | 0, i, hi, _ => by have := ht.1 i hi; omega
  | d + 1, i, hi, e => by
    rcases (hh i hi).2 with z | ⟨j, hj, hR, z⟩
    · omega
    · have h1 := down_up hh hg ht d j hj (by omega)
      have h2 := (hg j hj).1 i hi hR
      omega
/-- the element at place t of the longest chain has height t -/
theorem chain_height (hh : IsHt (underB us) us.length h) (hg : IsHt (fun x i => underB us i x) us.length g) (ht : TopOf g us.length M) : ∀ t, t < M → h (wd (chainF us g M M) t) = t
  | 0, h0 => by
    obtain ⟨a, b, _⟩ := chain_at hg ht M (Nat.le_refl _) 0 h0
    have := down_up hh hg ht _ _ a rfl
    omega
  | t + 1, h1 => by
    have ih := chain_height hh hg ht t (by omega)
    obtain ⟨a, b, c⟩ := chain_at hg ht M (Nat.le_refl _) (t + 1) h1
    obtain ⟨a', b', _⟩ := chain_at hg ht M (Nat.le_refl _) t (by omega)
    have h2 := down_up hh hg ht _ _ a rfl
    have h3 := (hh _ a).1 _ a' (c t rfl)
    omega
theorem chain_isChain (hg : IsHt (fun x i => underB us i x) us.length g) (ht : TopOf g us.length M) : ChainZ us (toZ (chainF us g M M)) := by
  have hlen : (toZ (chainF us g M M)).length = M := by rw [toZ_len, chainF_len]
  refine ⟨fun i hi => ?_, fun i hi h0 => ?_⟩
  · rw [hlen] at hi
    rw [zd_toZ (by rw [chainF_len]; exact hi)]
    have := (chain_at hg ht M (Nat.le_refl _) i hi).1
    omega
  · rw [hlen] at hi
    rw [zd_toZ (i := i) (by rw [chainF_len]; exact hi), zd_toZ (i := i - 1) (by rw [chainF_len]; omega)]
    exact (chain_at hg ht M (Nat.le_refl _) i hi).2.2 (i - 1) (by omega)
/-- no chain is longer -/
theorem chain_short (hh : IsHt (underB us) us.length h) (hg : IsHt (fun x i => underB us i x) us.length g) (ht : TopOf g us.length M) {zs : List Int} (hz : ChainZ us zs) : zs.length ≤ M := by
  have key : ∀ i, i < zs.length → i ≤ h (zd zs i).toNat := by
    intro i
    induction i with
    | zero => intro _; omega
    | succ i ih =>
      intro hi
      have h1 := ih (by omega)
      obtain ⟨x1, x2⟩ := hz.1 (i + 1) hi
      obtain ⟨y1, y2⟩ := hz.1 i (by omega)
      have h2 := hz.2 (i + 1) hi (by omega)
      rw [Nat.add_sub_cancel] at h2
      have h3 := (hh (zd zs (i + 1)).toNat (by omega)).1 (zd zs i).toNat (by omega) h2
      omega
  apply Nat.le_of_not_lt
  intro hlt
  have h1 := key (zs.length - 1) (by omega)
  obtain ⟨x1, x2⟩ := hz.1 (zs.length - 1) (by omega)
  have h2 := down_up hh hg ht _ (zd zs (zs.length - 1)).toNat (by omega) rfl
  omega
end
end Go.Proofs.YthhjhfjildmbhabDoor
