/- Plain mathematics of the longest chain: by heights from above, each time the least element that has the height wanted. -/
import Derived.Test.YthhjhfjildmbhaaDoorHeightPlain
namespace Go.Proofs.YthhjhfjildmbhaaDoor

theorem ht_congr {R R' : Nat → Nat → Bool} {n : Nat} {h : Nat → Nat} (e : ∀ i, i < n → ∀ x, x < n → R x i = R' x i) (hh : IsHt R n h) : IsHt R' n h := fun i hi => by
  obtain ⟨h1, h2⟩ := hh i hi
  refine ⟨fun j hj hR => h1 j hj (by rw [e i hi j hj]; exact hR), ?_⟩
  rcases h2 with g | ⟨j, hj, hR, g⟩
  · exact .inl g
  · exact .inr ⟨j, hj, by rw [← e i hi j hj]; exact hR, g⟩
/-- two that are heights are one -/
theorem ht_unique {R : Nat → Nat → Bool} {n : Nat} {h g : Nat → Nat} (hh : IsHt R n h) (hg : IsHt R n g) {i : Nat} (hi : i < n) : h i = g i := by
  have key : ∀ (p q : Nat → Nat), IsHt R n p → IsHt R n q → ∀ m i, i < n → p i ≤ m → p i ≤ q i := by
    intro p q hp hq m
    induction m with
    | zero => intro i _ h0; omega
    | succ m ih =>
      intro i hi hm
      rcases (hp i hi).2 with e | ⟨j, hj, hR, e⟩
      · omega
      · have h1 := ih j hj (by omega)
        have h2 := (hq i hi).1 j hj hR
        omega
  have a := key h g hh hg _ i hi (Nat.le_refl _)
  have b := key g h hg hh _ i hi (Nat.le_refl _)
  omega
/-- M is one more than the greatest of the first k numbers; 0, if there is none -/
def TopOf (h : Nat → Nat) (k M : Nat) : Prop := (∀ i, i < k → h i + 1 ≤ M) ∧ (M = 0 ∨ ∃ i, i < k ∧ h i + 1 = M)
theorem top_start (h : Nat → Nat) : TopOf h 0 0 := ⟨fun i hi => by omega, .inl rfl⟩
theorem top_step {h : Nat → Nat} {k M : Nat} (t : TopOf h k M) : TopOf h (k + 1) (max M (h k + 1)) := by
  obtain ⟨t1, t2⟩ := t
  constructor
  · intro i hi
    by_cases e : i = k
    · subst e; omega
    · have := t1 i (by omega); omega
  · rcases Nat.le_total M (h k + 1) with g | g
    · exact .inr ⟨k, by omega, by omega⟩
    · rcases t2 with e | ⟨i, hi, e⟩
      · omega
      · exact .inr ⟨i, by omega, by omega⟩
theorem top_unique {h g : Nat → Nat} {k M N : Nat} (e : ∀ i, i < k → h i = g i) (a : TopOf h k M) (b : TopOf g k N) : M = N := by
  have key : ∀ (p q : Nat → Nat) (A B : Nat), (∀ i, i < k → p i = q i) → TopOf p k A → TopOf q k B → A ≤ B := by
    intro p q A B e a b
    rcases a.2 with z | ⟨i, hi, z⟩
    · omega
    · have := b.1 i hi; have := e i hi; omega
  have x := key h g M N e a b
  have y := key g h N M (fun i hi => (e i hi).symm) b a
  omega
/-- may z follow in the chain L? -/
def mayC (us L : List Nat) (z : Nat) : Bool := decide (z < us.length) && (match L.getLast? with | none => true | some l => underB us l z)
theorem mayC_nil (us : List Nat) (z : Nat) : mayC us [] z = decide (z < us.length) := by unfold mayC; simp
theorem mayC_snoc (us L : List Nat) (y z : Nat) : mayC us (L ++ [y]) z = (decide (z < us.length) && underB us y z) := by unfold mayC; simp
/-- the next one of the chain -/
def nextC (us : List Nat) (h : Nat → Nat) (M : Nat) (L : List Nat) : Nat := ((List.range us.length).find? fun z => mayC us L z && decide (h z + L.length + 1 = M)).getD 0
/-- the first t of the chain -/
def chainF (us : List Nat) (h : Nat → Nat) (M : Nat) : Nat → List Nat
  | 0 => []
  | t + 1 => chainF us h M t ++ [nextC us h M (chainF us h M t)]
theorem chainF_len (us : List Nat) (h : Nat → Nat) (M : Nat) : ∀ t, (chainF us h M t).length = t
  | 0 => rfl
  | t + 1 => by unfold chainF; simp [chainF_len us h M t]
theorem nextC_spec {us : List Nat} {h : Nat → Nat} {M : Nat} {L : List Nat} (he : ∃ z, mayC us L z = true ∧ h z + L.length + 1 = M) :
    mayC us L (nextC us h M L) = true ∧ h (nextC us h M L) + L.length + 1 = M ∧ ∀ z, z < nextC us h M L → mayC us L z = true → h z + L.length + 1 ≠ M := by
  unfold nextC
  cases hf : (List.range us.length).find? (fun z => mayC us L z && decide (h z + L.length + 1 = M)) with
  | none =>
    obtain ⟨z, hz, e⟩ := he
    have hzn : z < us.length := by unfold mayC at hz; simp at hz; exact hz.1
    have := List.find?_eq_none.1 hf z (List.mem_range.2 hzn)
    rw [hz] at this
    simp [e] at this
  | some m =>
    have hm := List.find?_range_eq_some.1 hf
    have h1 := hm.1
    rw [Bool.and_eq_true, decide_eq_true_eq] at h1
    refine ⟨h1.1, h1.2, fun z hz hmz e => ?_⟩
    have := hm.2.2 z hz
    rw [hmz] at this
    simp [e] at this
theorem nextC_of {us : List Nat} {h : Nat → Nat} {M : Nat} {L : List Nat} {y : Nat} (hy : mayC us L y = true) (he : h y + L.length + 1 = M) (hl : ∀ z, z < y → mayC us L z = true → h z + L.length + 1 ≠ M) : nextC us h M L = y := by
  obtain ⟨a, b, c⟩ := nextC_spec ⟨y, hy, he⟩
  rcases Nat.lt_trichotomy (nextC us h M L) y with g | g | g
  · exact absurd b (hl _ g a)
  · exact g
  · exact absurd he (c y g hy)
theorem mayC_lt {us L : List Nat} {z : Nat} (h : mayC us L z = true) : z < us.length := by unfold mayC at h; simp at h; exact h.1
/-- as long as the chain is too short, one may follow -/
theorem chain_more {us : List Nat} {h : Nat → Nat} {M : Nat} (hh : IsHt (fun x i => underB us i x) us.length h) (ht : TopOf h us.length M) : ∀ t, t < M → ∃ z, mayC us (chainF us h M t) z = true ∧ h z + (chainF us h M t).length + 1 = M
  | 0, ht0 => by
    rcases ht.2 with e | ⟨i, hi, e⟩
    · omega
    · exact ⟨i, by rw [show chainF us h M 0 = [] from rfl, mayC_nil]; simp [hi], by rw [chainF_len]; omega⟩
  | t + 1, h1 => by
    obtain ⟨a, b, _⟩ := nextC_spec (chain_more hh ht t (by omega))
    rw [chainF_len] at b
    rcases (hh _ (mayC_lt a)).2 with e | ⟨j, hj, hR, e⟩
    · omega
    · refine ⟨j, ?_, by rw [chainF_len]; omega⟩
      show mayC us (chainF us h M t ++ [nextC us h M (chainF us h M t)]) j = true
      rw [mayC_snoc, show underB us (nextC us h M (chainF us h M t)) j = true from hR]; simp [hj]
/-- what is wanted of the chain, place by place -/
theorem chain_at {us : List Nat} {h : Nat → Nat} {M : Nat} (hh : IsHt (fun x i => underB us i x) us.length h) (ht : TopOf h us.length M) : ∀ T, T ≤ M → ∀ t, t < T →
    wd (chainF us h M T) t < us.length ∧ h (wd (chainF us h M T) t) + t + 1 = M ∧ (∀ s, s + 1 = t → underB us (wd (chainF us h M T) s) (wd (chainF us h M T) t) = true)
  | 0, _, t, hlt => by omega
  | T + 1, hT, t, hlt => by
    have ih := chain_at hh ht T (by omega)
    obtain ⟨a, b, _⟩ := nextC_spec (chain_more hh ht T (by omega))
    rw [chainF_len] at b
    have hlen := chainF_len us h M T
    show wd (chainF us h M T ++ [nextC us h M (chainF us h M T)]) t < us.length ∧ h (wd (chainF us h M T ++ [nextC us h M (chainF us h M T)]) t) + t + 1 = M ∧ (∀ s, s + 1 = t → underB us (wd (chainF us h M T ++ [nextC us h M (chainF us h M T)]) s) (wd (chainF us h M T ++ [nextC us h M (chainF us h M T)]) t) = true)
    by_cases e : t < T
    · rw [wd_app _ _ _ (by rw [hlen]; exact e)]
      obtain ⟨x, y, z⟩ := ih t e
      refine ⟨x, y, fun s hs => ?_⟩
      rw [wd_app _ _ _ (by rw [hlen]; omega)]
      exact z s hs
    · obtain rfl : t = T := by omega
      have hl := wd_last (chainF us h M t) (nextC us h M (chainF us h M t))
      rw [hlen] at hl
      rw [hl]
      refine ⟨mayC_lt a, b, fun s hs => ?_⟩
      rw [wd_app _ _ _ (by rw [hlen]; omega)]
      subst hs
      have hl' := wd_last (chainF us h M s) (nextC us h M (chainF us h M s))
      rw [chainF_len] at hl'
      have e2 : wd (chainF us h M (s + 1)) s = nextC us h M (chainF us h M s) := hl'
      rw [e2]
      have a' : mayC us (chainF us h M s ++ [nextC us h M (chainF us h M s)]) (nextC us h M (chainF us h M (s + 1))) = true := a
      rw [mayC_snoc, Bool.and_eq_true] at a'
      exact a'.2
end Go.Proofs.YthhjhfjildmbhaaDoor
