/- Plain mathematics of the line: each one stands behind all that must come ahead of it. -/
import Derived.Test.YtekpielpfegclabDoorSortPlain
namespace Go.Proofs.YtekpielpfegclabDoor

theorem wd_app (l : List Nat) (x t : Nat) (h : t < l.length) : wd (l ++ [x]) t = wd l t := by
  unfold wd; simp only [List.getD_eq_getElem?_getD]; rw [List.getElem?_append_left h]
theorem wd_last (l : List Nat) (x : Nat) : wd (l ++ [x]) l.length = x := by
  unfold wd; simp only [List.getD_eq_getElem?_getD]; rw [List.getElem?_append_right (Nat.le_refl _)]; simp
theorem sortF_at (R : Nat → Nat → Bool) (n : Nat) {j : Nat} : ∀ {m : Nat}, j < m → wd (sortF R n m) j = nextF R n (sortF R n j)
  | 0, h => by omega
  | m + 1, h => by
    show wd (sortF R n m ++ [nextF R n (sortF R n m)]) j = _
    by_cases e : j = m
    · subst e
      have := wd_last (sortF R n j) (nextF R n (sortF R n j))
      rw [sortF_len] at this
      exact this
    · rw [wd_app _ _ _ (by rw [sortF_len]; omega), sortF_at R n (by omega)]
theorem sortF_sub (R : Nat → Nat → Bool) (n : Nat) {j z : Nat} : ∀ {i : Nat}, j ≤ i → z ∈ sortF R n j → z ∈ sortF R n i
  | 0, h, hz => by obtain rfl : j = 0 := by omega
                   exact hz
  | i + 1, h, hz => by
    by_cases e : j = i + 1
    · subst e; exact hz
    · show z ∈ sortF R n i ++ [nextF R n (sortF R n i)]
      exact List.mem_append.2 (.inl (sortF_sub R n (by omega) hz))
/-- of two in the line the later one is another one, and need not come ahead of the earlier one -/
theorem sort_before {R : Nat → Nat → Bool} {n : Nat} (hA : Acy R n) {i j : Nat} (hij : j < i) (hi : i < n) : wd (sortF R n n) i ≠ wd (sortF R n n) j ∧ R (wd (sortF R n n) i) (wd (sortF R n n) j) = false := by
  rw [sortF_at R n hi, sortF_at R n (show j < n by omega)]
  obtain ⟨x1, x2, _⟩ := next_spec (hA (sortF R n i) (left_some (by rw [sortF_len]; omega)))
  obtain ⟨y1, y2, _⟩ := next_spec (hA (sortF R n j) (left_some (by rw [sortF_len]; omega)))
  have hx := (readyB_true.1 x2).1
  have hy := (readyB_true.1 y2).2
  constructor
  · intro e
    apply hx
    rw [e]
    exact sortF_sub R n (show j + 1 ≤ i by omega) (show nextF R n (sortF R n j) ∈ sortF R n j ++ [nextF R n (sortF R n j)] by simp)
  · cases hR : R (nextF R n (sortF R n i)) (nextF R n (sortF R n j)) with
    | false => rfl
    | true => exact absurd (sortF_sub R n (by omega) (hy _ x1 hR)) hx
end Go.Proofs.YtekpielpfegclabDoor
