/- Plain mathematics of the order of sets: which is within which. -/
import Derived.Test.YtjbfjdijgfhjfaaDoorTellPlain
namespace Go.Proofs.YtjbfjdijgfhjfaaDoor

/-- is a within b? -/
def subB (a b : Nat) : Bool := decide (andN a b = 0)
theorem subB_iff {a b : Nat} (ha : a < 4294967296) : subB a b = true ↔ ∀ x, hasB a x = true → hasB b x = true := by
  unfold subB
  rw [decide_eq_true_iff, word_zero]
  constructor
  · intro h x hx
    have := h x
    rw [hasB_andN ha, hx] at this
    simpa using this
  · intro h x
    rw [hasB_andN ha]
    cases e : hasB a x with
    | false => rfl
    | true => rw [h x e]; rfl
theorem subB_or {a b : Nat} (ha : a < 4294967296) : (orW a b = b) ↔ subB a b = true := by
  rw [subB_iff ha]
  constructor
  · intro h x hx
    rw [← h, hasB_or, hx]; rfl
  · intro h
    exact word_ext' fun x => by
      rw [hasB_or, Bool.or_eq_true]
      exact ⟨fun g => g.elim (h x) id, .inr⟩
def inclW (l : List Nat) (t k : Nat) : Nat := wordOf (fun x => subB (wd l t) (wd l x)) k
/-- the words of the order, made as far as row i, and there as far as j -/
def inclTo (l : List Nat) (i j : Nat) : List Nat := (List.range l.length).map fun t => inclW l t (if t < i then l.length else if t = i then j else 0)
def inclL (l : List Nat) : List Nat := (List.range l.length).map fun t => inclW l t l.length
theorem inclTo_len (l : List Nat) (i j : Nat) : (inclTo l i j).length = l.length := by unfold inclTo; simp
theorem inclL_len (l : List Nat) : (inclL l).length = l.length := by unfold inclL; simp
theorem wd_map {f : Nat → Nat} {n t : Nat} (h : t < n) : wd ((List.range n).map f) t = f t := by
  unfold wd
  rw [List.getD_eq_getElem?_getD, List.getElem?_map, List.getElem?_range h]; rfl
theorem list_wd {a b : List Nat} (hl : a.length = b.length) (h : ∀ i, i < a.length → wd a i = wd b i) : a = b := by
  apply List.ext_getElem hl
  intro i h1 h2
  have := h i h1
  unfold wd at this
  rw [List.getD_eq_getElem?_getD, List.getD_eq_getElem?_getD, List.getElem?_eq_getElem h1, List.getElem?_eq_getElem h2] at this
  exact this
theorem inclTo_zero (l : List Nat) : inclTo l 0 0 = List.replicate l.length 0 := by
  refine list_wd (by simp [inclTo_len]) fun i hi => ?_
  rw [inclTo_len] at hi
  unfold inclTo
  rw [wd_map hi, wd_replicate, if_neg (by omega), ite_self]; rfl
theorem inclTo_next (l : List Nat) (i : Nat) : inclTo l i l.length = inclTo l (i + 1) 0 := by
  refine list_wd (by simp [inclTo_len]) fun t ht => ?_
  rw [inclTo_len] at ht
  unfold inclTo
  rw [wd_map ht, wd_map ht]
  by_cases h : t < i
  · rw [if_pos h, if_pos (by omega)]
  · by_cases e : t = i
    · rw [if_neg h, if_pos e, if_pos (by omega)]
    · rw [if_neg h, if_neg e, if_neg (by omega)]
      split <;> rfl
theorem inclTo_done (l : List Nat) : inclTo l l.length 0 = inclL l := by
  refine list_wd (by simp [inclTo_len, inclL_len]) fun t ht => ?_
  rw [inclTo_len] at ht
  unfold inclTo inclL
  rw [wd_map ht, wd_map ht, if_pos ht]
theorem inclTo_at {l : List Nat} {i j : Nat} (hi : i < l.length) : wd (inclTo l i j) i = inclW l i j := by
  unfold inclTo; rw [wd_map hi, if_neg (by omega), if_pos rfl]
theorem inclTo_yes {l : List Nat} {i j : Nat} (hi : i < l.length) (h : subB (wd l i) (wd l j) = true) : inclTo l i (j + 1) = (inclTo l i j).set i (orW (inclW l i j) (bitW j)) := by
  refine list_wd (by simp [inclTo_len]) fun t ht => ?_
  rw [inclTo_len] at ht
  rw [wd_set (by rw [inclTo_len]; exact hi)]
  unfold inclTo
  rw [wd_map ht, wd_map ht]
  by_cases e : i = t
  · subst e
    rw [if_neg (by omega), if_pos rfl, if_pos rfl]
    show wordOf _ (j + 1) = _
    unfold wordOf
    rw [if_pos h]; rfl
  · rw [if_neg e]
    by_cases h2 : t < i
    · rw [if_pos h2, if_pos h2]
    · rw [if_neg h2, if_neg h2, if_neg (fun q => e q.symm), if_neg (fun q => e q.symm)]
theorem inclTo_no {l : List Nat} {i j : Nat} (h : subB (wd l i) (wd l j) = false) : inclTo l i (j + 1) = inclTo l i j := by
  refine list_wd (by simp [inclTo_len]) fun t ht => ?_
  rw [inclTo_len] at ht
  unfold inclTo
  rw [wd_map ht, wd_map ht]
  by_cases h2 : t < i
  · rw [if_pos h2, if_pos h2]
  · rw [if_neg h2, if_neg h2]
    by_cases e : t = i
    · subst e
      rw [if_pos rfl, if_pos rfl]
      show wordOf _ (j + 1) = _
      unfold wordOf
      rw [if_neg (by rw [h]; simp)]; rfl
    · rw [if_neg e, if_neg e]
theorem inclW_lt (l : List Nat) (t : Nat) {k : Nat} (hk : k ≤ 32) : inclW l t k < 4294967296 := wordOf_lt _ hk
theorem inclW_yes {l : List Nat} {i j : Nat} (h : subB (wd l i) (wd l j) = true) : inclW l i (j + 1) = orW (inclW l i j) (bitW j) := by
  show wordOf _ (j + 1) = _
  unfold wordOf
  rw [if_pos h]; rfl
theorem inclW_no {l : List Nat} {i j : Nat} (h : subB (wd l i) (wd l j) = false) : inclW l i (j + 1) = inclW l i j := by
  show wordOf _ (j + 1) = _
  unfold wordOf
  rw [if_neg (by rw [h]; simp)]; rfl
/-- the rows made so far -/
def inclUp (l : List Nat) (i : Nat) : List Nat := (List.range i).map fun t => inclW l t l.length
theorem inclUp_succ (l : List Nat) (i : Nat) : inclUp l (i + 1) = inclUp l i ++ [inclW l i l.length] := by
  unfold inclUp; rw [List.range_succ, List.map_append]; rfl
theorem inclUp_len (l : List Nat) (i : Nat) : (inclUp l i).length = i := by unfold inclUp; simp
theorem fit_inclL {l : List Nat} (hl : l.length ≤ 16) : Fit (inclL l) := fun i => by
  by_cases h : i < l.length
  · unfold inclL; rw [wd_map h]; exact inclW_lt l i (by omega)
  · unfold wd
    rw [List.getD_eq_getElem?_getD, List.getElem?_eq_none (by rw [inclL_len]; omega)]
    decide
theorem mem_incl {l : List Nat} (hl : ∀ i, wd l i < 4294967296) {i j : Nat} (hi : i < l.length) : hasB (wd (inclL l) i) j = true ↔ j < l.length ∧ ∀ x, hasB (wd l i) x = true → hasB (wd l j) x = true := by
  unfold inclL inclW
  rw [wd_map hi, hasB_wordOf, Bool.and_eq_true, decide_eq_true_iff, subB_iff (hl i)]
end Go.Proofs.YtjbfjdijgfhjfaaDoor
