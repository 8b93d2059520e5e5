/- Plain mathematics of orders as lists of words: when one may be, and its number of what is wrong. -/
import Derived.Test.YtbnjbnjgfjpegaaWords
namespace Go.Proofs.Ytbnjbnjgfjpegaa

/-- no word has an element beyond as many as there are words -/
def Inside (us : List Nat) : Prop := ∀ i, i < us.length → ∀ j, j < 32 → hasB (wd us i) j = true → j < us.length
/-- element i of an order, as A1 asks of it -/
def goodPair (us : List Nat) (i j : Nat) : Prop :=
  (i = j → hasB (wd us i) i = true) ∧ (i ≠ j → hasB (wd us i) j = true → hasB (wd us j) i = false)
def goodTri (us : List Nat) (i j k : Nat) : Prop := hasB (wd us i) j = true → hasB (wd us j) k = true → hasB (wd us i) k = true
def goodRow (us : List Nat) (i : Nat) : Prop := ∀ j, j < us.length → goodPair us i j ∧ ∀ k, k < us.length → goodTri us i j k
def IsOrd (us : List Nat) : Prop := ∀ i, i < us.length → goodRow us i
def decInside (us : List Nat) : Decidable (Inside us) := by unfold Inside; infer_instance
def decPair (us : List Nat) (i j : Nat) : Decidable (goodPair us i j) := by unfold goodPair; infer_instance
def decTri (us : List Nat) (i j k : Nat) : Decidable (goodTri us i j k) := by unfold goodTri; infer_instance
def decRow (us : List Nat) (i : Nat) : Decidable (goodRow us i) := by
  unfold goodRow
  have h1 : ∀ j, Decidable (goodPair us i j) := fun j => decPair us i j
  have h2 : ∀ j k, Decidable (goodTri us i j k) := fun j k => decTri us i j k
  infer_instance
def decOrd (us : List Nat) : Decidable (IsOrd us) := by
  unfold IsOrd
  have h1 : ∀ i, Decidable (goodRow us i) := fun i => decRow us i
  infer_instance
def insideB (us : List Nat) : Bool := @decide (Inside us) (decInside us)
def isOrdB (us : List Nat) : Bool := @decide (IsOrd us) (decOrd us)
theorem insideB_true {us : List Nat} : insideB us = true ↔ Inside us := by unfold insideB; exact @decide_eq_true_iff _ (decInside us)
theorem insideB_false {us : List Nat} : insideB us = false ↔ ¬ Inside us := by unfold insideB; exact @decide_eq_false_iff_not _ (decInside us)
theorem isOrdB_true {us : List Nat} : isOrdB us = true ↔ IsOrd us := by unfold isOrdB; exact @decide_eq_true_iff _ (decOrd us)
theorem isOrdB_false {us : List Nat} : isOrdB us = false ↔ ¬ IsOrd us := by unfold isOrdB; exact @decide_eq_false_iff_not _ (decOrd us)

/-- what is wrong with an order, by its number (A1) -/
def codeOf (n : Int) (us : List Nat) : Int :=
  if n < 0 ∨ 16 < n then 1 else if (us.length : Int) ≠ n then 2 else if insideB us = false then 2 else if isOrdB us = false then 3 else 0
theorem code_large {n : Int} {us : List Nat} (h : n < 0 ∨ 16 < n) : codeOf n us = 1 := by unfold codeOf; rw [if_pos h]
theorem code_len {n : Int} {us : List Nat} (h : ¬ (n < 0 ∨ 16 < n)) (h2 : (us.length : Int) ≠ n) : codeOf n us = 2 := by unfold codeOf; rw [if_neg h, if_pos h2]
theorem code_arg {n : Int} {us : List Nat} (h : ¬ (n < 0 ∨ 16 < n)) (h2 : (us.length : Int) = n) (h3 : insideB us = false) : codeOf n us = 2 := by
  unfold codeOf; rw [if_neg h, if_neg (by simp [h2]), if_pos h3]
theorem code_form {n : Int} {us : List Nat} (h : ¬ (n < 0 ∨ 16 < n)) (h2 : (us.length : Int) = n) (h3 : insideB us = true) (h4 : isOrdB us = false) : codeOf n us = 3 := by
  unfold codeOf; rw [if_neg h, if_neg (by simp [h2]), if_neg (by simp [h3]), if_pos h4]
theorem code_ok {n : Int} {us : List Nat} (h : ¬ (n < 0 ∨ 16 < n)) (h2 : (us.length : Int) = n) (h3 : insideB us = true) (h4 : isOrdB us = true) : codeOf n us = 0 := by
  unfold codeOf; rw [if_neg h, if_neg (by simp [h2]), if_neg (by simp [h3]), if_neg (by simp [h4])]
/-- what code 0 says -/
theorem code_zero {n : Int} {us : List Nat} (h : codeOf n us = 0) : 0 ≤ n ∧ n ≤ 16 ∧ (us.length : Int) = n ∧ Inside us ∧ IsOrd us := by
  unfold codeOf at h
  by_cases h1 : n < 0 ∨ 16 < n
  · rw [if_pos h1] at h; simp at h
  · rw [if_neg h1] at h
    by_cases h2 : (us.length : Int) ≠ n
    · rw [if_pos h2] at h; simp at h
    · rw [if_neg h2] at h
      by_cases h3 : insideB us = false
      · rw [if_pos h3] at h; simp at h
      · rw [if_neg h3] at h
        by_cases h4 : isOrdB us = false
        · rw [if_pos h4] at h; simp at h
        · exact ⟨by omega, by omega, by omega, insideB_true.1 (by simpa using h3), isOrdB_true.1 (by simpa using h4)⟩

/-- the word of i without i: what the program looks at -/
theorem row_iff {us : List Nat} (hf : ∀ i, wd us i < 4294967296) (hin : Inside us) {i : Nat} (hi : i < us.length) :
    goodRow us i ↔ hasB (wd us i) i = true ∧ ∀ j, hasB (andN (wd us i) (bitW i)) j = true → hasB (wd us j) i = false ∧ andN (wd us j) (wd us i) = 0 := by
  constructor
  · intro h
    refine ⟨(h i hi).1.1 rfl, fun j hj => ?_⟩
    rw [hasB_andN (hf i), hasB_bitW] at hj
    simp at hj
    obtain ⟨h1, h2⟩ := hj
    have hjn : j < us.length := hin i hi j (hasB_lt (hf i) h1) h1
    refine ⟨(h j hjn).1.2 h2 h1, ?_⟩
    rw [word_zero]
    intro k
    rw [hasB_andN (hf j)]
    cases hk : hasB (wd us j) k with
    | false => rfl
    | true =>
      have hkn := hin j hjn k (hasB_lt (hf j) hk) hk
      rw [(h j hjn).2 k hkn h1 hk]; rfl
  · rintro ⟨h0, h⟩ j hj
    refine ⟨⟨fun e => e ▸ h0, fun hne h1 => ?_⟩, fun k hk h1 h2 => ?_⟩
    · exact (h j (by rw [hasB_andN (hf i), hasB_bitW]; simp [h1, hne])).1
    · by_cases hne : i = j
      · subst hne; exact h2
      · have h3 := (h j (by rw [hasB_andN (hf i), hasB_bitW]; simp [h1, hne])).2
        rw [word_zero] at h3
        have h4 := h3 k
        rw [hasB_andN (hf j), h2] at h4
        simpa using h4
theorem inside_iff {us : List Nat} (hf : ∀ i, wd us i < 4294967296) : Inside us ↔ ∀ i, i < us.length → andN (wd us i) (allW us.length) = 0 := by
  constructor
  · intro h i hi
    rw [word_zero]; intro j
    rw [hasB_andN (hf i), hasB_all]
    cases hj : hasB (wd us i) j with
    | false => rfl
    | true => simp [h i hi j (hasB_lt (hf i) hj) hj]
  · intro h i hi j _ hj
    have := h i hi
    rw [word_zero] at this
    have := this j
    rw [hasB_andN (hf i), hasB_all, hj] at this
    simpa using this
def Within (x n : Nat) : Prop := ∀ i, i < 32 → hasB x i = true → i < n
def decWithin (x n : Nat) : Decidable (Within x n) := by unfold Within; infer_instance
def outsideB (x n : Nat) : Bool := !@decide (Within x n) (decWithin x n)
theorem outsideB_false {x n : Nat} : outsideB x n = false ↔ ∀ i, i < 32 → n ≤ i → hasB x i = false := by
  unfold outsideB; rw [Bool.not_eq_false', @decide_eq_true_iff _ (decWithin x n)]
  constructor
  · intro h i h1 h2; cases hb : hasB x i with
    | false => rfl
    | true => have := h i h1 hb; omega
  · intro h i h1 h2
    apply Nat.lt_of_not_le; intro h3
    rw [h i h1 h3] at h2; cases h2
theorem outsideB_true {x n : Nat} (h : ∃ i, i < 32 ∧ n ≤ i ∧ hasB x i = true) : outsideB x n = true := by
  obtain ⟨i, h1, h2, h3⟩ := h
  cases hb : outsideB x n with
  | true => rfl
  | false => rw [outsideB_false.1 hb i h1 h2] at h3; cases h3

end Go.Proofs.Ytbnjbnjgfjpegaa
