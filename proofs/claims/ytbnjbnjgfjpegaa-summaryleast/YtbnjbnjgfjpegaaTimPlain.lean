/- Times, without a program: what is wrong with one, and with two; Leq, Less, Join, Meet. -/
import Derived.Test.YtbnjbnjgfjpegaaZRow
namespace Go.Proofs.Ytbnjbnjgfjpegaa
open Go.RowKit Go.Shelf

/-- may a number not stand in a time? -/
def outC (x : Int) : Bool := decide (x < 0 ∨ 1048576 < x)
theorem outC_true {x : Int} : outC x = true ↔ x < 0 ∨ 1048576 < x := by unfold outC; exact decide_eq_true_iff
theorem outC_false {x : Int} : outC x = false ↔ 0 ≤ x ∧ x ≤ 1048576 := by unfold outC; rw [decide_eq_false_iff_not]; omega
def Coords (zs : List Int) : Prop := ∀ i, i < zs.length → outC (zd zs i) = false
def decCoords (zs : List Int) : Decidable (Coords zs) := by unfold Coords; infer_instance
def coordB (zs : List Int) : Bool := @decide (Coords zs) (decCoords zs)
theorem coordB_true {zs : List Int} : coordB zs = true ↔ Coords zs := by unfold coordB; exact @decide_eq_true_iff _ (decCoords zs)
theorem coordB_false {zs : List Int} : coordB zs = false ↔ ¬ Coords zs := by unfold coordB; exact @decide_eq_false_iff_not _ (decCoords zs)
/-- what is wrong with a time -/
def codeT (zs : List Int) : Int := if zs.length < 1 ∨ 4 < zs.length then 1 else if coordB zs then 0 else 2
theorem codeT_large {zs : List Int} (h : zs.length < 1 ∨ 4 < zs.length) : codeT zs = 1 := if_pos h
theorem codeT_arg {zs : List Int} (h : ¬ (zs.length < 1 ∨ 4 < zs.length)) (h2 : coordB zs = false) : codeT zs = 2 := by unfold codeT; rw [if_neg h, h2]; rfl
theorem codeT_ok {zs : List Int} (h : ¬ (zs.length < 1 ∨ 4 < zs.length)) (h2 : coordB zs = true) : codeT zs = 0 := by unfold codeT; rw [if_neg h, h2]; rfl
theorem codeT_zero {zs : List Int} (h : codeT zs = 0) : 1 ≤ zs.length ∧ zs.length ≤ 4 ∧ Coords zs := by
  by_cases h1 : zs.length < 1 ∨ 4 < zs.length
  · rw [codeT_large h1] at h; exact absurd h (by decide)
  · cases h2 : coordB zs
    · rw [codeT_arg h1 h2] at h; exact absurd h (by decide)
    · exact ⟨by omega, by omega, coordB_true.1 h2⟩
theorem codeT_mk {zs : List Int} (h1 : 1 ≤ zs.length) (h2 : zs.length ≤ 4) (h3 : Coords zs) : codeT zs = 0 := codeT_ok (by omega) (coordB_true.2 h3)
/-- what is wrong with two times -/
def codeP (a b : List Int) : Int := if codeT a ≠ 0 then codeT a else if codeT b ≠ 0 then codeT b else if a.length ≠ b.length then 3 else 0
theorem codeP_a {a b : List Int} (h : codeT a ≠ 0) : codeP a b = codeT a := if_pos h
theorem codeP_b {a b : List Int} (h : codeT a = 0) (h2 : codeT b ≠ 0) : codeP a b = codeT b := by unfold codeP; rw [if_neg (by omega), if_pos h2]
theorem codeP_form {a b : List Int} (h : codeT a = 0) (h2 : codeT b = 0) (h3 : a.length ≠ b.length) : codeP a b = 3 := by unfold codeP; rw [if_neg (by omega), if_neg (by omega), if_pos h3]
theorem codeP_ok {a b : List Int} (h : codeT a = 0) (h2 : codeT b = 0) (h3 : a.length = b.length) : codeP a b = 0 := by unfold codeP; rw [if_neg (by omega), if_neg (by omega), if_neg (by omega)]
theorem codeP_zero {a b : List Int} (h : codeP a b = 0) : codeT a = 0 ∧ codeT b = 0 ∧ a.length = b.length := by
  by_cases h1 : codeT a = 0
  · by_cases h2 : codeT b = 0
    · by_cases h3 : a.length = b.length
      · exact ⟨h1, h2, h3⟩
      · rw [codeP_form h1 h2 h3] at h; exact absurd h (by decide)
    · rw [codeP_b h1 h2] at h; exact absurd h h2
  · rw [codeP_a h1] at h; exact absurd h h1
/-- is no number greater than the other's at its place? -/
def LeqZ (a b : List Int) : Prop := ∀ i, i < a.length → zd a i ≤ zd b i
def decLeqZ (a b : List Int) : Decidable (LeqZ a b) := by unfold LeqZ; infer_instance
def leqT (a b : List Int) : Bool := decide (codeP a b = 0) && @decide (LeqZ a b) (decLeqZ a b)
theorem leqT_true {a b : List Int} : leqT a b = true ↔ codeP a b = 0 ∧ LeqZ a b := by
  unfold leqT; rw [Bool.and_eq_true, decide_eq_true_iff, @decide_eq_true_iff _ (decLeqZ a b)]
theorem leqT_bad {a b : List Int} (h : codeP a b ≠ 0) : leqT a b = false := by
  rw [Bool.eq_false_iff]; intro h'; exact h (leqT_true.1 h').1
theorem leqT_no {a b : List Int} {i : Nat} (hi : i < a.length) (h : zd b i < zd a i) : leqT a b = false := by
  rw [Bool.eq_false_iff]; intro h'; have := (leqT_true.1 h').2 i hi; omega
/-- is the first number that differs less? -/
def LexZ (a b : List Int) : Prop := ∃ k, k < a.length ∧ (∀ j, j < k → zd a j = zd b j) ∧ zd a k < zd b k
def decLexZ (a b : List Int) : Decidable (LexZ a b) := by
  unfold LexZ
  exact @decidable_of_iff _ (∃ k : Fin a.length, (∀ j, j < k.1 → zd a j = zd b j) ∧ zd a k.1 < zd b k.1)
    ⟨fun ⟨k, h⟩ => ⟨k.1, k.2, h⟩, fun ⟨k, h, h'⟩ => ⟨⟨k, h⟩, h'⟩⟩ inferInstance
def lessT (a b : List Int) : Bool := decide (codeP a b = 0) && @decide (LexZ a b) (decLexZ a b)
theorem lessT_true {a b : List Int} : lessT a b = true ↔ codeP a b = 0 ∧ LexZ a b := by
  unfold lessT; rw [Bool.and_eq_true, decide_eq_true_iff, @decide_eq_true_iff _ (decLexZ a b)]
theorem lessT_bad {a b : List Int} (h : codeP a b ≠ 0) : lessT a b = false := by
  rw [Bool.eq_false_iff]; intro h'; exact h (lessT_true.1 h').1
theorem lessT_no {a b : List Int} {k : Nat} (he : ∀ j, j < k → zd a j = zd b j) (h : zd b k < zd a k) : lessT a b = false := by
  rw [Bool.eq_false_iff]; intro h'
  obtain ⟨m, hm, hj, hl⟩ := (lessT_true.1 h').2
  rcases Nat.lt_trichotomy m k with e | e | e
  · have := he m e; omega
  · subst e; omega
  · have := hj k e; omega
theorem lessT_same {a b : List Int} (he : ∀ j, j < a.length → zd a j = zd b j) : lessT a b = false := by
  rw [Bool.eq_false_iff]; intro h'
  obtain ⟨m, hm, hj, hl⟩ := (lessT_true.1 h').2
  have := he m hm; omega
/-- the Join, or the Meet -/
def joinT (up : Bool) (a b : List Int) : List Int := (List.range a.length).map fun i => if up then max (zd a i) (zd b i) else min (zd a i) (zd b i)
theorem joinT_len (up : Bool) (a b : List Int) : (joinT up a b).length = a.length := by unfold joinT; simp
theorem zd_joinT {up : Bool} {a b : List Int} {i : Nat} (h : i < a.length) : zd (joinT up a b) i = if up then max (zd a i) (zd b i) else min (zd a i) (zd b i) := by
  unfold joinT; exact zd_range (fun i => if up then max (zd a i) (zd b i) else min (zd a i) (zd b i)) h
/-- the one or the other of two numbers -/
def pickZ (up : Bool) (x y : Int) : Int := if up then max x y else min x y
theorem zd_joinP {up : Bool} {a b : List Int} {i : Nat} (h : i < a.length) : zd (joinT up a b) i = pickZ up (zd a i) (zd b i) := zd_joinT h
theorem joinT_code {up : Bool} {a b : List Int} (h : codeP a b = 0) : codeT (joinT up a b) = 0 := by
  obtain ⟨h1, h2, h3⟩ := codeP_zero h
  obtain ⟨l1, l2, c1⟩ := codeT_zero h1
  obtain ⟨_, _, c2⟩ := codeT_zero h2
  refine codeT_mk (by rw [joinT_len]; exact l1) (by rw [joinT_len]; exact l2) fun i hi => ?_
  rw [joinT_len] at hi
  rw [zd_joinT hi]
  have e1 := outC_false.1 (c1 i hi)
  have e2 := outC_false.1 (c2 i (by omega))
  rw [outC_false]
  cases up <;> simp <;> omega
end Go.Proofs.Ytbnjbnjgfjpegaa
