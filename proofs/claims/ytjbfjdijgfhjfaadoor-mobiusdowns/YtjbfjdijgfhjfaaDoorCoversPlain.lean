/- Plain mathematics of covers: which elements cover which, as a list of pairs. -/
import Derived.Test.YtjbfjdijgfhjfaaDoorPlain
import Derived.Test.YtjbfjdijgfhjfaaDoorOthPlain
namespace Go.Proofs.YtjbfjdijgfhjfaaDoor

/-- two rising lists with the same elements are the same -/
theorem sorted_ext : ∀ {l1 l2 : List Nat}, l1.Pairwise (· < ·) → l2.Pairwise (· < ·) → (∀ x, x ∈ l1 ↔ x ∈ l2) → l1 = l2
  | [], [], _, _, _ => rfl
  | [], b :: l2, _, _, h => by have := (h b).2 (by simp); cases this
  | a :: l1, [], _, _, h => by have := (h a).1 (by simp); cases this
  | a :: l1, b :: l2, h1, h2, h => by
    rw [List.pairwise_cons] at h1 h2
    have hab : a = b := by
      rcases List.mem_cons.1 ((h a).1 (by simp)) with e | ha
      · exact e
      · rcases List.mem_cons.1 ((h b).2 (by simp)) with e | hb
        · exact e.symm
        · have := h2.1 a ha; have := h1.1 b hb; omega
    subst hab
    rw [sorted_ext h1.2 h2.2]
    intro x
    constructor
    · intro hx
      rcases List.mem_cons.1 ((h x).1 (by simp [hx])) with e | hx'
      · subst e; have := h1.1 x hx; omega
      · exact hx'
    · intro hx
      rcases List.mem_cons.1 ((h x).2 (by simp [hx])) with e | hx'
      · subst e; have := h2.1 x hx; omega
      · exact hx'
theorem elems_filter {x n : Nat} (hx : x < 18446744073709551616) (h : ∀ j, hasB x j = true → j < n) : elems x = (List.range n).filter (fun j => hasB x j) := by
  refine sorted_ext (sorted_elems hx) (List.Pairwise.filter _ List.pairwise_lt_range) fun j => ?_
  rw [mem_elems hx, List.mem_filter, List.mem_range]
  exact ⟨fun hj => ⟨h j hj, hj⟩, fun hj => hj.2⟩

/-- i is strictly below j -/
def underB (us : List Nat) (i j : Nat) : Bool := !decide (i = j) && hasB (wd us i) j
theorem underB_true {us : List Nat} {i j : Nat} : underB us i j = true ↔ i ≠ j ∧ hasB (wd us i) j = true := by unfold underB; simp
theorem underB_false {us : List Nat} {i j : Nat} (h : ¬ (i ≠ j ∧ hasB (wd us i) j = true)) : underB us i j = false := by
  cases hb : underB us i j with
  | false => rfl
  | true => exact absurd (underB_true.1 hb) h
/-- b covers a -/
def coverB (us : List Nat) (a b : Nat) : Bool := underB us a b && (List.range us.length).all fun x => !(underB us a x && underB us x b)
theorem coverB_true {us : List Nat} {a b : Nat} : coverB us a b = true ↔ underB us a b = true ∧ ∀ x, x < us.length → ¬ (underB us a x = true ∧ underB us x b = true) := by
  unfold coverB
  rw [Bool.and_eq_true, List.all_eq_true]
  constructor
  · rintro ⟨h1, h2⟩
    refine ⟨h1, fun x hx ⟨h3, h4⟩ => ?_⟩
    have := h2 x (List.mem_range.2 hx)
    rw [h3, h4] at this; cases this
  · rintro ⟨h1, h2⟩
    refine ⟨h1, fun x hx => ?_⟩
    have := h2 x (List.mem_range.1 hx)
    cases h3 : underB us a x <;> cases h4 : underB us x b <;> simp_all
theorem coverB_under {us : List Nat} {a b : Nat} (h : underB us a b = false) : coverB us a b = false := by unfold coverB; simp [h]
theorem coverB_false {us : List Nat} {a b x : Nat} (hx : x < us.length) (h1 : underB us a x = true) (h2 : underB us x b = true) : coverB us a b = false := by
  cases hb : coverB us a b with
  | false => rfl
  | true => exact absurd ⟨h1, h2⟩ ((coverB_true.1 hb).2 x hx)
/-- the covers of a, rising, among the first m -/
def coverRow (us : List Nat) (a m : Nat) : List (Nat × Nat) := ((List.range m).filter (coverB us a)).map fun b => (a, b)
theorem coverRow_zero (us : List Nat) (a : Nat) : coverRow us a 0 = [] := rfl
theorem coverRow_succ (us : List Nat) (a m : Nat) : coverRow us a (m + 1) = coverRow us a m ++ if coverB us a m then [(a, m)] else [] := by
  unfold coverRow; rw [List.range_succ, List.filter_append, List.map_append]; congr 1
  cases h : coverB us a m <;> simp [h]
/-- the covers of the first k, by a, then by b -/
def coverL (us : List Nat) : Nat → List (Nat × Nat)
  | 0 => []
  | k + 1 => coverL us k ++ coverRow us k us.length
theorem coverRow_len (us : List Nat) (a m : Nat) : (coverRow us a m).length ≤ m := by
  unfold coverRow; rw [List.length_map]; have := List.length_filter_le (coverB us a) (List.range m); simpa using this
theorem coverL_len (us : List Nat) : ∀ k, (coverL us k).length ≤ k * us.length
  | 0 => by simp [coverL]
  | k + 1 => by
    have h1 := coverL_len us k
    have h2 := coverRow_len us k us.length
    have h3 : (k + 1) * us.length = k * us.length + us.length := Nat.succ_mul k us.length
    unfold coverL; rw [List.length_append]; omega

/-- what the program asks of a and b, and what the document asks -/
theorem hasB_below {us ds : List Nat} (hT : Tur us us.length [] ds) {b : Nat} (hb : b < us.length) (x : Nat) : hasB (wd (othL ds) b) x = underB us x b := by
  have hbd : b < ds.length := by rw [hT.len]; exact hb
  rw [hasB_othL hT.fit hbd, hT.has b hb]
  unfold underB
  by_cases hx : x < us.length
  · by_cases e : b = x
    · subst e; simp
    · have : ¬ x = b := fun e' => e e'.symm
      simp [hx, e, this]
  · have h0 : hasB (wd us x) b = false := by rw [wd_out (by omega), hasB_zero]
    simp [hx, h0]
theorem hasB_above {us : List Nat} (hf : Fit us) {a : Nat} (ha : a < us.length) (x : Nat) : hasB (wd (othL us) a) x = underB us a x := by
  rw [hasB_othL hf ha]; unfold underB; rw [Bool.and_comm]
theorem under_lt {us : List Nat} (hf : Fit us) (hin : Inside us) {a b : Nat} (ha : a < us.length) (h : underB us a b = true) : b < us.length := by
  have h1 := (underB_true.1 h).2
  exact hin a ha b (hasB_lt (hf a) h1) h1
theorem cover_iff {us ds : List Nat} (hf : Fit us) (hin : Inside us) (hT : Tur us us.length [] ds) {a b : Nat} (ha : a < us.length) (hu : underB us a b = true) :
    andW (wd (othL us) a) (wd (othL ds) b) = 0 ↔ coverB us a b = true := by
  have hb := under_lt hf hin ha hu
  rw [word_zero, coverB_true]
  constructor
  · intro h
    refine ⟨hu, fun x _ ⟨h1, h2⟩ => ?_⟩
    have := h x
    rw [hasB_and, hasB_above hf ha, hasB_below hT hb, h1, h2] at this
    cases this
  · rintro ⟨_, h⟩ x
    rw [hasB_and, hasB_above hf ha, hasB_below hT hb]
    cases h1 : underB us a x with
    | false => rfl
    | true =>
      cases h2 : underB us x b with
      | false => rfl
      | true => exact absurd ⟨h1, h2⟩ (h x (under_lt hf hin ha h1))
/-- the covers of a among those of pre -/
def coverPart (us : List Nat) (a : Nat) (pre : List Nat) : List (Nat × Nat) := (pre.filter (coverB us a)).map fun b => (a, b)
theorem coverPart_snoc (us : List Nat) (a : Nat) (pre : List Nat) (b : Nat) : coverPart us a (pre ++ [b]) = coverPart us a pre ++ if coverB us a b then [(a, b)] else [] := by
  unfold coverPart; rw [List.filter_append, List.map_append]; congr 1
  cases h : coverB us a b <;> simp [h]
theorem coverPart_all {us : List Nat} (hf : Fit us) (hin : Inside us) {a : Nat} (ha : a < us.length) : coverPart us a (elems (wd (othL us) a)) = coverRow us a us.length := by
  unfold coverPart coverRow
  have hlt : wd (othL us) a < 4294967296 := othL_fit hf a
  rw [elems_filter (x := wd (othL us) a) (n := us.length) (by omega) (fun j hj => under_lt hf hin ha (by rw [← hasB_above hf ha]; exact hj)), List.filter_filter]
  congr 1
  apply List.filter_congr
  intro b _
  rw [hasB_above hf ha]
  cases hc : coverB us a b with
  | false => simp
  | true => simp [(coverB_true.1 hc).1]
theorem coverPart_len (us : List Nat) (a : Nat) (pre : List Nat) : (coverPart us a pre).length ≤ pre.length := by
  unfold coverPart; rw [List.length_map]; exact List.length_filter_le _ _
theorem elems_len {x n : Nat} (hx : x < 18446744073709551616) (h : ∀ j, hasB x j = true → j < n) : (elems x).length ≤ n := by
  rw [elems_filter hx h]; have := List.length_filter_le (fun j => hasB x j) (List.range n); simpa using this
end Go.Proofs.YtjbfjdijgfhjfaaDoor
