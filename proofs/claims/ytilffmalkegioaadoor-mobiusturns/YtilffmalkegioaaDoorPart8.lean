/- Plain mathematics of covers: which elements cover which, as a list of pairs. Plain mathematics of lining elements up: each time the least one of which all that must come ahead has come. -/
import Derived.Test.YtilffmalkegioaaDoorPart3
import Derived.Test.YtilffmalkegioaaDoorPart7
import Derived.Test.YtilffmalkegioaaDoorPart5
namespace Go.Proofs.YtilffmalkegioaaDoor

/-- two rising lists with the same elements are the same -/
theorem sorted_ext : ∀ {l1 l2 : List Nat}, l1.Pairwise (· < ·) → l2.Pairwise (· < ·) → (∀ x, x ∈ l1 ↔ x ∈ l2) → l1 = l2
  | [], [], _, _, _ => rfl
  | [], b :: l2, _, _, h => by have := (h b).2 (by simp); cases this
  | a :: l1, [], _, _, h => by have := (h a).1 (by simp); cases this
  | a :: l1, b :: l2, h1, h2, h => by
    rw [List.pairwise_cons] at h1 h2
    have hab : a = b := by
      rcases List.mem_cons.1 ((h a).1 (by simp)) with e | ha
      · exact e
      · rcases List.mem_cons.1 ((h b).2 (by simp)) with e | hb
        · exact e.symm
        · have := h2.1 a ha; have := h1.1 b hb; omega
    subst hab
    rw [sorted_ext h1.2 h2.2]
    intro x
    constructor
    · intro hx
      rcases List.mem_cons.1 ((h x).1 (by simp [hx])) with e | hx'
      · subst e; have := h1.1 x hx; omega
      · exact hx'
    · intro hx
      rcases List.mem_cons.1 ((h x).2 (by simp [hx])) with e | hx'
      · subst e; have := h2.1 x hx; omega
      · exact hx'
theorem elems_filter {x n : Nat} (hx : x < 18446744073709551616) (h : ∀ j, hasB x j = true → j < n) : elems x = (List.range n).filter (fun j => hasB x j) := by
  refine sorted_ext (sorted_elems hx) (List.Pairwise.filter _ List.pairwise_lt_range) fun j => ?_
  rw [mem_elems hx, List.mem_filter, List.mem_range]
  exact ⟨fun hj => ⟨h j hj, hj⟩, fun hj => hj.2⟩

/-- i is strictly below j -/
def underB (us : List Nat) (i j : Nat) : Bool := !decide (i = j) && hasB (wd us i) j
theorem underB_true {us : List Nat} {i j : Nat} : underB us i j = true ↔ i ≠ j ∧ hasB (wd us i) j = true := by unfold underB; simp
theorem underB_false {us : List Nat} {i j : Nat} (h : ¬ (i ≠ j ∧ hasB (wd us i) j = true)) : underB us i j = false := by
  cases hb : underB us i j with
  | false => rfl
  | true => exact absurd (underB_true.1 hb) h
/-- b covers a -/
def coverB (us : List Nat) (a b : Nat) : Bool := underB us a b && (List.range us.length).all fun x => !(underB us a x && underB us x b)
theorem coverB_true {us : List Nat} {a b : Nat} : coverB us a b = true ↔ underB us a b = true ∧ ∀ x, x < us.length → ¬ (underB us a x = true ∧ underB us x b = true) := by
  unfold coverB
  rw [Bool.and_eq_true, List.all_eq_true]
  constructor
  · rintro ⟨h1, h2⟩
    refine ⟨h1, fun x hx ⟨h3, h4⟩ => ?_⟩
    have := h2 x (List.mem_range.2 hx)
    rw [h3, h4] at this; cases this
  · rintro ⟨h1, h2⟩
    refine ⟨h1, fun x hx => ?_⟩
    have := h2 x (List.mem_range.1 hx)
    cases h3 : underB us a x <;> cases h4 : underB us x b <;> simp_all
theorem coverB_under {us : List Nat} {a b : Nat} (h : underB us a b = false) : coverB us a b = false := by unfold coverB; simp [h]
theorem coverB_false {us : List Nat} {a b x : Nat} (hx : x < us.length) (h1 : underB us a x = true) (h2 : underB us x b = true) : coverB us a b = false := by
  cases hb : coverB us a b with
  | false => rfl
  | true => exact absurd ⟨h1, h2⟩ ((coverB_true.1 hb).2 x hx)
/-- the covers of a, rising, among the first m -/
def coverRow (us : List Nat) (a m : Nat) : List (Nat × Nat) := ((List.range m).filter (coverB us a)).map fun b => (a, b)
theorem coverRow_zero (us : List Nat) (a : Nat) : coverRow us a 0 = [] := rfl
theorem coverRow_succ (us : List Nat) (a m : Nat) : coverRow us a (m + 1) = coverRow us a m ++ if coverB us a m then [(a, m)] else [] := by
  unfold coverRow; rw [List.range_succ, List.filter_append, List.map_append]; congr 1
  cases h : coverB us a m <;> simp [h]
/-- the covers of the first k, by a, then by b -/
def coverL (us : List Nat) : Nat → List (Nat × Nat)
  | 0 => []
  | k + 1 => coverL us k ++ coverRow us k us.length
theorem coverRow_len (us : List Nat) (a m : Nat) : (coverRow us a m).length ≤ m := by
  unfold coverRow; rw [List.length_map]; have := List.length_filter_le (coverB us a) (List.range m); simpa using this
theorem coverL_len (us : List Nat) : ∀ k, (coverL us k).length ≤ k * us.length
  | 0 => by simp [coverL]
  | k + 1 => by
    have h1 := coverL_len us k
    have h2 := coverRow_len us k us.length
    have h3 : (k + 1) * us.length = k * us.length + us.length := Nat.succ_mul k us.length
    unfold coverL; rw [List.length_append]; omega

/-- what the program asks of a and b, and what the document asks -/
theorem hasB_below {us ds : List Nat} (hT : Tur us us.length [] ds) {b : Nat} (hb : b < us.length) (x : Nat) : hasB (wd (othL ds) b) x = underB us x b := by
  have hbd : b < ds.length := by rw [hT.len]; exact hb
  rw [hasB_othL hT.fit hbd, hT.has b hb]
  unfold underB
  by_cases hx : x < us.length
  · by_cases e : b = x
    · subst e; simp
    · have : ¬ x = b := fun e' => e e'.symm
      simp [hx, e, this]
  · have h0 : hasB (wd us x) b = false := by rw [wd_out (by omega), hasB_zero]
    simp [hx, h0]
theorem hasB_above {us : List Nat} (hf : Fit us) {a : Nat} (ha : a < us.length) (x : Nat) : hasB (wd (othL us) a) x = underB us a x := by
  rw [hasB_othL hf ha]; unfold underB; rw [Bool.and_comm]
theorem under_lt {us : List Nat} (hf : Fit us) (hin : Inside us) {a b : Nat} (ha : a < us.length) (h : underB us a b = true) : b < us.length := by
  have h1 := (underB_true.1 h).2
  exact hin a ha b (hasB_lt (hf a) h1) h1
theorem cover_iff {us ds : List Nat} (hf : Fit us) (hin : Inside us) (hT : Tur us us.length [] ds) {a b : Nat} (ha : a < us.length) (hu : underB us a b = true) :
    andW (wd (othL us) a) (wd (othL ds) b) = 0 ↔ coverB us a b = true := by
  have hb := under_lt hf hin ha hu
  rw [word_zero, coverB_true]
  constructor
  · intro h
    refine ⟨hu, fun x _ ⟨h1, h2⟩ => ?_⟩
    have := h x
    rw [hasB_and, hasB_above hf ha, hasB_below hT hb, h1, h2] at this
    cases this
  · rintro ⟨_, h⟩ x
    rw [hasB_and, hasB_above hf ha, hasB_below hT hb]
    cases h1 : underB us a x with
    | false => rfl
    | true =>
      cases h2 : underB us x b with
      | false => rfl
      | true => exact absurd ⟨h1, h2⟩ (h x (under_lt hf hin ha h1))
/-- the covers of a among those of pre -/
def coverPart (us : List Nat) (a : Nat) (pre : List Nat) : List (Nat × Nat) := (pre.filter (coverB us a)).map fun b => (a, b)
theorem coverPart_snoc (us : List Nat) (a : Nat) (pre : List Nat) (b : Nat) : coverPart us a (pre ++ [b]) = coverPart us a pre ++ if coverB us a b then [(a, b)] else [] := by
  unfold coverPart; rw [List.filter_append, List.map_append]; congr 1
  cases h : coverB us a b <;> simp [h]
theorem coverPart_all {us : List Nat} (hf : Fit us) (hin : Inside us) {a : Nat} (ha : a < us.length) : coverPart us a (elems (wd (othL us) a)) = coverRow us a us.length := by
  unfold coverPart coverRow
  have hlt : wd (othL us) a < 4294967296 := othL_fit hf a
  rw [elems_filter (x := wd (othL us) a) (n := us.length) (by omega) (fun j hj => under_lt hf hin ha (by rw [← hasB_above hf ha]; exact hj)), List.filter_filter]
  congr 1
  apply List.filter_congr
  intro b _
  rw [hasB_above hf ha]
  cases hc : coverB us a b with
  | false => simp
  | true => simp [(coverB_true.1 hc).1]
theorem coverPart_len (us : List Nat) (a : Nat) (pre : List Nat) : (coverPart us a pre).length ≤ pre.length := by
  unfold coverPart; rw [List.length_map]; exact List.length_filter_le _ _
theorem elems_len {x n : Nat} (hx : x < 18446744073709551616) (h : ∀ j, hasB x j = true → j < n) : (elems x).length ≤ n := by
  rw [elems_filter hx h]; have := List.length_filter_le (fun j => hasB x j) (List.range n); simpa using this
end Go.Proofs.YtilffmalkegioaaDoor

namespace Go.Proofs.YtilffmalkegioaaDoor

/-- may i come next? R x i: x must come ahead of i -/
def readyB (R : Nat → Nat → Bool) (n : Nat) (done : List Nat) (i : Nat) : Bool := !memB done i && (List.range n).all fun x => !(R x i && !memB done x)
theorem readyB_true {R : Nat → Nat → Bool} {n : Nat} {done : List Nat} {i : Nat} : readyB R n done i = true ↔ i ∉ done ∧ ∀ x, x < n → R x i = true → x ∈ done := by
  unfold readyB
  rw [Bool.and_eq_true, Bool.not_eq_true', memB_false, List.all_eq_true]
  constructor
  · rintro ⟨h1, h2⟩
    refine ⟨h1, fun x hx hR => ?_⟩
    have := h2 x (List.mem_range.2 hx)
    rw [hR] at this
    exact memB_true.1 (by simpa using this)
  · rintro ⟨h1, h2⟩
    refine ⟨h1, fun x hx => ?_⟩
    cases hR : R x i with
    | false => rfl
    | true => simp [memB_true.2 (h2 x (List.mem_range.1 hx) hR)]
theorem readyB_false {R : Nat → Nat → Bool} {n : Nat} {done : List Nat} {i : Nat} (h : ¬ (i ∉ done ∧ ∀ x, x < n → R x i = true → x ∈ done)) : readyB R n done i = false := by
  cases hb : readyB R n done i with
  | false => rfl
  | true => exact absurd (readyB_true.1 hb) h
/-- the least that may come; 0, if none may -/
def nextF (R : Nat → Nat → Bool) (n : Nat) (done : List Nat) : Nat := ((List.range n).find? (readyB R n done)).getD 0
/-- the first k of the line -/
def sortF (R : Nat → Nat → Bool) (n : Nat) : Nat → List Nat
  | 0 => []
  | k + 1 => sortF R n k ++ [nextF R n (sortF R n k)]
theorem sortF_len (R : Nat → Nat → Bool) (n : Nat) : ∀ k, (sortF R n k).length = k
  | 0 => rfl
  | k + 1 => by unfold sortF; simp [sortF_len R n k]
/-- as long as some are left, one may come -/
def Acy (R : Nat → Nat → Bool) (n : Nat) : Prop := ∀ done : List Nat, (∃ i, i < n ∧ i ∉ done) → ∃ i, i < n ∧ readyB R n done i = true
theorem next_spec {R : Nat → Nat → Bool} {n : Nat} {done : List Nat} (h : ∃ i, i < n ∧ readyB R n done i = true) :
    nextF R n done < n ∧ readyB R n done (nextF R n done) = true ∧ ∀ j, j < nextF R n done → readyB R n done j = false := by
  unfold nextF
  cases hf : (List.range n).find? (readyB R n done) with
  | none =>
    obtain ⟨i, hi, hr⟩ := h
    have := List.find?_eq_none.1 hf i (List.mem_range.2 hi)
    rw [hr] at this; simp at this
  | some m =>
    have hm := List.find?_range_eq_some.1 hf
    refine ⟨List.mem_range.1 hm.2.1, hm.1, fun j hj => ?_⟩
    have := hm.2.2 j hj
    simpa using this
theorem next_of {R : Nat → Nat → Bool} {n : Nat} {done : List Nat} {m : Nat} (hm : m < n) (hr : readyB R n done m = true) (hl : ∀ j, j < m → readyB R n done j = false) : nextF R n done = m := by
  obtain ⟨h1, h2, h3⟩ := next_spec ⟨m, hm, hr⟩
  rcases Nat.lt_trichotomy (nextF R n done) m with h | h | h
  · rw [hl _ h] at h2; cases h2
  · exact h
  · rw [h3 _ h] at hr; cases hr
theorem nodup_le : ∀ {a b : List Nat}, a.Nodup → (∀ x ∈ a, x ∈ b) → a.length ≤ b.length
  | [], _, _, _ => by simp
  | x :: a, b, hn, hs => by
    rw [List.nodup_cons] at hn
    have hx : x ∈ b := hs x (by simp)
    have h1 := nodup_le (b := b.erase x) hn.2 (fun y hy => by
      have hne : y ≠ x := fun e => hn.1 (by rw [← e]; exact hy)
      exact (List.mem_erase_of_ne hne).2 (hs y (by simp [hy])))
    have h2 := List.length_erase_of_mem hx
    have h3 := List.length_pos_of_mem hx
    simp only [List.length_cons]; omega
/-- a list of fewer than n leaves one out -/
theorem left_some {n : Nat} {l : List Nat} (hlen : l.length < n) : ∃ i, i < n ∧ i ∉ l := by
  apply Classical.byContradiction
  intro hno
  have hsub : ∀ i, i < n → i ∈ l := fun i hi => Classical.byContradiction fun h => hno ⟨i, hi, h⟩
  have h1 := nodup_le (b := l) (List.nodup_range (n := n)) (fun i hi => hsub i (List.mem_range.1 hi))
  simp at h1; omega
theorem sortF_facts {R : Nat → Nat → Bool} {n : Nat} (hA : Acy R n) : ∀ k, k ≤ n → (sortF R n k).Nodup ∧ ∀ x ∈ sortF R n k, x < n
  | 0, _ => by simp [sortF]
  | k + 1, hk => by
    obtain ⟨h1, h2⟩ := sortF_facts hA k (by omega)
    obtain ⟨g1, g2, _⟩ := next_spec (hA (sortF R n k) (left_some (by rw [sortF_len]; omega)))
    have hnot := (readyB_true.1 g2).1
    unfold sortF
    constructor
    · rw [List.nodup_append]
      refine ⟨h1, by simp, fun a ha b hb => ?_⟩
      simp at hb; subst hb
      exact fun e => hnot (e ▸ ha)
    · intro x hx
      rcases List.mem_append.1 hx with h | h
      · exact h2 x h
      · simp at h; subst h; exact g1
theorem readyB_congr {R R' : Nat → Nat → Bool} {n : Nat} (h : ∀ i, i < n → ∀ x, x < n → R x i = R' x i) {done : List Nat} {i : Nat} (hi : i < n) : readyB R n done i = readyB R' n done i := by
  unfold readyB
  congr 1
  rw [Bool.eq_iff_iff, List.all_eq_true, List.all_eq_true]
  constructor
  · intro g x hx; rw [← h i hi x (List.mem_range.1 hx)]; exact g x hx
  · intro g x hx; rw [h i hi x (List.mem_range.1 hx)]; exact g x hx
theorem find_congr {p q : Nat → Bool} : ∀ {l : List Nat}, (∀ x ∈ l, p x = q x) → l.find? p = l.find? q
  | [], _ => rfl
  | x :: l, h => by
    have h1 := h x (by simp)
    have h2 := find_congr (l := l) (fun y hy => h y (by simp [hy]))
    rw [List.find?_cons, List.find?_cons, h1, h2]
theorem sortF_congr {R R' : Nat → Nat → Bool} {n : Nat} (h : ∀ i, i < n → ∀ x, x < n → R x i = R' x i) : ∀ k, sortF R n k = sortF R' n k
  | 0 => rfl
  | k + 1 => by
    unfold sortF
    rw [sortF_congr h k]
    unfold nextF
    rw [find_congr (fun x hx => readyB_congr h (List.mem_range.1 hx))]
theorem acy_congr {R R' : Nat → Nat → Bool} {n : Nat} (h : ∀ i, i < n → ∀ x, x < n → R x i = R' x i) (hA : Acy R n) : Acy R' n := fun done hd => by
  obtain ⟨i, hi, hr⟩ := hA done hd
  exact ⟨i, hi, by rw [← readyB_congr h hi]; exact hr⟩

theorem filter_len_le {p q : Nat → Bool} : ∀ {l : List Nat}, (∀ x ∈ l, p x = true → q x = true) → (l.filter p).length ≤ (l.filter q).length
  | [], _ => by simp
  | x :: l, h => by
    have ih := filter_len_le (l := l) (fun y hy => h y (by simp [hy]))
    have hx := h x (by simp)
    rw [List.filter_cons, List.filter_cons]
    cases hp : p x with
    | true => simp [hx hp]; exact ih
    | false => cases hq : q x <;> simp <;> omega
theorem filter_len_lt {p q : Nat → Bool} : ∀ {l : List Nat}, (∀ x ∈ l, p x = true → q x = true) → (∃ x ∈ l, q x = true ∧ p x = false) → (l.filter p).length < (l.filter q).length
  | [], _, ⟨x, hx, _⟩ => by cases hx
  | x :: l, h, ⟨y, hy, hq, hp⟩ => by
    have hle := filter_len_le (l := l) (fun z hz => h z (by simp [hz]))
    rw [List.filter_cons, List.filter_cons]
    rcases List.mem_cons.1 hy with e | hy'
    · subst e; simp [hq, hp]; omega
    · have ih := filter_len_lt (l := l) (fun z hz => h z (by simp [hz])) ⟨y, hy', hq, hp⟩
      have hx := h x (by simp)
      cases hpx : p x with
      | true => simp [hx hpx]; exact ih
      | false => cases hqx : q x <;> simp <;> omega
/-- what is strictly ahead and never comes round leaves one that may come -/
theorem acy_of {R : Nat → Nat → Bool} {n : Nat} (irr : ∀ i, i < n → R i i = false) (tr : ∀ i j k, i < n → j < n → k < n → R i j = true → R j k = true → R i k = true) : Acy R n := by
  intro done
  have key : ∀ m i, i < n → i ∉ done → ((List.range n).filter (fun x => R x i)).length ≤ m → ∃ i, i < n ∧ readyB R n done i = true := by
    intro m
    induction m with
    | zero =>
      intro i hi hd h0
      refine ⟨i, hi, readyB_true.2 ⟨hd, fun x hx hR => ?_⟩⟩
      have : x ∈ (List.range n).filter (fun x => R x i) := List.mem_filter.2 ⟨List.mem_range.2 hx, hR⟩
      have := List.length_pos_of_mem this
      omega
    | succ m ih =>
      intro i hi hd hm
      by_cases hr : ∀ x, x < n → R x i = true → x ∈ done
      · exact ⟨i, hi, readyB_true.2 ⟨hd, hr⟩⟩
      · obtain ⟨j, hj⟩ := Classical.not_forall.1 hr
        have hjn : j < n := Classical.byContradiction fun h => hj fun h' => absurd h' h
        have hji : R j i = true := Classical.byContradiction fun h => hj fun _ h' => absurd h' h
        have hjd : j ∉ done := fun h => hj fun _ _ => h
        refine ih j hjn hjd ?_
        have := filter_len_lt (p := fun x => R x j) (q := fun x => R x i) (l := List.range n) (fun x hx hp => tr x j i (List.mem_range.1 hx) hjn hi hp hji) ⟨j, List.mem_range.2 hjn, hji, irr j hjn⟩
        omega
  rintro ⟨i, hi, hd⟩
  exact key _ i hi hd (Nat.le_refl _)
/-- an order's strict side -/
theorem under_irr (us : List Nat) (i : Nat) : underB us i i = false := underB_false fun h => h.1 rfl
theorem under_tr {us : List Nat} (ho : IsOrd us) {i j k : Nat} (hi : i < us.length) (hj : j < us.length) (hk : k < us.length) (h1 : underB us i j = true) (h2 : underB us j k = true) : underB us i k = true := by
  obtain ⟨n1, b1⟩ := underB_true.1 h1
  obtain ⟨n2, b2⟩ := underB_true.1 h2
  refine underB_true.2 ⟨fun e => ?_, ((ho i hi) j hj).2 k hk b1 b2⟩
  subst e
  have := ((ho i hi) j hj).1.2 n1 b1
  rw [this] at b2; cases b2
theorem acy_under {us : List Nat} (ho : IsOrd us) : Acy (underB us) us.length :=
  acy_of (fun i _ => under_irr us i) (fun _ _ _ hi hj hk h1 h2 => under_tr ho hi hj hk h1 h2)
theorem acy_over {us : List Nat} (ho : IsOrd us) : Acy (fun x i => underB us i x) us.length :=
  acy_of (fun i _ => under_irr us i) (fun _ _ _ hi hj hk h1 h2 => under_tr ho hk hj hi h2 h1)
end Go.Proofs.YtilffmalkegioaaDoor
