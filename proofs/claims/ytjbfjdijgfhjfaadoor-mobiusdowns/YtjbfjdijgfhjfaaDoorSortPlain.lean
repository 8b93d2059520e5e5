/- Plain mathematics of lining elements up: each time the least one of which all that must come ahead has come. -/
import Derived.Test.YtjbfjdijgfhjfaaDoorCoversPlain
import Derived.Test.YtjbfjdijgfhjfaaDoorIntVals
namespace Go.Proofs.YtjbfjdijgfhjfaaDoor

/-- may i come next? R x i: x must come ahead of i -/
def readyB (R : Nat → Nat → Bool) (n : Nat) (done : List Nat) (i : Nat) : Bool := !memB done i && (List.range n).all fun x => !(R x i && !memB done x)
theorem readyB_true {R : Nat → Nat → Bool} {n : Nat} {done : List Nat} {i : Nat} : readyB R n done i = true ↔ i ∉ done ∧ ∀ x, x < n → R x i = true → x ∈ done := by
  unfold readyB
  rw [Bool.and_eq_true, Bool.not_eq_true', memB_false, List.all_eq_true]
  constructor
  · rintro ⟨h1, h2⟩
    refine ⟨h1, fun x hx hR => ?_⟩
    have := h2 x (List.mem_range.2 hx)
    rw [hR] at this
    exact memB_true.1 (by simpa using this)
  · rintro ⟨h1, h2⟩
    refine ⟨h1, fun x hx => ?_⟩
    cases hR : R x i with
    | false => rfl
    | true => simp [memB_true.2 (h2 x (List.mem_range.1 hx) hR)]
theorem readyB_false {R : Nat → Nat → Bool} {n : Nat} {done : List Nat} {i : Nat} (h : ¬ (i ∉ done ∧ ∀ x, x < n → R x i = true → x ∈ done)) : readyB R n done i = false := by
  cases hb : readyB R n done i with
  | false => rfl
  | true => exact absurd (readyB_true.1 hb) h
/-- the least that may come; 0, if none may -/
def nextF (R : Nat → Nat → Bool) (n : Nat) (done : List Nat) : Nat := ((List.range n).find? (readyB R n done)).getD 0
/-- the first k of the line -/
def sortF (R : Nat → Nat → Bool) (n : Nat) : Nat → List Nat
  | 0 => []
  | k + 1 => sortF R n k ++ [nextF R n (sortF R n k)]
theorem sortF_len (R : Nat → Nat → Bool) (n : Nat) : ∀ k, (sortF R n k).length = k
  | 0 => rfl
  | k + 1 => by unfold sortF; simp [sortF_len R n k]
/-- as long as some are left, one may come -/
def Acy (R : Nat → Nat → Bool) (n : Nat) : Prop := ∀ done : List Nat, (∃ i, i < n ∧ i ∉ done) → ∃ i, i < n ∧ readyB R n done i = true
theorem next_spec {R : Nat → Nat → Bool} {n : Nat} {done : List Nat} (h : ∃ i, i < n ∧ readyB R n done i = true) :
    nextF R n done < n ∧ readyB R n done (nextF R n done) = true ∧ ∀ j, j < nextF R n done → readyB R n done j = false := by
  unfold nextF
  cases hf : (List.range n).find? (readyB R n done) with
  | none =>
    obtain ⟨i, hi, hr⟩ := h
    have := List.find?_eq_none.1 hf i (List.mem_range.2 hi)
    rw [hr] at this; simp at this
  | some m =>
    have hm := List.find?_range_eq_some.1 hf
    refine ⟨List.mem_range.1 hm.2.1, hm.1, fun j hj => ?_⟩
    have := hm.2.2 j hj
    simpa using this
theorem next_of {R : Nat → Nat → Bool} {n : Nat} {done : List Nat} {m : Nat} (hm : m < n) (hr : readyB R n done m = true) (hl : ∀ j, j < m → readyB R n done j = false) : nextF R n done = m := by
  obtain ⟨h1, h2, h3⟩ := next_spec ⟨m, hm, hr⟩
  rcases Nat.lt_trichotomy (nextF R n done) m with h | h | h
  · rw [hl _ h] at h2; cases h2
  · exact h
  · rw [h3 _ h] at hr; cases hr
theorem nodup_le : ∀ {a b : List Nat}, a.Nodup → (∀ x ∈ a, x ∈ b) → a.length ≤ b.length
  | [], _, _, _ => by simp
  | x :: a, b, hn, hs => by
    rw [List.nodup_cons] at hn
    have hx : x ∈ b := hs x (by simp)
    have h1 := nodup_le (b := b.erase x) hn.2 (fun y hy => by
      have hne : y ≠ x := fun e => hn.1 (by rw [← e]; exact hy)
      exact (List.mem_erase_of_ne hne).2 (hs y (by simp [hy])))
    have h2 := List.length_erase_of_mem hx
    have h3 := List.length_pos_of_mem hx
    simp only [List.length_cons]; omega
/-- a list of fewer than n leaves one out -/
theorem left_some {n : Nat} {l : List Nat} (hlen : l.length < n) : ∃ i, i < n ∧ i ∉ l := by
  apply Classical.byContradiction
  intro hno
  have hsub : ∀ i, i < n → i ∈ l := fun i hi => Classical.byContradiction fun h => hno ⟨i, hi, h⟩
  have h1 := nodup_le (b := l) (List.nodup_range (n := n)) (fun i hi => hsub i (List.mem_range.1 hi))
  simp at h1; omega
theorem sortF_facts {R : Nat → Nat → Bool} {n : Nat} (hA : Acy R n) : ∀ k, k ≤ n → (sortF R n k).Nodup ∧ ∀ x ∈ sortF R n k, x < n
  | 0, _ => by simp [sortF]
  | k + 1, hk => by
    obtain ⟨h1, h2⟩ := sortF_facts hA k (by omega)
    obtain ⟨g1, g2, _⟩ := next_spec (hA (sortF R n k) (left_some (by rw [sortF_len]; omega)))
    have hnot := (readyB_true.1 g2).1
    unfold sortF
    constructor
    · rw [List.nodup_append]
      refine ⟨h1, by simp, fun a ha b hb => ?_⟩
      simp at hb; subst hb
      exact fun e => hnot (e ▸ ha)
    · intro x hx
      rcases List.mem_append.1 hx with h | h
      · exact h2 x h
      · simp at h; subst h; exact g1
theorem readyB_congr {R R' : Nat → Nat → Bool} {n : Nat} (h : ∀ i, i < n → ∀ x, x < n → R x i = R' x i) {done : List Nat} {i : Nat} (hi : i < n) : readyB R n done i = readyB R' n done i := by
  unfold readyB
  congr 1
  rw [Bool.eq_iff_iff, List.all_eq_true, List.all_eq_true]
  constructor
  · intro g x hx; rw [← h i hi x (List.mem_range.1 hx)]; exact g x hx
  · intro g x hx; rw [h i hi x (List.mem_range.1 hx)]; exact g x hx
theorem find_congr {p q : Nat → Bool} : ∀ {l : List Nat}, (∀ x ∈ l, p x = q x) → l.find? p = l.find? q
  | [], _ => rfl
  | x :: l, h => by
    have h1 := h x (by simp)
    have h2 := find_congr (l := l) (fun y hy => h y (by simp [hy]))
    rw [List.find?_cons, List.find?_cons, h1, h2]
theorem sortF_congr {R R' : Nat → Nat → Bool} {n : Nat} (h : ∀ i, i < n → ∀ x, x < n → R x i = R' x i) : ∀ k, sortF R n k = sortF R' n k
  | 0 => rfl
  | k + 1 => by
    unfold sortF
    rw [sortF_congr h k]
    unfold nextF
    rw [find_congr (fun x hx => readyB_congr h (List.mem_range.1 hx))]
theorem acy_congr {R R' : Nat → Nat → Bool} {n : Nat} (h : ∀ i, i < n → ∀ x, x < n → R x i = R' x i) (hA : Acy R n) : Acy R' n := fun done hd => by
  obtain ⟨i, hi, hr⟩ := hA done hd
  exact ⟨i, hi, by rw [← readyB_congr h hi]; exact hr⟩

theorem filter_len_le {p q : Nat → Bool} : ∀ {l : List Nat}, (∀ x ∈ l, p x = true → q x = true) → (l.filter p).length ≤ (l.filter q).length
  | [], _ => by simp
  | x :: l, h => by
    have ih := filter_len_le (l := l) (fun y hy => h y (by simp [hy]))
    have hx := h x (by simp)
    rw [List.filter_cons, List.filter_cons]
    cases hp : p x with
    | true => simp [hx hp]; exact ih
    | false => cases hq : q x <;> simp <;> omega
theorem filter_len_lt {p q : Nat → Bool} : ∀ {l : List Nat}, (∀ x ∈ l, p x = true → q x = true) → (∃ x ∈ l, q x = true ∧ p x = false) → (l.filter p).length < (l.filter q).length
  | [], _, ⟨x, hx, _⟩ => by cases hx
  | x :: l, h, ⟨y, hy, hq, hp⟩ => by
    have hle := filter_len_le (l := l) (fun z hz => h z (by simp [hz]))
    rw [List.filter_cons, List.filter_cons]
    rcases List.mem_cons.1 hy with e | hy'
    · subst e; simp [hq, hp]; omega
    · have ih := filter_len_lt (l := l) (fun z hz => h z (by simp [hz])) ⟨y, hy', hq, hp⟩
      have hx := h x (by simp)
      cases hpx : p x with
      | true => simp [hx hpx]; exact ih
      | false => cases hqx : q x <;> simp <;> omega
/-- what is strictly ahead and never comes round leaves one that may come -/
theorem acy_of {R : Nat → Nat → Bool} {n : Nat} (irr : ∀ i, i < n → R i i = false) (tr : ∀ i j k, i < n → j < n → k < n → R i j = true → R j k = true → R i k = true) : Acy R n := by
  intro done
  have key : ∀ m i, i < n → i ∉ done → ((List.range n).filter (fun x => R x i)).length ≤ m → ∃ i, i < n ∧ readyB R n done i = true := by
    intro m
    induction m with
    | zero =>
      intro i hi hd h0
      refine ⟨i, hi, readyB_true.2 ⟨hd, fun x hx hR => ?_⟩⟩
      have : x ∈ (List.range n).filter (fun x => R x i) := List.mem_filter.2 ⟨List.mem_range.2 hx, hR⟩
      have := List.length_pos_of_mem this
      omega
    | succ m ih =>
      intro i hi hd hm
      by_cases hr : ∀ x, x < n → R x i = true → x ∈ done
      · exact ⟨i, hi, readyB_true.2 ⟨hd, hr⟩⟩
      · obtain ⟨j, hj⟩ := Classical.not_forall.1 hr
        have hjn : j < n := Classical.byContradiction fun h => hj fun h' => absurd h' h
        have hji : R j i = true := Classical.byContradiction fun h => hj fun _ h' => absurd h' h
        have hjd : j ∉ done := fun h => hj fun _ _ => h
        refine ih j hjn hjd ?_
        have := filter_len_lt (p := fun x => R x j) (q := fun x => R x i) (l := List.range n) (fun x hx hp => tr x j i (List.mem_range.1 hx) hjn hi hp hji) ⟨j, List.mem_range.2 hjn, hji, irr j hjn⟩
        omega
  rintro ⟨i, hi, hd⟩
  exact key _ i hi hd (Nat.le_refl _)
/-- an order's strict side -/
theorem under_irr (us : List Nat) (i : Nat) : underB us i i = false := underB_false fun h => h.1 rfl
theorem under_tr {us : List Nat} (ho : IsOrd us) {i j k : Nat} (hi : i < us.length) (hj : j < us.length) (hk : k < us.length) (h1 : underB us i j = true) (h2 : underB us j k = true) : underB us i k = true := by
  obtain ⟨n1, b1⟩ := underB_true.1 h1
  obtain ⟨n2, b2⟩ := underB_true.1 h2
  refine underB_true.2 ⟨fun e => ?_, ((ho i hi) j hj).2 k hk b1 b2⟩
  subst e
  have := ((ho i hi) j hj).1.2 n1 b1
  rw [this] at b2; cases b2
theorem acy_under {us : List Nat} (ho : IsOrd us) : Acy (underB us) us.length :=
  acy_of (fun i _ => under_irr us i) (fun _ _ _ hi hj hk h1 h2 => under_tr ho hi hj hk h1 h2)
theorem acy_over {us : List Nat} (ho : IsOrd us) : Acy (fun x i => underB us i x) us.length :=
  acy_of (fun i _ => under_irr us i) (fun _ _ _ hi hj hk h1 h2 => under_tr ho hk hj hi h2 h1)
end Go.Proofs.YtjbfjdijgfhjfaaDoor
