/- Plain mathematics of all down-sets: told one by one by leaving out and taking in, they are all that are closed, and rise. -/
import Derived.Test.YtjbfjdijgfhjfaaDoorDownPlain
import Derived.Test.YtjbfjdijgfhjfaaDoorSubPlain
import Derived.Test.YtjbfjdijgfhjfaaDoorTurPlain
namespace Go.Proofs.YtjbfjdijgfhjfaaDoor

/-- the sets told from the first k elements on, with i taken in and o left out -/
def tellL (us ds : List Nat) : Nat → Nat → Nat → List Nat
  | 0, i, _ => [i]
  | k + 1, i, o => (if hasB i k then [] else tellL us ds k i (orW o (wd us k))) ++ (if hasB o k then [] else tellL us ds k (orW i (wd ds k)) o)

/-- closed below -/
def IsDown (us : List Nat) (s : Nat) : Prop := Only us.length s ∧ ∀ i j, i < us.length → hasB (wd us i) j = true → hasB s j = true → hasB s i = true
/-- what is below element j, by ds -/
def Dn (us ds : List Nat) : Prop := ds.length = us.length ∧ Fit ds ∧ ∀ j, j < us.length → ∀ i, hasB (wd ds j) i = true ↔ i < us.length ∧ hasB (wd us i) j = true
theorem Dn.of_tur {us ds : List Nat} (h : Tur us us.length [] ds) : Dn us ds := ⟨h.len, h.fit, fun j hj i => by rw [h.has j hj i]; simp⟩

theorem no0 {x : Nat} {p : Prop} (h : hasB 0 x = true) : p := by rw [hasB_zero] at h; cases h
structure Ch (us : List Nat) (k i o : Nat) : Prop where
  onlyI : Only us.length i
  onlyO : Only us.length o
  low : ∀ x y, x < us.length → hasB (wd us x) y = true → hasB i y = true → hasB i x = true
  high : ∀ x y, x < us.length → hasB (wd us x) y = true → hasB o x = true → hasB o y = true
  apart : ∀ x, hasB i x = true → hasB o x = false
  all : ∀ x, k ≤ x → x < us.length → hasB i x = true ∨ hasB o x = true
theorem Ch.start (us : List Nat) : Ch us us.length 0 0 :=
  ⟨fun _ h => no0 h, fun _ h => no0 h, fun _ _ _ _ h => no0 h, fun _ _ _ _ h => no0 h, fun _ h => no0 h, fun x h1 h2 => by omega⟩

section
variable {us ds : List Nat} (hin : Inside us) (ho : IsOrd us) (hf : Fit us) (hd : Dn us ds)
include hin ho hf

theorem Ch.left {k i o : Nat} (h : Ch us (k + 1) i o) (hk : k < us.length) (hi : hasB i k = false) : Ch us k i (orW o (wd us k)) where
  onlyI := h.onlyI
  onlyO := only_or h.onlyO fun x hx => ord_in hin hf hk hx
  low := h.low
  high := fun x y hx hxy hO => by
    rw [hasB_or, Bool.or_eq_true] at hO ⊢
    rcases hO with hO | hO
    · exact .inl (h.high x y hx hxy hO)
    · exact .inr (ord_trans hin ho hf hk hO hxy)
  apart := fun x hx => by
    rw [hasB_or, h.apart x hx, Bool.false_or]
    cases e : hasB (wd us k) x with
    | false => rfl
    | true => rw [h.low k x hk e hx] at hi; cases hi
  all := fun x h1 h2 => by
    by_cases e : x = k
    · subst e; right; rw [hasB_or, ord_refl ho h2, Bool.or_true]
    · rcases h.all x (by omega) h2 with g | g
      · exact .inl g
      · right; rw [hasB_or, g]; rfl
include hd
theorem Ch.take {k i o : Nat} (h : Ch us (k + 1) i o) (hk : k < us.length) (hO : hasB o k = false) : Ch us k (orW i (wd ds k)) o where
  onlyI := only_or h.onlyI fun x hx => ((hd.2.2 k hk x).1 hx).1
  onlyO := h.onlyO
  low := fun x y hx hxy hI => by
    rw [hasB_or, Bool.or_eq_true] at hI ⊢
    rcases hI with hI | hI
    · exact .inl (h.low x y hx hxy hI)
    · refine .inr ((hd.2.2 k hk x).2 ⟨hx, ?_⟩)
      exact ord_trans hin ho hf hx hxy ((hd.2.2 k hk y).1 hI).2
  high := h.high
  apart := fun x hx => by
    rw [hasB_or, Bool.or_eq_true] at hx
    rcases hx with hx | hx
    · exact h.apart x hx
    · have := (hd.2.2 k hk x).1 hx
      cases e : hasB o x with
      | false => rfl
      | true => rw [h.high x k this.1 this.2 e] at hO; cases hO
  all := fun x h1 h2 => by
    by_cases e : x = k
    · subst e; left; rw [hasB_or, (hd.2.2 x h2 x).2 ⟨h2, ord_refl ho h2⟩, Bool.or_true]
    · rcases h.all x (by omega) h2 with g | g
      · left; rw [hasB_or, g]; rfl
      · exact .inr g

theorem mem_tell : ∀ {k i o : Nat}, k ≤ us.length → Ch us k i o → ∀ s, s ∈ tellL us ds k i o ↔ IsDown us s ∧ (∀ x, hasB i x = true → hasB s x = true) ∧ ∀ x, hasB o x = true → hasB s x = false
  | 0, i, o, _, h, s => by
    rw [tellL, List.mem_singleton]
    constructor
    · rintro rfl
      exact ⟨⟨h.onlyI, h.low⟩, fun _ hx => hx, fun x hx => by
        cases e : hasB s x with
        | false => rfl
        | true => rw [h.apart x e] at hx; cases hx⟩
    · rintro ⟨h1, h2, h3⟩
      refine word_ext' fun x => ⟨fun hx => ?_, h2 x⟩
      rcases h.all x (Nat.zero_le _) (h1.1 x hx) with g | g
      · exact g
      · rw [h3 x g] at hx; cases hx
  | k + 1, i, o, hk, h, s => by
    have hk' : k < us.length := hk
    rw [tellL, List.mem_append]
    have g1 : hasB i k = false → (s ∈ tellL us ds k i (orW o (wd us k)) ↔ (IsDown us s ∧ (∀ x, hasB i x = true → hasB s x = true) ∧ ∀ x, hasB o x = true → hasB s x = false) ∧ hasB s k = false) := fun hi => by
      rw [mem_tell (Nat.le_of_lt hk') (h.left hin ho hf hk' hi) s]
      constructor
      · rintro ⟨h1, h2, h3⟩
        exact ⟨⟨h1, h2, fun x hx => h3 x (by rw [hasB_or, hx]; rfl)⟩, h3 k (by rw [hasB_or, ord_refl ho hk', Bool.or_true])⟩
      · rintro ⟨⟨h1, h2, h3⟩, h4⟩
        refine ⟨h1, h2, fun x hx => ?_⟩
        rw [hasB_or, Bool.or_eq_true] at hx
        rcases hx with hx | hx
        · exact h3 x hx
        · cases e : hasB s x with
          | false => rfl
          | true => rw [h1.2 k x hk' hx e] at h4; cases h4
    have g2 : hasB o k = false → (s ∈ tellL us ds k (orW i (wd ds k)) o ↔ (IsDown us s ∧ (∀ x, hasB i x = true → hasB s x = true) ∧ ∀ x, hasB o x = true → hasB s x = false) ∧ hasB s k = true) := fun hO => by
      rw [mem_tell (Nat.le_of_lt hk') (h.take hin ho hf hd hk' hO) s]
      constructor
      · rintro ⟨h1, h2, h3⟩
        exact ⟨⟨h1, fun x hx => h2 x (by rw [hasB_or, hx]; rfl), h3⟩, h2 k (by rw [hasB_or, (hd.2.2 k hk' k).2 ⟨hk', ord_refl ho hk'⟩, Bool.or_true])⟩
      · rintro ⟨⟨h1, h2, h3⟩, h4⟩
        refine ⟨h1, fun x hx => ?_, h3⟩
        rw [hasB_or, Bool.or_eq_true] at hx
        rcases hx with hx | hx
        · exact h2 x hx
        · have := (hd.2.2 k hk' x).1 hx
          exact h1.2 x k this.1 this.2 h4
    cases hi : hasB i k with
    | true =>
      have hO := h.apart k hi
      rw [if_pos rfl, hO, if_neg (by simp), g2 hO]
      simp only [List.not_mem_nil, false_or]
      exact ⟨fun x => x.1, fun x => ⟨x, x.2.1 k hi⟩⟩
    | false =>
      rw [if_neg (by simp), g1 hi]
      cases hO : hasB o k with
      | true =>
        rw [if_pos rfl]
        simp only [List.not_mem_nil, or_false]
        exact ⟨fun x => x.1, fun x => ⟨x, x.2.2 k hO⟩⟩
      | false =>
        rw [if_neg (by simp), g2 hO]
        constructor
        · rintro (x | x) <;> exact x.1
        · intro x
          cases e : hasB s k with
          | false => exact .inl ⟨x, rfl⟩
          | true => exact .inr ⟨x, rfl⟩

omit hin ho hf hd in
/-- of two words that agree above k the one without k is less -/
theorem lt_of_high {a b k : Nat} (h : ∀ x, k < x → hasB a x = hasB b x) (ha : hasB a k = false) (hb : hasB b k = true) : a < b := by
  unfold hasB at *
  have e1 : a / 2 ^ (k + 1) = b / 2 ^ (k + 1) := by
    apply Nat.eq_of_testBit_eq
    intro j
    rw [Nat.testBit_div_two_pow, Nat.testBit_div_two_pow]
    exact h _ (by omega)
  have a1 := Nat.div_add_mod a (2 ^ (k + 1))
  have b1 := Nat.div_add_mod b (2 ^ (k + 1))
  have am : a % 2 ^ (k + 1) < 2 ^ k := by
    apply Nat.lt_pow_two_of_testBit
    intro j hj
    rw [Nat.testBit_mod_two_pow]
    by_cases e : j = k
    · subst e; rw [ha]; simp
    · have : ¬ j < k + 1 := by omega
      simp [this]
  have bm : 2 ^ k ≤ b % 2 ^ (k + 1) := by
    apply Nat.ge_two_pow_of_testBit (i := k)
    rw [Nat.testBit_mod_two_pow, hb]; simp
  rw [e1] at a1
  omega
theorem rise_tell : ∀ {k i o : Nat}, k ≤ us.length → Ch us k i o → (tellL us ds k i o).Pairwise (· < ·)
  | 0, i, o, _, _ => by rw [tellL]; simp
  | k + 1, i, o, hk, h => by
    have hk' : k < us.length := hk
    rw [tellL, List.pairwise_append]
    refine ⟨?_, ?_, ?_⟩
    · cases hi : hasB i k with
      | true => rw [if_pos rfl]; simp
      | false => rw [if_neg (by simp)]; exact rise_tell (Nat.le_of_lt hk') (h.left hin ho hf hk' hi)
    · cases hO : hasB o k with
      | true => rw [if_pos rfl]; simp
      | false => rw [if_neg (by simp)]; exact rise_tell (Nat.le_of_lt hk') (h.take hin ho hf hd hk' hO)
    · intro a ha b hb
      cases hi : hasB i k with
      | true => rw [hi, if_pos rfl] at ha; simp at ha
      | false =>
        cases hO : hasB o k with
        | true => rw [hO, if_pos rfl] at hb; simp at hb
        | false =>
          rw [hi, if_neg (by simp), mem_tell hin ho hf hd (Nat.le_of_lt hk') (h.left hin ho hf hk' hi)] at ha
          rw [hO, if_neg (by simp), mem_tell hin ho hf hd (Nat.le_of_lt hk') (h.take hin ho hf hd hk' hO)] at hb
          have ak : hasB a k = false := ha.2.2 k (by rw [hasB_or, ord_refl ho hk', Bool.or_true])
          have bk : hasB b k = true := hb.2.1 k (by rw [hasB_or, (hd.2.2 k hk' k).2 ⟨hk', ord_refl ho hk'⟩, Bool.or_true])
          refine lt_of_high (k := k) (fun x hx => ?_) ak bk
          by_cases hxn : x < us.length
          · rcases h.all x (by omega) hxn with g | g
            · rw [ha.2.1 x g, hb.2.1 x (by rw [hasB_or, g]; rfl)]
            · rw [ha.2.2 x (by rw [hasB_or, g]; rfl), hb.2.2 x g]
          · have e1 : hasB a x = false := by
              cases e : hasB a x with
              | false => rfl
              | true => exact absurd (ha.1.1 x e) hxn
            have e2 : hasB b x = false := by
              cases e : hasB b x with
              | false => rfl
              | true => exact absurd (hb.1.1 x e) hxn
            rw [e1, e2]
end

/-- the document's closed: for each element of the set all below it -/
def closedB (ds : List Nat) (s : Nat) : Bool := (List.range ds.length).all fun i => !hasB s i || decide (andW s (wd ds i) = wd ds i)
theorem closedB_iff {ds : List Nat} {s : Nat} : closedB ds s = true ↔ ∀ i, i < ds.length → hasB s i = true → andW s (wd ds i) = wd ds i := by
  unfold closedB
  rw [List.all_eq_true]
  constructor
  · intro h i hi hs
    have := h i (List.mem_range.2 hi)
    rw [hs] at this
    simpa using this
  · intro h i hi
    rw [List.mem_range] at hi
    cases e : hasB s i with
    | false => rfl
    | true => simpa using h i hi e
theorem only_lt {n s : Nat} (h : Only n s) : s < 2 ^ n := by
  apply Nat.lt_pow_two_of_testBit
  intro i hi
  cases e : s.testBit i with
  | false => rfl
  | true => have := h i e; omega
theorem lt_only {n s : Nat} (h : s < 2 ^ n) : Only n s := fun i hi => by
  apply Nat.lt_of_not_le; intro hle
  unfold hasB at hi
  rw [Nat.testBit_lt_two_pow (Nat.lt_of_lt_of_le h (Nat.pow_le_pow_right (by decide) hle))] at hi; cases hi
theorem closed_down {us ds : List Nat} (hd : Dn us ds) {s : Nat} (hs : Only us.length s) : closedB ds s = true ↔ IsDown us s := by
  rw [closedB_iff, hd.1]
  constructor
  · refine fun h => ⟨hs, fun i j hi hij hj => ?_⟩
    have hjn := hs j hj
    have e := h j hjn hj
    have : hasB (wd ds j) i = true := (hd.2.2 j hjn i).2 ⟨hi, hij⟩
    rw [← e, hasB_and, Bool.and_eq_true] at this
    exact this.1
  · intro h i hi hsi
    refine word_ext' fun x => ?_
    rw [hasB_and, Bool.and_eq_true]
    refine ⟨fun g => g.2, fun g => ⟨?_, g⟩⟩
    have := (hd.2.2 i hi x).1 g
    exact h.2 x i this.1 this.2 hsi
/-- all down-sets, rising -/
def allD (ds : List Nat) : List Nat := (List.range (2 ^ ds.length)).filter (closedB ds)
theorem rise_allD (ds : List Nat) : (allD ds).Pairwise (· < ·) := filter_riseN _ _
theorem nodup_allD (ds : List Nat) : (allD ds).Nodup := List.nodup_range.filter _
theorem mem_allD {us ds : List Nat} (hd : Dn us ds) {s : Nat} : s ∈ allD ds ↔ IsDown us s := by
  unfold allD
  rw [List.mem_filter, List.mem_range, hd.1]
  constructor
  · rintro ⟨h1, h2⟩; exact (closed_down hd (lt_only h1)).1 h2
  · intro h; exact ⟨only_lt h.1, (closed_down hd h.1).2 h⟩
theorem tell_all {us ds : List Nat} (hin : Inside us) (ho : IsOrd us) (hf : Fit us) (hd : Dn us ds) : tellL us ds us.length 0 0 = allD ds := by
  have hc := Ch.start us
  refine rise_ext (rise_tell hin ho hf hd (Nat.le_refl _) hc) (rise_allD ds) fun s => ?_
  rw [mem_tell hin ho hf hd (Nat.le_refl _) hc, mem_allD hd]
  exact ⟨fun h => h.1, fun h => ⟨h, fun _ hx => no0 hx, fun _ hx => no0 hx⟩⟩
theorem allD_len {ds : List Nat} (h : ds.length ≤ 16) : (allD ds).length ≤ 65536 := by
  unfold allD
  refine Nat.le_trans (List.length_filter_le _ _) ?_
  rw [List.length_range]
  exact Nat.le_trans (Nat.pow_le_pow_right (by decide) h) (by decide)
theorem allD_lt {ds : List Nat} (h : ds.length ≤ 16) {s : Nat} (hs : s ∈ allD ds) : s < 65536 := by
  unfold allD at hs
  rw [List.mem_filter, List.mem_range] at hs
  exact Nat.lt_of_lt_of_le hs.1 (Nat.le_trans (Nat.pow_le_pow_right (by decide) h) (by decide))
end Go.Proofs.YtjbfjdijgfhjfaaDoor
