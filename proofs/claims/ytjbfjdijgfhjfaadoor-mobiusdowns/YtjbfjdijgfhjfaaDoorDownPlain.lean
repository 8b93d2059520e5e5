/- Plain mathematics of sets of elements of an order: what is below a set, its ends; no program is named here. -/
import Derived.Test.YtjbfjdijgfhjfaaDoorPlain
namespace Go.Proofs.YtjbfjdijgfhjfaaDoor

/-- the elements of the first k for which p holds, as a word -/
def wordOf (p : Nat → Bool) : Nat → Nat
  | 0 => 0
  | k + 1 => if p k then orW (wordOf p k) (bitW k) else wordOf p k
theorem hasB_wordOf (p : Nat → Bool) : ∀ k i, hasB (wordOf p k) i = (decide (i < k) && p i)
  | 0, i => by simp [wordOf, hasB_zero]
  | k + 1, i => by
    unfold wordOf
    have ih := hasB_wordOf p k i
    by_cases e : i = k
    · subst e
      cases hp : p i with
      | true => rw [if_pos rfl, hasB_or, hasB_bitW]; simp
      | false => rw [if_neg (by simp), ih]; simp
    · have h2 : (i < k + 1) ↔ i < k := by omega
      have h3 : ¬ k = i := fun h => e h.symm
      cases hp : p k with
      | true => rw [if_pos rfl, hasB_or, hasB_bitW, ih]; simp [h2, h3]
      | false => rw [if_neg (by simp), ih]; simp [h2]
theorem wordOf_lt (p : Nat → Bool) {k : Nat} (hk : k ≤ 32) : wordOf p k < 4294967296 := by
  induction k with
  | zero => simp [wordOf]
  | succ k ih =>
    unfold wordOf
    split
    · exact orW_lt (ih (by omega)) (bitW_lt (by omega))
    · exact ih (by omega)

/-- has word i something in common with the set? -/
def meetsB (us : List Nat) (s i : Nat) : Bool := decide (andW (wd us i) s ≠ 0)
/-- has word i nothing but i in common with the set? -/
def soleB (us : List Nat) (s i : Nat) : Bool := decide (andW (wd us i) s = bitW i)
def downW (us : List Nat) (s : Nat) : Nat := wordOf (meetsB us s) us.length
def endsW (us : List Nat) (s : Nat) : Nat := wordOf (soleB us s) us.length
theorem meetsB_iff {us : List Nat} {s i : Nat} : meetsB us s i = true ↔ ∃ j, hasB (wd us i) j = true ∧ hasB s j = true := by
  unfold meetsB
  rw [decide_eq_true_iff]
  constructor
  · intro h
    apply Classical.byContradiction
    intro hn
    apply h
    rw [word_zero]
    intro j
    rw [hasB_and]
    cases h1 : hasB (wd us i) j with
    | false => rfl
    | true =>
      cases h2 : hasB s j with
      | false => rfl
      | true => exact absurd ⟨j, h1, h2⟩ hn
  · rintro ⟨j, h1, h2⟩ h
    rw [word_zero] at h
    have := h j
    rw [hasB_and, h1, h2] at this
    cases this
theorem soleB_iff {us : List Nat} {s i : Nat} : soleB us s i = true ↔ hasB (wd us i) i = true ∧ hasB s i = true ∧ ∀ j, hasB (wd us i) j = true → hasB s j = true → j = i := by
  unfold soleB
  rw [decide_eq_true_iff]
  constructor
  · intro h
    have hh : ∀ j, (hasB (wd us i) j && hasB s j) = decide (i = j) := fun j => by rw [← hasB_and, h, hasB_bitW]
    have hi := hh i
    simp at hi
    refine ⟨hi.1, hi.2, fun j h1 h2 => ?_⟩
    have := hh j
    rw [h1, h2] at this
    simp at this
    exact this.symm
  · rintro ⟨h1, h2, h3⟩
    apply word_ext
    intro j
    rw [hasB_and, hasB_bitW]
    by_cases e : i = j
    · subst e; simp [h1, h2]
    · cases a : hasB (wd us i) j with
      | false => simp [e]
      | true =>
        cases b : hasB s j with
        | false => simp [e]
        | true => exact absurd (h3 j a b).symm e
theorem mem_down {us : List Nat} {s i : Nat} : hasB (downW us s) i = true ↔ i < us.length ∧ ∃ j, hasB (wd us i) j = true ∧ hasB s j = true := by
  unfold downW
  rw [hasB_wordOf, Bool.and_eq_true, decide_eq_true_iff, meetsB_iff]
theorem mem_ends {us : List Nat} {s i : Nat} : hasB (endsW us s) i = true ↔ i < us.length ∧ hasB (wd us i) i = true ∧ hasB s i = true ∧ ∀ j, hasB (wd us i) j = true → hasB s j = true → j = i := by
  unfold endsW
  rw [hasB_wordOf, Bool.and_eq_true, decide_eq_true_iff, soleB_iff]
theorem word_ext' {a b : Nat} (h : ∀ j, hasB a j = true ↔ hasB b j = true) : a = b := word_ext fun j => by rw [Bool.eq_iff_iff]; exact h j
/-- a set of elements alone -/
def Only (n s : Nat) : Prop := ∀ i, hasB s i = true → i < n
theorem only_of {n s : Nat} (hs : s < 4294967296) (h : outsideB s n = false) : Only n s := fun i hi => by
  apply Nat.lt_of_not_le; intro hle
  rw [outsideB_false.1 h i (hasB_lt hs hi) hle] at hi; cases hi
theorem outside_of {n s : Nat} (h : Only n s) : outsideB s n = false := outsideB_false.2 fun i _ h2 => by
  cases hb : hasB s i with
  | false => rfl
  | true => have := h i hb; omega
theorem shr_zero {n s : Nat} (hs : s < 4294967296) : s / 2 ^ n = 0 ↔ outsideB s n = false := by
  constructor
  · intro h
    apply outside_of
    intro i hi
    apply Nat.lt_of_not_le; intro hle
    have hlt : s < 2 ^ n := by
      have := Nat.two_pow_pos n
      exact (Nat.div_eq_zero_iff_lt this).1 h
    have : s.testBit i = false := Nat.testBit_lt_two_pow (Nat.lt_of_lt_of_le hlt (Nat.pow_le_pow_right (by decide) hle))
    unfold hasB at hi; rw [this] at hi; cases hi
  · intro h
    apply Nat.div_eq_of_lt
    apply Nat.lt_pow_two_of_testBit
    intro i hi
    cases hb : s.testBit i with
    | false => rfl
    | true => have := only_of hs h i hb; omega
theorem sub_le {a b : Nat} (h : ∀ i, hasB a i = true → hasB b i = true) : a ≤ b := by
  have e : andW a b = a := word_ext' fun j => by
    rw [hasB_and, Bool.and_eq_true]
    exact ⟨fun x => x.1, fun x => ⟨x, h j x⟩⟩
  rw [← e]; unfold andW; exact Nat.and_le_right

section
variable {us : List Nat} (hin : Inside us) (ho : IsOrd us) (hf : ∀ i, wd us i < 4294967296)
theorem ord_refl (ho : IsOrd us) {i : Nat} (h : i < us.length) : hasB (wd us i) i = true := (ho i h i h).1.1 rfl
theorem ord_in (hin : Inside us) (hf : ∀ i, wd us i < 4294967296) {i j : Nat} (hi : i < us.length) (h : hasB (wd us i) j = true) : j < us.length := hin i hi j (hasB_lt (hf i) h) h
theorem ord_trans (hin : Inside us) (ho : IsOrd us) (hf : ∀ i, wd us i < 4294967296) {i j k : Nat} (hi : i < us.length) (h : hasB (wd us i) j = true) (h' : hasB (wd us j) k = true) : hasB (wd us i) k = true :=
  have hj := ord_in hin hf hi h
  (ho i hi j hj).2 k (ord_in hin hf hj h') h h'
theorem ord_anti (hin : Inside us) (ho : IsOrd us) (hf : ∀ i, wd us i < 4294967296) {i j : Nat} (hi : i < us.length) (h : hasB (wd us i) j = true) (h' : hasB (wd us j) i = true) : i = j := by
  apply Classical.byContradiction
  intro hne
  rw [(ho i hi j (ord_in hin hf hi h)).1.2 hne h] at h'
  cases h'
theorem only_down (s : Nat) : Only us.length (downW us s) := fun _ hi => (mem_down.1 hi).1
theorem only_ends (s : Nat) : Only us.length (endsW us s) := fun _ hi => (mem_ends.1 hi).1
theorem only_and {n a b : Nat} (h : Only n a) : Only n (andW a b) := fun i hi => by rw [hasB_and, Bool.and_eq_true] at hi; exact h i hi.1
theorem only_or {n a b : Nat} (h : Only n a) (h' : Only n b) : Only n (orW a b) := fun i hi => by
  rw [hasB_or, Bool.or_eq_true] at hi
  exact hi.elim (h i) (h' i)
theorem downW_lt (hl : us.length ≤ 16) (s : Nat) : downW us s < 4294967296 := wordOf_lt _ (by omega)
theorem endsW_lt (hl : us.length ≤ 16) (s : Nat) : endsW us s < 4294967296 := wordOf_lt _ (by omega)
theorem or_absorb {a b : Nat} (h : ∀ i, hasB b i = true → hasB a i = true) : orW a b = a := word_ext' fun j => by
  rw [hasB_or, Bool.or_eq_true]
  exact ⟨fun x => x.elim id (h j), .inl⟩
include hin ho hf
omit hin hf in
theorem down_has {s : Nat} (hs : Only us.length s) : orW (downW us s) s = downW us s :=
  or_absorb fun i hi => mem_down.2 ⟨hs i hi, i, ord_refl ho (hs i hi), hi⟩
theorem down_closed {s i j : Nat} (hi : i < us.length) (h : hasB (wd us i) j = true) (hj : hasB (downW us s) j = true) : hasB (downW us s) i = true := by
  obtain ⟨_, k, h1, h2⟩ := mem_down.1 hj
  exact mem_down.2 ⟨hi, k, ord_trans hin ho hf hi h h1, h2⟩
omit hin hf in
theorem down_fix {s : Nat} (hs : Only us.length s) (hc : ∀ i j, i < us.length → hasB (wd us i) j = true → hasB s j = true → hasB s i = true) : downW us s = s := word_ext' fun i => by
  rw [mem_down]
  exact ⟨fun ⟨hi, j, h1, h2⟩ => hc i j hi h1 h2, fun h => ⟨hs i h, i, ord_refl ho (hs i h), h⟩⟩
theorem down_idem (s : Nat) : downW us (downW us s) = downW us s :=
  down_fix ho (only_down s) fun _ _ hi h1 h2 => down_closed hin ho hf hi h1 h2
theorem down_and (a b : Nat) : downW us (andW (downW us a) (downW us b)) = andW (downW us a) (downW us b) :=
  down_fix ho (only_and (only_down a)) fun i j hi h1 h2 => by
    rw [hasB_and, Bool.and_eq_true] at h2 ⊢
    exact ⟨down_closed hin ho hf hi h1 h2.1, down_closed hin ho hf hi h1 h2.2⟩
omit hin ho hf in
theorem down_or (a b : Nat) : downW us (orW a b) = orW (downW us a) (downW us b) := word_ext' fun i => by
  rw [hasB_or, Bool.or_eq_true, mem_down, mem_down, mem_down]
  constructor
  · rintro ⟨hi, j, h1, h2⟩
    rw [hasB_or, Bool.or_eq_true] at h2
    exact h2.elim (fun h => .inl ⟨hi, j, h1, h⟩) (fun h => .inr ⟨hi, j, h1, h⟩)
  · rintro (⟨hi, j, h1, h2⟩ | ⟨hi, j, h1, h2⟩)
    · exact ⟨hi, j, h1, by rw [hasB_or, h2]; rfl⟩
    · exact ⟨hi, j, h1, by rw [hasB_or, h2]; simp⟩
theorem ends_down {s : Nat} (hs : Only us.length s) : endsW us (downW us s) = endsW us s := word_ext' fun i => by
  rw [mem_ends, mem_ends]
  constructor
  · rintro ⟨hi, h1, h2, h3⟩
    obtain ⟨_, k, h4, h5⟩ := mem_down.1 h2
    have hk := hs k h5
    have hkd : hasB (downW us s) k = true := mem_down.2 ⟨hk, k, ord_refl ho hk, h5⟩
    obtain rfl := h3 k h4 hkd
    exact ⟨hi, h1, h5, fun j h6 h7 => h3 j h6 (mem_down.2 ⟨hs j h7, j, ord_refl ho (hs j h7), h7⟩)⟩
  · rintro ⟨hi, h1, h2, h3⟩
    refine ⟨hi, h1, mem_down.2 ⟨hi, i, h1, h2⟩, fun j h4 h5 => ?_⟩
    obtain ⟨hj, k, h6, h7⟩ := mem_down.1 h5
    obtain rfl := h3 k (ord_trans hin ho hf hi h4 h6) h7
    exact (ord_anti hin ho hf hi h4 h6).symm
theorem ends_above {s : Nat} (hs : Only us.length s) : ∀ (v j : Nat), wd us j = v → hasB s j = true → ∃ m, hasB (endsW us s) m = true ∧ hasB (wd us j) m = true := by
  intro v
  induction v using Nat.strongRecOn with
  | _ v ih =>
    intro j hv hj
    have hjn := hs j hj
    cases hso : soleB us s j with
    | true => exact ⟨j, by rw [mem_ends]; exact ⟨hjn, soleB_iff.1 hso⟩, ord_refl ho hjn⟩
    | false =>
      have hne : ∃ k, hasB (wd us j) k = true ∧ hasB s k = true ∧ k ≠ j := by
        apply Classical.byContradiction
        intro hn
        rw [soleB_iff.2 ⟨ord_refl ho hjn, hj, fun k h1 h2 => Classical.byContradiction fun h3 => hn ⟨k, h1, h2, h3⟩⟩] at hso
        cases hso
      obtain ⟨k, h1, h2, h3⟩ := hne
      have hle : wd us k ≤ wd us j := sub_le fun i hi => ord_trans hin ho hf hjn h1 hi
      have hlt : wd us k < v := by
        rw [← hv]
        refine Nat.lt_of_le_of_ne hle fun e => h3 ?_
        exact (ord_anti hin ho hf hjn h1 (by rw [e]; exact ord_refl ho hjn)).symm
      obtain ⟨m, hm1, hm2⟩ := ih (wd us k) hlt k rfl h2
      exact ⟨m, hm1, ord_trans hin ho hf hjn h1 hm2⟩
theorem down_ends {s : Nat} (hs : Only us.length s) : downW us (endsW us s) = downW us s := word_ext' fun i => by
  rw [mem_down, mem_down]
  constructor
  · rintro ⟨hi, j, h1, h2⟩
    exact ⟨hi, j, h1, (mem_ends.1 h2).2.2.1⟩
  · rintro ⟨hi, j, h1, h2⟩
    obtain ⟨m, hm1, hm2⟩ := ends_above hin ho hf hs _ j rfl h2
    exact ⟨hi, m, ord_trans hin ho hf hi h1 hm2, hm1⟩
omit hin ho hf in
theorem ends_sub (s : Nat) : orW (endsW us s) s = s := word_ext' fun i => by
  rw [hasB_or, Bool.or_eq_true, mem_ends]
  exact ⟨fun x => x.elim (fun y => y.2.2.1) id, .inr⟩
theorem ends_some {s : Nat} (hs : Only us.length s) (h : endsW us s = 0) : s = 0 := by
  rw [word_zero] at h ⊢
  intro j
  cases hj : hasB s j with
  | false => rfl
  | true =>
    obtain ⟨m, hm1, _⟩ := ends_above hin ho hf hs _ j rfl hj
    rw [h m] at hm1; cases hm1
omit hin ho hf in
/-- what is turned round: of the ends of a set all are ends -/
theorem ends_turned {ds : List Nat} (hl : ds.length = us.length) (hd : ∀ i, i < us.length → ∀ j, hasB (wd ds i) j = (decide (j < us.length) && hasB (wd us j) i)) (s : Nat) : endsW ds (endsW us s) = endsW us s := word_ext' fun i => by
  rw [mem_ends (us := ds), hl]
  constructor
  · exact fun h => h.2.2.1
  · intro h
    obtain ⟨hi, h1, h2, h3⟩ := mem_ends.1 h
    refine ⟨hi, by rw [hd i hi]; simp [hi, h1], h, fun j h4 h5 => ?_⟩
    rw [hd i hi, Bool.and_eq_true] at h4
    exact ((mem_ends.1 h5).2.2.2 i h4.2 h2).symm
end
/-- the document's word of the maximal ones -/
def topB (us : List Nat) (s i : Nat) : Nat → Bool
  | 0 => hasB s i
  | k + 1 => topB us s i k && !(hasB s k && decide (i ≠ k) && hasB (wd us i) k)
theorem topB_iff (us : List Nat) (s i : Nat) : ∀ k, topB us s i k = true ↔ hasB s i = true ∧ ∀ j, j < k → hasB s j = true → i ≠ j → hasB (wd us i) j = false
  | 0 => by simp [topB]
  | k + 1 => by
    unfold topB
    rw [Bool.and_eq_true, topB_iff us s i k]
    constructor
    · rintro ⟨⟨h1, h2⟩, h3⟩
      refine ⟨h1, fun j hj h4 h5 => ?_⟩
      by_cases e : j = k
      · subst e
        simp [h4, h5] at h3
        exact h3
      · exact h2 j (by omega) h4 h5
    · rintro ⟨h1, h2⟩
      refine ⟨⟨h1, fun j hj => h2 j (by omega)⟩, ?_⟩
      cases a : hasB s k with
      | false => simp
      | true =>
        by_cases e : i = k
        · simp [e]
        · simp [e, h2 k (by omega) a e]
theorem top_sole {us : List Nat} (hr : ∀ i, i < us.length → hasB (wd us i) i = true) {s i : Nat} (hs : Only us.length s) (hi : i < us.length) : topB us s i us.length = soleB us s i := by
  rw [Bool.eq_iff_iff, topB_iff, soleB_iff]
  constructor
  · rintro ⟨h1, h2⟩
    refine ⟨hr i hi, h1, fun j h3 h4 => Classical.byContradiction fun h5 => ?_⟩
    rw [h2 j (hs j h4) h4 (fun e => h5 e.symm)] at h3
    cases h3
  · rintro ⟨_, h1, h2⟩
    refine ⟨h1, fun j hj h3 h4 => ?_⟩
    cases hb : hasB (wd us i) j with
    | false => rfl
    | true => exact absurd (h2 j hb h3).symm h4
theorem wordOf_congr {p q : Nat → Bool} : ∀ {k : Nat}, (∀ i, i < k → p i = q i) → wordOf p k = wordOf q k
  | 0, _ => rfl
  | k + 1, h => by unfold wordOf; rw [h k (by omega), wordOf_congr fun i hi => h i (by omega)]
theorem tops_ends {us : List Nat} (hr : ∀ i, i < us.length → hasB (wd us i) i = true) {s : Nat} (hs : Only us.length s) : wordOf (fun i => topB us s i us.length) us.length = endsW us s :=
  wordOf_congr fun _ hi => top_sole hr hs hi
/-- the document's word of what is below -/
def someB (us : List Nat) (s i : Nat) : Nat → Bool
  | 0 => false
  | k + 1 => someB us s i k || (hasB s k && hasB (wd us i) k)
theorem someB_iff (us : List Nat) (s i : Nat) : ∀ k, someB us s i k = true ↔ ∃ j, j < k ∧ hasB s j = true ∧ hasB (wd us i) j = true
  | 0 => by simp [someB]
  | k + 1 => by
    unfold someB
    rw [Bool.or_eq_true, someB_iff us s i k, Bool.and_eq_true]
    constructor
    · rintro (⟨j, hj, h⟩ | h)
      · exact ⟨j, by omega, h⟩
      · exact ⟨k, by omega, h⟩
    · rintro ⟨j, hj, h⟩
      by_cases e : j = k
      · subst e; exact .inr h
      · exact .inl ⟨j, by omega, h⟩
theorem some_down {us : List Nat} {s : Nat} (hs : Only us.length s) : wordOf (fun i => someB us s i us.length) us.length = downW us s :=
  wordOf_congr fun i _ => by
    rw [Bool.eq_iff_iff, someB_iff, meetsB_iff]
    exact ⟨fun ⟨j, _, h1, h2⟩ => ⟨j, h2, h1⟩, fun ⟨j, h1, h2⟩ => ⟨j, hs j h2, h2, h1⟩⟩

/-- what is wrong with an order, or with a set of its elements (C1) -/
def codeS (n : Int) (us : List Nat) (s : Nat) : Int := if codeOf n us ≠ 0 then codeOf n us else if outsideB s us.length = true then 2 else 0
theorem codeS_bad {n : Int} {us : List Nat} {s : Nat} (h : codeOf n us ≠ 0) : codeS n us s = codeOf n us := by unfold codeS; rw [if_pos h]
theorem codeS_out {n : Int} {us : List Nat} {s : Nat} (h : codeOf n us = 0) (h' : outsideB s us.length = true) : codeS n us s = 2 := by unfold codeS; rw [if_neg (by simp [h]), if_pos h']
theorem codeS_ok {n : Int} {us : List Nat} {s : Nat} (h : codeOf n us = 0) (h' : outsideB s us.length = false) : codeS n us s = 0 := by unfold codeS; rw [if_neg (by simp [h]), if_neg (by simp [h'])]
theorem codeS_zero {n : Int} {us : List Nat} {s : Nat} (h : codeS n us s = 0) : codeOf n us = 0 ∧ outsideB s us.length = false := by
  by_cases h1 : codeOf n us = 0
  · cases h2 : outsideB s us.length with
    | false => exact ⟨h1, rfl⟩
    | true => rw [codeS_out h1 h2] at h; simp at h
  · rw [codeS_bad h1] at h; exact absurd h h1
end Go.Proofs.YtjbfjdijgfhjfaaDoor
