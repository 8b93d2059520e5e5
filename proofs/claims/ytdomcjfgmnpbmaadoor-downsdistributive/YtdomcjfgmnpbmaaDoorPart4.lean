/- Plain mathematics of sets of elements of an order: what is below a set, its ends; no program is named here. Plain mathematics of lattices of numbers below n: joins and meets by what they are below and above. -/
import Derived.Test.YtdomcjfgmnpbmaaDoorPart3
import Derived.Test.YtdomcjfgmnpbmaaDoorWords
namespace Go.Proofs.YtdomcjfgmnpbmaaDoor

/-- the elements of the first k for which p holds, as a word -/
def wordOf (p : Nat → Bool) : Nat → Nat
  | 0 => 0
  | k + 1 => if p k then orW (wordOf p k) (bitW k) else wordOf p k
theorem hasB_wordOf (p : Nat → Bool) : ∀ k i, hasB (wordOf p k) i = (decide (i < k) && p i)
  | 0, i => by simp [wordOf, hasB_zero]
  | k + 1, i => by
    unfold wordOf
    have ih := hasB_wordOf p k i
    by_cases e : i = k
    · subst e
      cases hp : p i with
      | true => rw [if_pos rfl, hasB_or, hasB_bitW]; simp
      | false => rw [if_neg (by simp), ih]; simp
    · have h2 : (i < k + 1) ↔ i < k := by omega
      have h3 : ¬ k = i := fun h => e h.symm
      cases hp : p k with
      | true => rw [if_pos rfl, hasB_or, hasB_bitW, ih]; simp [h2, h3]
      | false => rw [if_neg (by simp), ih]; simp [h2]
theorem wordOf_lt (p : Nat → Bool) {k : Nat} (hk : k ≤ 32) : wordOf p k < 4294967296 := by
  induction k with
  | zero => simp [wordOf]
  | succ k ih =>
    unfold wordOf
    split
    · exact orW_lt (ih (by omega)) (bitW_lt (by omega))
    · exact ih (by omega)

/-- has word i something in common with the set? -/
def meetsB (us : List Nat) (s i : Nat) : Bool := decide (andW (wd us i) s ≠ 0)
/-- has word i nothing but i in common with the set? -/
def soleB (us : List Nat) (s i : Nat) : Bool := decide (andW (wd us i) s = bitW i)
def downW (us : List Nat) (s : Nat) : Nat := wordOf (meetsB us s) us.length
def endsW (us : List Nat) (s : Nat) : Nat := wordOf (soleB us s) us.length
theorem meetsB_iff {us : List Nat} {s i : Nat} : meetsB us s i = true ↔ ∃ j, hasB (wd us i) j = true ∧ hasB s j = true := by
  unfold meetsB
  rw [decide_eq_true_iff]
  constructor
  · intro h
    apply Classical.byContradiction
    intro hn
    apply h
    rw [word_zero]
    intro j
    rw [hasB_and]
    cases h1 : hasB (wd us i) j with
    | false => rfl
    | true =>
      cases h2 : hasB s j with
      | false => rfl
      | true => exact absurd ⟨j, h1, h2⟩ hn
  · rintro ⟨j, h1, h2⟩ h
    rw [word_zero] at h
    have := h j
    rw [hasB_and, h1, h2] at this
    cases this
theorem soleB_iff {us : List Nat} {s i : Nat} : soleB us s i = true ↔ hasB (wd us i) i = true ∧ hasB s i = true ∧ ∀ j, hasB (wd us i) j = true → hasB s j = true → j = i := by
  unfold soleB
  rw [decide_eq_true_iff]
  constructor
  · intro h
    have hh : ∀ j, (hasB (wd us i) j && hasB s j) = decide (i = j) := fun j => by rw [← hasB_and, h, hasB_bitW]
    have hi := hh i
    simp at hi
    refine ⟨hi.1, hi.2, fun j h1 h2 => ?_⟩
    have := hh j
    rw [h1, h2] at this
    simp at this
    exact this.symm
  · rintro ⟨h1, h2, h3⟩
    apply word_ext
    intro j
    rw [hasB_and, hasB_bitW]
    by_cases e : i = j
    · subst e; simp [h1, h2]
    · cases a : hasB (wd us i) j with
      | false => simp [e]
      | true =>
        cases b : hasB s j with
        | false => simp [e]
        | true => exact absurd (h3 j a b).symm e
theorem mem_down {us : List Nat} {s i : Nat} : hasB (downW us s) i = true ↔ i < us.length ∧ ∃ j, hasB (wd us i) j = true ∧ hasB s j = true := by
  unfold downW
  rw [hasB_wordOf, Bool.and_eq_true, decide_eq_true_iff, meetsB_iff]
theorem mem_ends {us : List Nat} {s i : Nat} : hasB (endsW us s) i = true ↔ i < us.length ∧ hasB (wd us i) i = true ∧ hasB s i = true ∧ ∀ j, hasB (wd us i) j = true → hasB s j = true → j = i := by
  unfold endsW
  rw [hasB_wordOf, Bool.and_eq_true, decide_eq_true_iff, soleB_iff]
theorem word_ext' {a b : Nat} (h : ∀ j, hasB a j = true ↔ hasB b j = true) : a = b := word_ext fun j => by rw [Bool.eq_iff_iff]; exact h j
/-- a set of elements alone -/
def Only (n s : Nat) : Prop := ∀ i, hasB s i = true → i < n
theorem only_of {n s : Nat} (hs : s < 4294967296) (h : outsideB s n = false) : Only n s := fun i hi => by
  apply Nat.lt_of_not_le; intro hle
  rw [outsideB_false.1 h i (hasB_lt hs hi) hle] at hi; cases hi
theorem outside_of {n s : Nat} (h : Only n s) : outsideB s n = false := outsideB_false.2 fun i _ h2 => by
  cases hb : hasB s i with
  | false => rfl
  | true => have := h i hb; omega
theorem shr_zero {n s : Nat} (hs : s < 4294967296) : s / 2 ^ n = 0 ↔ outsideB s n = false := by
  constructor
  · intro h
    apply outside_of
    intro i hi
    apply Nat.lt_of_not_le; intro hle
    have hlt : s < 2 ^ n := by
      have := Nat.two_pow_pos n
      exact (Nat.div_eq_zero_iff_lt this).1 h
    have : s.testBit i = false := Nat.testBit_lt_two_pow (Nat.lt_of_lt_of_le hlt (Nat.pow_le_pow_right (by decide) hle))
    unfold hasB at hi; rw [this] at hi; cases hi
  · intro h
    apply Nat.div_eq_of_lt
    apply Nat.lt_pow_two_of_testBit
    intro i hi
    cases hb : s.testBit i with
    | false => rfl
    | true => have := only_of hs h i hb; omega
theorem sub_le {a b : Nat} (h : ∀ i, hasB a i = true → hasB b i = true) : a ≤ b := by
  have e : andW a b = a := word_ext' fun j => by
    rw [hasB_and, Bool.and_eq_true]
    exact ⟨fun x => x.1, fun x => ⟨x, h j x⟩⟩
  rw [← e]; unfold andW; exact Nat.and_le_right

section
variable {us : List Nat} (hin : Inside us) (ho : IsOrd us) (hf : ∀ i, wd us i < 4294967296)
theorem ord_refl (ho : IsOrd us) {i : Nat} (h : i < us.length) : hasB (wd us i) i = true := (ho i h i h).1.1 rfl
theorem ord_in (hin : Inside us) (hf : ∀ i, wd us i < 4294967296) {i j : Nat} (hi : i < us.length) (h : hasB (wd us i) j = true) : j < us.length := hin i hi j (hasB_lt (hf i) h) h
theorem ord_trans (hin : Inside us) (ho : IsOrd us) (hf : ∀ i, wd us i < 4294967296) {i j k : Nat} (hi : i < us.length) (h : hasB (wd us i) j = true) (h' : hasB (wd us j) k = true) : hasB (wd us i) k = true :=
  have hj := ord_in hin hf hi h
  (ho i hi j hj).2 k (ord_in hin hf hj h') h h'
theorem ord_anti (hin : Inside us) (ho : IsOrd us) (hf : ∀ i, wd us i < 4294967296) {i j : Nat} (hi : i < us.length) (h : hasB (wd us i) j = true) (h' : hasB (wd us j) i = true) : i = j := by
  apply Classical.byContradiction
  intro hne
  rw [(ho i hi j (ord_in hin hf hi h)).1.2 hne h] at h'
  cases h'
theorem only_down (s : Nat) : Only us.length (downW us s) := fun _ hi => (mem_down.1 hi).1
theorem only_ends (s : Nat) : Only us.length (endsW us s) := fun _ hi => (mem_ends.1 hi).1
theorem only_and {n a b : Nat} (h : Only n a) : Only n (andW a b) := fun i hi => by rw [hasB_and, Bool.and_eq_true] at hi; exact h i hi.1
theorem only_or {n a b : Nat} (h : Only n a) (h' : Only n b) : Only n (orW a b) := fun i hi => by
  rw [hasB_or, Bool.or_eq_true] at hi
  exact hi.elim (h i) (h' i)
theorem downW_lt (hl : us.length ≤ 16) (s : Nat) : downW us s < 4294967296 := wordOf_lt _ (by omega)
theorem endsW_lt (hl : us.length ≤ 16) (s : Nat) : endsW us s < 4294967296 := wordOf_lt _ (by omega)
theorem or_absorb {a b : Nat} (h : ∀ i, hasB b i = true → hasB a i = true) : orW a b = a := word_ext' fun j => by
  rw [hasB_or, Bool.or_eq_true]
  exact ⟨fun x => x.elim id (h j), .inl⟩
include hin ho hf
omit hin hf in
theorem down_has {s : Nat} (hs : Only us.length s) : orW (downW us s) s = downW us s :=
  or_absorb fun i hi => mem_down.2 ⟨hs i hi, i, ord_refl ho (hs i hi), hi⟩
theorem down_closed {s i j : Nat} (hi : i < us.length) (h : hasB (wd us i) j = true) (hj : hasB (downW us s) j = true) : hasB (downW us s) i = true := by
  obtain ⟨_, k, h1, h2⟩ := mem_down.1 hj
  exact mem_down.2 ⟨hi, k, ord_trans hin ho hf hi h h1, h2⟩
omit hin hf in
theorem down_fix {s : Nat} (hs : Only us.length s) (hc : ∀ i j, i < us.length → hasB (wd us i) j = true → hasB s j = true → hasB s i = true) : downW us s = s := word_ext' fun i => by
  rw [mem_down]
  exact ⟨fun ⟨hi, j, h1, h2⟩ => hc i j hi h1 h2, fun h => ⟨hs i h, i, ord_refl ho (hs i h), h⟩⟩
theorem down_idem (s : Nat) : downW us (downW us s) = downW us s :=
  down_fix ho (only_down s) fun _ _ hi h1 h2 => down_closed hin ho hf hi h1 h2
theorem down_and (a b : Nat) : downW us (andW (downW us a) (downW us b)) = andW (downW us a) (downW us b) :=
  down_fix ho (only_and (only_down a)) fun i j hi h1 h2 => by
    rw [hasB_and, Bool.and_eq_true] at h2 ⊢
    exact ⟨down_closed hin ho hf hi h1 h2.1, down_closed hin ho hf hi h1 h2.2⟩
omit hin ho hf in
theorem down_or (a b : Nat) : downW us (orW a b) = orW (downW us a) (downW us b) := word_ext' fun i => by
  rw [hasB_or, Bool.or_eq_true, mem_down, mem_down, mem_down]
  constructor
  · rintro ⟨hi, j, h1, h2⟩
    rw [hasB_or, Bool.or_eq_true] at h2
    exact h2.elim (fun h => .inl ⟨hi, j, h1, h⟩) (fun h => .inr ⟨hi, j, h1, h⟩)
  · rintro (⟨hi, j, h1, h2⟩ | ⟨hi, j, h1, h2⟩)
    · exact ⟨hi, j, h1, by rw [hasB_or, h2]; rfl⟩
    · exact ⟨hi, j, h1, by rw [hasB_or, h2]; simp⟩
theorem ends_down {s : Nat} (hs : Only us.length s) : endsW us (downW us s) = endsW us s := word_ext' fun i => by
  rw [mem_ends, mem_ends]
  constructor
  · rintro ⟨hi, h1, h2, h3⟩
    obtain ⟨_, k, h4, h5⟩ := mem_down.1 h2
    have hk := hs k h5
    have hkd : hasB (downW us s) k = true := mem_down.2 ⟨hk, k, ord_refl ho hk, h5⟩
    obtain rfl := h3 k h4 hkd
    exact ⟨hi, h1, h5, fun j h6 h7 => h3 j h6 (mem_down.2 ⟨hs j h7, j, ord_refl ho (hs j h7), h7⟩)⟩
  · rintro ⟨hi, h1, h2, h3⟩
    refine ⟨hi, h1, mem_down.2 ⟨hi, i, h1, h2⟩, fun j h4 h5 => ?_⟩
    obtain ⟨hj, k, h6, h7⟩ := mem_down.1 h5
    obtain rfl := h3 k (ord_trans hin ho hf hi h4 h6) h7
    exact (ord_anti hin ho hf hi h4 h6).symm
theorem ends_above {s : Nat} (hs : Only us.length s) : ∀ (v j : Nat), wd us j = v → hasB s j = true → ∃ m, hasB (endsW us s) m = true ∧ hasB (wd us j) m = true := by
  intro v
  induction v using Nat.strongRecOn with
  | _ v ih =>
    intro j hv hj
    have hjn := hs j hj
    cases hso : soleB us s j with
    | true => exact ⟨j, by rw [mem_ends]; exact ⟨hjn, soleB_iff.1 hso⟩, ord_refl ho hjn⟩
    | false =>
      have hne : ∃ k, hasB (wd us j) k = true ∧ hasB s k = true ∧ k ≠ j := by
        apply Classical.byContradiction
        intro hn
        rw [soleB_iff.2 ⟨ord_refl ho hjn, hj, fun k h1 h2 => Classical.byContradiction fun h3 => hn ⟨k, h1, h2, h3⟩⟩] at hso
        cases hso
      obtain ⟨k, h1, h2, h3⟩ := hne
      have hle : wd us k ≤ wd us j := sub_le fun i hi => ord_trans hin ho hf hjn h1 hi
      have hlt : wd us k < v := by
        rw [← hv]
        refine Nat.lt_of_le_of_ne hle fun e => h3 ?_
        exact (ord_anti hin ho hf hjn h1 (by rw [e]; exact ord_refl ho hjn)).symm
      obtain ⟨m, hm1, hm2⟩ := ih (wd us k) hlt k rfl h2
      exact ⟨m, hm1, ord_trans hin ho hf hjn h1 hm2⟩
theorem down_ends {s : Nat} (hs : Only us.length s) : downW us (endsW us s) = downW us s := word_ext' fun i => by
  rw [mem_down, mem_down]
  constructor
  · rintro ⟨hi, j, h1, h2⟩
    exact ⟨hi, j, h1, (mem_ends.1 h2).2.2.1⟩
  · rintro ⟨hi, j, h1, h2⟩
    obtain ⟨m, hm1, hm2⟩ := ends_above hin ho hf hs _ j rfl h2
    exact ⟨hi, m, ord_trans hin ho hf hi h1 hm2, hm1⟩
omit hin ho hf in
theorem ends_sub (s : Nat) : orW (endsW us s) s = s := word_ext' fun i => by
  rw [hasB_or, Bool.or_eq_true, mem_ends]
  exact ⟨fun x => x.elim (fun y => y.2.2.1) id, .inr⟩
theorem ends_some {s : Nat} (hs : Only us.length s) (h : endsW us s = 0) : s = 0 := by
  rw [word_zero] at h ⊢
  intro j
  cases hj : hasB s j with
  | false => rfl
  | true =>
    obtain ⟨m, hm1, _⟩ := ends_above hin ho hf hs _ j rfl hj
    rw [h m] at hm1; cases hm1
omit hin ho hf in
/-- what is turned round: of the ends of a set all are ends -/
theorem ends_turned {ds : List Nat} (hl : ds.length = us.length) (hd : ∀ i, i < us.length → ∀ j, hasB (wd ds i) j = (decide (j < us.length) && hasB (wd us j) i)) (s : Nat) : endsW ds (endsW us s) = endsW us s := word_ext' fun i => by
  rw [mem_ends (us := ds), hl]
  constructor
  · exact fun h => h.2.2.1
  · intro h
    obtain ⟨hi, h1, h2, h3⟩ := mem_ends.1 h
    refine ⟨hi, by rw [hd i hi]; simp [hi, h1], h, fun j h4 h5 => ?_⟩
    rw [hd i hi, Bool.and_eq_true] at h4
    exact ((mem_ends.1 h5).2.2.2 i h4.2 h2).symm
end
/-- the document's word of the maximal ones -/
def topB (us : List Nat) (s i : Nat) : Nat → Bool
  | 0 => hasB s i
  | k + 1 => topB us s i k && !(hasB s k && decide (i ≠ k) && hasB (wd us i) k)
theorem topB_iff (us : List Nat) (s i : Nat) : ∀ k, topB us s i k = true ↔ hasB s i = true ∧ ∀ j, j < k → hasB s j = true → i ≠ j → hasB (wd us i) j = false
  | 0 => by simp [topB]
  | k + 1 => by
    unfold topB
    rw [Bool.and_eq_true, topB_iff us s i k]
    constructor
    · rintro ⟨⟨h1, h2⟩, h3⟩
      refine ⟨h1, fun j hj h4 h5 => ?_⟩
      by_cases e : j = k
      · subst e
        simp [h4, h5] at h3
        exact h3
      · exact h2 j (by omega) h4 h5
    · rintro ⟨h1, h2⟩
      refine ⟨⟨h1, fun j hj => h2 j (by omega)⟩, ?_⟩
      cases a : hasB s k with
      | false => simp
      | true =>
        by_cases e : i = k
        · simp [e]
        · simp [e, h2 k (by omega) a e]
theorem top_sole {us : List Nat} (hr : ∀ i, i < us.length → hasB (wd us i) i = true) {s i : Nat} (hs : Only us.length s) (hi : i < us.length) : topB us s i us.length = soleB us s i := by
  rw [Bool.eq_iff_iff, topB_iff, soleB_iff]
  constructor
  · rintro ⟨h1, h2⟩
    refine ⟨hr i hi, h1, fun j h3 h4 => Classical.byContradiction fun h5 => ?_⟩
    rw [h2 j (hs j h4) h4 (fun e => h5 e.symm)] at h3
    cases h3
  · rintro ⟨_, h1, h2⟩
    refine ⟨h1, fun j hj h3 h4 => ?_⟩
    cases hb : hasB (wd us i) j with
    | false => rfl
    | true => exact absurd (h2 j hb h3).symm h4
theorem wordOf_congr {p q : Nat → Bool} : ∀ {k : Nat}, (∀ i, i < k → p i = q i) → wordOf p k = wordOf q k
  | 0, _ => rfl
  | k + 1, h => by unfold wordOf; rw [h k (by omega), wordOf_congr fun i hi => h i (by omega)]
theorem tops_ends {us : List Nat} (hr : ∀ i, i < us.length → hasB (wd us i) i = true) {s : Nat} (hs : Only us.length s) : wordOf (fun i => topB us s i us.length) us.length = endsW us s :=
  wordOf_congr fun _ hi => top_sole hr hs hi
/-- the document's word of what is below -/
def someB (us : List Nat) (s i : Nat) : Nat → Bool
  | 0 => false
  | k + 1 => someB us s i k || (hasB s k && hasB (wd us i) k)
theorem someB_iff (us : List Nat) (s i : Nat) : ∀ k, someB us s i k = true ↔ ∃ j, j < k ∧ hasB s j = true ∧ hasB (wd us i) j = true
  | 0 => by simp [someB]
  | k + 1 => by
    unfold someB
    rw [Bool.or_eq_true, someB_iff us s i k, Bool.and_eq_true]
    constructor
    · rintro (⟨j, hj, h⟩ | h)
      · exact ⟨j, by omega, h⟩
      · exact ⟨k, by omega, h⟩
    · rintro ⟨j, hj, h⟩
      by_cases e : j = k
      · subst e; exact .inr h
      · exact .inl ⟨j, by omega, h⟩
theorem some_down {us : List Nat} {s : Nat} (hs : Only us.length s) : wordOf (fun i => someB us s i us.length) us.length = downW us s :=
  wordOf_congr fun i _ => by
    rw [Bool.eq_iff_iff, someB_iff, meetsB_iff]
    exact ⟨fun ⟨j, _, h1, h2⟩ => ⟨j, h2, h1⟩, fun ⟨j, h1, h2⟩ => ⟨j, hs j h2, h2, h1⟩⟩

/-- what is wrong with an order, or with a set of its elements (C1) -/
def codeS (n : Int) (us : List Nat) (s : Nat) : Int := if codeOf n us ≠ 0 then codeOf n us else if outsideB s us.length = true then 2 else 0
theorem codeS_bad {n : Int} {us : List Nat} {s : Nat} (h : codeOf n us ≠ 0) : codeS n us s = codeOf n us := by unfold codeS; rw [if_pos h]
theorem codeS_out {n : Int} {us : List Nat} {s : Nat} (h : codeOf n us = 0) (h' : outsideB s us.length = true) : codeS n us s = 2 := by unfold codeS; rw [if_neg (by simp [h]), if_pos h']
theorem codeS_ok {n : Int} {us : List Nat} {s : Nat} (h : codeOf n us = 0) (h' : outsideB s us.length = false) : codeS n us s = 0 := by unfold codeS; rw [if_neg (by simp [h]), if_neg (by simp [h'])]
theorem codeS_zero {n : Int} {us : List Nat} {s : Nat} (h : codeS n us s = 0) : codeOf n us = 0 ∧ outsideB s us.length = false := by
  by_cases h1 : codeOf n us = 0
  · cases h2 : outsideB s us.length with
    | false => exact ⟨h1, rfl⟩
    | true => rw [codeS_out h1 h2] at h; simp at h
  · rw [codeS_bad h1] at h; exact absurd h h1
end Go.Proofs.YtdomcjfgmnpbmaaDoor

namespace Go.Proofs.YtdomcjfgmnpbmaaDoor

/-- le is an order of the numbers below n, with joins j and meets m and ends b and t -/
structure Lat (n : Nat) (le : Nat → Nat → Prop) (j m : Nat → Nat → Nat) (b t : Nat) : Prop where
  refl : ∀ {x}, x < n → le x x
  anti : ∀ {x y}, x < n → y < n → le x y → le y x → x = y
  trans : ∀ {x y z}, x < n → y < n → z < n → le x y → le y z → le x z
  jlt : ∀ {x y}, x < n → y < n → j x y < n
  mlt : ∀ {x y}, x < n → y < n → m x y < n
  jle : ∀ {x y z}, x < n → y < n → z < n → (le (j x y) z ↔ le x z ∧ le y z)
  lem : ∀ {x y z}, x < n → y < n → z < n → (le z (m x y) ↔ le z x ∧ le z y)
  blt : b < n
  tlt : t < n
  ble : ∀ {x}, x < n → le b x
  let_ : ∀ {x}, x < n → le x t
theorem Lat.turn {n : Nat} {le : Nat → Nat → Prop} {j m : Nat → Nat → Nat} {b t : Nat} (L : Lat n le j m b t) : Lat n (fun x y => le y x) m j t b :=
  ⟨L.refl, fun hx hy h1 h2 => L.anti hx hy h2 h1, fun hx hy hz h1 h2 => L.trans hz hy hx h2 h1, L.mlt, L.jlt, fun hx hy hz => L.lem hx hy hz, fun hx hy hz => L.jle hx hy hz, L.tlt, L.blt, L.let_, L.ble⟩
section
variable {n : Nat} {le : Nat → Nat → Prop} {j m : Nat → Nat → Nat} {b t : Nat} (L : Lat n le j m b t)
include L
theorem Lat.jl {x y : Nat} (hx : x < n) (hy : y < n) : le x (j x y) := ((L.jle hx hy (L.jlt hx hy)).1 (L.refl (L.jlt hx hy))).1
theorem Lat.jr {x y : Nat} (hx : x < n) (hy : y < n) : le y (j x y) := ((L.jle hx hy (L.jlt hx hy)).1 (L.refl (L.jlt hx hy))).2
theorem Lat.ml {x y : Nat} (hx : x < n) (hy : y < n) : le (m x y) x := ((L.lem hx hy (L.mlt hx hy)).1 (L.refl (L.mlt hx hy))).1
theorem Lat.mr {x y : Nat} (hx : x < n) (hy : y < n) : le (m x y) y := ((L.lem hx hy (L.mlt hx hy)).1 (L.refl (L.mlt hx hy))).2
/-- same above, same element -/
theorem Lat.ext {x y : Nat} (hx : x < n) (hy : y < n) (h : ∀ z, z < n → (le x z ↔ le y z)) : x = y :=
  L.anti hx hy ((h y hy).2 (L.refl hy)) ((h x hx).1 (L.refl hx))
theorem Lat.jcomm {x y : Nat} (hx : x < n) (hy : y < n) : j x y = j y x :=
  L.ext (L.jlt hx hy) (L.jlt hy hx) fun z hz => by rw [L.jle hx hy hz, L.jle hy hx hz]; exact And.comm
theorem Lat.jidem {x : Nat} (hx : x < n) : j x x = x :=
  L.ext (L.jlt hx hx) hx fun z hz => by rw [L.jle hx hx hz]; exact and_self_iff
theorem Lat.jassoc {x y z : Nat} (hx : x < n) (hy : y < n) (hz : z < n) : j x (j y z) = j (j x y) z :=
  L.ext (L.jlt hx (L.jlt hy hz)) (L.jlt (L.jlt hx hy) hz) fun v hv => by
    rw [L.jle hx (L.jlt hy hz) hv, L.jle hy hz hv, L.jle (L.jlt hx hy) hz hv, L.jle hx hy hv]; exact and_assoc.symm
theorem Lat.mcomm {x y : Nat} (hx : x < n) (hy : y < n) : m x y = m y x := L.turn.jcomm hx hy
theorem Lat.midem {x : Nat} (hx : x < n) : m x x = x := L.turn.jidem hx
theorem Lat.massoc {x y z : Nat} (hx : x < n) (hy : y < n) (hz : z < n) : m x (m y z) = m (m x y) z := L.turn.jassoc hx hy hz
theorem Lat.le_j {x y : Nat} (hx : x < n) (hy : y < n) : le x y ↔ j x y = y := by
  constructor
  · intro h; exact L.anti (L.jlt hx hy) hy ((L.jle hx hy hy).2 ⟨h, L.refl hy⟩) (L.jr hx hy)
  · intro h; rw [← h]; exact L.jl hx hy
theorem Lat.le_m {x y : Nat} (hx : x < n) (hy : y < n) : le x y ↔ m x y = x := by
  constructor
  · intro h; exact L.anti (L.mlt hx hy) hx (L.ml hx hy) ((L.lem hx hy hx).2 ⟨L.refl hx, h⟩)
  · intro h; rw [← h]; exact L.mr hx hy
theorem Lat.jabs {x y : Nat} (hx : x < n) (hy : y < n) : j x (m x y) = x :=
  L.anti (L.jlt hx (L.mlt hx hy)) hx ((L.jle hx (L.mlt hx hy) hx).2 ⟨L.refl hx, L.ml hx hy⟩) (L.jl hx (L.mlt hx hy))
theorem Lat.mabs {x y : Nat} (hx : x < n) (hy : y < n) : m x (j x y) = x := L.turn.jabs hx hy
theorem Lat.jmono {x y x' y' : Nat} (hx : x < n) (hy : y < n) (hx' : x' < n) (hy' : y' < n) (h1 : le x x') (h2 : le y y') : le (j x y) (j x' y') :=
  (L.jle hx hy (L.jlt hx' hy')).2 ⟨L.trans hx hx' (L.jlt hx' hy') h1 (L.jl hx' hy'), L.trans hy hy' (L.jlt hx' hy') h2 (L.jr hx' hy')⟩
theorem Lat.mmono {x y x' y' : Nat} (hx : x < n) (hy : y < n) (hx' : x' < n) (hy' : y' < n) (h1 : le x x') (h2 : le y y') : le (m x y) (m x' y') :=
  L.turn.jmono hx' hy' hx hy h1 h2
end

/-- the laws of distributive and of modular lattices, and complements -/
def Distr (n : Nat) (j m : Nat → Nat → Nat) : Prop := ∀ a, a < n → ∀ b, b < n → ∀ c, c < n → m a (j b c) = j (m a b) (m a c)
def Modul (n : Nat) (le : Nat → Nat → Prop) (j m : Nat → Nat → Nat) : Prop := ∀ a, a < n → ∀ b, b < n → ∀ c, c < n → le a c → j a (m b c) = m (j a b) c
def Median (n : Nat) (j m : Nat → Nat → Nat) : Prop := ∀ x, x < n → ∀ y, y < n → ∀ z, z < n → j (j (m x y) (m y z)) (m z x) = m (m (j x y) (j y z)) (j z x)
/-- no two elements, one strictly below the other, have the same join and meet with a third -/
def NoPent (n : Nat) (le : Nat → Nat → Prop) (j m : Nat → Nat → Nat) : Prop := ∀ x, x < n → ∀ z, z < n → ∀ y, y < n → le x z → x ≠ z → ¬ (j x y = j z y ∧ m x y = m z y)
/-- no two unlike elements have the same join and meet with a third -/
def NoTwo (n : Nat) (j m : Nat → Nat → Nat) : Prop := ∀ x, x < n → ∀ y, y < n → ∀ z, z < n → j x y = j x z → m x y = m x z → y = z
def lowE (j m : Nat → Nat → Nat) (x y z : Nat) : Nat := j (j (m x y) (m y z)) (m z x)
def highE (j m : Nat → Nat → Nat) (x y z : Nat) : Nat := m (m (j x y) (j y z)) (j z x)
def midE (j m : Nat → Nat → Nat) (x y z : Nat) : Nat := j (lowE j m x y z) (m x (j y z))
def Compl (n : Nat) (j m : Nat → Nat → Nat) (b t : Nat) : Prop := ∀ x, x < n → ∃ y, y < n ∧ j x y = t ∧ m x y = b
section
variable {n : Nat} {le : Nat → Nat → Prop} {j m : Nat → Nat → Nat} {b t : Nat} (L : Lat n le j m b t)
include L
theorem Lat.distr_turn (h : Distr n j m) : Distr n m j := by
  intro x hx y hy z hz
  -- (x ∨ y) ∧ (x ∨ z) = ((x ∨ y) ∧ x) ∨ ((x ∨ y) ∧ z) = x ∨ (z ∧ x) ∨ (z ∧ y)
  have hxy := L.jlt hx hy
  have e1 := h _ hxy x hx z hz
  have e2 : m (j x y) x = x := by rw [L.mcomm hxy hx, L.mabs hx hy]
  have e3 := h z hz x hx y hy
  rw [L.mcomm hz hxy] at e3
  rw [e2, e3, L.jassoc hx (L.mlt hz hx) (L.mlt hz hy), L.mcomm hz hx, L.jabs hx hz, L.mcomm hz hy] at e1
  exact e1.symm
theorem Lat.distr_modul (h : Distr n j m) : Modul n le j m := by
  intro x hx y hy z hz hle
  have := L.distr_turn h x hx y hy z hz
  rw [this, (L.le_j hx hz).1 hle]
theorem Lat.distr_cancel (h : Distr n j m) {x y z : Nat} (hx : x < n) (hy : y < n) (hz : z < n) (h1 : j x y = j x z) (h2 : m x y = m x z) : y = z := by
  have a1 : m y (j x y) = y := by rw [L.jcomm hx hy, L.mabs hy hx]
  have a2 : m z (j x z) = z := by rw [L.jcomm hx hz, L.mabs hz hx]
  rw [h1, h y hy x hx z hz, L.mcomm hy hx, h2] at a1
  rw [← h1, h z hz x hx y hy, L.mcomm hz hx, L.mcomm hz hy] at a2
  exact a1.symm.trans a2
theorem Lat.distr_median (h : Distr n j m) : Median n j m := by
  intro x hx y hy z hz
  have h' := L.distr_turn h
  have hxy := L.mlt hx hy
  have hyz := L.mlt hy hz
  have hzx := L.mlt hz hx
  have hjxy := L.jlt hx hy
  have hjyz := L.jlt hy hz
  have hjzx := L.jlt hz hx
  -- both are: (x ∧ (y ∨ z)) ∨ (y ∧ z)
  have e1 : j (j (m x y) (m y z)) (m z x) = j (m x (j y z)) (m y z) := by
    rw [h x hx y hy z hz, ← L.jassoc hxy hyz hzx, L.jcomm hyz hzx, L.jassoc hxy hzx hyz, L.mcomm hz hx]
  have e2 : m (m (j x y) (j y z)) (j z x) = j (m x (j y z)) (m y z) := by
    have e3 : m (j x y) (j z x) = j x (m y z) := by rw [L.jcomm hz hx]; exact (h' x hx y hy z hz).symm
    have e4 : m (m (j x y) (j y z)) (j z x) = m (j y z) (j x (m y z)) := by
      rw [← e3, L.mcomm hjxy hjyz, L.massoc hjyz hjxy hjzx]
    have e5 : m (j y z) (m y z) = m y z := by
      rw [L.mcomm hjyz hyz]
      exact (L.le_m hyz hjyz).1 (L.trans hyz hy hjyz (L.ml hy hz) (L.jl hy hz))
    rw [e4, h _ hjyz x hx _ hyz, e5, L.mcomm hjyz hx]
  rw [e1, e2]
theorem Lat.median_modul (h : Median n j m) : Modul n le j m := by
  intro x hx y hy z hz hle
  have e := h x hx y hy z hz
  have e1 : m z x = x := by rw [L.mcomm hz hx]; exact (L.le_m hx hz).1 hle
  have e2 : j z x = z := by rw [L.jcomm hz hx]; exact (L.le_j hx hz).1 hle
  have hxy := L.mlt hx hy
  have hyz := L.mlt hy hz
  have hjxy := L.jlt hx hy
  have hjyz := L.jlt hy hz
  rw [e1, e2, L.jcomm hxy hyz, ← L.jassoc hyz hxy hx, L.jcomm hxy hx, L.jabs hx hy, L.jcomm hyz hx, ← L.massoc hjxy hjyz hz, L.mcomm hjyz hz, L.jcomm hy hz, L.mabs hz hy] at e
  exact e
/-- modular, said with the lower one last -/
theorem Lat.modul' (h : Modul n le j m) {x y d : Nat} (hx : x < n) (hy : y < n) (hd : d < n) (hle : le d x) : m x (j y d) = j (m x y) d := by
  have := h d hd y hy x hx hle
  rw [L.mcomm hx (L.jlt hy hd), L.jcomm hy hd, ← this, L.jcomm hd (L.mlt hy hx), L.mcomm hy hx]
theorem Lat.median_distr (h : Median n j m) : Distr n j m := by
  intro x hx y hy z hz
  have hm := L.median_modul h
  have hxy := L.mlt hx hy
  have hyz := L.mlt hy hz
  have hzx := L.mlt hz hx
  have hxz := L.mlt hx hz
  have hjxy := L.jlt hx hy
  have hjyz := L.jlt hy hz
  have hjzx := L.jlt hz hx
  have e := congrArg (m x) (h x hx y hy z hz)
  have r1 : m x (m (m (j x y) (j y z)) (j z x)) = m x (j y z) := by
    rw [L.massoc hx (L.mlt hjxy hjyz) hjzx, L.massoc hx hjxy hjyz, L.mabs hx hy, ← L.massoc hx hjyz hjzx, L.mcomm hjyz hjzx, L.massoc hx hjzx hjyz, L.jcomm hz hx, L.mabs hx hz]
  have hd := L.jlt hxy hzx
  have hdx : le (j (m x y) (m z x)) x := (L.jle hxy hzx hx).2 ⟨L.ml hx hy, L.mr hz hx⟩
  have r2 : j (j (m x y) (m y z)) (m z x) = j (m y z) (j (m x y) (m z x)) := by
    rw [L.jcomm hxy hyz, L.jassoc hyz hxy hzx]
  have r3 : j (m x (m y z)) (j (m x y) (m z x)) = j (m x y) (m z x) := by
    refine (L.le_j (L.mlt hx hyz) hd).1 ?_
    rw [L.massoc hx hy hz]
    exact L.trans (L.mlt hxy hz) hxy hd (L.ml hxy hz) (L.jl hxy hzx)
  rw [r1, r2, L.modul' hm hx hyz hd hdx, r3, L.mcomm hz hx] at e
  exact e.symm
theorem Lat.modul_pent : Modul n le j m ↔ NoPent n le j m := by
  constructor
  · intro h x hx z hz y hy hle hne ⟨e1, e2⟩
    apply hne
    have := h x hx y hy z hz hle
    rw [e1, L.mcomm hy hz, ← e2, L.jabs hx hy, L.mcomm (L.jlt hz hy) hz, L.mabs hz hy] at this
    exact this
  · intro h a ha b hb c hc hle
    apply Classical.byContradiction
    intro hne
    have hbc := L.mlt hb hc
    have hab := L.jlt ha hb
    have hx := L.jlt ha hbc
    have hz := L.mlt hab hc
    have hxz : le (j a (m b c)) (m (j a b) c) := (L.jle ha hbc hz).2 ⟨(L.lem hab hc ha).2 ⟨L.jl ha hb, hle⟩, (L.lem hab hc hbc).2 ⟨L.trans hbc hb hab (L.ml hb hc) (L.jr ha hb), L.mr hb hc⟩⟩
    refine h _ hx _ hz b hb hxz hne ⟨?_, ?_⟩
    · refine L.anti (L.jlt hx hb) (L.jlt hz hb) (L.jmono hx hb hz hb hxz (L.refl hb)) ((L.jle hz hb (L.jlt hx hb)).2 ⟨?_, L.jr hx hb⟩)
      refine L.trans hz hab (L.jlt hx hb) (L.ml hab hc) ((L.jle ha hb (L.jlt hx hb)).2 ⟨?_, L.jr hx hb⟩)
      exact L.trans ha hx (L.jlt hx hb) (L.jl ha hbc) (L.jl hx hb)
    · refine L.anti (L.mlt hx hb) (L.mlt hz hb) (L.mmono hx hb hz hb hxz (L.refl hb)) ((L.lem hx hb (L.mlt hz hb)).2 ⟨?_, L.mr hz hb⟩)
      refine L.trans (L.mlt hz hb) hbc hx ((L.lem hb hc (L.mlt hz hb)).2 ⟨L.mr hz hb, L.trans (L.mlt hz hb) hz hc (L.ml hz hb) (L.mr hab hc)⟩) (L.jr ha hbc)
theorem Lat.modul_turn (h : Modul n le j m) : Modul n (fun x y => le y x) m j := by
  intro x hx y hy z hz hle
  have := h z hz y hy x hx hle
  rw [L.mcomm hx (L.jlt hy hz), L.jcomm hy hz, ← this, L.jcomm hz (L.mlt hy hx), L.mcomm hy hx]
theorem Lat.lowE_lt {x y z : Nat} (hx : x < n) (hy : y < n) (hz : z < n) : lowE j m x y z < n := L.jlt (L.jlt (L.mlt hx hy) (L.mlt hy hz)) (L.mlt hz hx)
theorem Lat.highE_lt {x y z : Nat} (hx : x < n) (hy : y < n) (hz : z < n) : highE j m x y z < n := L.mlt (L.mlt (L.jlt hx hy) (L.jlt hy hz)) (L.jlt hz hx)
theorem Lat.midE_lt {x y z : Nat} (hx : x < n) (hy : y < n) (hz : z < n) : midE j m x y z < n := L.jlt (L.lowE_lt hx hy hz) (L.mlt hx (L.jlt hy hz))
theorem Lat.low_rot {x y z : Nat} (hx : x < n) (hy : y < n) (hz : z < n) : lowE j m y z x = lowE j m x y z := by
  unfold lowE
  rw [L.jcomm (L.jlt (L.mlt hy hz) (L.mlt hz hx)) (L.mlt hx hy), L.jassoc (L.mlt hx hy) (L.mlt hy hz) (L.mlt hz hx)]
theorem Lat.high_rot {x y z : Nat} (hx : x < n) (hy : y < n) (hz : z < n) : highE j m y z x = highE j m x y z := L.turn.low_rot hx hy hz
theorem Lat.low_le_high {x y z : Nat} (hx : x < n) (hy : y < n) (hz : z < n) : le (lowE j m x y z) (highE j m x y z) := by
  have hxy := L.mlt hx hy
  have hyz := L.mlt hy hz
  have hzx := L.mlt hz hx
  have gxy := L.jlt hx hy
  have gyz := L.jlt hy hz
  have gzx := L.jlt hz hx
  have e := L.highE_lt hx hy hz
  have up : ∀ v, v < n → le v (j x y) → le v (j y z) → le v (j z x) → le v (highE j m x y z) := fun v hv a b c =>
    (L.lem (L.mlt gxy gyz) gzx hv).2 ⟨(L.lem gxy gyz hv).2 ⟨a, b⟩, c⟩
  unfold lowE
  refine (L.jle (L.jlt hxy hyz) hzx e).2 ⟨(L.jle hxy hyz e).2 ⟨up _ hxy ?_ ?_ ?_, up _ hyz ?_ ?_ ?_⟩, up _ hzx ?_ ?_ ?_⟩
  · exact L.trans hxy hx gxy (L.ml hx hy) (L.jl hx hy)
  · exact L.trans hxy hy gyz (L.mr hx hy) (L.jl hy hz)
  · exact L.trans hxy hx gzx (L.ml hx hy) (L.jr hz hx)
  · exact L.trans hyz hy gxy (L.ml hy hz) (L.jr hx hy)
  · exact L.trans hyz hy gyz (L.ml hy hz) (L.jl hy hz)
  · exact L.trans hyz hz gzx (L.mr hy hz) (L.jl hz hx)
  · exact L.trans hzx hx gxy (L.mr hz hx) (L.jl hx hy)
  · exact L.trans hzx hz gyz (L.ml hz hx) (L.jr hy hz)
  · exact L.trans hzx hz gzx (L.ml hz hx) (L.jl hz hx)
theorem Lat.two_high (h : Modul n le j m) {x y z : Nat} (hx : x < n) (hy : y < n) (hz : z < n) : j (m x (j y z)) (m y (j z x)) = highE j m x y z := by
  have gxy := L.jlt hx hy
  have gyz := L.jlt hy hz
  have gzx := L.jlt hz hx
  have hA := L.mlt hx gyz
  rw [h _ hA y hy _ gzx (L.trans hA hx gzx (L.ml hx gyz) (L.jr hz hx)), L.jcomm hA hy, h y hy x hx _ gyz (L.jl hy hz), L.jcomm hy hx]
  rfl
theorem Lat.mid_join (h : Modul n le j m) {x y z : Nat} (hx : x < n) (hy : y < n) (hz : z < n) : j (midE j m x y z) (midE j m y z x) = highE j m x y z := by
  have hA := L.mlt hx (L.jlt hy hz)
  have hB := L.mlt hy (L.jlt hz hx)
  have hd := L.lowE_lt hx hy hz
  have hAB := L.jlt hA hB
  unfold midE
  rw [L.low_rot hx hy hz]
  have e : j (j (lowE j m x y z) (m x (j y z))) (j (lowE j m x y z) (m y (j z x))) = j (lowE j m x y z) (j (m x (j y z)) (m y (j z x))) :=
    L.ext (L.jlt (L.jlt hd hA) (L.jlt hd hB)) (L.jlt hd hAB) fun v hv => by
      rw [L.jle (L.jlt hd hA) (L.jlt hd hB) hv, L.jle hd hA hv, L.jle hd hB hv, L.jle hd hAB hv, L.jle hA hB hv]
      exact ⟨fun ⟨⟨a, b⟩, _, c⟩ => ⟨a, b, c⟩, fun ⟨a, b, c⟩ => ⟨⟨a, b⟩, a, c⟩⟩
  rw [e, L.two_high h hx hy hz]
  exact (L.le_j hd (L.highE_lt hx hy hz)).1 (L.low_le_high hx hy hz)
/-- in a modular lattice the middle ones are the same from above -/
theorem Lat.mid_turn (h : Modul n le j m) {x y z : Nat} (hx : x < n) (hy : y < n) (hz : z < n) : midE j m x y z = midE m j x y z := by
  have gxy := L.jlt hx hy
  have gyz := L.jlt hy hz
  have gzx := L.jlt hz hx
  have hd := L.lowE_lt hx hy hz
  have he := L.highE_lt hx hy hz
  have hxy := L.mlt hx hy
  have hyz := L.mlt hy hz
  have hzx := L.mlt hz hx
  have e1 : m x (highE j m x y z) = m x (j y z) := by
    unfold highE
    rw [L.massoc hx (L.mlt gxy gyz) gzx, L.massoc hx gxy gyz, L.mabs hx hy, ← L.massoc hx gyz gzx, L.mcomm gyz gzx, L.massoc hx gzx gyz, L.jcomm hz hx, L.mabs hx hz]
  have e2 : j x (lowE j m x y z) = j x (m y z) := by
    unfold lowE
    rw [L.jassoc hx (L.jlt hxy hyz) hzx, L.jassoc hx hxy hyz, L.jabs hx hy, ← L.jassoc hx hyz hzx, L.jcomm hyz hzx, L.jassoc hx hzx hyz, L.mcomm hz hx, L.jabs hx hz]
  have := h _ hd x hx _ he (L.low_le_high hx hy hz)
  rw [e1, L.jcomm hd hx, e2, L.mcomm (L.jlt hx hyz) he] at this
  exact this
theorem Lat.mid_meet (h : Modul n le j m) {x y z : Nat} (hx : x < n) (hy : y < n) (hz : z < n) : m (midE j m x y z) (midE j m y z x) = lowE j m x y z := by
  rw [L.mid_turn h hx hy hz, L.mid_turn h hy hz hx]
  exact L.turn.mid_join (L.modul_turn h) hx hy hz
theorem Lat.two_modul (h : NoTwo n j m) : Modul n le j m := by
  refine L.modul_pent.2 fun x hx z hz y hy _ hne ⟨e1, e2⟩ => hne (h y hy x hx z hz ?_ ?_)
  · rw [L.jcomm hy hx, e1, L.jcomm hz hy]
  · rw [L.mcomm hy hx, e2, L.mcomm hz hy]
theorem Lat.distr_two : Distr n j m ↔ NoTwo n j m := by
  refine ⟨fun h x hx y hy z hz h1 h2 => L.distr_cancel h hx hy hz h1 h2, fun h => L.median_distr fun x hx y hy z hz => ?_⟩
  have hm := L.two_modul h
  have hp := L.midE_lt hx hy hz
  have hq := L.midE_lt hy hz hx
  have hr := L.midE_lt hz hx hy
  have j1 := L.mid_join hm hx hy hz
  have j2 := L.mid_join hm hy hz hx
  have j3 := L.mid_join hm hz hx hy
  have m1 := L.mid_meet hm hx hy hz
  have m2 := L.mid_meet hm hy hz hx
  have m3 := L.mid_meet hm hz hx hy
  rw [L.high_rot hx hy hz] at j2
  rw [L.low_rot hx hy hz] at m2
  rw [L.high_rot hy hz hx, L.high_rot hx hy hz, L.jcomm hr hp] at j3
  rw [L.low_rot hy hz hx, L.low_rot hx hy hz, L.mcomm hr hp] at m3
  have e := h _ hp _ hq _ hr (j1.trans j3.symm) (m1.trans m3.symm)
  rw [← e, L.jidem hq] at j2
  rw [← e, L.midem hq] at m2
  exact m2.symm.trans j2
theorem Lat.distr_iff_median : Distr n j m ↔ Median n j m := ⟨L.distr_median, L.median_distr⟩
end
end Go.Proofs.YtdomcjfgmnpbmaaDoor
