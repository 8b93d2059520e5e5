/- Plain mathematics of contexts: what all of some rows have, which rows have all of some columns; no program is named here. -/
import Derived.Test.YtdeglbmoiofpoaaDownPlain
namespace Go.Proofs.Ytdeglbmoiofpoaa

/-- has b all that a has? -/
def withB (a b : Nat) : Bool := decide (andN a b = 0)
theorem withB_iff {a b : Nat} (ha : a < 4294967296) : withB a b = true ↔ ∀ j, hasB a j = true → hasB b j = true := by
  unfold withB
  rw [decide_eq_true_iff, word_zero]
  constructor
  · intro h j hj
    have := h j
    rw [hasB_andN ha, hj] at this
    simpa using this
  · intro h j
    rw [hasB_andN ha]
    cases e : hasB a j with
    | false => rfl
    | true => rw [h j e]; rfl
theorem with_out {s n : Nat} (hs : s < 4294967296) : (!withB s (allW n)) = outsideB s n := by
  cases h : outsideB s n with
  | false =>
    have : withB s (allW n) = true := (withB_iff hs).2 fun j hj => by rw [hasB_all]; exact decide_eq_true (only_of hs h j hj)
    rw [this]; rfl
  | true =>
    cases h2 : withB s (allW n) with
    | false => rfl
    | true =>
      have : outsideB s n = false := outside_of fun j hj => by
        have := (withB_iff hs).1 h2 j hj
        rw [hasB_all] at this
        exact of_decide_eq_true this
      rw [this] at h; cases h

/-- has one of the words something at n or further up? -/
def outAny (us : List Nat) (n : Nat) : Bool := us.any fun x => outsideB x n
/-- what is wrong with a context, by its number (D1) -/
def codeC (n : Int) (us : List Nat) : Int := if 16 < us.length ∨ n < 0 ∨ 16 < n then 1 else if outAny us n.toNat = true then 2 else 0
theorem codeC_large {n : Int} {us : List Nat} (h : 16 < us.length ∨ n < 0 ∨ 16 < n) : codeC n us = 1 := by unfold codeC; rw [if_pos h]
theorem codeC_out {n : Nat} {us : List Nat} (h : us.length ≤ 16) (h' : n ≤ 16) (ho : outAny us n = true) : codeC n us = 2 := by
  unfold codeC; rw [if_neg (by omega), if_pos (by simpa using ho)]
theorem codeC_ok {n : Nat} {us : List Nat} (h : us.length ≤ 16) (h' : n ≤ 16) (ho : outAny us n = false) : codeC n us = 0 := by
  unfold codeC; rw [if_neg (by omega), if_neg (by simp [ho])]
theorem codeC_zero {n : Int} {us : List Nat} (h : codeC n us = 0) : us.length ≤ 16 ∧ ∃ m : Nat, n = m ∧ m ≤ 16 ∧ outAny us m = false := by
  unfold codeC at h
  by_cases h1 : 16 < us.length ∨ n < 0 ∨ 16 < n
  · rw [if_pos h1] at h; simp at h
  · rw [if_neg h1] at h
    refine ⟨by omega, n.toNat, by omega, by omega, ?_⟩
    cases ho : outAny us n.toNat with
    | false => rfl
    | true => rw [if_pos ho] at h; simp at h
theorem wd_get {us : List Nat} {i : Nat} (h : i < us.length) : wd us i = us[i] := by
  unfold wd; rw [List.getD_eq_getElem?_getD, List.getElem?_eq_getElem h]; rfl
theorem outAny_false {us : List Nat} {n : Nat} : outAny us n = false ↔ ∀ i, i < us.length → outsideB (wd us i) n = false := by
  unfold outAny
  rw [List.any_eq_false]
  constructor
  · intro h i hi
    have := h us[i] (List.getElem_mem hi)
    rw [wd_get hi]; simpa using this
  · intro h x hx
    obtain ⟨i, hi, rfl⟩ := List.getElem_of_mem hx
    have := h i hi
    rw [wd_get hi] at this
    simp [this]
theorem outAny_true {us : List Nat} {n i : Nat} (hi : i < us.length) (h : outsideB (wd us i) n = true) : outAny us n = true := by
  cases e : outAny us n with
  | true => rfl
  | false => rw [outAny_false.1 e i hi] at h; cases h

/-- the columns that all of the set's rows among the first k have -/
def upK (n : Nat) (us : List Nat) (s : Nat) : Nat → Nat
  | 0 => allW n
  | k + 1 => if hasB s k then andW (upK n us s k) (wd us k) else upK n us s k
def upW (n : Nat) (us : List Nat) (s : Nat) : Nat := upK n us s us.length
/-- the rows that have all of the set's columns -/
def dnW (us : List Nat) (c : Nat) : Nat := wordOf (fun i => withB c (wd us i)) us.length
theorem has_upK (n : Nat) (us : List Nat) (s : Nat) : ∀ k j, hasB (upK n us s k) j = true ↔ j < n ∧ ∀ i, i < k → hasB s i = true → hasB (wd us i) j = true
  | 0, j => by unfold upK; rw [hasB_all, decide_eq_true_iff]; exact ⟨fun h => ⟨h, fun i hi => by omega⟩, fun h => h.1⟩
  | k + 1, j => by
    have ih := has_upK n us s k j
    unfold upK
    cases hs : hasB s k with
    | true =>
      rw [if_pos rfl, hasB_and, Bool.and_eq_true, ih]
      constructor
      · rintro ⟨⟨h1, h2⟩, h3⟩
        refine ⟨h1, fun i hi hsi => ?_⟩
        by_cases e : i = k
        · rw [e]; exact h3
        · exact h2 i (by omega) hsi
      · rintro ⟨h1, h2⟩
        exact ⟨⟨h1, fun i hi => h2 i (by omega)⟩, h2 k (by omega) hs⟩
    | false =>
      rw [if_neg (by simp), ih]
      refine and_congr_right fun _ => ⟨fun h i hi hsi => ?_, fun h i hi => h i (by omega)⟩
      by_cases e : i = k
      · rw [e, hs] at hsi; cases hsi
      · exact h i (by omega) hsi
theorem upK_lt {n : Nat} (hn : n ≤ 32) (us : List Nat) (s : Nat) : ∀ k, upK n us s k < 4294967296
  | 0 => allW_lt hn
  | k + 1 => by
    unfold upK
    split
    · exact andW_lt (upK_lt hn us s k)
    · exact upK_lt hn us s k
theorem upW_lt {n : Nat} (hn : n ≤ 16) (us : List Nat) (s : Nat) : upW n us s < 4294967296 := upK_lt (by omega) us s _
theorem dnW_lt {us : List Nat} (h : us.length ≤ 16) (c : Nat) : dnW us c < 4294967296 := wordOf_lt _ (by omega)
theorem mem_up {n : Nat} {us : List Nat} {s j : Nat} : hasB (upW n us s) j = true ↔ j < n ∧ ∀ i, i < us.length → hasB s i = true → hasB (wd us i) j = true := has_upK n us s _ j
theorem mem_dn {us : List Nat} {c i : Nat} (hc : c < 4294967296) : hasB (dnW us c) i = true ↔ i < us.length ∧ ∀ j, hasB c j = true → hasB (wd us i) j = true := by
  unfold dnW
  rw [hasB_wordOf, Bool.and_eq_true, decide_eq_true_iff, withB_iff hc]
theorem only_up (n : Nat) (us : List Nat) (s : Nat) : Only n (upW n us s) := fun _ h => (mem_up.1 h).1
theorem only_dn (us : List Nat) {c : Nat} (hc : c < 4294967296) : Only us.length (dnW us c) := fun _ h => ((mem_dn hc).1 h).1
/-- **ORE**: rows have all of some columns just if these are among those that all the rows have -/
theorem galois {n : Nat} {us : List Nat} {s c : Nat} (hc4 : c < 4294967296) (hs : Only us.length s) (hc : Only n c) :
    (∀ i, hasB s i = true → hasB (dnW us c) i = true) ↔ ∀ j, hasB c j = true → hasB (upW n us s) j = true := by
  constructor
  · intro h j hj
    exact mem_up.2 ⟨hc j hj, fun i _ hsi => ((mem_dn hc4).1 (h i hsi)).2 j hj⟩
  · intro h i hi
    exact (mem_dn hc4).2 ⟨hs i hi, fun j hj => (mem_up.1 (h j hj)).2 i (hs i hi) hi⟩
theorem sub_or {a b : Nat} : orW a b = b ↔ ∀ i, hasB a i = true → hasB b i = true := by
  constructor
  · intro h i hi
    rw [← h, hasB_or, hi]; rfl
  · intro h
    exact word_ext' fun j => by
      rw [hasB_or, Bool.or_eq_true]
      exact ⟨fun x => x.elim (h j) id, .inr⟩
theorem sub_and {a b : Nat} : andW a b = b ↔ ∀ i, hasB b i = true → hasB a i = true := by
  constructor
  · intro h i hi
    rw [← h, hasB_and, Bool.and_eq_true] at hi; exact hi.1
  · intro h
    exact word_ext' fun j => by
      rw [hasB_and, Bool.and_eq_true]
      exact ⟨fun x => x.2, fun x => ⟨h j x, x⟩⟩
theorem up_dn {n : Nat} (hn : n ≤ 16) {us : List Nat} {s : Nat} (hs : Only us.length s) : ∀ i, hasB s i = true → hasB (dnW us (upW n us s)) i = true :=
  (galois (upW_lt hn us s) hs (only_up n us s)).2 fun _ h => h
theorem dn_up {n : Nat} {us : List Nat} {c : Nat} (hc4 : c < 4294967296) (hc : Only n c) : ∀ j, hasB c j = true → hasB (upW n us (dnW us c)) j = true :=
  (galois hc4 (only_dn us hc4) hc).1 fun _ h => h
theorem up_anti {n : Nat} {us : List Nat} {s t : Nat} (h : ∀ i, hasB s i = true → hasB t i = true) : ∀ j, hasB (upW n us t) j = true → hasB (upW n us s) j = true :=
  fun _ hj => mem_up.2 ⟨(mem_up.1 hj).1, fun i hi hsi => (mem_up.1 hj).2 i hi (h i hsi)⟩
theorem dn_anti {us : List Nat} {c d : Nat} (hc4 : c < 4294967296) (hd4 : d < 4294967296) (h : ∀ i, hasB c i = true → hasB d i = true) : ∀ j, hasB (dnW us d) j = true → hasB (dnW us c) j = true :=
  fun _ hj => (mem_dn hc4).2 ⟨((mem_dn hd4).1 hj).1, fun k hk => ((mem_dn hd4).1 hj).2 k (h k hk)⟩
theorem up_dn_up {n : Nat} (hn : n ≤ 16) {us : List Nat} {s : Nat} (hs : Only us.length s) : upW n us (dnW us (upW n us s)) = upW n us s :=
  word_ext' fun j => ⟨up_anti (up_dn hn hs) j, dn_up (upW_lt hn us s) (only_up n us s) j⟩
theorem up_or {n : Nat} {us : List Nat} {s t : Nat} : upW n us (orW s t) = andW (upW n us s) (upW n us t) := word_ext' fun j => by
  rw [hasB_and, Bool.and_eq_true, mem_up, mem_up, mem_up]
  constructor
  · rintro ⟨h1, h2⟩
    exact ⟨⟨h1, fun i hi hs => h2 i hi (by rw [hasB_or, hs]; rfl)⟩, h1, fun i hi hs => h2 i hi (by rw [hasB_or, hs]; simp)⟩
  · rintro ⟨⟨h1, h2⟩, _, h3⟩
    refine ⟨h1, fun i hi hs => ?_⟩
    rw [hasB_or, Bool.or_eq_true] at hs
    exact hs.elim (h2 i hi) (h3 i hi)
/-- what follows of what: has each row that has all of a all of b? -/
def impB (us : List Nat) (a b : Nat) : Bool := withB (dnW us a) (dnW us b)
theorem imp_iff {us : List Nat} (hl : us.length ≤ 16) {a b : Nat} (ha : a < 4294967296) (hb : b < 4294967296) : impB us a b = true ↔ ∀ i, i < us.length → (∀ j, hasB a j = true → hasB (wd us i) j = true) → ∀ j, hasB b j = true → hasB (wd us i) j = true := by
  unfold impB
  rw [withB_iff (dnW_lt hl a)]
  constructor
  · intro h i hi h2
    exact ((mem_dn hb).1 (h i ((mem_dn ha).2 ⟨hi, h2⟩))).2
  · intro h i hi
    obtain ⟨h1, h2⟩ := (mem_dn ha).1 hi
    exact (mem_dn hb).2 ⟨h1, h i h1 h2⟩
theorem imp_own {us : List Nat} (hl : us.length ≤ 16) {a b : Nat} (ha : a < 4294967296) (hb : b < 4294967296) : impB us (orW a b) b = true :=
  (imp_iff hl (orW_lt ha hb) hb).2 fun _ _ h j hj => h j (by rw [hasB_or, hj]; simp)
theorem imp_beside {us : List Nat} (hl : us.length ≤ 16) {a b c : Nat} (ha : a < 4294967296) (hb : b < 4294967296) (hc : c < 4294967296) (h : impB us a b = true) : impB us (orW a c) (orW b c) = true :=
  (imp_iff hl (orW_lt ha hc) (orW_lt hb hc)).2 fun i hi h2 j hj => by
    rw [hasB_or, Bool.or_eq_true] at hj
    rcases hj with hj | hj
    · exact (imp_iff hl ha hb).1 h i hi (fun k hk => h2 k (by rw [hasB_or, hk]; rfl)) j hj
    · exact h2 j (by rw [hasB_or, hj]; simp)
theorem imp_trans {us : List Nat} (hl : us.length ≤ 16) {a b c : Nat} (ha : a < 4294967296) (hb : b < 4294967296) (hc : c < 4294967296) (h : impB us a b = true) (h' : impB us b c = true) : impB us a c = true :=
  (imp_iff hl ha hc).2 fun i hi h2 => (imp_iff hl hb hc).1 h' i hi ((imp_iff hl ha hb).1 h i hi h2)
theorem out_or {n a b : Nat} (ha : a < 4294967296) (hb : b < 4294967296) : outsideB (orW a b) n = (outsideB a n || outsideB b n) := by
  cases h1 : outsideB a n with
  | true =>
    cases h : outsideB (orW a b) n with
    | true => rfl
    | false =>
      have : outsideB a n = false := outside_of fun j hj => only_of (orW_lt ha hb) h j (by rw [hasB_or, hj]; rfl)
      rw [this] at h1; cases h1
  | false =>
    cases h2 : outsideB b n with
    | false => exact outside_of (only_or (only_of ha h1) (only_of hb h2))
    | true =>
      cases h : outsideB (orW a b) n with
      | true => rfl
      | false =>
        have : outsideB b n = false := outside_of fun j hj => only_of (orW_lt ha hb) h j (by rw [hasB_or, hj]; simp)
        rw [this] at h2; cases h2
end Go.Proofs.Ytdeglbmoiofpoaa
