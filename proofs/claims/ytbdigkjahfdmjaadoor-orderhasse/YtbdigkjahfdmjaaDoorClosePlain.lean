/- Plain mathematics of a word that grows by pairs, turn by turn: as many turns as elements reach all. -/
import Derived.Test.YtbdigkjahfdmjaaDoorOf
namespace Go.Proofs.YtbdigkjahfdmjaaDoor

/-- x has all that a pair leads to from it -/
def Shut (ps : List (Int × Int)) (x : Nat) : Prop := ∀ j, j < ps.length → ∀ a b : Nat, (zp ps j).1 = (a : Int) → (zp ps j).2 = (b : Int) → hasB x a = true → hasB x b = true
/-- how many of n are in the word -/
def seenN (n x : Nat) : Nat := ((List.range n).filter fun z => hasB x z).length
theorem seenN_le (n x : Nat) : seenN n x ≤ n := by
  have := List.length_filter_le (fun z => hasB x z) (List.range n)
  unfold seenN; simpa using this
/-- in a turn that began with x0, the first j pairs have been looked at -/
structure Turn (ps : List (Int × Int)) (nx : List Nat) (n i x0 j x : Nat) : Prop where
  lt : x < 4294967296
  has : hasB x i = true
  keeps : ∀ z, hasB x0 z = true → hasB x z = true
  from_ : ∀ z, hasB x z = true → Reach nx i z
  got : ∀ q, q < j → q < ps.length → ∀ a b : Nat, (zp ps q).1 = (a : Int) → (zp ps q).2 = (b : Int) → hasB x0 a = true → hasB x b = true
  same : Shut ps x0 → x = x0
section
variable {ps : List (Int × Int)} {nx : List Nat} {n i x0 j x : Nat}
theorem Turn.yes (h : Turn ps nx n i x0 j x) (hnx : NxTo ps n ps.length nx) (hj : j < ps.length) {a b : Nat} (ha : (zp ps j).1 = (a : Int)) (hb : (zp ps j).2 = (b : Int)) (hb32 : b < 32) (hx : hasB x a = true) : Turn ps nx n i x0 (j + 1) (orW x (bitW b)) := by
  refine ⟨orW_lt h.lt (bitW_lt hb32), by rw [hasB_or, h.has]; rfl, fun z hz => by rw [hasB_or, h.keeps z hz]; rfl, fun z hz => ?_, fun q hq hql a' b' ha' hb' hx' => ?_, fun hs => ?_⟩
  · rw [hasB_or, hasB_bitW, Bool.or_eq_true] at hz
    rcases hz with g | g
    · exact h.from_ z g
    · simp at g; subst g
      exact (h.from_ a hx).snoc ((hnx.has a b).2 ⟨j, hj, hj, ha, hb⟩)
  · rw [hasB_or, hasB_bitW]
    by_cases e : q = j
    · subst e
      have : b = b' := by omega
      simp [this]
    · rw [h.got q (by omega) hql a' b' ha' hb' hx']; rfl
  · have e := h.same hs
    subst e
    have hbx := hs j hj a b ha hb hx
    apply word_ext
    intro z
    rw [hasB_or, hasB_bitW]
    by_cases ez : b = z
    · subst ez; rw [hbx]; rfl
    · simp [ez]
theorem Turn.no (h : Turn ps nx n i x0 j x) {a : Nat} (ha : (zp ps j).1 = (a : Int)) (hx : hasB x a = false) : Turn ps nx n i x0 (j + 1) x :=
  ⟨h.lt, h.has, h.keeps, h.from_, fun q hq hql a' b' ha' hb' hx' => by
    by_cases e : q = j
    · subst e
      have ea : a' = a := by omega
      subst ea
      rw [h.keeps _ hx'] at hx; cases hx
    · exact h.got q (by omega) hql a' b' ha' hb' hx', h.same⟩
/-- behind a turn the word is shut, or has one more -/
theorem Turn.next (h : Turn ps nx n i x0 ps.length x) {T : Nat} (h0 : Shut ps x0 ∨ T + 1 ≤ seenN n x0) (hin : ∀ z, Reach nx i z → z < n) : Shut ps x ∨ T + 1 + 1 ≤ seenN n x := by
  by_cases hs : Shut ps x0
  · left; rw [h.same hs]; exact hs
  · have hT := h0.resolve_left hs
    by_cases he : ∃ z, hasB x z = true ∧ hasB x0 z = false
    · right
      obtain ⟨z, hz, hz0⟩ := he
      have := filter_len_lt (p := fun z => hasB x0 z) (q := fun z => hasB x z) (l := List.range n) (fun y _ hy => h.keeps y hy) ⟨z, List.mem_range.2 (hin z (h.from_ z hz)), hz, hz0⟩
      unfold seenN at *
      omega
    · left
      have hsame : ∀ z, hasB x z = true → hasB x0 z = true := fun z hz => by
        cases e : hasB x0 z with
        | true => rfl
        | false => exact absurd ⟨z, hz, e⟩ he
      exact fun q hq a b ha hb hx => h.got q hq hq a b ha hb (hsame a hx)
end
/-- a shut word with i has all that is come to from i -/
theorem shut_reach {ps : List (Int × Int)} {nx : List Nat} {n i x : Nat} (hnx : NxTo ps n ps.length nx) (hs : Shut ps x) (hi : hasB x i = true) {z : Nat} (hr : Reach nx i z) : hasB x z = true := by
  induction hr with
  | here y => exact hi
  | step y u z h1 _ ih =>
    obtain ⟨q, _, hq, h3, h4⟩ := (hnx.has y u).1 h1
    exact ih (hs q hq y u h3 h4 hi)
end Go.Proofs.YtbdigkjahfdmjaaDoor
