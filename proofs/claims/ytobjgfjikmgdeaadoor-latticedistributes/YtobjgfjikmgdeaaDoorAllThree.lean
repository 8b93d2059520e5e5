/- A Bool that is asked of all three elements, one behind the other, by three loops. -/
import Derived.Test.YtobjgfjikmgdeaaDoorKindPlain
import Derived.Test.YtobjgfjikmgdeaaDoorCoversPlain
namespace Go.Proofs.YtobjgfjikmgdeaaDoor

def allC (P : Nat → Nat → Nat → Bool) (a b c : Nat) : Bool := (List.range c).all (P a b)
def allB (P : Nat → Nat → Nat → Bool) (lim : Nat → Nat → Nat) (a b : Nat) : Bool := (List.range b).all fun y => allC P a y (lim a y)
def allA (P : Nat → Nat → Nat → Bool) (lim : Nat → Nat → Nat) (n a : Nat) : Bool := (List.range a).all fun x => allB P lim x n
theorem allC_succ (P : Nat → Nat → Nat → Bool) (a b c : Nat) : allC P a b (c + 1) = (allC P a b c && P a b c) := by unfold allC; rw [List.range_succ, List.all_append]; simp
theorem allB_succ (P : Nat → Nat → Nat → Bool) (lim : Nat → Nat → Nat) (a b : Nat) : allB P lim a (b + 1) = (allB P lim a b && allC P a b (lim a b)) := by unfold allB; rw [List.range_succ, List.all_append]; simp
theorem allA_succ (P : Nat → Nat → Nat → Bool) (lim : Nat → Nat → Nat) (n a : Nat) : allA P lim n (a + 1) = (allA P lim n a && allB P lim a n) := by unfold allA; rw [List.range_succ, List.all_append]; simp
/-- the word behind x rounds, y rounds within, z rounds within these -/
def flag3 (P : Nat → Nat → Nat → Bool) (lim : Nat → Nat → Nat) (n x y z : Nat) : Bool := allA P lim n x && allB P lim x y && allC P x y z
theorem flag3_z (P : Nat → Nat → Nat → Bool) (lim : Nat → Nat → Nat) (n x y z : Nat) : flag3 P lim n x y (z + 1) = (flag3 P lim n x y z && P x y z) := by
  unfold flag3; rw [allC_succ, ← Bool.and_assoc]
theorem flag3_y (P : Nat → Nat → Nat → Bool) (lim : Nat → Nat → Nat) (n x y : Nat) : flag3 P lim n x (y + 1) 0 = flag3 P lim n x y (lim x y) := by
  unfold flag3; rw [allB_succ]; simp [allC, Bool.and_assoc]
theorem flag3_x (P : Nat → Nat → Nat → Bool) (lim : Nat → Nat → Nat) (n x : Nat) : flag3 P lim n (x + 1) 0 0 = flag3 P lim n x n 0 := by
  unfold flag3; rw [allA_succ]; simp [allC, allB]
theorem flag3_start (P : Nat → Nat → Nat → Bool) (lim : Nat → Nat → Nat) (n : Nat) : flag3 P lim n 0 0 0 = true := rfl
theorem flag3_end (P : Nat → Nat → Nat → Bool) (lim : Nat → Nat → Nat) (n : Nat) : flag3 P lim n n 0 0 = true ↔ ∀ x, x < n → ∀ y, y < n → ∀ z, z < lim x y → P x y z = true := by
  unfold flag3 allA allB allC
  simp only [List.all_eq_true, List.mem_range, Bool.and_eq_true]
  constructor
  · intro h x hx y hy z hz; exact h.1.1 x hx y hy z hz
  · intro h; exact ⟨⟨fun x hx y hy z hz => h x hx y hy z hz, by simp⟩, by simp⟩
def medB (js ms : List Nat) (n x y z : Nat) : Bool := decide (lowE (at2 js n) (at2 ms n) x y z = highE (at2 js n) (at2 ms n) x y z)
def pentB (js ms : List Nat) (n x z y : Nat) : Bool := !(decide (at2 js n x y = at2 js n z y) && decide (at2 ms n x y = at2 ms n z y))
def twoB (js ms : List Nat) (n x y z : Nat) : Bool := !(decide (at2 js n x y = at2 js n x z) && decide (at2 ms n x y = at2 ms n x z))
theorem med_end (js ms : List Nat) (n : Nat) {le : Nat → Nat → Prop} {b t : Nat} (L : Lat n le (at2 js n) (at2 ms n) b t) : (kindOf js ms n (triA n n)).d = flag3 (medB js ms n) (fun _ _ => n) n n 0 0 := by
  rw [Bool.eq_iff_iff, kind_distr, L.distr_iff_median, flag3_end]
  unfold medB Median
  simp only [decide_eq_true_iff]
  exact Iff.rfl
/-- how far the third loop goes: nowhere, where x is not strictly below z -/
def pentLim (us : List Nat) (n x z : Nat) : Nat := if underB us x z then n else 0
theorem pent_end (us js ms : List Nat) (n : Nat) {b t : Nat} (L : Lat n (leW us) (at2 js n) (at2 ms n) b t) : (kindOf js ms n (triA n n)).m = flag3 (pentB js ms n) (pentLim us n) n n 0 0 := by
  rw [Bool.eq_iff_iff, kind_modul L, L.modul_pent, flag3_end]
  unfold pentB NoPent pentLim
  constructor
  · intro h x hx z hz y hy
    cases hc : underB us x z with
    | true =>
      rw [hc, if_pos rfl] at hy
      have hu := underB_true.1 hc
      have := h x hx z hz y hy hu.2 hu.1
      rw [Bool.not_eq_true', Bool.and_eq_false_iff, decide_eq_false_iff_not, decide_eq_false_iff_not]
      by_cases e : at2 js n x y = at2 js n z y
      · exact .inr fun e2 => this ⟨e, e2⟩
      · exact .inl e
    | false => rw [hc] at hy; simp at hy
  · intro h x hx z hz y hy hle hne ⟨e1, e2⟩
    have := h x hx z hz y (by rw [underB_true.2 ⟨hne, hle⟩, if_pos rfl]; exact hy)
    rw [e1, e2] at this
    simp at this
theorem two_end (js ms : List Nat) (n : Nat) {le : Nat → Nat → Prop} {b t : Nat} (L : Lat n le (at2 js n) (at2 ms n) b t) : (kindOf js ms n (triA n n)).d = flag3 (twoB js ms n) (fun _ y => y) n n 0 0 := by
  rw [Bool.eq_iff_iff, kind_distr, L.distr_two, flag3_end]
  unfold twoB NoTwo
  have key : ∀ x y z, (!(decide (at2 js n x y = at2 js n x z) && decide (at2 ms n x y = at2 ms n x z))) = true ↔ ¬ (at2 js n x y = at2 js n x z ∧ at2 ms n x y = at2 ms n x z) := fun x y z => by
    rw [Bool.not_eq_true', ← Bool.not_eq_true, Bool.and_eq_true, decide_eq_true_iff, decide_eq_true_iff]
  constructor
  · intro h x hx y hy z hz
    rw [key]
    rintro ⟨e1, e2⟩
    have := h x hx y hy z (by omega) e1 e2
    omega
  · intro h x hx y hy z hz e1 e2
    rcases Nat.lt_trichotomy y z with h1 | h1 | h1
    · exact absurd ⟨e1.symm, e2.symm⟩ ((key x z y).1 (h x hx z hz y h1))
    · exact h1
    · exact absurd ⟨e1, e2⟩ ((key x y z).1 (h x hx y hy z h1))
end Go.Proofs.YtobjgfjikmgdeaaDoor
