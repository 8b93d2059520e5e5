/- Plain: what is come to by pairs within an order is within it, and makes an order. -/
import Derived.Test.YtbdigkjahfdmjaaDoorOf
import Derived.Test.YtbdigkjahfdmjaaDoorMakesPlain
import Derived.Test.YtbdigkjahfdmjaaDoorLatTab
namespace Go.Proofs.YtbdigkjahfdmjaaDoor

/-- each of the pairs is within the order -/
def PairsIn (us : List Nat) (ps : List (Int × Int)) : Prop := ∀ k, k < ps.length → PairIn us.length (zp ps k) ∧ hasB (wd us (zp ps k).1.toNat) (zp ps k).2.toNat = true
theorem reach_le {us nx : List Nat} {ps : List (Int × Int)} (ho : IsOrd us) (hN : NxTo ps us.length ps.length nx) (hp : PairsIn us ps) {i z : Nat} (hi : i < us.length) (hr : Reach nx i z) : leW us i z ∧ z < us.length := by
  induction hr with
  | here x => exact ⟨leW_refl ho hi, hi⟩
  | step x y z h1 _ ih =>
    obtain ⟨q, hq, _, e1, e2⟩ := (hN.has x y).1 h1
    obtain ⟨h3, h4⟩ := hp q hq
    have hy : y < us.length := by have := h3.2.2.2; omega
    rw [e1, e2, Int.toNat_natCast, Int.toNat_natCast] at h4
    have := ih hy
    exact ⟨leW_trans ho hi hy this.2 h4 this.1, this.2⟩
theorem up_ord {us nx up : List Nat} {ps : List (Int × Int)} (ho : IsOrd us) (hN : NxTo ps us.length ps.length nx) (hp : PairsIn us ps) (hl : up.length = us.length) (hu : ∀ i, i < us.length → ∀ z, hasB (wd up i) z = true ↔ Reach nx i z) : IsOrd up := by
  intro i hi j hj
  rw [hl] at hi hj
  refine ⟨⟨fun e => ?_, fun hne hij => ?_⟩, fun k hk h1 h2 => ?_⟩
  · exact (hu i hi i).2 (.here i)
  · cases hb : hasB (wd up j) i with
    | false => rfl
    | true =>
      exfalso
      exact hne (leW_anti ho hi hj (reach_le ho hN hp hi ((hu i hi j).1 hij)).1 (reach_le ho hN hp hj ((hu j hj i).1 hb)).1)
  · rw [hl] at hk
    exact (hu i hi k).2 (((hu i hi j).1 h1).trans ((hu j hj k).1 h2))
/-- are the first k pairs within the order? -/
def allTo (us : List Nat) (ps : List (Int × Int)) : Nat → Bool
  | 0 => true
  | k + 1 => allTo us ps k && hasB (wd us (zp ps k).1.toNat) (zp ps k).2.toNat
theorem allTo_iff {us : List Nat} {ps : List (Int × Int)} : ∀ {k : Nat}, allTo us ps k = true ↔ ∀ j, j < k → hasB (wd us (zp ps j).1.toNat) (zp ps j).2.toNat = true
  | 0 => by simp [allTo]
  | k + 1 => by
    unfold allTo
    rw [Bool.and_eq_true, allTo_iff (k := k)]
    constructor
    · rintro ⟨h1, h2⟩ j hj
      by_cases e : j = k
      · subst e; exact h2
      · exact h1 j (by omega)
    · intro h
      exact ⟨fun j hj => h j (by omega), h k (by omega)⟩
theorem code_of {n : Nat} {us : List Nat} (hn : n ≤ 16) (hl : us.length = n) (hin : Inside us) (ho : IsOrd us) : codeOf n us = 0 :=
  code_ok (by omega) (by omega) (insideB_true.2 hin) (isOrdB_true.2 ho)
theorem orW_sub {a b : Nat} (h : ∀ j, hasB a j = true → hasB b j = true) : orW a b = b := by
  apply word_ext
  intro j
  rw [hasB_or]
  cases ha : hasB a j with
  | false => simp
  | true => rw [h j ha]; rfl
/-- the pairs' own orders: whatever Of tells has the same form -/
theorem OfEnd.form {n : Int} {ps : List (Int × Int)} {B : Nat} {e : Ending} {w : World} (h : OfEnd n ps B e w) : ∃ (m : Int) (a : Option Addr) (l c : Nat) (x : Int), e = .returned (.tuple #[.agg #[.int .i64 m, .slice a l c], .int .i64 x]) := by
  rcases h with ⟨_, rfl⟩ | ⟨_, _, rfl⟩ | ⟨_, _, nx, up, _, _, _, _, ⟨_, rfl⟩ | ⟨_, B, _, rfl, _⟩⟩
  · exact ⟨_, _, _, _, _, rfl⟩
  · exact ⟨_, _, _, _, _, rfl⟩
  · exact ⟨_, _, _, _, _, rfl⟩
  · exact ⟨_, _, _, _, _, rfl⟩
theorem nxTo_k {ps : List (Int × Int)} {n : Nat} (hn : n ≤ 16) (hpi : ∀ k, k < ps.length → PairIn n (zp ps k)) : ∀ k, k ≤ ps.length → ∃ nx, NxTo ps n k nx
  | 0, _ => ⟨_, NxTo.start ps n⟩
  | k + 1, hk => by
    obtain ⟨nx, h⟩ := nxTo_k hn hpi k (by omega)
    have hp := hpi k (by omega)
    unfold PairIn at hp
    obtain ⟨A, eA⟩ : ∃ A : Nat, (zp ps k).1 = (A : Int) := ⟨(zp ps k).1.toNat, by omega⟩
    obtain ⟨C, eC⟩ : ∃ C : Nat, (zp ps k).2 = (C : Int) := ⟨(zp ps k).2.toNat, by omega⟩
    exact ⟨_, h.step (by omega) eA eC (by omega) (by omega)⟩
theorem nxTo_ex {ps : List (Int × Int)} {n : Nat} (hn : n ≤ 16) (hpi : ∀ k, k < ps.length → PairIn n (zp ps k)) : ∃ nx, NxTo ps n ps.length nx := nxTo_k hn hpi _ (Nat.le_refl _)
theorem NxTo.unique {ps : List (Int × Int)} {n k : Nat} {nx ny : List Nat} (h : NxTo ps n k nx) (h' : NxTo ps n k ny) : nx = ny := by
  refine wd_ext (by rw [h.len, h'.len]) fun i _ => ?_
  apply word_ext
  intro z
  rw [Bool.eq_iff_iff, h.has, h'.has]
/-- there is a word for each set of elements -/
theorem word_ex (P : Nat → Prop) : ∀ m, m ≤ 32 → ∃ x, x < 4294967296 ∧ ∀ z, hasB x z = true ↔ z < m ∧ P z
  | 0, _ => ⟨0, by omega, fun z => by rw [hasB_zero]; simp⟩
  | m + 1, hm => by
    obtain ⟨x, hx, h⟩ := word_ex P m (by omega)
    by_cases hp : P m
    · refine ⟨orW x (bitW m), orW_lt hx (bitW_lt (by omega)), fun z => ?_⟩
      rw [hasB_or, hasB_bitW, Bool.or_eq_true, h z]
      constructor
      · rintro (⟨h1, h2⟩ | h1)
        · exact ⟨by omega, h2⟩
        · have := of_decide_eq_true h1
          subst this
          exact ⟨by omega, hp⟩
      · rintro ⟨h1, h2⟩
        by_cases e : z = m
        · right; exact decide_eq_true e.symm
        · left; exact ⟨by omega, h2⟩
    · refine ⟨x, hx, fun z => ?_⟩
      rw [h z]
      constructor
      · rintro ⟨h1, h2⟩; exact ⟨by omega, h2⟩
      · rintro ⟨h1, h2⟩
        refine ⟨?_, h2⟩
        by_cases e : z = m
        · subst e; exact absurd h2 hp
        · omega
theorem wd_snocL (l : List Nat) (x i : Nat) : wd (l ++ [x]) i = if i < l.length then wd l i else if i = l.length then x else 0 := by
  unfold wd
  rw [List.getD_eq_getElem?_getD, List.getD_eq_getElem?_getD]
  by_cases h : i < l.length
  · rw [if_pos h, List.getElem?_append_left h]
  · rw [if_neg h, List.getElem?_append_right (by omega)]
    by_cases e : i = l.length
    · subst e; simp
    · rw [if_neg e, List.getElem?_eq_none (by simp; omega)]; rfl
theorem words_ex (P : Nat → Nat → Prop) (n : Nat) (hn : n ≤ 16) : ∀ m, ∃ up : List Nat, up.length = m ∧ Fit up ∧ ∀ i, i < m → ∀ z, hasB (wd up i) z = true ↔ z < n ∧ P i z
  | 0 => ⟨[], rfl, fun i => by simp [wd], fun i hi => by omega⟩
  | m + 1 => by
    obtain ⟨up, hl, hf, h⟩ := words_ex P n hn m
    obtain ⟨x, hx, hxz⟩ := word_ex (P m) n (by omega)
    refine ⟨up ++ [x], by simp [hl], fun i => ?_, fun i hi z => ?_⟩
    · rw [wd_snocL]
      split
      · exact hf i
      · split <;> omega
    · rw [wd_snocL, hl]
      by_cases e : i < m
      · rw [if_pos e]; exact h i e z
      · have : i = m := by omega
        subst this
        rw [if_neg e, if_pos rfl]
        exact hxz z
theorem reach_ex {nx : List Nat} {n : Nat} (hn : n ≤ 16) (hr : ∀ i z, i < n → Reach nx i z → z < n) : ∃ up : List Nat, up.length = n ∧ Fit up ∧ ∀ i, i < n → ∀ z, hasB (wd up i) z = true ↔ Reach nx i z := by
  obtain ⟨up, hl, hf, h⟩ := words_ex (Reach nx) n hn n
  refine ⟨up, hl, hf, fun i hi z => ?_⟩
  rw [h i hi z]
  exact ⟨fun h => h.2, fun h => ⟨hr i z hi h, h⟩⟩
end Go.Proofs.YtbdigkjahfdmjaaDoor
