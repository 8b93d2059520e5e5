/- Plain mathematics of the first longest chain from each element on. -/
import Derived.Test.YthhjhfjildmbhaaDoorChainPlain
namespace Go.Proofs.YthhjhfjildmbhaaDoor

/-- does l come ahead of m: longer, or the lesser number first -/
def FirstP (l m : List Nat) : Prop := m.length < l.length ∨ (l.length = m.length ∧ ∃ k, k < l.length ∧ (∀ j, j < k → wd l j = wd m j) ∧ wd l k < wd m k)
def LeastZ (P : Nat → Prop) (x : Nat) : Prop := P x ∧ ∀ z, z < x → ¬ P z
theorem least_unique {P : Nat → Prop} {x y : Nat} (hx : LeastZ P x) (hy : LeastZ P y) : x = y := by
  rcases Nat.lt_trichotomy x y with h | h | h
  · exact absurd hx.1 (hy.2 x h)
  · exact h
  · exact absurd hy.1 (hx.2 y h)
theorem wd_cons_zero (i : Nat) (l : List Nat) : wd (i :: l) 0 = i := rfl
theorem wd_cons_succ (i : Nat) (l : List Nat) (t : Nat) : wd (i :: l) (t + 1) = wd l t := by unfold wd; simp
/-- l is the first longest chain from i on -/
structure IsFrom (us : List Nat) (g : Nat → Nat) (i : Nat) (l : List Nat) : Prop where
  len : l.length = g i + 1
  head : wd l 0 = i
  next : ∀ t, t + 1 < l.length → LeastZ (fun z => z < us.length ∧ underB us (wd l t) z = true ∧ g z + t + 1 = g i) (wd l (t + 1))
section
variable {us : List Nat} {g : Nat → Nat}
theorem from_unique {i : Nat} {l m : List Nat} (hl : IsFrom us g i l) (hm : IsFrom us g i m) : l = m := by
  have hlen : l.length = m.length := by rw [hl.len, hm.len]
  refine wd_ext hlen fun t => ?_
  induction t with
  | zero => intro _; rw [hl.head, hm.head]
  | succ t ih =>
    intro ht
    have e := ih (by omega)
    have h1 := hl.next t ht
    have h2 := hm.next t (by omega)
    rw [e] at h1
    exact least_unique h1 h2
theorem from_one {i : Nat} (h : g i = 0) : IsFrom us g i [i] := ⟨by rw [h]; rfl, rfl, fun t ht => by simp at ht⟩
theorem from_cons {i j : Nat} {l : List Nat} (hj : LeastZ (fun z => z < us.length ∧ underB us i z = true ∧ g z + 1 = g i) j) (hl : IsFrom us g j l) : IsFrom us g i (i :: l) := by
  have hg := hj.1.2.2
  refine ⟨by rw [List.length_cons, hl.len, hg], rfl, fun t ht => ?_⟩
  cases t with
  | zero =>
    rw [wd_cons_succ, hl.head]
    exact hj
  | succ t =>
    rw [List.length_cons] at ht
    have h1 := hl.next t (by omega)
    rw [wd_cons_succ, wd_cons_succ]
    refine ⟨⟨h1.1.1, h1.1.2.1, by have := h1.1.2.2; omega⟩, fun z hz hp => h1.2 z hz ⟨hp.1, hp.2.1, by have := hp.2.2; omega⟩⟩
theorem first_from {i r : Nat} {l m : List Nat} (hl : IsFrom us g i l) (hm : IsFrom us g r m) (hne : i ≠ r) : FirstP l m ↔ g r < g i ∨ (g r = g i ∧ i < r) := by
  unfold FirstP
  rw [hl.len, hm.len]
  constructor
  · rintro (h | ⟨h1, k, hk, he, hlt⟩)
    · exact .inl (by omega)
    · refine .inr ⟨by omega, ?_⟩
      cases k with
      | zero => rw [hl.head, hm.head] at hlt; exact hlt
      | succ k => have := he 0 (by omega); rw [hl.head, hm.head] at this; exact absurd this hne
  · rintro (h | ⟨h1, h2⟩)
    · exact .inl (by omega)
    · exact .inr ⟨by omega, 0, by omega, fun j hj => by omega, by rw [hl.head, hm.head]; exact h2⟩
theorem first_nil {i : Nat} {l : List Nat} (hl : IsFrom us g i l) : FirstP l [] := .inl (by rw [hl.len]; simp)

/-- rest is the first of the chains from those over i that are below j -/
def RestOf (us : List Nat) (g : Nat → Nat) (i j : Nat) (rest : List Nat) : Prop :=
  (rest = [] ∧ ∀ z, z < j → z < us.length → underB us i z = false) ∨
  ∃ r, r < j ∧ r < us.length ∧ underB us i r = true ∧ IsFrom us g r rest ∧ ∀ z, z < j → z < us.length → underB us i z = true → g z < g r ∨ (g z = g r ∧ r ≤ z)
theorem rest_start (us : List Nat) (g : Nat → Nat) (i : Nat) : RestOf us g i 0 [] := .inl ⟨rfl, fun z hz => by omega⟩
theorem rest_skip {i j : Nat} {rest : List Nat} (h : RestOf us g i j rest) (hu : underB us i j = false) : RestOf us g i (j + 1) rest := by
  rcases h with ⟨e, h⟩ | ⟨r, h1, h2, h3, h4, h5⟩
  · refine .inl ⟨e, fun z hz hzn => ?_⟩
    by_cases ez : z = j
    · rw [ez]; exact hu
    · exact h z (by omega) hzn
  · refine .inr ⟨r, by omega, h2, h3, h4, fun z hz hzn hzu => ?_⟩
    by_cases ez : z = j
    · rw [ez, hu] at hzu; cases hzu
    · exact h5 z (by omega) hzn hzu
theorem rest_take {i j : Nat} {rest l : List Nat} (h : RestOf us g i j rest) (hj : j < us.length) (hu : underB us i j = true) (hl : IsFrom us g j l) (hf : FirstP l rest) : RestOf us g i (j + 1) l := by
  refine .inr ⟨j, by omega, hj, hu, hl, fun z hz hzn hzu => ?_⟩
  by_cases ez : z = j
  · exact .inr ⟨by rw [ez], by omega⟩
  · rcases h with ⟨_, h⟩ | ⟨r, h1, h2, h3, h4, h5⟩
    · rw [h z (by omega) hzn] at hzu; cases hzu
    · have := (first_from hl h4 (by omega)).1 hf
      have := h5 z (by omega) hzn hzu
      omega
theorem rest_keep {i j : Nat} {rest l : List Nat} (h : RestOf us g i j rest) (hl : IsFrom us g j l) (hf : ¬ FirstP l rest) : RestOf us g i (j + 1) rest := by
  rcases h with ⟨e, _⟩ | ⟨r, h1, h2, h3, h4, h5⟩
  · exact absurd (by rw [e]; exact first_nil hl) hf
  · refine .inr ⟨r, by omega, h2, h3, h4, fun z hz hzn hzu => ?_⟩
    by_cases ez : z = j
    · have hx : ¬ (g r < g j ∨ (g r = g j ∧ j < r)) := fun x => hf ((first_from hl h4 (by omega)).2 x)
      rw [ez]
      omega
    · exact h5 z (by omega) hzn hzu
theorem rest_from {i : Nat} {rest : List Nat} (hh : IsHt (fun x i => underB us i x) us.length g) (hi : i < us.length) (h : RestOf us g i us.length rest) : IsFrom us g i (i :: rest) := by
  rcases h with ⟨e, h⟩ | ⟨r, h1, h2, h3, h4, h5⟩
  · subst e
    rcases (hh i hi).2 with z | ⟨j, hj, hR, _⟩
    · exact from_one z
    · have := h j hj hj; rw [show underB us i j = true from hR] at this; cases this
  · have hr : g r + 1 = g i := by
      have a := (hh i hi).1 r h2 h3
      rcases (hh i hi).2 with z | ⟨j, hj, hR, z⟩
      · omega
      · have := h5 j hj hj hR; omega
    exact from_cons ⟨⟨h2, h3, hr⟩, fun z hz hp => by have := h5 z (by omega) hp.1 hp.2.1; omega⟩ h4
/-- all is the first of the chains from those that are done -/
def AllOf (us : List Nat) (g : Nat → Nat) (D : Nat → Prop) (all : List Nat) : Prop :=
  (all = [] ∧ ∀ z, z < us.length → ¬ D z) ∨
  ∃ r, r < us.length ∧ D r ∧ IsFrom us g r all ∧ ∀ z, z < us.length → D z → g z < g r ∨ (g z = g r ∧ r ≤ z)
theorem all_take {D D' : Nat → Prop} {i : Nat} {all l : List Nat} (h : AllOf us g D all) (hi : i < us.length) (hn : ¬ D i) (hD : ∀ z, D' z ↔ D z ∨ z = i) (hl : IsFrom us g i l) (hf : FirstP l all) : AllOf us g D' l := by
  refine .inr ⟨i, hi, (hD i).2 (.inr rfl), hl, fun z hz hd => ?_⟩
  rcases (hD z).1 hd with hd | rfl
  · rcases h with ⟨_, h⟩ | ⟨r, h1, h2, h3, h4⟩
    · exact absurd hd (h z hz)
    · have := (first_from hl h3 (fun e => hn (by rw [e]; exact h2))).1 hf
      have := h4 z hz hd
      omega
  · exact .inr ⟨rfl, Nat.le_refl _⟩
theorem all_keep {D D' : Nat → Prop} {i : Nat} {all l : List Nat} (h : AllOf us g D all) (hn : ¬ D i) (hD : ∀ z, D' z ↔ D z ∨ z = i) (hl : IsFrom us g i l) (hf : ¬ FirstP l all) : AllOf us g D' all := by
  rcases h with ⟨e, _⟩ | ⟨r, h1, h2, h3, h4⟩
  · exact absurd (by rw [e]; exact first_nil hl) hf
  · refine .inr ⟨r, h1, (hD r).2 (.inl h2), h3, fun z hz hd => ?_⟩
    rcases (hD z).1 hd with hd | rfl
    · exact h4 z hz hd
    · have hx : ¬ (g r < g z ∨ (g r = g z ∧ z < r)) := fun x => hf ((first_from hl h3 (fun e => hn (by rw [e]; exact h2))).2 x)
      omega
theorem chainF_at {M : Nat} {t : Nat} : ∀ {T : Nat}, t < T → wd (chainF us g M T) t = nextC us g M (chainF us g M t)
  | 0, h => by omega
  | T + 1, h => by
    show wd (chainF us g M T ++ [nextC us g M (chainF us g M T)]) t = _
    by_cases e : t = T
    · subst e
      have := wd_last (chainF us g M t) (nextC us g M (chainF us g M t))
      rw [chainF_len] at this
      exact this
    · rw [wd_app _ _ _ (by rw [chainF_len]; omega), chainF_at (by omega)]
/-- the program's chain is the first longest one -/
theorem chain_from {M : Nat} (hh : IsHt (fun x i => underB us i x) us.length g) (ht : TopOf g us.length M) {all : List Nat} (ha : AllOf us g (fun _ => True) all) : all = chainF us g M M := by
  rcases ha with ⟨e, h⟩ | ⟨r, h1, _, h3, h4⟩
  · have hn : us.length = 0 := by
      apply Classical.byContradiction
      intro hne
      exact h 0 (by omega) trivial
    have hM : M = 0 := by
      rcases ht.2 with z | ⟨i, hi, _⟩
      · exact z
      · omega
    rw [e, hM]; rfl
  · have hM : g r + 1 = M := by
      have a := ht.1 r h1
      rcases ht.2 with z | ⟨i, hi, z⟩
      · omega
      · have := h4 i hi trivial; omega
    refine from_unique h3 ⟨by rw [chainF_len]; omega, ?_, fun t htt => ?_⟩
    · rw [chainF_at (by omega)]
      show nextC us g M [] = r
      refine nextC_of (by rw [mayC_nil]; simp [h1]) (by simp; omega) (fun z hz hm => ?_)
      rw [mayC_nil] at hm
      have hzn : z < us.length := by simpa using hm
      have := h4 z hzn trivial
      simp; omega
    · rw [chainF_len] at htt
      obtain ⟨a, b, c⟩ := nextC_spec (chain_more hh ht (t + 1) htt)
      rw [chainF_at htt, chainF_at (show t < M by omega)]
      have hm : ∀ z, mayC us (chainF us g M (t + 1)) z = (decide (z < us.length) && underB us (nextC us g M (chainF us g M t)) z) := fun z => mayC_snoc us _ _ z
      rw [chainF_len] at b c
      rw [hm] at a
      simp at a
      refine ⟨⟨a.1, a.2, by omega⟩, fun z hz hp => c z hz (by rw [hm]; simp [hp.1, hp.2.1]) (by have := hp.2.2; omega)⟩
end
end Go.Proofs.YthhjhfjildmbhaaDoor
