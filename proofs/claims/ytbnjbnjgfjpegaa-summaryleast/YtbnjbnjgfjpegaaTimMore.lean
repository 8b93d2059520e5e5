/- More on fronts, without a program: what is open by them, and that a front's front is itself. -/
import Derived.Test.YtbnjbnjgfjpegaaTimFront
namespace Go.Proofs.Ytbnjbnjgfjpegaa
open Go.RowKit Go.Shelf

theorem filter_le {α : Type} (p q : α → Bool) : ∀ (l : List α), (∀ x ∈ l, p x = true → q x = true) → (l.filter p).length ≤ (l.filter q).length
  | [], _ => by simp
  | a :: l, h => by
    have ih := filter_le p q l fun x hx => h x (List.mem_cons_of_mem _ hx)
    by_cases hp : p a = true
    · rw [List.filter_cons, if_pos hp, List.filter_cons, if_pos (h a (by simp) hp)]; simp only [List.length_cons]; omega
    · rw [List.filter_cons, if_neg hp]
      by_cases hq : q a = true
      · rw [List.filter_cons, if_pos hq]; simp only [List.length_cons]; omega
      · rw [List.filter_cons, if_neg hq]; exact ih
theorem filter_lt {α : Type} (p q : α → Bool) : ∀ (l : List α), (∀ x ∈ l, p x = true → q x = true) → (∃ x ∈ l, q x = true ∧ p x = false) → (l.filter p).length < (l.filter q).length
  | [], _, ⟨x, hx, _⟩ => by simp at hx
  | a :: l, h, ⟨x, hx, hq, hp⟩ => by
    have hl := filter_le p q l fun x hx => h x (List.mem_cons_of_mem _ hx)
    rcases List.mem_cons.1 hx with rfl | hx'
    · rw [List.filter_cons, if_neg (by rw [hp]; simp), List.filter_cons, if_pos hq]; simp only [List.length_cons]; omega
    · have ih := filter_lt p q l (fun x hx => h x (List.mem_cons_of_mem _ hx)) ⟨x, hx', hq, hp⟩
      by_cases hpa : p a = true
      · rw [List.filter_cons, if_pos hpa, List.filter_cons, if_pos (h a (by simp) hpa)]; simp only [List.length_cons]; omega
      · rw [List.filter_cons, if_neg hpa]
        by_cases hqa : q a = true
        · rw [List.filter_cons, if_pos hqa]; simp only [List.length_cons]; omega
        · rw [List.filter_cons, if_neg hqa]; exact ih
/-- for each of a list there is one of its front that is Leq to it -/
theorem front_cov {ls F : List (List Int)} {n : Nat} (hl : ∀ u ∈ ls, u.length = n) (hF : IsFront ls F) : ∀ u ∈ ls, ∃ g ∈ F, LeqZ g u := by
  have key : ∀ (m : Nat) (u : List Int), u ∈ ls → (ls.filter fun v => lexB v u).length ≤ m → ∃ g ∈ F, LeqZ g u := fun m => by
    induction m with
    | zero =>
      intro u hu hm
      refine ⟨u, (hF.mem u).2 ⟨hu, fun v hv hle => ?_⟩, leqZ_refl _⟩
      apply Classical.byContradiction
      intro hne
      have h1 := lexB_true.2 (fleq_lex (by rw [hl v hv, hl u hu]) hle hne)
      have h2 : v ∈ ls.filter fun v => lexB v u := List.mem_filter.2 ⟨hv, h1⟩
      have := List.length_pos_of_mem h2
      omega
    | succ m ih =>
      intro u hu hm
      by_cases hmin : ∀ v ∈ ls, LeqZ v u → v = u
      · exact ⟨u, (hF.mem u).2 ⟨hu, hmin⟩, leqZ_refl _⟩
      · obtain ⟨v, hv⟩ := Classical.not_forall.1 hmin
        obtain ⟨hvl, hv'⟩ := Classical.not_imp.1 hv
        obtain ⟨hle, hne⟩ := Classical.not_imp.1 hv'
        have hlex := fleq_lex (by rw [hl v hvl, hl u hu]) hle hne
        have hlt := filter_lt (fun x => lexB x v) (fun x => lexB x u) ls (fun x hx h => lexB_true.2 (flex_trans (lexB_true.1 h) hlex (by rw [hl x hx, hl v hvl]))) ⟨v, hvl, lexB_true.2 hlex, lexB_false.2 (lex_irrefl _)⟩
        obtain ⟨g, hg, h1⟩ := ih v hvl (by omega)
        exact ⟨g, hg, leqZ_trans (by rw [hl g ((hF.mem g).1 hg).1, hl v hvl]) h1 hle⟩
  exact fun u hu => key _ u hu (Nat.le_refl _)
theorem head_len {ls : List (List Int)} {n : Nat} (hl : ∀ u ∈ ls, u.length = n) : Lens ls := fun t ht => by
  cases ls with
  | nil => simp at ht
  | cons a l => rw [hl t ht]; exact (hl a (by simp)).symm
theorem nodup_len : ∀ {F ls : List (List Int)}, F.Nodup → (∀ t ∈ F, t ∈ ls) → F.length ≤ ls.length := fun {F} => by
  induction F with
  | nil => intro ls _ _; simp
  | cons a G ih =>
    intro ps hn hs
    have hn' := List.nodup_cons.1 hn
    have ha := hs a (by simp)
    have := ih (ls := ps.erase a) hn'.2 fun t ht => (List.mem_erase_of_ne (fun e => by subst e; exact hn'.1 ht)).2 (hs t (List.mem_cons_of_mem _ ht))
    rw [List.length_erase_of_mem ha] at this
    have hp := List.length_pos_of_mem ha
    simp only [List.length_cons]; omega
theorem IsFront.nodup {ls F : List (List Int)} (h : IsFront ls F) : F.Nodup := h.sorted.imp fun {a b} hab e => by subst e; exact lex_irrefl _ hab
theorem IsFront.sub {ls F : List (List Int)} (h : IsFront ls F) : ∀ t ∈ F, t ∈ ls := fun t ht => ((h.mem t).1 ht).1
/-- a front of what may be may be -/
theorem front_code {ls F : List (List Int)} (hc : codeL ls = 0) (hF : IsFront ls F) : codeL F = 0 := by
  obtain ⟨h1, h2, h3⟩ := codeL_zero hc
  refine codeL_mk (Nat.le_trans (nodup_len hF.nodup hF.sub) h1) (fun t ht => h2 t (hF.sub t ht)) (head_len (n := (ls.headD []).length) fun t ht => h3 t (hF.sub t ht))
theorem front_idem {ls F : List (List Int)} (hF : IsFront ls F) : IsFront F F :=
  ⟨hF.sorted, fun t => ⟨fun h => ⟨h, fun u hu hle => ((hF.mem t).1 h).2 u (hF.sub u hu) hle⟩, fun h => h.1⟩⟩
theorem code_pair {ls : List (List Int)} (hc : codeL ls = 0) {a b : List Int} (ha : a ∈ ls) (hb : b ∈ ls) : codeP a b = 0 := by
  obtain ⟨_, h2, h3⟩ := codeL_zero hc
  exact codeP_ok (h2 a ha) (h2 b hb) (by rw [h3 a ha, h3 b hb])
/-- by a front just that is open which is open by the list -/
theorem front_open {ls F : List (List Int)} (hc : codeL ls = 0) (hF : IsFront ls F) (t : List Int) : openB F t = openB ls t := by
  obtain ⟨_, h2, h3⟩ := codeL_zero hc
  rw [Bool.eq_iff_iff, openB_true, openB_true]
  constructor
  · rintro ⟨u, hu, h⟩; exact ⟨u, hF.sub u hu, h⟩
  · rintro ⟨u, hu, h⟩
    obtain ⟨hcp, hle⟩ := leqT_true.1 h
    obtain ⟨hcu, hct, hlt⟩ := codeP_zero hcp
    obtain ⟨g, hg, h1⟩ := front_cov (n := (ls.headD []).length) (fun u hu => h3 u hu) hF u hu
    have hgl : g.length = u.length := by rw [h3 g (hF.sub g hg), h3 u hu]
    exact ⟨g, hg, leqT_true.2 ⟨codeP_ok (h2 g (hF.sub g hg)) hct (by omega), leqZ_trans hgl h1 hle⟩⟩
theorem front_all {ls F : List (List Int)} (hc : codeL ls = 0) (hF : IsFront ls F) {u : List Int} (hu : u ∈ ls) : openB F u = true := by
  rw [front_open hc hF, openB_true]
  exact ⟨u, hu, leqT_true.2 ⟨code_pair hc hu hu, leqZ_refl _⟩⟩
theorem front_leq {ls F : List (List Int)} (hF : IsFront ls F) {i j : Nat} (hi : i < F.length) (hj : j < F.length) (hne : i ≠ j) : leqT F[i] F[j] = false := by
  rw [Bool.eq_false_iff]
  intro h
  have e := ((hF.mem F[j]).1 (List.getElem_mem hj)).2 F[i] (hF.sub _ (List.getElem_mem hi)) (leqT_true.1 h).2
  exact hne ((List.getElem_inj hF.nodup).1 e)
theorem front_less {ls F : List (List Int)} (hc : codeL ls = 0) (hF : IsFront ls F) {i j : Nat} (hi : i < F.length) (hj : j < F.length) (hlt : i < j) : lessT F[i] F[j] = true :=
  lessT_true.2 ⟨code_pair hc (hF.sub _ (List.getElem_mem hi)) (hF.sub _ (List.getElem_mem hj)), List.pairwise_iff_getElem.1 hF.sorted i j hi hj hlt⟩
end Go.Proofs.Ytbnjbnjgfjpegaa
