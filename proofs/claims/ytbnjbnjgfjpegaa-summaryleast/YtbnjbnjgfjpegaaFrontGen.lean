/- Fronts of whatever: the least ones of a list by one order, each once, in the order of another one that says more; what comes of sorting, and of taking them one by one. -/
import Derived.Test.YtbnjbnjgfjpegaaWords
namespace Go.Proofs.Ytbnjbnjgfjpegaa

/-- what is asked of the two orders, among what may be -/
structure Fronts {α : Type} (ok : α → Prop) (lt le : α → α → Prop) : Prop where
  irrefl : ∀ {a}, ok a → ¬ lt a a
  trans : ∀ {a b c}, ok a → ok b → ok c → lt a b → lt b c → lt a c
  total : ∀ {a b}, ok a → ok b → a ≠ b → lt a b ∨ lt b a
  refl : ∀ {a}, ok a → le a a
  ltrans : ∀ {a b c}, ok a → ok b → ok c → le a b → le b c → le a c
  stands : ∀ {a b}, ok a → ok b → le a b → a ≠ b → lt a b
/-- is t one of the least ones of a list? -/
def MinG {α : Type} (le : α → α → Prop) (ls : List α) (t : α) : Prop := t ∈ ls ∧ ∀ u ∈ ls, le u t → u = t
/-- the least ones of a list, each once, in their order -/
structure FrontG {α : Type} (lt le : α → α → Prop) (ls F : List α) : Prop where
  sorted : F.Pairwise lt
  mem : ∀ t, t ∈ F ↔ MinG le ls t
section
variable {α : Type} {ok : α → Prop} {lt le : α → α → Prop} (T : Fronts ok lt le)
include T
theorem sortedG_unique : ∀ {F G : List α}, (∀ t ∈ F, ok t) → (∀ t ∈ G, ok t) → F.Pairwise lt → G.Pairwise lt → (∀ t, t ∈ F ↔ t ∈ G) → F = G
  | [], [], _, _, _, _, _ => rfl
  | [], b :: G, _, _, _, _, h => absurd ((h b).2 (by simp)) (by simp)
  | a :: F, [], _, _, _, _, h => absurd ((h a).1 (by simp)) (by simp)
  | a :: F, b :: G, oF, oG, hF, hG, h => by
    have hF' := List.pairwise_cons.1 hF
    have hG' := List.pairwise_cons.1 hG
    have oa := oF a (by simp)
    have ob := oG b (by simp)
    have e : a = b := by
      have h1 := (h a).1 (by simp)
      have h2 := (h b).2 (by simp)
      rcases List.mem_cons.1 h1 with e | h1
      · exact e
      rcases List.mem_cons.1 h2 with e | h2
      · exact e.symm
      exact absurd (T.trans oa ob oa (hF'.1 b h2) (hG'.1 a h1)) (T.irrefl oa)
    subst e
    rw [sortedG_unique (fun t ht => oF t (by simp [ht])) (fun t ht => oG t (by simp [ht])) hF'.2 hG'.2 fun t => by
      constructor
      · intro ht
        rcases List.mem_cons.1 ((h t).1 (List.mem_cons_of_mem _ ht)) with e | h'
        · subst e; exact absurd (hF'.1 _ ht) (T.irrefl oa)
        · exact h'
      · intro ht
        rcases List.mem_cons.1 ((h t).2 (List.mem_cons_of_mem _ ht)) with e | h'
        · subst e; exact absurd (hG'.1 _ ht) (T.irrefl oa)
        · exact h']
theorem FrontG.unique {ls F G : List α} (ho : ∀ t ∈ ls, ok t) (hF : FrontG lt le ls F) (hG : FrontG lt le ls G) : F = G :=
  sortedG_unique T (fun t ht => ho t ((hF.mem t).1 ht).1) (fun t ht => ho t ((hG.mem t).1 ht).1) hF.sorted hG.sorted fun t => (hF.mem t).trans (hG.mem t).symm
omit T in
theorem FrontG.congr {ls ms F : List α} (h : ∀ t, t ∈ ls ↔ t ∈ ms) (hF : FrontG lt le ls F) : FrontG lt le ms F :=
  ⟨hF.sorted, fun t => (hF.mem t).trans ⟨fun ⟨h1, h2⟩ => ⟨(h t).1 h1, fun u hu => h2 u ((h u).2 hu)⟩, fun ⟨h1, h2⟩ => ⟨(h t).2 h1, fun u hu => h2 u ((h u).1 hu)⟩⟩⟩
omit T in
theorem FrontG.sub {ls F : List α} (h : FrontG lt le ls F) : ∀ t ∈ F, t ∈ ls := fun t ht => ((h.mem t).1 ht).1
theorem FrontG.nodup {ls F : List α} (ho : ∀ t ∈ ls, ok t) (h : FrontG lt le ls F) : F.Nodup :=
  (List.Pairwise.and_mem.1 h.sorted).imp fun {a b} hab e => by subst e; exact T.irrefl (ho a (h.sub a hab.1)) hab.2.2
omit T in
theorem FrontG.idem {ls F : List α} (hF : FrontG lt le ls F) : FrontG lt le F F :=
  ⟨hF.sorted, fun t => ⟨fun h => ⟨h, fun u hu hle => ((hF.mem t).1 h).2 u (hF.sub u hu) hle⟩, fun h => h.1⟩⟩
omit T in
theorem FrontG.apart {ls F : List α} (hF : FrontG lt le ls F) {a b : α} (ha : a ∈ F) (hb : b ∈ F) (h : le a b) : a = b := ((hF.mem b).1 hb).2 a (hF.sub a ha) h

/-- what was taken of the first ones of a list that doesn't fall -/
structure TakenG (lt le : α → α → Prop) (ps G : List α) : Prop where
  sorted : G.Pairwise lt
  mem : ∀ t, t ∈ G ↔ MinG le ps t
  cov : ∀ u ∈ ps, ∃ g ∈ G, le g u
omit T in
theorem TakenG.nil : TakenG lt le [] [] := ⟨List.Pairwise.nil, fun t => by simp [MinG], fun u hu => by simp at hu⟩
theorem TakenG.skip {ps G : List α} {t : α} (h : TakenG lt le ps G) (hl : ∀ u ∈ ps, ok u) (ht : ok t) (hs : ∀ u ∈ ps, ¬ lt t u) (ho : ∃ g ∈ G, le g t) : TakenG lt le (ps ++ [t]) G := by
  have hback : ∀ u ∈ ps, le t u → t = u := fun u hu hle => by
    apply Classical.byContradiction
    intro hne
    exact hs u hu (T.stands ht (hl u hu) hle hne)
  refine ⟨h.sorted, fun x => ?_, fun u hu => ?_⟩
  · rw [h.mem]
    constructor
    · rintro ⟨h1, h2⟩
      refine ⟨List.mem_append_left _ h1, fun u hu hle => ?_⟩
      rcases List.mem_append.1 hu with h3 | h3
      · exact h2 u h3 hle
      · rw [List.mem_singleton] at h3; subst h3; exact hback x h1 hle
    · rintro ⟨h1, h2⟩
      have h2' : ∀ u ∈ ps, le u x → u = x := fun u hu => h2 u (List.mem_append_left _ hu)
      rcases List.mem_append.1 h1 with h3 | h3
      · exact ⟨h3, h2'⟩
      · rw [List.mem_singleton] at h3; subst h3
        obtain ⟨g, hg, hle⟩ := ho
        have hgp := ((h.mem g).1 hg).1
        have := h2' g hgp hle
        subst this
        exact ⟨hgp, h2'⟩
  · rcases List.mem_append.1 hu with h3 | h3
    · exact h.cov u h3
    · rw [List.mem_singleton] at h3; subst h3; exact ho
theorem TakenG.take {ps G : List α} {t : α} (h : TakenG lt le ps G) (hl : ∀ u ∈ ps, ok u) (ht : ok t) (hs : ∀ u ∈ ps, ¬ lt t u) (ho : ∀ g ∈ G, ¬ le g t) : TakenG lt le (ps ++ [t]) (G ++ [t]) := by
  have hback : ∀ u ∈ ps, le t u → t = u := fun u hu hle => by
    apply Classical.byContradiction
    intro hne
    exact hs u hu (T.stands ht (hl u hu) hle hne)
  have hno : ∀ u ∈ ps, ¬ le u t := fun u hu hle => by
    obtain ⟨g, hg, h1⟩ := h.cov u hu
    exact ho g hg (T.ltrans (hl g ((h.mem g).1 hg).1) (hl u hu) ht h1 hle)
  refine ⟨?_, fun x => ?_, fun u hu => ?_⟩
  · rw [List.pairwise_append]
    refine ⟨h.sorted, by simp, fun a ha b hb => ?_⟩
    rw [List.mem_singleton] at hb; subst hb
    have hap := ((h.mem a).1 ha).1
    rcases T.total (hl a hap) ht (fun e => hno a hap (by rw [e]; exact T.refl ht)) with h' | h'
    · exact h'
    · exact absurd h' (hs a hap)
  · rw [List.mem_append, List.mem_singleton, h.mem]
    constructor
    · rintro (⟨h1, h2⟩ | rfl)
      · refine ⟨List.mem_append_left _ h1, fun u hu hle => ?_⟩
        rcases List.mem_append.1 hu with h3 | h3
        · exact h2 u h3 hle
        · rw [List.mem_singleton] at h3; subst h3; exact hback x h1 hle
      · refine ⟨by simp, fun u hu hle => ?_⟩
        rcases List.mem_append.1 hu with h3 | h3
        · exact absurd hle (hno u h3)
        · rw [List.mem_singleton] at h3; exact h3
    · rintro ⟨h1, h2⟩
      rcases List.mem_append.1 h1 with h3 | h3
      · exact .inl ⟨h3, fun u hu => h2 u (List.mem_append_left _ hu)⟩
      · rw [List.mem_singleton] at h3; exact .inr h3
  · rcases List.mem_append.1 hu with h3 | h3
    · obtain ⟨g, hg, h1⟩ := h.cov u h3
      exact ⟨g, List.mem_append_left _ hg, h1⟩
    · rw [List.mem_singleton] at h3; subst h3; exact ⟨u, by simp, T.refl ht⟩
omit T in
theorem TakenG.front {ps G : List α} (h : TakenG lt le ps G) : FrontG lt le ps G := ⟨h.sorted, h.mem⟩
omit T in
/-- the least ones of what lies in the order, each once -/
theorem frontG_filter {ls S : List α} (hs : S.Pairwise lt) (hm : ∀ t, t ∈ S ↔ t ∈ ls) (p : α → Bool) (hp : ∀ t ∈ ls, p t = true ↔ ∀ u ∈ ls, le u t → u = t) : FrontG lt le ls (S.filter p) :=
  ⟨hs.sublist List.filter_sublist, fun t => by
    rw [List.mem_filter, hm]
    constructor
    · rintro ⟨h1, h2⟩; exact ⟨h1, (hp t h1).1 h2⟩
    · rintro ⟨h1, h2⟩; exact ⟨h1, (hp t h1).2 h2⟩⟩
end
end Go.Proofs.Ytbnjbnjgfjpegaa
