/- Fronts, without a program: the least ones of a list of times, in the order of Less; what comes of sorting, and of taking them one by one. -/
import Derived.Test.YtbnjbnjgfjpegaaTimLess
namespace Go.Proofs.Ytbnjbnjgfjpegaa
open Go.RowKit Go.Shelf

theorem lex_irrefl (a : List Int) : ¬ LexZ a a := fun ⟨_, _, _, h⟩ => by omega
theorem leqZ_refl (a : List Int) : LeqZ a a := fun _ _ => Int.le_refl _
theorem leqZ_trans {a b c : List Int} (hl : a.length = b.length) (h1 : LeqZ a b) (h2 : LeqZ b c) : LeqZ a c := fun i hi => Int.le_trans (h1 i hi) (h2 i (by omega))
theorem flex_total {a b : List Int} (hl : a.length = b.length) (hne : a ≠ b) : LexZ a b ∨ LexZ b a := by
  have key : ∀ n, n ≤ a.length → (∀ j, j < n → zd a j = zd b j) ∨ LexZ a b ∨ LexZ b a := fun n => by
    induction n with
    | zero => exact fun _ => .inl fun j hj => by omega
    | succ n ih =>
      intro hn
      rcases ih (by omega) with h | h
      · rcases Int.lt_trichotomy (zd a n) (zd b n) with e | e | e
        · exact .inr (.inl ⟨n, by omega, h, e⟩)
        · refine .inl fun j hj => ?_
          by_cases ej : j = n
          · rw [ej]; exact e
          · exact h j (by omega)
        · exact .inr (.inr ⟨n, by omega, fun j hj => (h j hj).symm, e⟩)
      · exact .inr h
  rcases key a.length (Nat.le_refl _) with h | h
  · exact absurd (zd_ext hl h) hne
  · exact h
theorem flex_trans {a b c : List Int} (h1 : LexZ a b) (h2 : LexZ b c) (hl : a.length = b.length) : LexZ a c := by
  obtain ⟨i, hi, hj, hk⟩ := h1
  obtain ⟨m, hm, hn, ho⟩ := h2
  rcases Nat.lt_trichotomy i m with e | e | e
  · exact ⟨i, hi, fun j h => (hj j h).trans (hn j (by omega)), by rw [← hn i e]; exact hk⟩
  · subst e; exact ⟨i, hi, fun j h => (hj j h).trans (hn j h), by omega⟩
  · exact ⟨m, by omega, fun j h => (hj j (by omega)).trans (hn j h), by rw [hj m e]; exact ho⟩
theorem fleq_lex {a b : List Int} (hl : a.length = b.length) (h : LeqZ a b) (hne : a ≠ b) : LexZ a b := by
  rcases flex_total hl hne with h' | ⟨k, hk, _, hlt⟩
  · exact h'
  · have := h k (by omega); omega

/-- is t one of the least ones of a list? -/
def MinIn (ls : List (List Int)) (t : List Int) : Prop := t ∈ ls ∧ ∀ u ∈ ls, LeqZ u t → u = t
/-- the least ones of a list, each once, in the order of Less -/
structure IsFront (ls F : List (List Int)) : Prop where
  sorted : F.Pairwise LexZ
  mem : ∀ t, t ∈ F ↔ MinIn ls t
theorem sorted_unique : ∀ {F G : List (List Int)}, F.Pairwise LexZ → G.Pairwise LexZ → (∀ t, t ∈ F ↔ t ∈ G) → F = G
  | [], [], _, _, _ => rfl
  | [], b :: G, _, _, h => absurd ((h b).2 (by simp)) (by simp)
  | a :: F, [], _, _, h => absurd ((h a).1 (by simp)) (by simp)
  | a :: F, b :: G, hF, hG, h => by
    have hF' := List.pairwise_cons.1 hF
    have hG' := List.pairwise_cons.1 hG
    have e : a = b := by
      have h1 := (h a).1 (by simp)
      have h2 := (h b).2 (by simp)
      rcases List.mem_cons.1 h1 with e | h1
      · exact e
      rcases List.mem_cons.1 h2 with e | h2
      · exact e.symm
      exact absurd (hF'.1 b h2) (lex_asym (hG'.1 a h1))
    subst e
    rw [sorted_unique hF'.2 hG'.2 fun t => by
      constructor
      · intro ht
        rcases List.mem_cons.1 ((h t).1 (List.mem_cons_of_mem _ ht)) with e | h'
        · subst e; exact absurd (hF'.1 _ ht) (lex_irrefl _)
        · exact h'
      · intro ht
        rcases List.mem_cons.1 ((h t).2 (List.mem_cons_of_mem _ ht)) with e | h'
        · subst e; exact absurd (hG'.1 _ ht) (lex_irrefl _)
        · exact h']
theorem IsFront.unique {ls F G : List (List Int)} (hF : IsFront ls F) (hG : IsFront ls G) : F = G :=
  sorted_unique hF.sorted hG.sorted fun t => (hF.mem t).trans (hG.mem t).symm
theorem minIn_congr {ls ms : List (List Int)} (h : ∀ t, t ∈ ls ↔ t ∈ ms) {t : List Int} : MinIn ls t ↔ MinIn ms t :=
  ⟨fun ⟨h1, h2⟩ => ⟨(h t).1 h1, fun u hu => h2 u ((h u).2 hu)⟩, fun ⟨h1, h2⟩ => ⟨(h t).2 h1, fun u hu => h2 u ((h u).1 hu)⟩⟩
theorem IsFront.congr {ls ms F : List (List Int)} (h : ∀ t, t ∈ ls ↔ t ∈ ms) (hF : IsFront ls F) : IsFront ms F :=
  ⟨hF.sorted, fun t => (hF.mem t).trans (minIn_congr h)⟩

/-- what was taken of the first ones of a list that doesn't fall -/
structure Taken (n : Nat) (ps G : List (List Int)) : Prop where
  sorted : G.Pairwise LexZ
  mem : ∀ t, t ∈ G ↔ MinIn ps t
  cov : ∀ u ∈ ps, ∃ g ∈ G, LeqZ g u
theorem Taken.nil (n : Nat) : Taken n [] [] := ⟨List.Pairwise.nil, fun t => by simp [MinIn], fun u hu => by simp at hu⟩
theorem Taken.skip {n : Nat} {ps G : List (List Int)} {t : List Int} (h : Taken n ps G) (hl : ∀ u ∈ ps, u.length = n) (ht : t.length = n) (hs : ∀ u ∈ ps, ¬ LexZ t u) (ho : ∃ g ∈ G, LeqZ g t) : Taken n (ps ++ [t]) G := by
  have hback : ∀ u ∈ ps, LeqZ t u → t = u := fun u hu hle => by
    apply Decidable.byContradiction
    intro hne
    exact hs u hu (fleq_lex (by rw [ht, hl u hu]) hle hne)
  refine ⟨h.sorted, fun x => ?_, fun u hu => ?_⟩
  · rw [h.mem]
    constructor
    · rintro ⟨h1, h2⟩
      refine ⟨List.mem_append_left _ h1, fun u hu hle => ?_⟩
      rcases List.mem_append.1 hu with h3 | h3
      · exact h2 u h3 hle
      · rw [List.mem_singleton] at h3; subst h3; exact hback x h1 hle
    · rintro ⟨h1, h2⟩
      have h2' : ∀ u ∈ ps, LeqZ u x → u = x := fun u hu => h2 u (List.mem_append_left _ hu)
      rcases List.mem_append.1 h1 with h3 | h3
      · exact ⟨h3, h2'⟩
      · rw [List.mem_singleton] at h3; subst h3
        obtain ⟨g, hg, hle⟩ := ho
        have hgp := ((h.mem g).1 hg).1
        have := h2' g hgp hle
        subst this
        exact ⟨hgp, h2'⟩
  · rcases List.mem_append.1 hu with h3 | h3
    · exact h.cov u h3
    · rw [List.mem_singleton] at h3; subst h3; exact ho
theorem Taken.take {n : Nat} {ps G : List (List Int)} {t : List Int} (h : Taken n ps G) (hl : ∀ u ∈ ps, u.length = n) (ht : t.length = n) (hs : ∀ u ∈ ps, ¬ LexZ t u) (ho : ∀ g ∈ G, ¬ LeqZ g t) : Taken n (ps ++ [t]) (G ++ [t]) := by
  have hback : ∀ u ∈ ps, LeqZ t u → t = u := fun u hu hle => by
    apply Decidable.byContradiction
    intro hne
    exact hs u hu (fleq_lex (by rw [ht, hl u hu]) hle hne)
  have hno : ∀ u ∈ ps, ¬ LeqZ u t := fun u hu hle => by
    obtain ⟨g, hg, h1⟩ := h.cov u hu
    exact ho g hg (leqZ_trans (by rw [hl g ((h.mem g).1 hg).1, hl u hu]) h1 hle)
  refine ⟨?_, fun x => ?_, fun u hu => ?_⟩
  · rw [List.pairwise_append]
    refine ⟨h.sorted, by simp, fun a ha b hb => ?_⟩
    rw [List.mem_singleton] at hb; subst hb
    have hap := ((h.mem a).1 ha).1
    rcases flex_total (a := a) (b := b) (by rw [hl a hap, ht]) (fun e => hno a hap (by rw [e]; exact leqZ_refl _)) with h' | h'
    · exact h'
    · exact absurd h' (hs a hap)
  · rw [List.mem_append, List.mem_singleton, h.mem]
    constructor
    · rintro (⟨h1, h2⟩ | rfl)
      · refine ⟨List.mem_append_left _ h1, fun u hu hle => ?_⟩
        rcases List.mem_append.1 hu with h3 | h3
        · exact h2 u h3 hle
        · rw [List.mem_singleton] at h3; subst h3; exact hback x h1 hle
      · refine ⟨by simp, fun u hu hle => ?_⟩
        rcases List.mem_append.1 hu with h3 | h3
        · exact absurd hle (hno u h3)
        · rw [List.mem_singleton] at h3; exact h3
    · rintro ⟨h1, h2⟩
      rcases List.mem_append.1 h1 with h3 | h3
      · exact .inl ⟨h3, fun u hu => h2 u (List.mem_append_left _ hu)⟩
      · rw [List.mem_singleton] at h3; exact .inr h3
  · rcases List.mem_append.1 hu with h3 | h3
    · obtain ⟨g, hg, h1⟩ := h.cov u h3
      exact ⟨g, List.mem_append_left _ hg, h1⟩
    · rw [List.mem_singleton] at h3; subst h3; exact ⟨u, by simp, leqZ_refl _⟩
theorem Taken.front {n : Nat} {ps G : List (List Int)} (h : Taken n ps G) : IsFront ps G := ⟨h.sorted, h.mem⟩
/-- the least ones of what lies in the order of Less, each once -/
theorem front_filter {ls S : List (List Int)} (hs : S.Pairwise LexZ) (hm : ∀ t, t ∈ S ↔ t ∈ ls) (p : List Int → Bool) (hp : ∀ t ∈ ls, p t = true ↔ ∀ u ∈ ls, LeqZ u t → u = t) : IsFront ls (S.filter p) :=
  ⟨hs.sublist List.filter_sublist, fun t => by
    rw [List.mem_filter, hm]
    constructor
    · rintro ⟨h1, h2⟩; exact ⟨h1, (hp t h1).1 h2⟩
    · rintro ⟨h1, h2⟩; exact ⟨h1, (hp t h1).2 h2⟩⟩

/-- what is wrong with a list of times -/
def Lens (ls : List (List Int)) : Prop := ∀ t ∈ ls, t.length = (ls.headD []).length
def decLens (ls : List (List Int)) : Decidable (Lens ls) := by unfold Lens; infer_instance
def lensB (ls : List (List Int)) : Bool := @decide (Lens ls) (decLens ls)
theorem lensB_true {ls : List (List Int)} : lensB ls = true ↔ Lens ls := by unfold lensB; exact @decide_eq_true_iff _ (decLens ls)
theorem lensB_false {ls : List (List Int)} : lensB ls = false ↔ ¬ Lens ls := by unfold lensB; exact @decide_eq_false_iff_not _ (decLens ls)
def firstC : List (List Int) → Int
  | [] => 0
  | t :: l => if codeT t = 0 then firstC l else codeT t
theorem firstC_ok : ∀ {l : List (List Int)}, (∀ t ∈ l, codeT t = 0) → firstC l = 0
  | [], _ => rfl
  | t :: l, h => by unfold firstC; rw [if_pos (h t (by simp))]; exact firstC_ok fun u hu => h u (List.mem_cons_of_mem _ hu)
theorem firstC_zero : ∀ {l : List (List Int)}, firstC l = 0 → ∀ t ∈ l, codeT t = 0
  | [], _, t, ht => by simp at ht
  | u :: l, h, t, ht => by
    unfold firstC at h
    by_cases e : codeT u = 0
    · rw [if_pos e] at h
      rcases List.mem_cons.1 ht with rfl | h'
      · exact e
      · exact firstC_zero h t h'
    · rw [if_neg e] at h; exact absurd h e
theorem firstC_at : ∀ {l : List (List Int)} {k : Nat} (hk : k < l.length), (∀ j, (hj : j < k) → codeT (l[j]'(by omega)) = 0) → codeT l[k] ≠ 0 → firstC l = codeT l[k]
  | t :: l, 0, _, _, h => by
    have h' : codeT t ≠ 0 := h
    unfold firstC; rw [if_neg h']; rfl
  | t :: l, k + 1, hk, h, h' => by
    have h0 : codeT t = 0 := h 0 (by omega)
    unfold firstC
    rw [if_pos h0]
    exact firstC_at (l := l) (by simpa using hk) (fun j hj => by simpa using h (j + 1) (by omega)) h'
def codeL (ls : List (List Int)) : Int := if 64 < ls.length then 1 else if firstC ls ≠ 0 then firstC ls else if lensB ls then 0 else 3
theorem codeL_large {ls : List (List Int)} (h : 64 < ls.length) : codeL ls = 1 := if_pos h
theorem codeL_first {ls : List (List Int)} (h : ¬ 64 < ls.length) (h2 : firstC ls ≠ 0) : codeL ls = firstC ls := by unfold codeL; rw [if_neg h, if_pos h2]
theorem codeL_form {ls : List (List Int)} (h : ¬ 64 < ls.length) (h2 : firstC ls = 0) (h3 : lensB ls = false) : codeL ls = 3 := by unfold codeL; rw [if_neg h, if_neg (fun e => e h2), h3]; rfl
theorem codeL_ok {ls : List (List Int)} (h : ¬ 64 < ls.length) (h2 : firstC ls = 0) (h3 : lensB ls = true) : codeL ls = 0 := by unfold codeL; rw [if_neg h, if_neg (fun e => e h2), h3]; rfl
theorem codeL_zero {ls : List (List Int)} (h : codeL ls = 0) : ls.length ≤ 64 ∧ (∀ t ∈ ls, codeT t = 0) ∧ Lens ls := by
  by_cases h1 : 64 < ls.length
  · rw [codeL_large h1] at h; exact absurd h (by decide)
  by_cases h2 : firstC ls = 0
  · cases h3 : lensB ls
    · rw [codeL_form h1 h2 h3] at h; exact absurd h (by decide)
    · exact ⟨by omega, firstC_zero h2, lensB_true.1 h3⟩
  · rw [codeL_first h1 h2] at h; exact absurd h h2
theorem codeL_mk {ls : List (List Int)} (h1 : ls.length ≤ 64) (h2 : ∀ t ∈ ls, codeT t = 0) (h3 : Lens ls) : codeL ls = 0 := codeL_ok (by omega) (firstC_ok h2) (lensB_true.2 h3)
/-- is a time open by a list? -/
def openB (ls : List (List Int)) (t : List Int) : Bool := ls.any fun u => leqT u t
theorem openB_true {ls : List (List Int)} {t : List Int} : openB ls t = true ↔ ∃ u ∈ ls, leqT u t = true := by unfold openB; rw [List.any_eq_true]
theorem openB_false {ls : List (List Int)} {t : List Int} : openB ls t = false ↔ ∀ u ∈ ls, leqT u t = false := by unfold openB; rw [List.any_eq_false]; simp
end Go.Proofs.Ytbnjbnjgfjpegaa
