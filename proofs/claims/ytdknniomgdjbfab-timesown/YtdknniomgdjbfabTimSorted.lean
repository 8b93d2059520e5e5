/- The contract of the document's TimesSorted: each once, in the order of Less. -/
import Derived.Test.YtdknniomgdjbfabTimLists
import Derived.Test.YtdknniomgdjbfabTimClone
namespace Go.Proofs.Ytdknniomgdjbfab
open Go.RowKit Go.Shelf

/-- where a list has its first that is not Less than t -/
def CutAt (ls : List (List Int)) (t : List Int) (k : Nat) : Prop := ∀ j, j < k → ∀ h : j < ls.length, LexZ ls[j] t
/-- a list with t put in at place k -/
def putAt (S : List Sl) (k : Nat) (t : Sl) : List Sl := S.take k ++ t :: S.drop k
theorem putAt_len (S : List Sl) (k : Nat) (t : Sl) (h : k ≤ S.length) : (putAt S k t).length = S.length + 1 := by
  unfold putAt; simp; omega
theorem zl_append (A B : List Sl) : zl (A ++ B) = zl A ++ zl B := by unfold zl; simp
theorem zl_putAt (S : List Sl) (k : Nat) (t : Sl) : zl (putAt S k t) = (zl S).take k ++ t.zs :: (zl S).drop k := by
  unfold putAt zl; simp
theorem put_sorted {ls : List (List Int)} {n k : Nat} {t : List Int} (hs : ls.Pairwise LexZ) (hl : ∀ u ∈ ls, u.length = n) (ht : t.length = n) (hk : k ≤ ls.length) (hc : CutAt ls t k) (hn : ∀ h : k < ls.length, ¬ LexZ ls[k] t ∧ ls[k] ≠ t) : (ls.take k ++ t :: ls.drop k).Pairwise LexZ := by
  have hge : ∀ u ∈ ls.drop k, LexZ t u := fun u hu => by
    obtain ⟨i, hi, e⟩ := List.mem_iff_getElem.1 hu
    rw [List.length_drop] at hi
    rw [List.getElem_drop] at e
    have hk' : k < ls.length := by omega
    obtain ⟨h1, h2⟩ := hn hk'
    have h3 : LexZ t ls[k] := by
      rcases flex_total (a := t) (b := ls[k]) (by rw [ht, hl _ (List.getElem_mem hk')]) (fun e => h2 e.symm) with h | h
      · exact h
      · exact absurd h h1
    by_cases h0 : i = 0
    · subst h0; rw [← e]; exact h3
    · have h4 : LexZ ls[k] ls[k + i] := List.pairwise_iff_getElem.1 hs k (k + i) hk' (by omega) (by omega)
      rw [← e]
      exact flex_trans h3 h4 (by rw [ht, hl _ (List.getElem_mem hk')])
  have hlt : ∀ u ∈ ls.take k, LexZ u t := fun u hu => by
    obtain ⟨i, hi, e⟩ := List.mem_iff_getElem.1 hu
    rw [List.length_take] at hi
    rw [List.getElem_take] at e
    rw [← e]
    exact hc i (by omega) (by omega)
  rw [List.pairwise_append]
  refine ⟨hs.sublist (List.take_sublist _ _), List.pairwise_cons.2 ⟨hge, hs.sublist (List.drop_sublist _ _)⟩, fun a ha b hb => ?_⟩
  rcases List.mem_cons.1 hb with rfl | hb
  · exact hlt a ha
  · exact flex_trans (hlt a ha) (hge b hb) (by rw [hl a (List.mem_of_mem_take ha), ht])
theorem mem_put {ls : List (List Int)} {k : Nat} {t u : List Int} : u ∈ ls.take k ++ t :: ls.drop k ↔ u = t ∨ u ∈ ls := by
  rw [List.mem_append, List.mem_cons]
  conv => rhs; rw [← List.take_append_drop k ls, List.mem_append]
  constructor
  · rintro (h | h | h)
    · exact .inr (.inl h)
    · exact .inl h
    · exact .inr (.inr h)
  · rintro (h | h | h)
    · exact .inr (.inl h)
    · exact .inl h
    · exact .inr (.inr h)

/-- what is known of the sorted ones of the first k -/
structure Sorted (L S : List Sl) (k : Nat) : Prop where
  sub : ∀ s ∈ S, s ∈ L
  sorted : (zl S).Pairwise LexZ
  mem : ∀ t, t ∈ zl S ↔ ∃ i, i < k ∧ (nth L i).zs = t
theorem Sorted.start (L : List Sl) : Sorted L [] 0 := ⟨fun s hs => by simp at hs, List.Pairwise.nil, fun t => by simp [zl]⟩
theorem Sorted.len {L S : List Sl} {k : Nat} (h : Sorted L S k) : S.length ≤ k := by
  have key : ∀ (k : Nat) (ls : List (List Int)), ls.Pairwise LexZ → (∀ t ∈ ls, ∃ i, i < k ∧ (nth L i).zs = t) → ls.length ≤ k := fun k => by
    induction k with
    | zero =>
      intro ls _ hm
      cases ls with
      | nil => simp
      | cons a l => obtain ⟨i, hi, _⟩ := hm a (by simp); omega
    | succ k ih =>
      intro ls hs hm
      have h1 : (ls.filter fun u => decide (u ≠ (nth L k).zs)).length ≤ k := ih _ (hs.sublist List.filter_sublist) fun t ht => by
        obtain ⟨h1, h2⟩ := List.mem_filter.1 ht
        obtain ⟨i, hi, e⟩ := hm t h1
        refine ⟨i, ?_, e⟩
        by_cases ei : i = k
        · subst ei; exact absurd e.symm (by simpa using h2)
        · omega
      have h2 : ls.length ≤ (ls.filter fun u => decide (u ≠ (nth L k).zs)).length + 1 := by
        clear ih h1 hm
        induction ls with
        | nil => simp
        | cons a l ihl =>
          have hs' := List.pairwise_cons.1 hs
          by_cases e : a = (nth L k).zs
          · have : (l.filter fun u => decide (u ≠ (nth L k).zs)) = l := List.filter_eq_self.2 fun u hu => by
              have := hs'.1 u hu
              simp only [decide_eq_true_eq]
              intro e'
              rw [e, ← e'] at this
              exact lex_irrefl _ this
            rw [List.filter_cons, if_neg (by simp [e]), this]; simp
          · rw [List.filter_cons, if_pos (by simp [e])]
            have := ihl hs'.2
            simp only [List.length_cons]; omega
      omega
  have := key k (zl S) h.sorted fun t ht => (h.mem t).1 ht
  rw [zl_len] at this
  exact this
theorem Sorted.skip {L S : List Sl} {k : Nat} (h : Sorted L S k) (he : (nth L k).zs ∈ zl S) : Sorted L S (k + 1) :=
  ⟨h.sub, h.sorted, fun t => by
    rw [h.mem]
    constructor
    · rintro ⟨i, hi, e⟩; exact ⟨i, by omega, e⟩
    · rintro ⟨i, hi, e⟩
      by_cases ei : i = k
      · subst ei; rw [← e]; exact (h.mem _).1 he
      · exact ⟨i, by omega, e⟩⟩
theorem Sorted.put {L S : List Sl} {k m n : Nat} (h : Sorted L S k) (hk : k < L.length) (hl : ∀ u ∈ zl L, u.length = n) (hm : m ≤ S.length) (hc : CutAt (zl S) (nth L k).zs m) (hn : ∀ h : m < (zl S).length, ¬ LexZ (zl S)[m] (nth L k).zs ∧ (zl S)[m] ≠ (nth L k).zs) : Sorted L (putAt S m (nth L k)) (k + 1) := by
  have hlS : ∀ u ∈ zl S, u.length = n := fun u hu => by
    obtain ⟨i, hi, e⟩ := (h.mem u).1 hu
    rw [← e]; exact hl _ (mem_zl.2 ⟨i, by omega, rfl⟩)
  refine ⟨fun s hs => ?_, ?_, fun t => ?_⟩
  · unfold putAt at hs
    rcases List.mem_append.1 hs with h1 | h1
    · exact h.sub s (List.mem_of_mem_take h1)
    · rcases List.mem_cons.1 h1 with e | h2
      · rw [e]; exact nth_mem hk
      · exact h.sub s (List.mem_of_mem_drop h2)
  · rw [zl_putAt]
    exact put_sorted h.sorted hlS (hl _ (mem_zl.2 ⟨k, hk, rfl⟩)) (by rw [zl_len]; exact hm) hc hn
  · rw [zl_putAt, mem_put, h.mem]
    constructor
    · rintro (e | ⟨i, hi, e⟩)
      · exact ⟨k, by omega, e.symm⟩
      · exact ⟨i, by omega, e⟩
    · rintro ⟨i, hi, e⟩
      by_cases ei : i = k
      · subst ei; exact .inl e.symm
      · exact .inr ⟨i, by omega, e⟩
end Go.Proofs.Ytdknniomgdjbfab
