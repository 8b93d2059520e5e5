/- The walk of the document's TimesFront. -/
import Derived.Test.YtdknniomgdjbfabTimSortedW
namespace Go.Proofs.Ytdknniomgdjbfab
open Go.RowKit Go.Shelf

/-- has none of a list less than t everywhere, but t? -/
def minB (ls : List (List Int)) (t : List Int) : Bool := ls.all fun u => !(@decide (LeqZ u t) (decLeqZ u t)) || decide (u = t)
theorem minB_true {ls : List (List Int)} {t : List Int} : minB ls t = true ↔ ∀ u ∈ ls, LeqZ u t → u = t := by
  unfold minB
  rw [List.all_eq_true]
  constructor
  · intro h u hu hle
    have := h u hu
    rw [Bool.or_eq_true, Bool.not_eq_true', @decide_eq_false_iff_not _ (decLeqZ u t), decide_eq_true_iff] at this
    exact this.resolve_left fun h' => h' hle
  · intro h u hu
    rw [Bool.or_eq_true, Bool.not_eq_true', @decide_eq_false_iff_not _ (decLeqZ u t), decide_eq_true_iff]
    apply Classical.byContradiction
    intro hn
    exact hn (.inl fun hle => hn (.inr (h u hu hle)))
/-- the least ones of the first k -/
def leastTo (L S : List Sl) (k : Nat) : List Sl := (S.take k).filter fun s => minB (zl L) s.zs
theorem leastTo_zero (L S : List Sl) : leastTo L S 0 = [] := by unfold leastTo; simp
theorem leastTo_succ (L S : List Sl) {k : Nat} (h : k < S.length) : leastTo L S (k + 1) = leastTo L S k ++ (if minB (zl L) (nth S k).zs then [nth S k] else []) := by
  unfold leastTo
  rw [take_snoc S h, List.filter_append]
  congr 1
  by_cases e : minB (zl L) (nth S k).zs = true
  · rw [if_pos e, List.filter_cons, if_pos e]; rfl
  · rw [if_neg e, List.filter_cons, if_neg e]; rfl
theorem leastTo_len (L S : List Sl) (k : Nat) : (leastTo L S k).length ≤ k := by
  unfold leastTo
  exact Nat.le_trans (List.length_filter_le _ _) (by rw [List.length_take]; omega)
theorem leastTo_front {L S : List Sl} (h : Sorted L S L.length) : IsFront (zl L) (zl (leastTo L S S.length)) := by
  have e : zl (leastTo L S S.length) = (zl S).filter fun t => minB (zl L) t := by
    unfold leastTo zl
    rw [List.take_length, List.filter_map]
    rfl
  rw [e]
  refine front_filter h.sorted (fun t => (h.mem t).trans mem_zl.symm) _ fun t _ => minB_true
theorem leastTo_sub {L S : List Sl} (h : Sorted L S L.length) (k : Nat) : ∀ s ∈ leastTo L S k, s ∈ L := fun s hs => h.sub s (List.mem_of_mem_take (List.mem_filter.1 hs).1)

end Go.Proofs.Ytdknniomgdjbfab
