/- The walk of the document's TimesSorted. -/
import Derived.Test.YtdknniomgdjbfabTimSorted
namespace Go.Proofs.Ytdknniomgdjbfab
open Go.RowKit Go.Shelf

theorem take_snoc (S : List Sl) {x : Nat} (h : x < S.length) : S.take (x + 1) = S.take x ++ [nth S x] := by
  rw [List.take_succ_eq_append_getElem h]
  unfold nth; simp [List.getD_eq_getElem?_getD, List.getElem?_eq_getElem h]
theorem drop_snoc (S : List Sl) (t : Sl) {x y : Nat} (hx : x ≤ y) (h : y < S.length) : S.take x ++ t :: (S.drop x).take (y + 1 - x) = (S.take x ++ t :: (S.drop x).take (y - x)) ++ [nth S y] := by
  have e : y + 1 - x = (y - x) + 1 := by omega
  rw [e, List.take_succ_eq_append_getElem (by simp; omega)]
  have e2 : (S.drop x)[y - x]'(by simp; omega) = nth S y := by
    rw [List.getElem_drop]
    unfold nth
    have e3 : x + (y - x) = y := by omega
    simp only [e3]
    simp [List.getD_eq_getElem?_getD, List.getElem?_eq_getElem h]
  rw [e2]; simp
theorem cut_start (ls : List (List Int)) (t : List Int) : CutAt ls t 0 := fun j hj => by omega
theorem cut_step {S : List Sl} {t : List Int} {m : Nat} (h : CutAt (zl S) t m) (hm : m < S.length) (hl : LexZ (nth S m).zs t) : CutAt (zl S) t (m + 1) := fun j hj hj2 => by
  by_cases e : j = m
  · subst e; rw [zl_at hm]; exact hl
  · exact h j (by omega) hj2
theorem not_at {S : List Sl} {t : List Int} {m : Nat} (h1 : m < S.length → ¬ LexZ (nth S m).zs t) (h2 : m < S.length → (nth S m).zs ≠ t) : ∀ h : m < (zl S).length, ¬ LexZ (zl S)[m] t ∧ (zl S)[m] ≠ t := fun h => by
  have hm : m < S.length := by rw [zl_len] at h; exact h
  rw [zl_at hm]; exact ⟨h1 hm, h2 hm⟩
/-- the sorted ones lie where the list's do -/
theorem Sorted.at {L S : List Sl} {k : Nat} (h : Sorted L S k) {n₀ : Nat} {W : World} (hI : Inner n₀ W L) {m : Nat} (hm : m < S.length) : ZInts n₀ W (nth S m).a (nth S m).zs ∧ (nth S m).zs.length ≤ 9223372036854775807 ∧ (nth S m).zs ∈ zl L := by
  obtain ⟨i, hi, e⟩ := mem_nth (h.sub _ (nth_mem hm))
  rw [← e]; exact ⟨(hI i hi).1, (hI i hi).2, mem_zl.2 ⟨i, hi, rfl⟩⟩

end Go.Proofs.Ytdknniomgdjbfab
