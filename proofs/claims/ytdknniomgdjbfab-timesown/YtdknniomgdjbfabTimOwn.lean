/- Slices of numbers in blocks of a call's own, of any length; writing into them. -/
import Derived.Test.YtdknniomgdjbfabTimLeast
import Derived.Test.YtdknniomgdjbfabTimMore
namespace Go.Proofs.Ytdknniomgdjbfab
open Go.RowKit Go.Shelf

def InG (base : Nat) (W : World) (S : List Sl) : Prop := ∀ i, i < S.length → ∃ B cur, (nth S i).a = some ⟨B, 0, none⟩ ∧ base ≤ B ∧ W.heap[B]? = some (.cells cur 3) ∧ (nth S i).zs.length ≤ 9223372036854775807 ∧ ∀ j, j < (nth S i).zs.length → cur[j]? = some (.int .i64 (zd (nth S i).zs j))
theorem InG.nil (base : Nat) (W : World) : InG base W [] := fun i hi => absurd hi (by simp)
theorem InG.inner {base : Nat} {W : World} {S : List Sl} (h : InG base W S) : Inner W.heap.size W S := fun i hi => by
  obtain ⟨B, cur, h1, h2, h3, h4, h5⟩ := h i hi
  exact ⟨.inr ⟨B, 0, h1, (Array.getElem?_eq_some_iff.1 h3).1, fun j hj => by simp [World.cell?, h3, h5 j hj]⟩, h4⟩
theorem InG.below {base : Nat} {A B : World} {S : List Sl} (h : InG base A S) (hb : Below A.heap.size A B) : InG base B S := fun i hi => by
  obtain ⟨b, cur, h1, h2, h3, h4⟩ := h i hi
  exact ⟨b, cur, h1, h2, (hb.block b (Array.getElem?_eq_some_iff.1 h3).1).trans h3, h4⟩
theorem InG.grow {base b2 k : Nat} {W W' : World} {S : List Sl} {v : Value} {xs : List Value} {o : Obj} (h : InG base W S) (hown : W.ownsRow b2 23 1 v k xs) (hg : (W.alloc o).grownBy W' v.ownBlock) : InG base W' S := fun i hi => by
  obtain ⟨B, cur, h1, h2, h3, h4⟩ := h i hi
  have hlt := (Array.getElem?_eq_some_iff.1 h3).1
  refine ⟨B, cur, h1, h2, (hg.block B (by simp; omega) fun e => ?_).trans ?_, h4⟩
  · rcases hown.2 with ⟨hn, _⟩ | ⟨g, cap, cur2, hv, _, hh, _⟩
    · rw [hn] at e; simp [Value.ownBlock] at e
    · rw [hv] at e
      obtain rfl : B = g := by simpa [Value.ownBlock] using e
      rw [h3] at hh; cases hh
  · have hb : Below W.heap.size W (W.alloc o) := (Below.refl _ _).alloc (Nat.le_refl _) _
    exact (hb.block B hlt).trans h3
theorem InG.snoc {base : Nat} {W : World} {S : List Sl} {s : Sl} (h : InG base W S) (hs : ∃ B cur, s.a = some ⟨B, 0, none⟩ ∧ base ≤ B ∧ W.heap[B]? = some (.cells cur 3) ∧ s.zs.length ≤ 9223372036854775807 ∧ ∀ j, j < s.zs.length → cur[j]? = some (.int .i64 (zd s.zs j))) : InG base W (S ++ [s]) := fun i hi => by
  by_cases e : i < S.length
  · rw [nth_snoc_lt e]; exact h i e
  · have : i = S.length := by rw [List.length_append] at hi; simp at hi; omega
    subst this
    rw [nth_snoc_eq]; exact hs

/-- rows that may be written, and the slice over them -/
structure Wr (base : Nat) (W : World) (bo oo : Nat) (S : List Sl) : Prop where
  rows : ∀ i, i < S.length → ∃ B xs, (nth S i).a = some ⟨B, 0, none⟩ ∧ base ≤ B ∧ Row W B 3 xs ∧ ∀ j, j < (nth S i).zs.length → ∃ z : Int, xs[j]? = some (.int .i64 z)
  over : ∀ i, i < S.length → W.cell? ⟨bo, oo + i, none⟩ = some (slv (nth S i))
theorem Wr.write {base : Nat} {W : World} {bo oo : Nat} {S : List Sl} (h : Wr base W bo oo S) {B j : Nat} {xs : List Value} {z u : Int} (hr : Row W B 3 xs) (hj : xs[j]? = some (.int .i64 z)) : Wr base (W.setCell ⟨B, j, none⟩ (.int .i64 u)) bo oo S := by
  refine ⟨fun i hi => ?_, fun i hi => ?_⟩
  · obtain ⟨B', xs', h1, h2, h3, h4⟩ := h.rows i hi
    by_cases e : B' = B
    · subst e
      refine ⟨B', xs'.set j (.int .i64 u), h1, h2, h3.set j _, fun j' hj' => ?_⟩
      obtain ⟨z', hz'⟩ := h4 j' hj'
      by_cases e2 : j = j'
      · subst e2
        exact ⟨u, by rw [List.getElem?_set]; rw [if_pos rfl, if_pos (List.getElem?_eq_some_iff.1 hz').1]⟩
      · exact ⟨z', by rw [List.getElem?_set, if_neg e2]; exact hz'⟩
    · exact ⟨B', xs', h1, h2, h3.other e j _, h4⟩
  · have hc := h.over i hi
    by_cases e : (⟨B, j, none⟩ : Addr) = ⟨bo, oo + i, none⟩
    · rw [← e, hr.cell hj] at hc
      unfold slv at hc
      cases hc
    · exact (World.cell?_setCell_other _ _ _ _ e).trans hc
end Go.Proofs.Ytdknniomgdjbfab
