/- Structs of four cells in new blocks; the answer where there is no lattice. -/
import Derived.Test.YtjbfjdijgfhjfaaDoorOwns
import Derived.Test.YtjbfjdijgfhjfaaDoorIntVals
namespace Go.Proofs.YtjbfjdijgfhjfaaDoor
open Go.RowKit Go.Shelf

/-- two structs lie in new blocks -/
theorem rows_two (w : World) (t s : TypeId) (l1 l2 : List Value) {W : World} (h : (w.alloc (.cells l1.toArray t)).alloc (.cells l2.toArray s) = W) :
    Row W w.heap.size t l1 ∧ Row W (w.heap.size + 1) s l2 ∧ Below w.heap.size w W ∧ W.heap.size = w.heap.size + 2 := by
  subst h
  have r0 := Row.new w t l1
  have r1 := Row.new (w.alloc (.cells l1.toArray t)) s l2
  rw [World.size_alloc] at r1
  exact ⟨r0.alloc _, r1, ((Below.refl _ _).alloc (Nat.le_refl _) _).alloc (by simp) _, by simp⟩
/-- a struct of two cells and one of four lie in new blocks -/
theorem rows24 (w : World) (t s : TypeId) (p0 p1 q0 q1 q2 q3 : Value) {W : World} (h : (w.alloc (.cells #[p0, p1] t)).alloc (.cells #[q0, q1, q2, q3] s) = W) :
    Row W w.heap.size t [p0, p1] ∧ Row W (w.heap.size + 1) s [q0, q1, q2, q3] ∧ Below w.heap.size w W ∧ W.heap.size = w.heap.size + 2 := by
  subst h
  have r0 := Row.new w t [p0, p1]
  have r1 := Row.new (w.alloc (.cells #[p0, p1] t)) s [q0, q1, q2, q3]
  rw [World.size_alloc] at r1
  exact ⟨r0.alloc _, r1, ((Below.refl _ _).alloc (Nat.le_refl _) _).alloc (by simp) _, by simp⟩
theorem row_set4 {W : World} {B : Nat} {t : TypeId} {p0 p1 p2 p3 : Value} (h : Row W B t [p0, p1, p2, p3]) (v0 v1 v2 v3 : Value) :
    Row ((((W.setCell ⟨B, 0, none⟩ v0).setCell ⟨B, 1, none⟩ v1).setCell ⟨B, 2, none⟩ v2).setCell ⟨B, 3, none⟩ v3) B t [v0, v1, v2, v3] :=
  (((h.set 0 v0).set 1 v1).set 2 v2).set 3 v3
theorem below_set4 {n B : Nat} {w W : World} (h : Below n w W) (hB : n ≤ B) (v0 v1 v2 v3 : Value) :
    Below n w ((((W.setCell ⟨B, 0, none⟩ v0).setCell ⟨B, 1, none⟩ v1).setCell ⟨B, 2, none⟩ v2).setCell ⟨B, 3, none⟩ v3) :=
  (((h.setCell (p := ⟨B, 0, none⟩) hB _).setCell (p := ⟨B, 1, none⟩) hB _).setCell (p := ⟨B, 2, none⟩) hB _).setCell (p := ⟨B, 3, none⟩) hB _
theorem own_set4 {W : World} {base : Nat} {e : TypeId} {size : Nat} {v : Value} {k : Nat} {xs : List Value} (h : W.ownsRow base e size v k xs) {b : Nat} (hb : b < base) (v0 v1 v2 v3 : Value) :
    ((((W.setCell ⟨b, 0, none⟩ v0).setCell ⟨b, 1, none⟩ v1).setCell ⟨b, 2, none⟩ v2).setCell ⟨b, 3, none⟩ v3).ownsRow base e size v k xs :=
  ownsRow_setAt (ownsRow_setAt (ownsRow_setAt (ownsRow_setAt h hb _ _) hb _ _) hb _ _) hb _ _

/-- the answer where there is no lattice -/
def latErr (c : Int) : Ending := .returned (.tuple #[.agg #[.slice none 0 0, .slice none 0 0, .int .i64 0, .int .i64 0], .int .i64 c])
end Go.Proofs.YtjbfjdijgfhjfaaDoor
