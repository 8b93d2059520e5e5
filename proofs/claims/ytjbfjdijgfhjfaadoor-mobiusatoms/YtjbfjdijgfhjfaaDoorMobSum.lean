/- Package mobius: sums by a square, and products of squares. -/
import Derived.Test.YtjbfjdijgfhjfaaDoorMobSq
import Derived.Test.YtjbfjdijgfhjfaaDoorMobMore
import Derived.Deep.RegionHeld3
namespace Go.Proofs.YtjbfjdijgfhjfaaDoor
open Go.RowKit Go.Shelf

/-- the list of a vector -/
def vecL (n : Nat) (f : Nat → B64) : List B64 := (List.range n).map f
theorem vecL_len (n : Nat) (f : Nat → B64) : (vecL n f).length = n := by unfold vecL; simp
theorem bd_vecL {n i : Nat} (f : Nat → B64) (h : i < n) : bd (vecL n f) i = f i := bd_range f h
theorem vecL_is {n : Nat} {f : Nat → B64} {T : List B64} (hl : T.length = n) (h : ∀ i, i < n → bd T i = f i) : T = vecL n f :=
  bd_ext (by rw [vecL_len, hl]) fun i hi => by rw [hl] at hi; rw [h i hi, bd_vecL f hi]
/-- a slice of n numbers somewhere -/
def VecAt (W : World) (a : Option Addr) (n : Nat) (v : Nat → B64) : Prop := n = 0 ∨ ∃ b of2, a = some ⟨b, of2, none⟩ ∧ b < W.heap.size ∧ CellsB W b of2 n v
theorem VecAt.below {A B : World} {a : Option Addr} {n : Nat} {v : Nat → B64} (h : VecAt A a n v) (hb : Below A.heap.size A B) : VecAt B a n v := by
  rcases h with h | ⟨b, of2, h1, h2, h3⟩
  · exact .inl h
  · exact .inr ⟨b, of2, h1, by have := hb.size; omega, fun i hi => (hb.cell (p := ⟨b, of2 + i, none⟩) h2).trans (h3 i hi)⟩
theorem Row.vec {W : World} {p : Nat} {t : TypeId} {l : List B64} (h : Row W p t (bvals l)) (off m : Nat) (hm : off + m ≤ l.length) : VecAt W (some ⟨p, off, none⟩) m (fun i => bd l (off + i)) :=
  .inr ⟨p, off, rfl, h.lt, h.cellsB off m hm⟩
theorem ZInts.vec {n₀ : Nat} {W : World} {a : Option Addr} {l : List B64} (h : ZInts n₀ W a (tiL l)) (hn : n₀ ≤ W.heap.size) {n : Nat} (hl : l.length = n) : VecAt W a n (bd l) := by
  by_cases h0 : n = 0
  · exact .inl h0
  · obtain ⟨b, of2, h1, h2, h3⟩ := h.cellsB (i := 0) (by omega)
    exact .inr ⟨b, of2, h1, by omega, by rw [← hl]; exact h3⟩

end Go.Proofs.YtjbfjdijgfhjfaaDoor
