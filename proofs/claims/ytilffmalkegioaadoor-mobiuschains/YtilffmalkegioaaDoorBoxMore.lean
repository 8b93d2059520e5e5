/- An order in its box, beside what grows. -/
import Derived.Test.YtilffmalkegioaaDoorRefCheck
namespace Go.Proofs.YtilffmalkegioaaDoor
open Go.RowKit Go.Shelf

theorem InBox.grown {B : Nat} {w wr w' : World} {n : Int} {a : Option Addr} {len cap : Nat} (h : InBox B w wr n a len cap) {row : Option Nat} (hg : wr.grownBy w' row) (hr : ∀ j, row = some j → B < j ∧ w.heap.size ≤ j) : InBox B w w' n a len cap := by
  have hb : wr.heap[B]? = w'.heap[B]? := (hg.block B h.lt (fun e => by have := (hr B e.symm).1; omega)).symm
  refine ⟨?_, ?_, h.bel.grown hg h.bel.size fun j e => (hr j e).2, Nat.lt_of_lt_of_le h.lt hg.size⟩
  · have := h.c0; unfold World.cell? at *; rw [← hb]; exact this
  · have := h.c1; unfold World.cell? at *; rw [← hb]; exact this

end Go.Proofs.YtilffmalkegioaaDoor
